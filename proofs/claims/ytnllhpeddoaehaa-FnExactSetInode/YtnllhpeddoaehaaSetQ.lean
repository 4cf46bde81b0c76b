/-
  A table's row with one inode replaced, or one put in; append of inodes onto a row of one's own.
-/
import Derived.Test.YtnllhpeddoaehaaSetM
import Derived.Deep.AppendSrc
import Derived.Deep.AppendLies
namespace Go.Proofs.Ytnllhpeddoaehaa
open Go.RowKit

theorem row_stored6 {B : Nat} {w : World} {g n cap : Nat} {rs : List InoR} (h : w.ownsRow B 27 6 (.slice (some ⟨g, 0, none⟩) n cap) n (iv rs)) (k : Nat) (hk : k < n) (r : InoR) : ((((((w.setCell ⟨g, k * 6, none⟩ (.int .i64 r.D.ino)).setCell ⟨g, k * 6 + 1, none⟩ (.int .i64 r.D.kind)).setCell ⟨g, k * 6 + 2, none⟩ (.int .i64 r.D.links)).setCell ⟨g, k * 6 + 3, none⟩ (.slice r.a1 r.D.data.length r.c1)).setCell ⟨g, k * 6 + 4, none⟩ (.slice r.a2 r.D.ents.length r.c2)).setCell ⟨g, k * 6 + 5, none⟩ (.slice r.a3 r.D.attrs.length r.c3)).ownsRow B 27 6 (.slice (some ⟨g, 0, none⟩) n cap) n (iv (rs.set k r)) := by
  have hl : rs.length = n := by have := h.1; rw [iv_length] at this; omega
  have s0 := (World.ownsRow.stored h (k * 6) (.int .i64 r.D.ino)).1
  have s1 := (World.ownsRow.stored s0 (k * 6 + 1) (.int .i64 r.D.kind)).1
  have s2 := (World.ownsRow.stored s1 (k * 6 + 2) (.int .i64 r.D.links)).1
  have s3 := (World.ownsRow.stored s2 (k * 6 + 3) (.slice r.a1 r.D.data.length r.c1)).1
  have s4 := (World.ownsRow.stored s3 (k * 6 + 4) (.slice r.a2 r.D.ents.length r.c2)).1
  have s5 := (World.ownsRow.stored s4 (k * 6 + 5) (.slice r.a3 r.D.attrs.length r.c3)).1
  rw [iv_set rs k r (by omega)] at s5
  exact s5
/-- The p-th replaced. -/
theorem DQA.put {B : Nat} {W : World} {g n c lo hi : Nat} {ds : List InoR} {js : List InoJ} (h : DQA B W (.slice (some ⟨g, 0, none⟩) n c) ds js) (hn : js.length = n) (r r' : InoR) (hD : r'.D = r.D) (hG : (⟨r', lo, hi⟩ : InoJ).G W) (hlo : B ≤ lo ∧ lo ≤ hi ∧ hi ≤ W.heap.size) (hap : ∀ (i : Nat) (j : InoJ), js[i]? = some j → j.hi ≤ lo ∨ hi ≤ j.lo) (hg : g < lo ∨ hi ≤ g) (p : Nat) (hp : p < n) :
    DQA B ((((((W.setCell ⟨g, p * 6, none⟩ (.int .i64 r'.D.ino)).setCell ⟨g, p * 6 + 1, none⟩ (.int .i64 r'.D.kind)).setCell ⟨g, p * 6 + 2, none⟩ (.int .i64 r'.D.links)).setCell ⟨g, p * 6 + 3, none⟩ (.slice r'.a1 r'.D.data.length r'.c1)).setCell ⟨g, p * 6 + 4, none⟩ (.slice r'.a2 r'.D.ents.length r'.c2)).setCell ⟨g, p * 6 + 5, none⟩ (.slice r'.a3 r'.D.attrs.length r'.c3)) (.slice (some ⟨g, 0, none⟩) n c) (ds.set p r) (js.set p ⟨r', lo, hi⟩) := by
  have hrow := h.row
  rw [hn] at hrow
  have hr' := row_stored6 hrow p hp r'
  have hgr : W.grownBy ((((((W.setCell ⟨g, p * 6, none⟩ (.int .i64 r'.D.ino)).setCell ⟨g, p * 6 + 1, none⟩ (.int .i64 r'.D.kind)).setCell ⟨g, p * 6 + 2, none⟩ (.int .i64 r'.D.links)).setCell ⟨g, p * 6 + 3, none⟩ (.slice r'.a1 r'.D.data.length r'.c1)).setCell ⟨g, p * 6 + 4, none⟩ (.slice r'.a2 r'.D.ents.length r'.c2)).setCell ⟨g, p * 6 + 5, none⟩ (.slice r'.a3 r'.D.attrs.length r'.c3)) (some g) := gr_more (gr_more (gr_more (gr_more (gr_more (gr_setC W g (p * 6) _) (p * 6 + 1) _) (p * 6 + 2) _) (p * 6 + 3) _) (p * 6 + 4) _) (p * 6 + 5) _
  generalize (((((W.setCell ⟨g, p * 6, none⟩ (.int .i64 r'.D.ino)).setCell ⟨g, p * 6 + 1, none⟩ (.int .i64 r'.D.kind)).setCell ⟨g, p * 6 + 2, none⟩ (.int .i64 r'.D.links)).setCell ⟨g, p * 6 + 3, none⟩ (.slice r'.a1 r'.D.data.length r'.c1)).setCell ⟨g, p * 6 + 4, none⟩ (.slice r'.a2 r'.D.ents.length r'.c2)).setCell ⟨g, p * 6 + 5, none⟩ (.slice r'.a3 r'.D.attrs.length r'.c3) = W' at hr' hgr ⊢
  have hs := hgr.size
  have hc : ∀ (i : Nat) (j : InoJ), (js.set p ⟨r', lo, hi⟩)[i]? = some j → (i = p ∧ j = ⟨r', lo, hi⟩) ∨ (i ≠ p ∧ js[i]? = some j) := by
    intro i j e
    by_cases he : p = i
    · subst he
      rw [List.getElem?_set_self (by omega)] at e
      exact .inl ⟨rfl, by simpa using e.symm⟩
    · rw [List.getElem?_set_ne he] at e
      exact .inr ⟨fun e => he e.symm, e⟩
  refine ⟨?_, ?_, ?_, ?_, ?_, ?_⟩
  · rw [List.map_set, List.map_set, h.ds, List.map_set]
    dsimp only
    rw [hD]
  · rw [List.length_set, hn, List.map_set]
    exact hr'
  · intro i j e
    rcases hc i j e with ⟨_, rfl⟩ | ⟨_, e⟩
    · exact InoG.kept hG (fun b h1 h2 => hgr.block b (by dsimp only at h2; omega) (by dsimp only at h1 h2; simp; omega))
    · exact InoG.kept (h.G i j e) (fun b h1 h2 => hgr.block b (by have := h.lo i j e; omega) (by have := h.ap g rfl i j e; simp; omega))
  · intro i j e
    rcases hc i j e with ⟨_, rfl⟩ | ⟨_, e⟩
    · dsimp only
      omega
    · have := h.lo i j e
      omega
  · intro i i' j j' e e' hne
    rcases hc i j e with ⟨h1, rfl⟩ | ⟨h1, e⟩
    · rcases hc i' j' e' with ⟨h2, rfl⟩ | ⟨h2, e'⟩
      · omega
      · have := hap i' j' e'
        dsimp only
        omega
    · rcases hc i' j' e' with ⟨h2, rfl⟩ | ⟨h2, e'⟩
      · exact hap i j e
      · exact h.apart i i' j j' e e' hne
  · intro m hm i j e
    simp [Value.ownBlock] at hm
    subst hm
    rcases hc i j e with ⟨_, rfl⟩ | ⟨_, e⟩
    · exact hg
    · exact h.ap g rfl i j e
/-- One put in, in another row. -/
theorem DQA.ins {B : Nat} {W W' : World} {v : Value} {g n c k lo hi : Nat} {ds : List InoR} {js : List InoJ} (h : DQA B W v ds js) (hn : js.length = n) (hk : k ≤ n) (r r' : InoR) (hD : r'.D = r.D) (hs : W.heap.size ≤ W'.heap.size)
    (hrow : W'.ownsRow B 27 6 (.slice (some ⟨g, 0, none⟩) (n + 1) c) (n + 1) (iv ((js.take k).map InoJ.r) ++ r'.six ++ iv ((js.drop k).map InoJ.r))) (hkeep : ∀ (i : Nat) (j : InoJ), js[i]? = some j → ∀ b, j.lo ≤ b → b < j.hi → W'.heap[b]? = W.heap[b]?)
    (hG : (⟨r', lo, hi⟩ : InoJ).G W') (hlo : B ≤ lo ∧ lo ≤ hi ∧ hi ≤ W'.heap.size) (hap : ∀ (i : Nat) (j : InoJ), js[i]? = some j → j.hi ≤ lo ∨ hi ≤ j.lo) (hg : g < lo ∨ hi ≤ g) (hgj : ∀ (i : Nat) (j : InoJ), js[i]? = some j → g < j.lo ∨ j.hi ≤ g) :
    DQA B W' (.slice (some ⟨g, 0, none⟩) (n + 1) c) (putAt ds r k) (js.take k ++ ⟨r', lo, hi⟩ :: js.drop k) := by
  have hlt : (js.take k).length = k := by rw [List.length_take]; omega
  have hc : ∀ (i : Nat) (j : InoJ), (js.take k ++ ⟨r', lo, hi⟩ :: js.drop k)[i]? = some j → (i = k ∧ j = ⟨r', lo, hi⟩) ∨ ∃ i0, js[i0]? = some j ∧ ((i < k ∧ i0 = i) ∨ (k < i ∧ i0 + 1 = i)) := by
    intro i j e
    by_cases hi' : i < k
    · rw [List.getElem?_append_left (by omega), List.getElem?_take_of_lt hi'] at e
      exact .inr ⟨i, e, .inl ⟨hi', rfl⟩⟩
    · rw [List.getElem?_append_right (by omega), hlt] at e
      by_cases hz : i = k
      · subst hz
        simp at e
        exact .inl ⟨rfl, e.symm⟩
      · obtain ⟨m, hm⟩ : ∃ m, i - k = m + 1 := ⟨i - k - 1, by omega⟩
        rw [hm, List.getElem?_cons_succ, List.getElem?_drop] at e
        exact .inr ⟨k + m, e, .inr ⟨by omega, by omega⟩⟩
  refine ⟨?_, ?_, ?_, ?_, ?_, ?_⟩
  · have hd := h.ds
    unfold putAt
    simp only [List.map_append, List.map_cons, List.map_take, List.map_drop, hd, hD]
  · have hl : (js.take k ++ ⟨r', lo, hi⟩ :: js.drop k).length = n + 1 := by simp; omega
    rw [hl, List.map_append, List.map_cons, iv_append, iv_cons, ← List.append_assoc]
    exact hrow
  · intro i j e
    rcases hc i j e with ⟨_, rfl⟩ | ⟨i0, e0, _⟩
    · exact hG
    · exact InoG.kept (h.G i0 j e0) (hkeep i0 j e0)
  · intro i j e
    rcases hc i j e with ⟨_, rfl⟩ | ⟨i0, e0, _⟩
    · exact hlo
    · have := h.lo i0 j e0
      omega
  · intro i i' j j' e e' hne
    rcases hc i j e with ⟨h1, rfl⟩ | ⟨i0, e0, h1⟩
    · rcases hc i' j' e' with ⟨h2, rfl⟩ | ⟨i1, e1, h2⟩
      · omega
      · have := hap i1 j' e1
        dsimp only
        omega
    · rcases hc i' j' e' with ⟨h2, rfl⟩ | ⟨i1, e1, h2⟩
      · exact hap i0 j e0
      · exact h.apart i0 i1 j j' e0 e1 (by omega)
  · intro m hm i j e
    simp [Value.ownBlock] at hm
    subst hm
    rcases hc i j e with ⟨_, rfl⟩ | ⟨i0, e0, _⟩
    · exact hg
    · exact hgj i0 j e0

/-- Inodes appended onto a row of one's own; none, too. -/
theorem run_app6 (W : World) (B : Nat) (g k c : Nat) (xs : List Value) (hB : B ≤ W.heap.size) (hown : W.ownsRow B 27 6 (.slice (some ⟨g, 0, none⟩) k c) k xs) (ao : Option Addr) (m mc : Nat) (news : List Value) (hl : news.length = m * 6) (hsrc : m = 0 ∨ ∃ ad, ao = some ad ∧ ∀ j u, news[j]? = some u → W.cell? (ad.add j) = some u)
    (h1 : ∀ u ∈ news, u.oneCell' = true) (hkm : k + m ≤ 2000000) (ty : TypeId) :
    ∃ g' c' W', (Builtin.append_ #[41, 41] ty #[.slice (some ⟨g, 0, none⟩) k c, .slice ao m mc]).run Try.prog W = .ok (.slice (some ⟨g', 0, none⟩) (k + m) c') W' ∧ W'.ownsRow B 27 6 (.slice (some ⟨g', 0, none⟩) (k + m) c') (k + m) (xs ++ news) ∧ W.grownBy W' (some g) ∧ (g' = g ∨ g' = W.heap.size) ∧ g' < W'.heap.size := by
  obtain ⟨ii, hii, zi0, zi1, zi2⟩ := info_parts Try.infoInode
  have hglt : g < W.heap.size := (World.ownsRow.lt hown g rfl).2
  by_cases h0 : m = 0
  · subst h0
    obtain rfl : news = [] := List.length_eq_zero_iff.1 (by simpa using hl)
    have hs : Go.Src Try.prog ii.size 41 (.slice ao 0 mc) 0 [] W := by
      cases ao with
      | none => exact Go.Src.ofNil W Try.underlying41 mc
      | some ad => exact Go.Src.ofSlice W Try.underlying41 ad 0 mc [] (by simp) (fun j u hj => by simp at hj) (fun u hu => by simp at hu)
    have hkc : k ≤ c := by
      rcases hown.2 with ⟨h', _⟩ | ⟨g', c', cur, h', _, _, h5, _⟩
      · simp at h'
      · simp at h'
        omega
    have hr := run_append_room_src W 41 41 ty 27 ii Try.underlying41 hii g 0 k c (.slice ao 0 mc) 0 [] hs (by omega) (fun j hj => by simp at hj) (fun j hj => by simp at hj)
    refine ⟨g, c, W, ?_, by rw [Nat.add_zero, List.append_nil]; exact hown, World.grownBy.refl W _, .inl rfl, hglt⟩
    rw [hr]
    rfl
  · rcases hsrc with hz | ⟨ad, rfl, hn⟩
    · exact absurd hz h0
    · obtain ⟨g', c', W', h2, h3, h4, h5, h6⟩ := run_append_lies (P := Try.prog) W 41 ty B 27 ii _ 6 96 Try.underlying41 hii zi0 zi1 zi2 rfl (by omega) _ k xs hown ad m mc news hl hn h1 (by omega) (by unfold maxLen; omega) (by omega) hB W.heap.size rfl
      exact ⟨g', c', W', h2, h3, h4, h5.imp (fun e => by simpa [Value.ownBlock] using e.symm) id, h6⟩
/-- At the operation; at a step of a region that draws. -/
theorem wpList_app6 (W : World) {ops : Array Oper} {rest : List Oper} {o : Oper} {a : Act} {Q : Exit → Act → World → Prop} (hgd : o.guard = none) (s x : Operand)
    (ho : o.op = .call { callee := .builtin .append, args := #[s, x], argTypes := #[41, 41] }) (B g k c : Nat) (xs : List Value) (hB : B ≤ W.heap.size) (hs : a.eval s = .slice (some ⟨g, 0, none⟩) k c) (hown : W.ownsRow B 27 6 (.slice (some ⟨g, 0, none⟩) k c) k xs) (ao : Option Addr) (m mc : Nat) (hx : a.eval x = .slice ao m mc) (news : List Value) (hl : news.length = m * 6) (hsrc : m = 0 ∨ ∃ ad, ao = some ad ∧ ∀ j u, news[j]? = some u → W.cell? (ad.add j) = some u)
    (h1 : ∀ u ∈ news, u.oneCell' = true) (hkm : k + m ≤ 2000000)
    (h : ∀ g' c' W', W'.ownsRow B 27 6 (.slice (some ⟨g', 0, none⟩) (k + m) c') (k + m) (xs ++ news) → W.grownBy W' (some g) → (g' = g ∨ g' = W.heap.size) → g' < W'.heap.size → wpList Try.prog ops Q rest (a.put o.dst (.slice (some ⟨g', 0, none⟩) (k + m) c')) W') :
    wpList Try.prog ops Q (o :: rest) a W := by
  refine wpList_plain hgd fun K hK => ?_
  obtain ⟨g', c', W', e1, e2, e3, e4, e5⟩ := run_app6 W B g k c xs hB hown ao m mc news hl hsrc h1 hkm o.type
  unfold Oper.wp execOp
  simp only [ho, resolve, invoke, builtin, Sem.run_bind, Sem.run_pure, Result.andThen_ok, List.map_toArray, List.map_cons, List.map_nil, hs, hx, e1]
  exact hK _ _ (h g' c' W' e2 e3 e4 e5)
theorem step_app6 (W : World) {ops : Array Oper} {o : Oper} {a : Act} {K : Act → World → Prop} {Q : Exit → Act → World → Prop} {E : Prop} (hgd : o.guard = none) (s x : Operand)
    (ho : o.op = .call { callee := .builtin .append, args := #[s, x], argTypes := #[41, 41] }) (B g k c : Nat) (xs : List Value) (hB : B ≤ W.heap.size) (hs : a.eval s = .slice (some ⟨g, 0, none⟩) k c) (hown : W.ownsRow B 27 6 (.slice (some ⟨g, 0, none⟩) k c) k xs) (ao : Option Addr) (m mc : Nat) (hx : a.eval x = .slice ao m mc) (news : List Value) (hl : news.length = m * 6) (hsrc : m = 0 ∨ ∃ ad, ao = some ad ∧ ∀ j u, news[j]? = some u → W.cell? (ad.add j) = some u)
    (h1 : ∀ u ∈ news, u.oneCell' = true) (hkm : k + m ≤ 2000000)
    (h : ∀ g' c' W', W'.ownsRow B 27 6 (.slice (some ⟨g', 0, none⟩) (k + m) c') (k + m) (xs ++ news) → W.grownBy W' (some g) → (g' = g ∨ g' = W.heap.size) → g' < W'.heap.size → K (a.put o.dst (.slice (some ⟨g', 0, none⟩) (k + m) c')) W') :
    if Region.wanted o (yielded ops a.tmps) = true then Oper.wp Try.prog o a W K Q else E := by
  have hw : Region.wanted o (yielded ops a.tmps) = true := by simp [Region.wanted, hgd]
  rw [if_pos hw]
  obtain ⟨g', c', W', e1, e2, e3, e4, e5⟩ := run_app6 W B g k c xs hB hown ao m mc news hl hsrc h1 hkm o.type
  unfold Oper.wp execOp
  simp only [ho, resolve, invoke, builtin, Sem.run_bind, Sem.run_pure, Result.andThen_ok, List.map_toArray, List.map_cons, List.map_nil, hs, hx, e1]
  exact h g' c' W' e2 e3 e4 e5
theorem iv_one (rs : List InoR) : ∀ u ∈ iv rs, u.oneCell' = true := fun u hu => by
  unfold iv at hu
  obtain ⟨r, _, hr⟩ := List.mem_flatMap.1 hu
  exact six_one r u hr
theorem iv_take (rs : List InoR) (k : Nat) : iv (rs.take k) = (iv rs).take (k * 6) := by
  by_cases h : k ≤ rs.length
  · have e : iv rs = iv (rs.take k) ++ iv (rs.drop k) := by rw [← iv_append, List.take_append_drop]
    rw [e, List.take_left' (by rw [iv_length, List.length_take]; omega)]
  · rw [List.take_of_length_le (by omega), List.take_of_length_le (by rw [iv_length]; omega)]
theorem iv_drop (rs : List InoR) (k : Nat) : iv (rs.drop k) = (iv rs).drop (k * 6) := by
  by_cases h : k ≤ rs.length
  · have e : iv rs = iv (rs.take k) ++ iv (rs.drop k) := by rw [← iv_append, List.take_append_drop]
    rw [e, List.drop_left' (by rw [iv_length, List.length_take]; omega)]
  · rw [List.drop_of_length_le (by omega), List.drop_of_length_le (by rw [iv_length]; omega)]
    rfl
/-- The cells of a table's row. -/
theorem DQA.cell {B : Nat} {W : World} {g n c : Nat} {ds : List InoR} {js : List InoJ} (h : DQA B W (.slice (some ⟨g, 0, none⟩) n c) ds js) (hn : js.length = n) (j : Nat) (u : Value) (hu : (iv (js.map InoJ.r))[j]? = some u) : W.cell? ⟨g, j, none⟩ = some u := by
  have hr := h.row
  rw [hn] at hr
  have hj := (List.getElem?_eq_some_iff.1 hu).1
  rw [hr.1] at hj
  rw [World.ownsRow.cellAt hr j (by omega)]
  exact hu
theorem DQA.own {B : Nat} {W : World} {g n c : Nat} {ds : List InoR} {js : List InoJ} (h : DQA B W (.slice (some ⟨g, 0, none⟩) n c) ds js) (hn : js.length = n) : OwnI W g n c (js.map InoJ.r) := by
  rcases h.cases hn with ⟨h', _⟩ | ⟨g', h', _, ho⟩
  · simp at h'
  · simp at h'
    subst h'
    exact ho
end Go.Proofs.Ytnllhpeddoaehaa
