/-
  Joined: SetQ, CopyT.
-/
import Derived.Test.YtmfimoccemgoiaaGreatDoorJ10B
import Derived.OwnWalk
import Derived.Deep.DeepAppendRoom
namespace Go.Proofs.YtmfimoccemgoiaaGreatDoor
section
open Go.RowKit
theorem row_stored6 {B : Nat} {w : World} {g n cap : Nat} {rs : List InoR} (h : w.ownsRow B 68 6 (.slice (some ⟨g, 0, none⟩) n cap) n (iv rs)) (k : Nat) (hk : k < n) (r : InoR) : ((((((w.setCell ⟨g, k * 6, none⟩ (.int .i64 r.D.ino)).setCell ⟨g, k * 6 + 1, none⟩ (.int .i64 r.D.kind)).setCell ⟨g, k * 6 + 2, none⟩ (.int .i64 r.D.links)).setCell ⟨g, k * 6 + 3, none⟩ (.slice r.a1 r.D.data.length r.c1)).setCell ⟨g, k * 6 + 4, none⟩ (.slice r.a2 r.D.ents.length r.c2)).setCell ⟨g, k * 6 + 5, none⟩ (.slice r.a3 r.D.attrs.length r.c3)).ownsRow B 68 6 (.slice (some ⟨g, 0, none⟩) n cap) n (iv (rs.set k r)) := by
  have hl : rs.length = n := by have := h.1; rw [iv_length] at this; omega
  have s0 := (World.ownsRow.stored h (k * 6) (.int .i64 r.D.ino)).1
  have s1 := (World.ownsRow.stored s0 (k * 6 + 1) (.int .i64 r.D.kind)).1
  have s2 := (World.ownsRow.stored s1 (k * 6 + 2) (.int .i64 r.D.links)).1
  have s3 := (World.ownsRow.stored s2 (k * 6 + 3) (.slice r.a1 r.D.data.length r.c1)).1
  have s4 := (World.ownsRow.stored s3 (k * 6 + 4) (.slice r.a2 r.D.ents.length r.c2)).1
  have s5 := (World.ownsRow.stored s4 (k * 6 + 5) (.slice r.a3 r.D.attrs.length r.c3)).1
  rw [iv_set rs k r (by omega)] at s5
  exact s5
/-- The p-th replaced. -/
theorem DQA.put {B : Nat} {W : World} {g n c lo hi : Nat} {ds : List InoR} {js : List InoJ} (h : DQA B W (.slice (some ⟨g, 0, none⟩) n c) ds js) (hn : js.length = n) (r r' : InoR) (hD : r'.D = r.D) (hG : (⟨r', lo, hi⟩ : InoJ).G W) (hlo : B ≤ lo ∧ lo ≤ hi ∧ hi ≤ W.heap.size) (hap : ∀ (i : Nat) (j : InoJ), js[i]? = some j → j.hi ≤ lo ∨ hi ≤ j.lo) (hg : g < lo ∨ hi ≤ g) (p : Nat) (hp : p < n) :
    DQA B ((((((W.setCell ⟨g, p * 6, none⟩ (.int .i64 r'.D.ino)).setCell ⟨g, p * 6 + 1, none⟩ (.int .i64 r'.D.kind)).setCell ⟨g, p * 6 + 2, none⟩ (.int .i64 r'.D.links)).setCell ⟨g, p * 6 + 3, none⟩ (.slice r'.a1 r'.D.data.length r'.c1)).setCell ⟨g, p * 6 + 4, none⟩ (.slice r'.a2 r'.D.ents.length r'.c2)).setCell ⟨g, p * 6 + 5, none⟩ (.slice r'.a3 r'.D.attrs.length r'.c3)) (.slice (some ⟨g, 0, none⟩) n c) (ds.set p r) (js.set p ⟨r', lo, hi⟩) := by
  have hrow := h.row
  rw [hn] at hrow
  have hr' := row_stored6 hrow p hp r'
  have hgr : W.grownBy ((((((W.setCell ⟨g, p * 6, none⟩ (.int .i64 r'.D.ino)).setCell ⟨g, p * 6 + 1, none⟩ (.int .i64 r'.D.kind)).setCell ⟨g, p * 6 + 2, none⟩ (.int .i64 r'.D.links)).setCell ⟨g, p * 6 + 3, none⟩ (.slice r'.a1 r'.D.data.length r'.c1)).setCell ⟨g, p * 6 + 4, none⟩ (.slice r'.a2 r'.D.ents.length r'.c2)).setCell ⟨g, p * 6 + 5, none⟩ (.slice r'.a3 r'.D.attrs.length r'.c3)) (some g) := gr_more (gr_more (gr_more (gr_more (gr_more (gr_setC W g (p * 6) _) (p * 6 + 1) _) (p * 6 + 2) _) (p * 6 + 3) _) (p * 6 + 4) _) (p * 6 + 5) _
  generalize (((((W.setCell ⟨g, p * 6, none⟩ (.int .i64 r'.D.ino)).setCell ⟨g, p * 6 + 1, none⟩ (.int .i64 r'.D.kind)).setCell ⟨g, p * 6 + 2, none⟩ (.int .i64 r'.D.links)).setCell ⟨g, p * 6 + 3, none⟩ (.slice r'.a1 r'.D.data.length r'.c1)).setCell ⟨g, p * 6 + 4, none⟩ (.slice r'.a2 r'.D.ents.length r'.c2)).setCell ⟨g, p * 6 + 5, none⟩ (.slice r'.a3 r'.D.attrs.length r'.c3) = W' at hr' hgr ⊢
  have hs := hgr.size
  have hc : ∀ (i : Nat) (j : InoJ), (js.set p ⟨r', lo, hi⟩)[i]? = some j → (i = p ∧ j = ⟨r', lo, hi⟩) ∨ (i ≠ p ∧ js[i]? = some j) := by
    intro i j e
    by_cases he : p = i
    · subst he
      rw [List.getElem?_set_self (by omega)] at e
      exact .inl ⟨rfl, by simpa using e.symm⟩
    · rw [List.getElem?_set_ne he] at e
      exact .inr ⟨fun e => he e.symm, e⟩
  refine ⟨?_, ?_, ?_, ?_, ?_, ?_⟩
  · rw [List.map_set, List.map_set, h.ds, List.map_set]
    dsimp only
    rw [hD]
  · rw [List.length_set, hn, List.map_set]
    exact hr'
  · intro i j e
    rcases hc i j e with ⟨_, rfl⟩ | ⟨_, e⟩
    · exact InoG.kept hG (fun b h1 h2 => hgr.block b (by dsimp only at h2; omega) (by dsimp only at h1 h2; simp; omega))
    · exact InoG.kept (h.G i j e) (fun b h1 h2 => hgr.block b (by have := h.lo i j e; omega) (by have := h.ap g rfl i j e; simp; omega))
  · intro i j e
    rcases hc i j e with ⟨_, rfl⟩ | ⟨_, e⟩
    · dsimp only
      omega
    · have := h.lo i j e
      omega
  · intro i i' j j' e e' hne
    rcases hc i j e with ⟨h1, rfl⟩ | ⟨h1, e⟩
    · rcases hc i' j' e' with ⟨h2, rfl⟩ | ⟨h2, e'⟩
      · omega
      · have := hap i' j' e'
        dsimp only
        omega
    · rcases hc i' j' e' with ⟨h2, rfl⟩ | ⟨h2, e'⟩
      · exact hap i j e
      · exact h.apart i i' j j' e e' hne
  · intro m hm i j e
    simp [Value.ownBlock] at hm
    subst hm
    rcases hc i j e with ⟨_, rfl⟩ | ⟨_, e⟩
    · exact hg
    · exact h.ap g rfl i j e
/-- One put in, in another row. -/
theorem DQA.ins {B : Nat} {W W' : World} {v : Value} {g n c k lo hi : Nat} {ds : List InoR} {js : List InoJ} (h : DQA B W v ds js) (hn : js.length = n) (hk : k ≤ n) (r r' : InoR) (hD : r'.D = r.D) (hs : W.heap.size ≤ W'.heap.size)
    (hrow : W'.ownsRow B 68 6 (.slice (some ⟨g, 0, none⟩) (n + 1) c) (n + 1) (iv ((js.take k).map InoJ.r) ++ r'.six ++ iv ((js.drop k).map InoJ.r))) (hkeep : ∀ (i : Nat) (j : InoJ), js[i]? = some j → ∀ b, j.lo ≤ b → b < j.hi → W'.heap[b]? = W.heap[b]?)
    (hG : (⟨r', lo, hi⟩ : InoJ).G W') (hlo : B ≤ lo ∧ lo ≤ hi ∧ hi ≤ W'.heap.size) (hap : ∀ (i : Nat) (j : InoJ), js[i]? = some j → j.hi ≤ lo ∨ hi ≤ j.lo) (hg : g < lo ∨ hi ≤ g) (hgj : ∀ (i : Nat) (j : InoJ), js[i]? = some j → g < j.lo ∨ j.hi ≤ g) :
    DQA B W' (.slice (some ⟨g, 0, none⟩) (n + 1) c) (putAt ds r k) (js.take k ++ ⟨r', lo, hi⟩ :: js.drop k) := by
  have hlt : (js.take k).length = k := by rw [List.length_take]; omega
  have hc : ∀ (i : Nat) (j : InoJ), (js.take k ++ ⟨r', lo, hi⟩ :: js.drop k)[i]? = some j → (i = k ∧ j = ⟨r', lo, hi⟩) ∨ ∃ i0, js[i0]? = some j ∧ ((i < k ∧ i0 = i) ∨ (k < i ∧ i0 + 1 = i)) := by
    intro i j e
    by_cases hi' : i < k
    · rw [List.getElem?_append_left (by omega), List.getElem?_take_of_lt hi'] at e
      exact .inr ⟨i, e, .inl ⟨hi', rfl⟩⟩
    · rw [List.getElem?_append_right (by omega), hlt] at e
      by_cases hz : i = k
      · subst hz
        simp at e
        exact .inl ⟨rfl, e.symm⟩
      · obtain ⟨m, hm⟩ : ∃ m, i - k = m + 1 := ⟨i - k - 1, by omega⟩
        rw [hm, List.getElem?_cons_succ, List.getElem?_drop] at e
        exact .inr ⟨k + m, e, .inr ⟨by omega, by omega⟩⟩
  refine ⟨?_, ?_, ?_, ?_, ?_, ?_⟩
  · have hd := h.ds
    unfold putAt
    simp only [List.map_append, List.map_cons, List.map_take, List.map_drop, hd, hD]
  · have hl : (js.take k ++ ⟨r', lo, hi⟩ :: js.drop k).length = n + 1 := by simp; omega
    rw [hl, List.map_append, List.map_cons, iv_append, iv_cons, ← List.append_assoc]
    exact hrow
  · intro i j e
    rcases hc i j e with ⟨_, rfl⟩ | ⟨i0, e0, _⟩
    · exact hG
    · exact InoG.kept (h.G i0 j e0) (hkeep i0 j e0)
  · intro i j e
    rcases hc i j e with ⟨_, rfl⟩ | ⟨i0, e0, _⟩
    · exact hlo
    · have := h.lo i0 j e0
      omega
  · intro i i' j j' e e' hne
    rcases hc i j e with ⟨h1, rfl⟩ | ⟨i0, e0, h1⟩
    · rcases hc i' j' e' with ⟨h2, rfl⟩ | ⟨i1, e1, h2⟩
      · omega
      · have := hap i1 j' e1
        dsimp only
        omega
    · rcases hc i' j' e' with ⟨h2, rfl⟩ | ⟨i1, e1, h2⟩
      · exact hap i0 j e0
      · exact h.apart i0 i1 j j' e0 e1 (by omega)
  · intro m hm i j e
    simp [Value.ownBlock] at hm
    subst hm
    rcases hc i j e with ⟨_, rfl⟩ | ⟨i0, e0, _⟩
    · exact hg
    · exact hgj i0 j e0
/-- Inodes appended onto a row of one's own; none, too. -/
theorem run_app6 (W : World) (B : Nat) (g k c : Nat) (xs : List Value) (hB : B ≤ W.heap.size) (hown : W.ownsRow B 68 6 (.slice (some ⟨g, 0, none⟩) k c) k xs) (ao : Option Addr) (m mc : Nat) (news : List Value) (hl : news.length = m * 6) (hsrc : m = 0 ∨ ∃ ad, ao = some ad ∧ ∀ j u, news[j]? = some u → W.cell? (ad.add j) = some u)
    (h1 : ∀ u ∈ news, u.oneCell' = true) (hkm : k + m ≤ 2000000) (ty : TypeId) :
    ∃ g' c' W', (Builtin.append_ #[26, 26] ty #[.slice (some ⟨g, 0, none⟩) k c, .slice ao m mc]).run Tryz.prog W = .ok (.slice (some ⟨g', 0, none⟩) (k + m) c') W' ∧ W'.ownsRow B 68 6 (.slice (some ⟨g', 0, none⟩) (k + m) c') (k + m) (xs ++ news) ∧ W.grownBy W' (some g) ∧ (g' = g ∨ g' = W.heap.size) ∧ g' < W'.heap.size := by
  obtain ⟨ii, hii, zi0, zi1, zi2⟩ := info_parts Tryz.infoInode
  have hglt : g < W.heap.size := (World.ownsRow.lt hown g rfl).2
  by_cases h0 : m = 0
  · subst h0
    obtain rfl : news = [] := List.length_eq_zero_iff.1 (by simpa using hl)
    have hs : Go.Src Tryz.prog ii.size 26 (.slice ao 0 mc) 0 [] W := by
      cases ao with
      | none => exact Go.Src.ofNil W Tryz.underlying26 mc
      | some ad => exact Go.Src.ofSlice W Tryz.underlying26 ad 0 mc [] (by simp) (fun j u hj => by simp at hj) (fun u hu => by simp at hu)
    have hkc : k ≤ c := by
      rcases hown.2 with ⟨h', _⟩ | ⟨g', c', cur, h', _, _, h5, _⟩
      · simp at h'
      · simp at h'
        omega
    have hr := run_append_room_src W 26 26 ty 68 ii Tryz.underlying26 hii g 0 k c (.slice ao 0 mc) 0 [] hs (by omega) (fun j hj => by simp at hj) (fun j hj => by simp at hj)
    refine ⟨g, c, W, ?_, by rw [Nat.add_zero, List.append_nil]; exact hown, World.grownBy.refl W _, .inl rfl, hglt⟩
    rw [hr]
    rfl
  · rcases hsrc with hz | ⟨ad, rfl, hn⟩
    · exact absurd hz h0
    · obtain ⟨g', c', W', h2, h3, h4, h5, h6⟩ := run_append_lies (P := Tryz.prog) W 26 ty B 68 ii _ 6 96 Tryz.underlying26 hii zi0 zi1 zi2 rfl (by omega) _ k xs hown ad m mc news hl hn h1 (by omega) (by unfold maxLen; omega) (by omega) hB W.heap.size rfl
      exact ⟨g', c', W', h2, h3, h4, h5.imp (fun e => by simpa [Value.ownBlock] using e.symm) id, h6⟩
/-- At the operation; at a step of a region that draws. -/
theorem wpList_app6 (W : World) {ops : Array Oper} {rest : List Oper} {o : Oper} {a : Act} {Q : Exit → Act → World → Prop} (hgd : o.guard = none) (s x : Operand)
    (ho : o.op = .call { callee := .builtin .append, args := #[s, x], argTypes := #[26, 26] }) (B g k c : Nat) (xs : List Value) (hB : B ≤ W.heap.size) (hs : a.eval s = .slice (some ⟨g, 0, none⟩) k c) (hown : W.ownsRow B 68 6 (.slice (some ⟨g, 0, none⟩) k c) k xs) (ao : Option Addr) (m mc : Nat) (hx : a.eval x = .slice ao m mc) (news : List Value) (hl : news.length = m * 6) (hsrc : m = 0 ∨ ∃ ad, ao = some ad ∧ ∀ j u, news[j]? = some u → W.cell? (ad.add j) = some u)
    (h1 : ∀ u ∈ news, u.oneCell' = true) (hkm : k + m ≤ 2000000)
    (h : ∀ g' c' W', W'.ownsRow B 68 6 (.slice (some ⟨g', 0, none⟩) (k + m) c') (k + m) (xs ++ news) → W.grownBy W' (some g) → (g' = g ∨ g' = W.heap.size) → g' < W'.heap.size → wpList Tryz.prog ops Q rest (a.put o.dst (.slice (some ⟨g', 0, none⟩) (k + m) c')) W') :
    wpList Tryz.prog ops Q (o :: rest) a W := by
  refine wpList_plain hgd fun K hK => ?_
  obtain ⟨g', c', W', e1, e2, e3, e4, e5⟩ := run_app6 W B g k c xs hB hown ao m mc news hl hsrc h1 hkm o.type
  unfold Oper.wp execOp
  simp only [ho, resolve, invoke, builtin, Sem.run_bind, Sem.run_pure, Result.andThen_ok, List.map_toArray, List.map_cons, List.map_nil, hs, hx, e1]
  exact hK _ _ (h g' c' W' e2 e3 e4 e5)
theorem step_app6 (W : World) {ops : Array Oper} {o : Oper} {a : Act} {K : Act → World → Prop} {Q : Exit → Act → World → Prop} {E : Prop} (hgd : o.guard = none) (s x : Operand)
    (ho : o.op = .call { callee := .builtin .append, args := #[s, x], argTypes := #[26, 26] }) (B g k c : Nat) (xs : List Value) (hB : B ≤ W.heap.size) (hs : a.eval s = .slice (some ⟨g, 0, none⟩) k c) (hown : W.ownsRow B 68 6 (.slice (some ⟨g, 0, none⟩) k c) k xs) (ao : Option Addr) (m mc : Nat) (hx : a.eval x = .slice ao m mc) (news : List Value) (hl : news.length = m * 6) (hsrc : m = 0 ∨ ∃ ad, ao = some ad ∧ ∀ j u, news[j]? = some u → W.cell? (ad.add j) = some u)
    (h1 : ∀ u ∈ news, u.oneCell' = true) (hkm : k + m ≤ 2000000)
    (h : ∀ g' c' W', W'.ownsRow B 68 6 (.slice (some ⟨g', 0, none⟩) (k + m) c') (k + m) (xs ++ news) → W.grownBy W' (some g) → (g' = g ∨ g' = W.heap.size) → g' < W'.heap.size → K (a.put o.dst (.slice (some ⟨g', 0, none⟩) (k + m) c')) W') :
    if Region.wanted o (yielded ops a.tmps) = true then Oper.wp Tryz.prog o a W K Q else E := by
  have hw : Region.wanted o (yielded ops a.tmps) = true := by simp [Region.wanted, hgd]
  rw [if_pos hw]
  obtain ⟨g', c', W', e1, e2, e3, e4, e5⟩ := run_app6 W B g k c xs hB hown ao m mc news hl hsrc h1 hkm o.type
  unfold Oper.wp execOp
  simp only [ho, resolve, invoke, builtin, Sem.run_bind, Sem.run_pure, Result.andThen_ok, List.map_toArray, List.map_cons, List.map_nil, hs, hx, e1]
  exact h g' c' W' e2 e3 e4 e5
theorem iv_one (rs : List InoR) : ∀ u ∈ iv rs, u.oneCell' = true := fun u hu => by
  unfold iv at hu
  obtain ⟨r, _, hr⟩ := List.mem_flatMap.1 hu
  exact six_one r u hr
theorem iv_take (rs : List InoR) (k : Nat) : iv (rs.take k) = (iv rs).take (k * 6) := by
  by_cases h : k ≤ rs.length
  · have e : iv rs = iv (rs.take k) ++ iv (rs.drop k) := by rw [← iv_append, List.take_append_drop]
    rw [e, List.take_left' (by rw [iv_length, List.length_take]; omega)]
  · rw [List.take_of_length_le (by omega), List.take_of_length_le (by rw [iv_length]; omega)]
theorem iv_drop (rs : List InoR) (k : Nat) : iv (rs.drop k) = (iv rs).drop (k * 6) := by
  by_cases h : k ≤ rs.length
  · have e : iv rs = iv (rs.take k) ++ iv (rs.drop k) := by rw [← iv_append, List.take_append_drop]
    rw [e, List.drop_left' (by rw [iv_length, List.length_take]; omega)]
  · rw [List.drop_of_length_le (by omega), List.drop_of_length_le (by rw [iv_length]; omega)]
    rfl
/-- The cells of a table's row. -/
theorem DQA.cell {B : Nat} {W : World} {g n c : Nat} {ds : List InoR} {js : List InoJ} (h : DQA B W (.slice (some ⟨g, 0, none⟩) n c) ds js) (hn : js.length = n) (j : Nat) (u : Value) (hu : (iv (js.map InoJ.r))[j]? = some u) : W.cell? ⟨g, j, none⟩ = some u := by
  have hr := h.row
  rw [hn] at hr
  have hj := (List.getElem?_eq_some_iff.1 hu).1
  rw [hr.1] at hj
  rw [World.ownsRow.cellAt hr j (by omega)]
  exact hu
theorem DQA.own {B : Nat} {W : World} {g n c : Nat} {ds : List InoR} {js : List InoJ} (h : DQA B W (.slice (some ⟨g, 0, none⟩) n c) ds js) (hn : js.length = n) : OwnI W g n c (js.map InoJ.r) := by
  rcases h.cases hn with ⟨h', _⟩ | ⟨g', h', _, ho⟩
  · simp at h'
  · simp at h'
    subst h'
    exact ho
end

section
open Go.RowKit
set_option maxRecDepth 100000 in
set_option maxHeartbeats 4000000 in
theorem l4CopyS (a : Option Addr) (n cap : Nat) (nx : Int) (rs : List InoR) (w : World) (hn : rs.length = n) (hs : n ≤ 1048576) (hsm : ∀ r ∈ rs, InoSmall r.D) (hr : RdI w a rs) :
    Calls Tryz.prog 67 #[.agg #[.slice a n cap, .int .i64 nx]] w fun e w' => DropPost w nx rs e w' := by
  obtain ⟨ii, hii, zi0, zi1, zi2⟩ := info_parts Tryz.infoInode
  have hn' : Hid (rs.length = n) := hn
  have HR : Hid _ := hr
  have HS : Hid _ := hsm
  have dx0 : DX w (((w.alloc (.cells #[.slice a n cap, .int .i64 nx] 28)).alloc (.cells #[.slice none 0 0, .int .i64 0] 28)).alloc (.cells #[.slice none 0 0, .int .i64 nx] 28)) (w.heap.size + 1 + 1) nx (.slice a n cap) (.slice none 0 0) [] [] := by
    have z0 := ((Blk.new w 28 #[.slice a n cap, .int .i64 nx]).alloc (.cells #[.slice none 0 0, .int .i64 0] 28)).alloc (.cells #[.slice none 0 0, .int .i64 nx] 28)
    have z1 := (Blk.new (w.alloc (.cells #[.slice a n cap, .int .i64 nx] 28)) 28 #[.slice none 0 0, .int .i64 0]).alloc (.cells #[.slice none 0 0, .int .i64 nx] 28)
    have z2 := Blk.new ((w.alloc (.cells #[.slice a n cap, .int .i64 nx] 28)).alloc (.cells #[.slice none 0 0, .int .i64 0] 28)) 28 #[.slice none 0 0, .int .i64 nx]
    simp only [World.size_alloc] at z1 z2
    exact ⟨(((Below.refl _ w).alloc (Nat.le_refl _) _).alloc (by simp) _).alloc (by simp; omega) _, z0, z1, z2, by omega, DQT.nil _ _⟩
  clear hr hsm hn
  have t0 := dx0.tb.cell 0
  have t1 := dx0.tb.cell 1
  simp at t0 t1
  go_enter Tryz.func67, Tryz.ntmps67
  go_wp2
  clear t0 t1
  obtain ⟨W0, hW0⟩ : ∃ W, ((w.alloc (.cells #[.slice a n cap, .int .i64 nx] 28)).alloc (.cells #[.slice none 0 0, .int .i64 0] 28)).alloc (.cells #[.slice none 0 0, .int .i64 nx] 28) = W := ⟨_, rfl⟩
  rw [hW0] at dx0 ⊢
  clear hW0
  obtain ⟨X, hX⟩ : ∃ X, w.heap.size + 1 + 1 = X := ⟨_, rfl⟩
  have HXX : Hid _ := hX
  rw [hX] at dx0 ⊢
  clear hX
  go_loopw [4] (fun i wr => ∃ (k : Nat) (v : Value) (js : List InoJ), k ≤ n ∧ i = .int .i64 k ∧ DX w wr X nx (.slice a n cap) v (rs.take k) js) (fun i _ => n - (intOf i).toNat)
  case atStart => exact ⟨0, .slice none 0 0, [], Nat.zero_le _, rfl, dx0⟩
  case round =>
    obtain ⟨k, v, js, hk, rfl, dx⟩ := hrel
    clear dx0
    have t0 := dx.tb.cell 0
    simp at t0
    by_cases hkn : k < n
    · have hki : (k : Int) < (n : Int) := by omega
      have hkz : (0 : Int) ≤ (k : Int) := by omega
      obtain ⟨r, hrk⟩ : ∃ r, rs[k]? = some r := ⟨_, List.getElem?_eq_getElem (by rw [hn'.out]; exact hkn)⟩
      obtain ⟨b, off, rfl, hlt, hc⟩ := (RdI.keep HR.out dx.below).lt (by intro h; have := hn'.out; rw [h] at this; simp at this; omega)
      obtain ⟨⟨x0, x1, x2, x3, x4, x5⟩, xr⟩ := hc k r hrk
      have hsr := HS.out r (List.mem_of_getElem? hrk)
      have hds : Hid (rs.take (k + 1) = rs.take k ++ [r]) := by show _ = _; rw [List.take_add_one, hrk]; rfl
      have hlj : js.length ≤ n := by rw [dx.q.len, List.length_take]; omega
      obtain ⟨ds, hds'⟩ : ∃ l, rs.take k = l := ⟨_, rfl⟩
      rw [hds'] at hds dx
      have hcC := l3Copy_any r.D r.a1 r.a2 r.a3 r.c1 r.c2 r.c3 wr.drew hsr (InoRd.keep xr (Below.refl wr.heap.size wr).drew)
      have o0 := dx.out.cell 0
      simp at o0
      clear hc hrk xr hsr hds'
      go_upto_region 5 with fail
      go_region_law (first
        | (go_simp; go_at_call 121; (with_reducible refine hcC.mono ?_); rintro e w10 ⟨b1, d1, b2, d2, b3, d3, rfl, gC, bC⟩; have b11 : Below wr.heap.size wr w10 := (Below.refl wr.heap.size wr).drew.trans bC; have dx10 := dx.keep b11; have o1 := dx10.out.cell 0; have o2 := (dx10.out.alloc (.cells #[.int .i64 r.D.ino, .int .i64 r.D.kind, .int .i64 r.D.links, .slice b1 r.D.data.length d1, .slice b2 r.D.ents.length d2, .slice b3 r.D.attrs.length d3] 68)).cell 0; simp at o1 o2; have hrow := World.ownsRow.alloc dx10.q.row (.cells #[.int .i64 r.D.ino, .int .i64 r.D.kind, .int .i64 r.D.links, .slice b1 r.D.data.length d1, .slice b2 r.D.ents.length d2, .slice b3 r.D.attrs.length d3] 68); have hbw : X + 1 ≤ (w10.alloc (.cells #[.int .i64 r.D.ino, .int .i64 r.D.kind, .int .i64 r.D.links, .slice b1 r.D.data.length d1, .slice b2 r.D.ents.length d2, .slice b3 r.D.attrs.length d3] 68)).heap.size := (by simp; have := dx10.out.lt; omega); dsimp only)
        | (refine step_append_lies (w10.alloc (.cells #[.int .i64 r.D.ino, .int .i64 r.D.kind, .int .i64 r.D.links, .slice b1 r.D.data.length d1, .slice b2 r.D.ents.length d2, .slice b3 r.D.attrs.length d3] 68)) rfl (.tmp 16) (.tmp 23) 26 rfl (X + 1) 68 ii _ 6 96 Tryz.underlying26 hii zi0 zi1 zi2 rfl (by omega) v js.length (iv (js.map InoJ.r)) rfl hrow ⟨w10.heap.size, 0, none⟩ 1 1 (InoR.six ⟨r.D, b1, d1, b2, d2, b3, d3⟩) rfl rfl (six_news w10 ⟨r.D, b1, d1, b2, d2, b3, d3⟩ _) (six_one _) (by omega) (by unfold maxLen; omega) (by omega) hbw (w10.heap.size + 1) (by simp) ?_; intro g2 cc2 w12 ho12 hg12 hat12 hlt12; obtain ⟨o12, dx12⟩ := dx.app b11 r ⟨r.D, b1, d1, b2, d2, b3, d3⟩ rfl gC (.cells #[.int .i64 r.D.ino, .int .i64 r.D.kind, .int .i64 r.D.links, .slice b1 r.D.data.length d1, .slice b2 r.D.ents.length d2, .slice b3 r.D.attrs.length d3] 68) hg12 g2 (js.length + 1) cc2 rfl ho12 hat12; have c4 := o12.cell 0; have f4 := o12.frozen 0; simp at c4))
      all_goals clear dx10 hrow hbw
      all_goals go_wp2
      all_goals go_roundw
      all_goals first
        | (case rel => (repeat apply Exists.intro); exact ⟨⟨k + 1, _, _, by omega, by go_num, by rw [hds.out]; exact dx12⟩, rfl⟩)
        | (case rel => exact ⟨k + 1, _, _, by omega, by go_num, by rw [hds.out]; exact dx12⟩)
        | (case measure => simp [intOf]; omega)
    · have hki : ¬ (k : Int) < (n : Int) := by omega
      have hke : rs.take k = rs := List.take_of_length_le (by rw [hn'.out]; omega)
      rw [hke] at dx
      clear hke
      obtain ⟨va, vc, rfl⟩ := six_of_row dx.q.row
      obtain ⟨vn, hvn⟩ : ∃ m, js.length = m := ⟨_, rfl⟩
      have HVN : Hid _ := hvn
      have o0 := dx.out.cell 0
      have o1 := dx.out.cell 1
      have r0 := dx.res.cell 0
      have r1 := dx.res.cell 1
      have f0 := dx.res.frozen 0
      have f1 := dx.res.frozen 1
      simp at o0 o1 r0 r1
      rw [hvn] at o0
      have HG : Hid _ := dx
      clear dx hvn
      go_wp2
      have zf := (HG.out.res.set 0 (.slice va vn vc)).set 1 (.int .i64 nx)
      have dd0 := zf.cell 0
      have dd1 := zf.cell 1
      simp at dd0 dd1
      refine bodyPost_ret (v := .agg #[.slice va vn vc, .int .i64 nx]) (by simp [results, Tryz.f67, go_sem, dd0, dd1]) rfl ?_
      have hhx := HG.out.hX
      refine ⟨va, vc, js, by rw [HVN.out], ((HG.out.q.setX (X := w.heap.size + 1) (by omega) 0 (.slice va vn vc)).setX (X := w.heap.size + 1) (by omega) 1 (.int .i64 nx)).lower (by omega), ?_⟩
      exact (HG.out.below.setCell (p := ⟨w.heap.size + 1, 0, none⟩) (by simp only; omega) _).setCell (p := ⟨w.heap.size + 1, 1, none⟩) (by simp only; omega) _
theorem gr_none {W W' : World} (h : W.grownBy W' none) : Below W.heap.size W W' := ⟨h.os, h.tape, h.output, h.size, fun k hk => h.block k hk (by simp)⟩
/-- What is known while a table is copied by the program. -/
structure CT (w W : World) (nx : Int) (tv v : Value) (ds : List InoR) (js : List InoJ) : Prop where
  below : Below w.heap.size w W
  tb : Blk W w.heap.size 28 #[tv, .int .i64 nx]
  res : Blk W (w.heap.size + 1) 28 #[.slice none 0 0, .int .i64 0]
  q : DQT (w.heap.size + 2) W v ds js
theorem CT.keep {w W W' : World} {nx : Int} {tv v : Value} {ds : List InoR} {js : List InoJ} (h : CT w W nx tv v ds js) (hb : Below W.heap.size W W') : CT w W' nx tv v ds js :=
  ⟨h.below.trans (hb.mono h.below.size), h.tb.keep hb, h.res.keep hb, h.q.keep hb⟩
theorem CT.app {w W W1 W2 : World} {nx : Int} {tv : Value} {g k n : Nat} {ds : List InoR} {js : List InoJ} (h : CT w W nx tv (.slice (some ⟨g, 0, none⟩) k n) ds js) (hk : js.length = k) (hb : Below W.heap.size W W1) (r r' : InoR) (hD : r'.D = r.D) (hG : (⟨r', W.heap.size, W1.heap.size⟩ : InoJ).G W1) (o : Obj) (hg : (W1.alloc o).grownBy W2 (some g)) (ho : W2.ownsRow (w.heap.size + 2) 68 6 (.slice (some ⟨g, 0, none⟩) (k + 1) n) (k + 1) (iv (js.map InoJ.r) ++ r'.six)) :
    CT w W2 nx tv (.slice (some ⟨g, 0, none⟩) (k + 1) n) (ds ++ [r]) (js ++ [⟨r', W.heap.size, W1.heap.size⟩]) := by
  have hg2 : w.heap.size + 2 ≤ g := (World.ownsRow.lt h.q.row g rfl).1
  have hsz : w.heap.size + 2 ≤ W.heap.size := by have := h.res.lt; omega
  have h1 := h.keep (hb.trans (((Below.refl _ W1).alloc (Nat.le_refl _) o).mono hb.size))
  have b2 : Below w.heap.size w W2 := h1.below.grown hg h1.below.size (fun m hm => by simp at hm; omega)
  exact ⟨b2, h1.tb.kept hg (by omega), h1.res.kept hg (by omega), h.q.app hsz hb r r' hD hG o hg g (k + 1) n (by omega) ho (.inl rfl)⟩
/-- What copyTab answers. -/
def CopyTPost (w : World) (n : Nat) (nx : Int) (ds : List InoR) (e : Ending) (w' : World) : Prop :=
  ∃ (g : Nat) (js : List InoJ), e = .returned (.agg #[.slice (some ⟨g, 0, none⟩) n n, .int .i64 nx]) ∧ js.length = n ∧ DQT w.heap.size w' (.slice (some ⟨g, 0, none⟩) n n) ds js ∧ Below w.heap.size w w'
set_option maxRecDepth 100000 in
set_option maxHeartbeats 4000000 in
theorem copyTab_any (a : Option Addr) (n cap : Nat) (nx : Int) (rs : List InoR) (w : World) (hn : rs.length = n) (hs : n ≤ 1048576) (hsm : ∀ r ∈ rs, InoSmall r.D) (hr : RdI w a rs) :
    Calls Tryz.prog 110 #[.agg #[.slice a n cap, .int .i64 nx]] w fun e w' => CopyTPost w n nx rs e w' := by
  obtain ⟨ii, hii, zi0, zi1, zi2⟩ := info_parts Tryz.infoInode
  have hn' : Hid (rs.length = n) := hn
  have HR : Hid _ := hr
  have HS : Hid _ := hsm
  have B0 : Below w.heap.size w ((w.alloc (.cells #[.slice a n cap, .int .i64 nx] 28)).alloc (.cells #[.slice none 0 0, .int .i64 0] 28)) := ((Below.refl _ w).alloc (Nat.le_refl _) _).alloc (by simp) _
  have z0 := (Blk.new w 28 #[.slice a n cap, .int .i64 nx]).alloc (.cells #[.slice none 0 0, .int .i64 0] 28)
  have z1 := (Blk.new (w.alloc (.cells #[.slice a n cap, .int .i64 nx] 28)) 28 #[.slice none 0 0, .int .i64 0])
  simp only [World.size_alloc] at z1
  have hsz : ((w.alloc (.cells #[.slice a n cap, .int .i64 nx] 28)).alloc (.cells #[.slice none 0 0, .int .i64 0] 28)).heap.size = w.heap.size + 2 := by simp
  clear hr hsm hn
  go_enter Tryz.func110, Tryz.ntmps110
  go_upto_region 1 with fail
  obtain ⟨W0, hW0⟩ : ∃ W, (w.alloc (.cells #[.slice a n cap, .int .i64 nx] 28)).alloc (.cells #[.slice none 0 0, .int .i64 0] 28) = W := ⟨_, rfl⟩
  rw [hW0] at B0 z0 z1 hsz ⊢
  have HSZ : Hid _ := hsz
  clear hW0 hsz
  have t0 := z0.cell 0
  simp at t0
  go_upto_region 2 with (refine wpList_make_own W0 rfl _ _ 26 rfl (w.heap.size + 2) 68 ii _ 6 Tryz.underlying26 hii zi0 zi1 .i64 .i64 _ n rfl rfl rfl (by rw [zi2]; omega) (by unfold maxLen; omega) (by rw [HSZ.out]; exact Nat.le_refl _) ?_; intro w1 ho1 hg1)
  have bb1 := gr_none hg1
  have ct0 : CT w w1 nx (.slice a n cap) (.slice (some ⟨W0.heap.size, 0, none⟩) 0 n) [] [] := ⟨B0.trans (bb1.mono B0.size), z0.keep bb1, z1.keep bb1, ⟨rfl, ho1, JsQ.nil _ _, fun g _ i j e => by simp at e⟩⟩
  obtain ⟨g, hg⟩ : ∃ g, W0.heap.size = g := ⟨_, rfl⟩
  rw [hg] at ct0 ⊢
  clear hg HSZ bb1 hg1 ho1 z0 z1 B0 t0
  have t0 := ct0.tb.cell 0
  simp at t0
  go_wp2
  clear t0
  go_loopw [3, 13] (fun l i wr => ∃ (k : Nat) (js : List InoJ), k ≤ n ∧ i = .int .i64 k ∧ l = .slice (some ⟨g, 0, none⟩) k n ∧ js.length = k ∧ CT w wr nx (.slice a n cap) (.slice (some ⟨g, 0, none⟩) k n) (rs.take k) js) (fun _ i _ => n - (intOf i).toNat)
  case atStart => exact ⟨0, [], Nat.zero_le _, rfl, rfl, rfl, ct0⟩
  case round =>
    obtain ⟨k, js, hk, rfl, rfl, hjk, ct⟩ := hrel
    clear ct0
    by_cases hkn : k < n
    · have hki : (k : Int) < (n : Int) := by omega
      have hkz : (0 : Int) ≤ (k : Int) := by omega
      obtain ⟨r, hrk⟩ : ∃ r, rs[k]? = some r := ⟨_, List.getElem?_eq_getElem (by rw [hn'.out]; exact hkn)⟩
      obtain ⟨b, off, rfl, hlt, hc⟩ := (RdI.keep HR.out ct.below).lt (by intro h; have := hn'.out; rw [h] at this; simp at this; omega)
      obtain ⟨⟨x0, x1, x2, x3, x4, x5⟩, xr⟩ := hc k r hrk
      have hsr := HS.out r (List.mem_of_getElem? hrk)
      have hds : Hid (rs.take (k + 1) = rs.take k ++ [r]) := by show _ = _; rw [List.take_add_one, hrk]; rfl
      have b8 : Below wr.heap.size wr (wr.alloc (.cells #[.int .i64 r.D.ino, .int .i64 r.D.kind, .int .i64 r.D.links, .slice r.a1 r.D.data.length r.c1, .slice r.a2 r.D.ents.length r.c2, .slice r.a3 r.D.attrs.length r.c3] 68)) := (Below.refl _ wr).alloc (Nat.le_refl _) _
      have zE := Blk.new wr 68 #[.int .i64 r.D.ino, .int .i64 r.D.kind, .int .i64 r.D.links, .slice r.a1 r.D.data.length r.c1, .slice r.a2 r.D.ents.length r.c2, .slice r.a3 r.D.attrs.length r.c3]
      have ct8 := ct.keep b8
      have xr8 := InoRd.keep xr b8
      obtain ⟨ds, hds'⟩ : ∃ l, rs.take k = l := ⟨_, rfl⟩
      rw [hds'] at hds ct8
      clear hc hrk xr ct hds'
      go_upto_region 5 with fail
      obtain ⟨E, hE⟩ : ∃ E, wr.heap.size = E := ⟨_, rfl⟩
      obtain ⟨W8, hW8⟩ : ∃ W, wr.alloc (.cells #[.int .i64 r.D.ino, .int .i64 r.D.kind, .int .i64 r.D.links, .slice r.a1 r.D.data.length r.c1, .slice r.a2 r.D.ents.length r.c2, .slice r.a3 r.D.attrs.length r.c3] 68) = W := ⟨_, rfl⟩
      rw [hW8] at ct8 zE xr8 ⊢
      rw [hE] at zE ⊢
      clear hW8 hE b8 x0 x1 x2 x3 x4 x5 hlt
      have hcC := copyInode_any r.D r.a1 r.a2 r.a3 r.c1 r.c2 r.c3 W8 hsr xr8
      obtain ⟨e0, e1, e2, e3, e4, e5⟩ := zE.six
      go_wp2_with fail
      (with_reducible refine hcC.mono ?_)
      rintro e w10 ⟨b1, d1, b2, d2, b3, d3, rfl, gC, bC⟩
      have ct10 := ct8.keep bC
      have hrow := World.ownsRow.alloc ct10.q.row (.cells #[.int .i64 r.D.ino, .int .i64 r.D.kind, .int .i64 r.D.links, .slice b1 r.D.data.length d1, .slice b2 r.D.ents.length d2, .slice b3 r.D.attrs.length d3] 68)
      rw [hjk] at hrow
      clear hcC zE e0 e1 e2 e3 e4 e5
      go_wp2_with (at_builtin; refine wpList_append_own_spare _ rfl (.tmp 17) (.tmp 20) 26 rfl (w.heap.size + 2) 68 ii 6 Tryz.underlying26 hii zi1 g k n (iv (js.map InoJ.r)) rfl hrow ⟨w10.heap.size, 0, none⟩ 1 1 (InoR.six ⟨r.D, b1, d1, b2, d2, b3, d3⟩) rfl rfl (six_news w10 ⟨r.D, b1, d1, b2, d2, b3, d3⟩ _) (six_one _) (by omega) ?_; intro w12 ho12 hg12)
      have ct12 := ct8.app hjk bC r ⟨r.D, b1, d1, b2, d2, b3, d3⟩ rfl gC _ hg12 ho12
      clear ct10 hrow ct8
      go_roundw
      case rel => exact ⟨k + 1, js ++ [⟨⟨r.D, b1, d1, b2, d2, b3, d3⟩, W8.heap.size, w10.heap.size⟩], by omega, by go_num, rfl, by simp [hjk], by rw [hds.out]; exact ct12⟩
      case measure => simp [intOf]; omega
    · have hki : ¬ (k : Int) < (n : Int) := by omega
      obtain rfl : k = n := by omega
      have hke : rs.take k = rs := List.take_of_length_le (by rw [hn'.out]; omega)
      rw [hke] at ct
      clear hke
      have t1 := ct.tb.cell 1
      have r0 := ct.res.cell 0
      have r1 := ct.res.cell 1
      have f0 := ct.res.frozen 0
      have f1 := ct.res.frozen 1
      simp at t1 r0 r1
      have HG : Hid _ := ct
      clear ct
      go_wp2
      have zf := (HG.out.res.set 0 (.slice (some ⟨g, 0, none⟩) k k)).set 1 (.int .i64 nx)
      have dd0 := zf.cell 0
      have dd1 := zf.cell 1
      simp at dd0 dd1
      refine bodyPost_ret (v := .agg #[.slice (some ⟨g, 0, none⟩) k k, .int .i64 nx]) (by simp [results, Tryz.f110, go_sem, dd0, dd1]) rfl ?_
      refine ⟨g, js, rfl, hjk, ((HG.out.q.setX (X := w.heap.size + 1) (by omega) 0 (.slice (some ⟨g, 0, none⟩) k k)).setX (X := w.heap.size + 1) (by omega) 1 (.int .i64 nx)).lower (by omega), ?_⟩
      exact (HG.out.below.setCell (p := ⟨w.heap.size + 1, 0, none⟩) (by simp only; omega) _).setCell (p := ⟨w.heap.size + 1, 1, none⟩) (by simp only; omega) _
end
end Go.Proofs.YtmfimoccemgoiaaGreatDoor
