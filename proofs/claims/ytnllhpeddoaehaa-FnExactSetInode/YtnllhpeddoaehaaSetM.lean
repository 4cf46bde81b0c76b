/-
  A table in which an inode is set: what it is, and the rows that bear it.
-/
import Derived.Test.YtnllhpeddoaehaaDropW
namespace Go.Proofs.Ytnllhpeddoaehaa
open Go.RowKit

/-- Where a number that is not there belongs. -/
def placeOf (rs : List InoR) (x : Int) : Nat := rs.findIdx fun r => decide (x < r.D.ino)
theorem placeOf_le (rs : List InoR) (x : Int) : placeOf rs x ≤ rs.length := List.findIdx_le_length
theorem placeOf_is {rs : List InoR} {x : Int} {k : Nat} {r : InoR} (hk : rs[k]? = some r) (hx : x < r.D.ino) (ha : ∀ (j : Nat) (q : InoR), j < k → rs[j]? = some q → ¬ x < q.D.ino) : placeOf rs x = k := by
  obtain ⟨hl, he⟩ := List.getElem?_eq_some_iff.1 hk
  refine (List.findIdx_eq hl).2 ⟨by simp [he, hx], fun j hj => ?_⟩
  have := ha j rs[j] hj (List.getElem?_eq_getElem _)
  simpa using this
theorem placeOf_end {rs : List InoR} {x : Int} (ha : ∀ (j : Nat) (q : InoR), rs[j]? = some q → ¬ x < q.D.ino) : placeOf rs x = rs.length := by
  refine List.findIdx_eq_length_of_false fun r hr => ?_
  obtain ⟨j, hj⟩ := List.getElem?_of_mem hr
  simpa using ha j r hj
/-- The table with r set. -/
def putAt (rs : List InoR) (r : InoR) (k : Nat) : List InoR := rs.take k ++ r :: rs.drop k
def setR (rs : List InoR) (r : InoR) : List InoR := match firstAt (inos rs) r.D.ino with
  | some p => rs.set p r
  | none => putAt rs r (placeOf rs r.D.ino)
theorem setR_some {rs : List InoR} {r : InoR} {p : Nat} (h : firstAt (inos rs) r.D.ino = some p) : setR rs r = rs.set p r := by unfold setR; rw [h]
theorem setR_none {rs : List InoR} {r : InoR} (h : firstAt (inos rs) r.D.ino = none) : setR rs r = putAt rs r (placeOf rs r.D.ino) := by unfold setR; rw [h]
theorem putAt_len (rs : List InoR) (r : InoR) (k : Nat) (h : k ≤ rs.length) : (putAt rs r k).length = rs.length + 1 := by
  simp [putAt]
  omega
theorem setR_mem {rs : List InoR} {r q : InoR} (h : q ∈ setR rs r) : q ∈ rs ∨ q = r := by
  unfold setR at h
  split at h
  · exact List.mem_or_eq_of_mem_set h
  · rcases List.mem_append.1 h with h | h
    · exact .inl (List.mem_of_mem_take h)
    · rcases List.mem_cons.1 h with h | h
      · exact .inr h
      · exact .inl (List.mem_of_mem_drop h)
theorem set_small {rs : List InoR} {r : InoR} (h : ∀ q ∈ rs, InoSmall q.D) (hr : InoSmall r.D) : ∀ q ∈ setR rs r, InoSmall q.D := fun q hq => by
  rcases setR_mem hq with h' | rfl
  · exact h q h'
  · exact hr
theorem cntI_app (l m : List InoR) : cntI (l ++ m) = cntI l + cntI m := by unfold cntI; simp
theorem set_cnt (rs : List InoR) (r : InoR) : (setR rs r).length + cntI (setR rs r) ≤ rs.length + cntI rs + (1 + cntI [r]) := by
  unfold setR
  split
  · rename_i p _
    have : ∀ (l : List InoR) (p : Nat), cntI (l.set p r) ≤ cntI l + cntI [r] := by
      intro l
      induction l with
      | nil => intro p; simp [cntI]
      | cons q l ih =>
        intro p
        cases p with
        | zero => unfold cntI; simp; omega
        | succ p =>
          have := ih p
          unfold cntI at this ⊢
          simp at this ⊢
          omega
    have := this rs p
    rw [List.length_set]
    omega
  · have h1 : ∀ k, cntI (putAt rs r k) = cntI rs + cntI [r] := fun k => by
      have e : cntI (putAt rs r k) = cntI (rs.take k) + (cntI [r] + cntI (rs.drop k)) := by
        unfold putAt
        rw [cntI_app, show r :: rs.drop k = [r] ++ rs.drop k from rfl, cntI_app]
      have e2 : cntI rs = cntI (rs.take k) + cntI (rs.drop k) := by rw [← cntI_app, List.take_append_drop]
      omega
    rw [putAt_len _ _ _ (placeOf_le _ _), h1]
    omega
theorem inos_eq {rs ts : List InoR} (h : ts.map InoR.D = rs.map InoR.D) : inos ts = inos rs := by rw [inos_D, inos_D, h]
theorem place_D {rs ts : List InoR} (h : ts.map InoR.D = rs.map InoR.D) (x : Int) : placeOf ts x = placeOf rs x := by
  have e : ∀ l : List InoR, placeOf l x = (l.map InoR.D).findIdx fun D => decide (x < D.ino) := fun l => by
    unfold placeOf
    rw [List.findIdx_map]
    rfl
  rw [e, e, h]
theorem setR_D (rs ts : List InoR) (r r' : InoR) (h : ts.map InoR.D = rs.map InoR.D) (hr : r'.D = r.D) : (setR ts r').map InoR.D = (setR rs r).map InoR.D := by
  unfold setR
  rw [inos_eq h, hr]
  split
  · rw [List.map_set, List.map_set, h, hr]
  · rw [place_D h]
    unfold putAt
    simp only [List.map_append, List.map_cons, List.map_take, List.map_drop, h, hr]

/-- Copies of ds, in a row v that may be nil, all at or behind B, the lists of each apart from all others. -/
structure DQA (B : Nat) (W : World) (v : Value) (ds : List InoR) (js : List InoJ) : Prop where
  ds : (js.map InoJ.r).map InoR.D = ds.map InoR.D
  row : W.ownsRow B 27 6 v js.length (iv (js.map InoJ.r))
  G : ∀ (i : Nat) (j : InoJ), js[i]? = some j → j.G W
  lo : ∀ (i : Nat) (j : InoJ), js[i]? = some j → B ≤ j.lo ∧ j.lo ≤ j.hi ∧ j.hi ≤ W.heap.size
  apart : ∀ (i i' : Nat) (j j' : InoJ), js[i]? = some j → js[i']? = some j' → i ≠ i' → j.hi ≤ j'.lo ∨ j'.hi ≤ j.lo
  ap : ∀ g, v.ownBlock = some g → ∀ (i : Nat) (j : InoJ), js[i]? = some j → g < j.lo ∨ j.hi ≤ g
theorem DQT.dqa {B : Nat} {W : World} {v : Value} {ds : List InoR} {js : List InoJ} (h : DQT B W v ds js) : DQA B W v ds js :=
  ⟨h.ds, h.row, h.jq.G, h.jq.lo, fun i i' j j' e e' hne => by
    rcases Nat.lt_or_gt_of_ne hne with hl | hl
    · exact .inl (h.jq.ord i i' j j' hl e e')
    · exact .inr (h.jq.ord i' i j' j hl e' e), h.ap⟩
theorem DQA.len {B : Nat} {W : World} {v : Value} {ds : List InoR} {js : List InoJ} (h : DQA B W v ds js) : js.length = ds.length := by have := congrArg List.length h.ds; simpa using this
theorem DQA.kept {B : Nat} {W W' : World} {v : Value} {ds : List InoR} {js : List InoJ} (h : DQA B W v ds js) (hs : W.heap.size ≤ W'.heap.size) (hrow : W'.ownsRow B 27 6 v js.length (iv (js.map InoJ.r))) (k : ∀ (i : Nat) (j : InoJ), js[i]? = some j → ∀ b, j.lo ≤ b → b < j.hi → W'.heap[b]? = W.heap[b]?) : DQA B W' v ds js :=
  ⟨h.ds, hrow, fun i j e => InoG.kept (h.G i j e) (k i j e), fun i j e => by have := h.lo i j e; omega, h.apart, h.ap⟩
theorem DQA.keep {B : Nat} {W W' : World} {v : Value} {ds : List InoR} {js : List InoJ} (h : DQA B W v ds js) (hb : Below W.heap.size W W') : DQA B W' v ds js :=
  h.kept hb.size (row_keep6 h.row hb) (fun i j e b _ h2 => hb.block b (by have := h.lo i j e; omega))
theorem DQA.setX {B : Nat} {W : World} {v : Value} {rs : List InoR} {js : List InoJ} (h : DQA B W v rs js) {X : Nat} (hX : X < B) (i : Nat) (u : Value) : DQA B (W.setCell ⟨X, i, none⟩ u) v rs js :=
  h.kept (by simp [World.setCell]) (row_kept h.row (gr_setC W X i u) (fun m hm e => by have := (World.ownsRow.lt h.row m hm).1; simp at e; omega)) (fun k j e b h1 h2 => (gr_setC W X i u).block b (by have := h.lo k j e; omega) (by have := h.lo k j e; simp; omega))
theorem DQA.lower {B B' : Nat} {W : World} {v : Value} {rs : List InoR} {js : List InoJ} (h : DQA B W v rs js) (hB : B' ≤ B) : DQA B' W v rs js :=
  ⟨h.ds, row_lower h.row hB, h.G, fun i j e => by have := h.lo i j e; omega, h.apart, h.ap⟩
theorem DQA.outs {B : Nat} {W W' : World} {v : Value} {ds : List InoR} {js : List InoJ} {Lo Hi : Nat} (h : DQA B W v ds js) (k : Out Lo Hi W W') (hd : Hi ≤ B) : DQA B W' v ds js := by
  refine h.kept k.size ?_ (fun i j e b h1 h2 => k.block b (by have := h.lo i j e; omega) (by have := h.lo i j e; omega))
  refine ⟨h.row.1, h.row.2.imp id (fun ⟨g, c, cur, h1, h2, h3, rest⟩ => ⟨g, c, cur, h1, h2, ?_, rest⟩)⟩
  rw [k.block g (Array.getElem?_eq_some_iff.1 h3).1 (by omega)]
  exact h3
theorem DQA.cases {B : Nat} {W : World} {a : Option Addr} {n c : Nat} {ds : List InoR} {js : List InoJ} (h : DQA B W (.slice a n c) ds js) (hn : js.length = n) : (a = none ∧ js = [] ∧ n = 0 ∧ c = 0) ∨ ∃ g, a = some ⟨g, 0, none⟩ ∧ B ≤ g ∧ OwnI W g n c (js.map InoJ.r) := by
  have hr := h.row
  rw [hn] at hr
  rcases hr.2 with ⟨h1, h2⟩ | ⟨g, c', cur, h1, h2, rest⟩
  · simp at h1
    obtain ⟨rfl, h3, rfl⟩ := h1
    exact .inl ⟨rfl, List.length_eq_zero_iff.1 (by omega), h3, rfl⟩
  · simp at h1
    obtain ⟨rfl, rfl⟩ := h1
    exact .inr ⟨g, rfl, h2, ⟨hr.1, .inr ⟨g, _, cur, rfl, Nat.zero_le _, rest⟩⟩⟩
theorem DQA.rd {B : Nat} {W : World} {a : Option Addr} {n c : Nat} {ds : List InoR} {js : List InoJ} (h : DQA B W (.slice a n c) ds js) (hn : js.length = n) : RdI W a (js.map InoJ.r) := by
  rcases h.cases hn with ⟨_, rfl, _, _⟩ | ⟨g, rfl, _, ho⟩
  · exact .inl rfl
  · refine OwnI.rds ho (fun r hr => ?_)
    obtain ⟨j, hj, rfl⟩ := List.mem_map.1 hr
    obtain ⟨i, hi⟩ := List.getElem?_of_mem hj
    exact (h.G i j hi).rd
theorem DQA.small {B : Nat} {W : World} {v : Value} {ds : List InoR} {js : List InoJ} (h : DQA B W v ds js) (hs : ∀ r ∈ ds, InoSmall r.D) : ∀ r ∈ js.map InoJ.r, InoSmall r.D := by
  intro r hr
  have h1 : r.D ∈ (js.map InoJ.r).map InoR.D := List.mem_map_of_mem hr
  rw [h.ds] at h1
  obtain ⟨q, hq, hqr⟩ := List.mem_map.1 h1
  rw [← hqr]
  exact hs q hq
theorem DQA.cong {B : Nat} {W : World} {v : Value} {ds ds' : List InoR} {js : List InoJ} (h : DQA B W v ds js) (he : ds.map InoR.D = ds'.map InoR.D) : DQA B W v ds' js := ⟨by rw [h.ds, he], h.row, h.G, h.lo, h.apart, h.ap⟩
theorem eqVA {B B' : Nat} {W : World} {a a' : Option Addr} {n c c' : Nat} {ds : List InoR} {js js' : List InoJ} (nx : Int) (hs : n ≤ 4000000) (hsm : ∀ r ∈ ds, InoSmall r.D) (h : DQA B W (.slice a n c) ds js) (h' : DQA B' W (.slice a' n c') ds js') (hn : js.length = n) (hn' : js'.length = n) :
    Calls Try.prog 40 #[.agg #[.slice a n c, .int .i64 nx], .agg #[.slice a' n c', .int .i64 nx]] W fun e w' => e = .returned (.bool true) ∧ Below W.heap.size W w' :=
  eqTab_same _ _ n c c' nx _ _ W (by rw [List.length_map]; exact hn) (by omega) (by rw [h'.ds, h.ds]) (h.small hsm) (h.rd hn) (h'.rd hn')
theorem DQA.apV {B : Nat} {W : World} {v : Value} {ds : List InoR} {js : List InoJ} (h : DQA B W v ds js) : ApV W.heap.size v js := ⟨fun i j e => (h.lo i j e).2.2, fun g hg => (World.ownsRow.lt h.row g hg).2⟩
theorem DQA.outsLow {B T : Nat} {W W' : World} {v : Value} {ds : List InoR} {js : List InoJ} {Lo Hi : Nat} (h : DQA B W v ds js) (ap : ApV T v js) (k : Out Lo Hi W W') (hd : T ≤ Lo) : DQA B W' v ds js := by
  refine h.kept k.size ?_ (fun i j e b h1 h2 => k.block b (by have := h.lo i j e; omega) (by have := ap.1 i j e; omega))
  refine ⟨h.row.1, h.row.2.imp id (fun ⟨g, c, cur, h1, h2, h3, rest⟩ => ⟨g, c, cur, h1, h2, ?_, rest⟩)⟩
  have := ap.2 g (by rw [h1]; rfl)
  rw [k.block g (Array.getElem?_eq_some_iff.1 h3).1 (by omega)]
  exact h3
theorem markVA {B T : Nat} {W : World} {a : Option Addr} {n c : Nat} {ds : List InoR} {js : List InoJ} (nx : Int) (hs : n ≤ 2000000) (hq : qAt 1 js n ≤ 9999990) (h : DQA B W (.slice a n c) ds js) (hn : js.length = n) (hT : T ≤ W.heap.size) (hap : ApV T (.slice a n c) js) :
    Calls Try.prog 41 #[.agg #[.slice a n c, .int .i64 nx], .int .i64 1] W fun e w' => e = .returned (.int .i64 ((qAt 1 js n : Nat) : Int)) ∧ TV w' B T a n c js ∧ Out B T W w' := by
  rcases h.cases hn with ⟨rfl, rfl, rfl, rfl⟩ | ⟨g, rfl, hg, ho⟩
  · exact (markTab_nil nx W).mono fun e w' ⟨h1, h2⟩ => ⟨h1, .inl ⟨rfl, rfl, rfl, rfl⟩, Below.out h2 _ _⟩
  · have ap : ApJ g B T js := ⟨h.apart, fun i j e => h.ap g rfl i j e, fun i j e => ⟨(h.lo i j e).1, hap.1 i j e⟩, ⟨hg, hap.2 g rfl⟩⟩
    exact (markTab_any nx g n c B T 1 js W hn (Nat.le_refl _) hs hq ap hT ho h.G).mono fun e w' ⟨h1, h2⟩ => ⟨h1, .inr ⟨g, W, rfl, ap, h2⟩, h2.out⟩
/-- What both SetInode functions answer. -/
def SetPost (w : World) (nx : Int) (ds : List InoR) (e : Ending) (w' : World) : Prop :=
  ∃ (a : Option Addr) (c : Nat) (js : List InoJ), e = .returned (.agg #[.slice a js.length c, .int .i64 nx]) ∧ DQA w.heap.size w' (.slice a js.length c) ds js ∧ Below w.heap.size w w'
end Go.Proofs.Ytnllhpeddoaehaa
