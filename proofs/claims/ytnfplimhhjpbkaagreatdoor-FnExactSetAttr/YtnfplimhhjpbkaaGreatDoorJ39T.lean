/-
  Joined: CodeI, LawC, ReachM.
-/
import Derived.Test.YtnfplimhhjpbkaaGreatDoorJ38T
namespace Go.Proofs.YtnfplimhhjpbkaaGreatDoor
section
open Go.RowKit
/-- A code as an error. -/
def errV (c : Int) : Value := if c = 0 then .nilIface else .iface 136 (.int .i64 c)
theorem errV_zero : errV 0 = .nilIface := rfl
theorem errV_some {c : Int} (h : c ≠ 0) : errV c = .iface 136 (.int .i64 c) := if_neg h
theorem EtCell.keep {w w' : World} (h : EtCell w) (hb : Below w.heap.size w w') : EtCell w' := by
  have hlt : 0 < w.heap.size := by
    rcases Nat.eq_zero_or_pos w.heap.size with h0 | h1
    · have h' : w.cell? ⟨0, 0, none⟩ = _ := h
      simp [World.cell?, h0] at h'
    · exact h1
  exact (hb.cell (p := ⟨0, 0, none⟩) hlt).trans h
set_option maxRecDepth 100000 in
set_option maxHeartbeats 1000000 in
theorem codeOfI (c : Int) (w : World) (hg : EtCell w) :
    Calls Tryz.prog 66 #[errV c] w fun e w' => e = .returned (.int .i64 c) ∧ Below w.heap.size w w' := by
  have B0 : Below w.heap.size w (w.alloc (.cells #[.int .i64 0] 136)) := (Below.refl _ w).alloc (Nat.le_refl _) _
  by_cases h0 : c = 0
  · subst h0
    rw [errV_zero]
    go_enter Tryz.func66, Tryz.ntmps66
    go_wp2_with fail
    (with_reducible refine (as_nil _ _).mono ?_)
    rintro e w1 ⟨rfl, hw⟩
    obtain rfl := hw.symm
    go_wp2
    go_ret
    exact ⟨rfl, B0⟩
  · rw [errV_some h0]
    have z0 := Blk.new w 136 #[.int .i64 0]
    have t0 : (w.alloc (.cells #[.int .i64 0] 136)).cell? ⟨w.heap.size, 0, none⟩ = some (.int .i64 0) := z0.cell 0
    have f0 := z0.frozen 0
    have hA := as_hit c ⟨w.heap.size, 0, none⟩ (.int .i64 0) _ (hg.keep B0) t0 f0
    go_enter Tryz.func66, Tryz.ntmps66
    go_wp2_with fail
    (with_reducible refine hA.mono ?_)
    rintro e w1 ⟨rfl, hw⟩
    obtain ⟨W, hW⟩ : ∃ W, ((((w.alloc (.cells #[.int .i64 0] 136)).alloc (.cells #[.pointer (some ⟨w.heap.size, 0, none⟩)] 138)).alloc (.cells #[.pointer (some ⟨2, 138, none⟩), .pointer (some ⟨(w.alloc (.cells #[.int .i64 0] 136)).heap.size, 0, none⟩), .int .u64 150] 174)).alloc (.cells #[.pointer (some ⟨2, 138, none⟩), .pointer (some ⟨(w.alloc (.cells #[.int .i64 0] 136)).heap.size, 0, none⟩), .int .u64 150] 174)).alloc (.cells #[.int .i64 c] 136) = W := ⟨_, rfl⟩
    rw [hW] at hw
    have BW : Below w.heap.size w W := by
      rw [← hW]
      exact (((B0.alloc B0.size _).alloc (by simp; omega) _).alloc (by simp; omega) _).alloc (by simp; omega) _
    have zW : Blk W w.heap.size 136 #[.int .i64 0] := by
      rw [← hW]
      exact (((z0.alloc _).alloc _).alloc _).alloc _
    have zF := zW.set 0 (.int .i64 c)
    have r0 := zF.cell 0
    simp at r0
    have hgr := gr_setC W w.heap.size 0 (.int .i64 c)
    have hend : Hid (Below w.heap.size w (W.setCell ⟨w.heap.size, 0, none⟩ (.int .i64 c))) := BW.grown hgr BW.size (fun j hj => by simp at hj; omega)
    subst hw
    clear hW hA zW zF hgr BW z0 t0 f0 B0
    go_wp2
    go_ret
    exact ⟨rfl, hend.out⟩
end

section
open Go.RowKit
/-- The first argument's box. -/
structure ZT (w W : World) (tv : Array Value) : Prop where
  below : Below w.heap.size w W
  t : Blk W w.heap.size 49 tv
theorem ZT.keep {w W W' : World} {tv : Array Value} (h : ZT w W tv) (hb : Below W.heap.size W W') : ZT w W' tv := ⟨h.below.trans (hb.mono h.below.size), h.t.keep hb⟩
theorem ZT.outs {w W W' : World} {tv : Array Value} {Lo Hi : Nat} (h : ZT w W tv) (k : Out Lo Hi W W') (hL : w.heap.size + 1 ≤ Lo) : ZT w W' tv := ⟨Below.outs h.below k (by omega) (Nat.le_refl _), h.t.outs k (by omega)⟩
/-- An answer that is small enough to be marked. -/
structure Fit (ds : List InoD) : Prop where
  small : ∀ D ∈ ds, InoSmall D
  cnt : ds.length + cntI (ds.map lift) ≤ 1048576
theorem fit_same {rs : List InoR} (h : ∀ r ∈ rs, InoSmall r.D) (hc : rs.length + cntI rs ≤ 1048576) : Fit (rs.map InoR.D) := by
  refine ⟨fun D hD => ?_, ?_⟩
  · obtain ⟨r, hr, rfl⟩ := List.mem_map.1 hD
    exact h r hr
  · have e : cntI ((rs.map InoR.D).map lift) = cntI rs := by
      unfold cntI
      rw [List.map_map, List.map_map]
      rfl
    rw [e, List.length_map]
    exact hc
/-- An inode that is right, or nearly so. -/
structure Tiny (D : InoD) : Prop where
  small : InoSmall D
  data : D.data.length ≤ 100
  ents : D.ents.length ≤ 11
  attrs : D.attrs.length ≤ 5
theorem fit_tiny {ds : List InoD} (h : ∀ D ∈ ds, Tiny D) (hl : ds.length ≤ 100) : Fit ds := by
  refine ⟨fun D hD => (h D hD).small, ?_⟩
  have : ∀ l : List InoD, (∀ D ∈ l, Tiny D) → cntI (l.map lift) ≤ 116 * l.length := by
    intro l
    induction l with
    | nil => intro _; simp [cntI]
    | cons D l ih =>
      intro hl
      have h1 := hl D (List.mem_cons_self ..)
      have h2 := ih fun E hE => hl E (List.mem_cons_of_mem _ hE)
      have e : cntI ((D :: l).map lift) = (D.data.length + D.ents.length + D.attrs.length) + cntI (l.map lift) := by simp [cntI, lift]
      rw [e, List.length_cons]
      have := h1.data
      have := h1.ents
      have := h1.attrs
      omega
  have := this ds h
  omega
theorem attsOk_len {l : List (ByteArray × ByteArray)} (h : attsOk l = true) : l.length ≤ 4 := by
  unfold attsOk at h
  simp only [Bool.and_eq_true, decide_eq_true_eq] at h
  exact h.2
theorem tree_tiny {nx : Int} {ds : List InoD} (h : treeD nx ds = true) (hs : ∀ D ∈ ds, InoSmall D) : ∀ D ∈ ds, Tiny D := fun D hD => by
  have h1 := ok_parts ((tabD_ok (treeD_parts h).1).2.2.2.2.1 D hD).1
  have h2 := (entsOk_at h1.2.2.1).1
  have h3 := attsOk_len h1.2.2.2.2.2
  exact ⟨hs D hD, h1.2.2.2.2.1, by omega, by omega⟩
theorem setD_memC {ds : List InoD} {D E : InoD} (h : E ∈ setD ds D) : E = D ∨ E ∈ ds := by
  unfold setD at h
  obtain ⟨r, hr, rfl⟩ := List.mem_map.1 h
  unfold setR at hr
  split at hr
  · rename_i p hp
    rcases List.mem_or_eq_of_mem_set hr with h1 | h1
    · obtain ⟨E, hE, rfl⟩ := List.mem_map.1 h1
      exact .inr hE
    · exact .inl (by rw [h1]; rfl)
  · unfold putAt at hr
    rcases List.mem_append.1 hr with h1 | h1
    · obtain ⟨E, hE, rfl⟩ := List.mem_map.1 (List.mem_of_mem_take h1)
      exact .inr hE
    · rcases List.mem_cons.1 h1 with h1 | h1
      · exact .inl (by rw [h1]; rfl)
      · obtain ⟨E, hE, rfl⟩ := List.mem_map.1 (List.mem_of_mem_drop h1)
        exact .inr hE
theorem setD_lenC (ds : List InoD) (D : InoD) : (setD ds D).length ≤ ds.length + 1 := by
  unfold setD
  rw [List.length_map]
  unfold setR
  split
  · simp
  · rw [putAt_len _ _ _ (placeOf_le _ _)]
    simp
end

section
open Go.RowKit
/-- A set that has what its directories lead to. -/
def Closed (ds : List InoD) (S : Int → Prop) : Prop := ∀ y, S y → ∀ e ∈ dirEnts ds y, (look ds e.2).isSome = true → S e.2
/-- x leads to y, over entries. -/
def Leads (ds : List InoD) (x y : Int) : Prop := ∀ S : Int → Prop, Closed ds S → ((look ds x).isSome = true → S x) → S y
theorem Leads.self {ds : List InoD} {x : Int} (h : (look ds x).isSome = true) : Leads ds x x := fun _ _ k => k h
theorem Leads.step {ds : List InoD} {x y : Int} {e : ByteArray × Int} (h : Leads ds x y) (he : e ∈ dirEnts ds y) (hl : (look ds e.2).isSome = true) : Leads ds x e.2 := fun S hS k => hS y (h S hS k) e he hl
theorem Leads.trans {ds : List InoD} {x y z : Int} (h : Leads ds x y) (g : Leads ds y z) : Leads ds x z := fun S hS k => g S hS (fun _ => h S hS k)
theorem mem_putI {l : List Int} {x y : Int} : y ∈ putI l x ↔ y = x ∨ y ∈ l := by
  unfold putI
  split
  · rename_i h
    constructor
    · exact .inr
    · rintro (rfl | h')
      · exact h
      · exact h'
  · exact insBy_mem
theorem mem_addE {ds : List InoD} {y : Int} : ∀ {es : List (ByteArray × Int)} {o : List Int}, y ∈ addE ds o es ↔ y ∈ o ∨ ∃ e ∈ es, e.2 = y ∧ (look ds y).isSome = true
  | [], o => by simp [addE]
  | e :: es, o => by
    have ih := @mem_addE ds y es (if (look ds e.2).isSome then putI o e.2 else o)
    have e0 : addE ds o (e :: es) = addE ds (if (look ds e.2).isSome then putI o e.2 else o) es := rfl
    rw [e0, ih]
    constructor
    · rintro (h | ⟨f, hf, h1, h2⟩)
      · split at h
        · rename_i hl
          rcases mem_putI.1 h with rfl | h
          · exact .inr ⟨e, List.mem_cons_self .., rfl, hl⟩
          · exact .inl h
        · exact .inl h
      · exact .inr ⟨f, List.mem_cons_of_mem _ hf, h1, h2⟩
    · rintro (h | ⟨f, hf, h1, h2⟩)
      · left
        split
        · exact mem_putI.2 (.inr h)
        · exact h
      · rcases List.mem_cons.1 hf with rfl | hf
        · left
          rw [h1, if_pos h2]
          exact mem_putI.2 (.inl rfl)
        · exact .inr ⟨f, hf, h1, h2⟩
theorem mem_foldE {ds : List InoD} {y : Int} : ∀ {l o : List Int}, y ∈ l.foldl (fun o x => addE ds o (dirEnts ds x)) o ↔ y ∈ o ∨ ∃ x ∈ l, ∃ e ∈ dirEnts ds x, e.2 = y ∧ (look ds y).isSome = true
  | [], o => by simp
  | x :: l, o => by
    rw [List.foldl_cons, mem_foldE, mem_addE]
    constructor
    · rintro ((h | h) | ⟨z, hz, h⟩)
      · exact .inl h
      · exact .inr ⟨x, List.mem_cons_self .., h⟩
      · exact .inr ⟨z, List.mem_cons_of_mem _ hz, h⟩
    · rintro (h | ⟨z, hz, h⟩)
      · exact .inl (.inl h)
      · rcases List.mem_cons.1 hz with rfl | hz
        · exact .inl (.inr h)
        · exact .inr ⟨z, hz, h⟩
theorem mem_nextD {ds : List InoD} {l : List Int} {y : Int} : y ∈ nextD ds l ↔ y ∈ l ∨ ∃ x ∈ l, ∃ e ∈ dirEnts ds x, e.2 = y ∧ (look ds y).isSome = true := mem_foldE
theorem reachN_leads {ds : List InoD} (h : (look ds 1).isSome = true) : ∀ (k : Nat) (y : Int), y ∈ reachN ds k → Leads ds 1 y
  | 0, y, hy => by
    have : y = 1 := by simpa [reachN] using hy
    subst this
    exact Leads.self h
  | k + 1, y, hy => by
    rcases mem_nextD.1 hy with hy | ⟨x, hx, e, he, rfl, hl⟩
    · exact reachN_leads h k y hy
    · exact (reachN_leads h k x hx).step he hl
theorem reachN_one {ds : List InoD} : ∀ k : Nat, (1 : Int) ∈ reachN ds k
  | 0 => by simp [reachN]
  | k + 1 => mem_nextD.2 (.inl (reachN_one k))
theorem closed_of_sub {ds : List InoD} {l : List Int} (h : ∀ y ∈ nextD ds l, y ∈ l) : Closed ds (· ∈ l) := fun x hx e he hl => h _ (mem_nextD.2 (.inr ⟨x, hx, e, he, rfl, hl⟩))
theorem next_of_closed {ds : List InoD} {l : List Int} (h : Closed ds (· ∈ l)) : ∀ y, y ∈ nextD ds l ↔ y ∈ l := fun y => by
  rw [mem_nextD]
  constructor
  · rintro (h' | ⟨x, hx, e, he, rfl, hl⟩)
    · exact h'
    · exact h x hx e he hl
  · exact .inl
theorem reachN_closed {ds : List InoD} (h : (look ds 1).isSome = true) : ∀ k : Nat, Closed ds (· ∈ reachN ds k) ∨ k + 1 ≤ (reachN ds k).length
  | 0 => .inr (by simp [reachN])
  | k + 1 => by
    by_cases hs : ∀ y ∈ nextD ds (reachN ds k), y ∈ reachN ds k
    · left
      have hc := closed_of_sub hs
      have hm := next_of_closed hc
      intro x hx e he hl
      exact (hm _).2 (hc x ((hm x).1 hx) e he hl)
    · rcases reachN_closed h k with hc | hk
      · exact absurd (fun y hy => (next_of_closed hc y).1 hy) hs
      · right
        obtain ⟨y, hy⟩ := Classical.not_forall.1 hs
        have hy1 : y ∈ nextD ds (reachN ds k) := Classical.byContradiction fun c => hy fun a => absurd a c
        have hy2 : y ∉ reachN ds k := fun c => hy fun _ => c
        have hI := InTab.reach h k
        have h1 := sub_len (l := y :: reachN ds k) (m := nextD ds (reachN ds k)) (List.nodup_cons.2 ⟨hy2, hI.nd⟩) (fun z hz => by
          rcases List.mem_cons.1 hz with rfl | hz
          · exact hy1
          · exact mem_nextD.2 (.inl hz))
        rw [List.length_cons] at h1
        show k + 1 + 1 ≤ (nextD ds (reachN ds k)).length
        omega
theorem reachD_closed {ds : List InoD} (h : (look ds 1).isSome = true) : Closed ds (· ∈ reachD ds) := by
  unfold reachD
  rw [if_pos h]
  rcases reachN_closed h ds.length with hc | hk
  · exact hc
  · have := (InTab.reach h ds.length).len
    omega
/-- What is reached is what 1 leads to. -/
theorem reachD_iff {ds : List InoD} {S : List Int} (h1 : (look ds 1).isSome = true → (1 : Int) ∈ S) (hc : Closed ds (· ∈ S)) (hl : ∀ y ∈ S, Leads ds 1 y) (hn : (look ds 1).isSome = false → S = []) (y : Int) : y ∈ reachD ds ↔ y ∈ S := by
  cases hk : (look ds 1).isSome with
  | false =>
    rw [hn hk]
    unfold reachD
    rw [hk]
    simp
  | true =>
    constructor
    · intro hy
      unfold reachD at hy
      rw [if_pos hk] at hy
      exact reachN_leads hk _ y hy (· ∈ S) hc h1
    · intro hy
      refine hl y hy (· ∈ reachD ds) (reachD_closed hk) (fun _ => ?_)
      unfold reachD
      rw [if_pos hk]
      exact reachN_one _
theorem insBy_sorted {l : List Int} {x : Int} (h : l.Pairwise (· < ·)) (hx : x ∉ l) : (insBy (fun y => decide (x < y)) l x).Pairwise (· < ·) := by
  have e : l = (l.reverse.dropWhile (fun y => decide (x < y))).reverse ++ (l.reverse.takeWhile (fun y => decide (x < y))).reverse := by
    rw [← List.reverse_append, List.takeWhile_append_dropWhile, List.reverse_reverse]
  have hB : ∀ y ∈ (l.reverse.takeWhile (fun y => decide (x < y))).reverse, x < y := fun y hy => by
    have := List.all_takeWhile (p := fun y => decide (x < y)) (l := l.reverse)
    have := List.all_eq_true.1 this y (List.mem_reverse.1 hy)
    simpa using this
  have hA : ∀ y ∈ (l.reverse.dropWhile (fun y => decide (x < y))).reverse, y < x := by
    have hh := List.head?_dropWhile_not (fun y => decide (x < y)) l.reverse
    cases hd : l.reverse.dropWhile (fun y => decide (x < y)) with
    | nil => intro y hy; simp at hy
    | cons z t =>
      rw [hd] at hh
      simp at hh
      have hzl : z ∈ l := by rw [e, hd]; simp
      have hzx : z < x := by
        have : z ≠ x := fun c => hx (c ▸ hzl)
        omega
      intro y hy
      rw [List.reverse_cons] at hy
      rcases List.mem_append.1 hy with hy | hy
      · have hp : (t.reverse ++ [z]).Pairwise (· < ·) := by
          have h' := h
          rw [e, hd, List.reverse_cons] at h'
          exact (List.pairwise_append.1 h').1
        have := (List.pairwise_append.1 hp).2.2 y hy z (by simp)
        omega
      · have := List.mem_singleton.1 hy
        omega
  unfold insBy
  rw [e] at h
  have h2 := List.pairwise_append.1 h
  refine List.pairwise_append.2 ⟨h2.1, List.pairwise_cons.2 ⟨hB, h2.2.1⟩, fun y hy z hz => ?_⟩
  rcases List.mem_cons.1 hz with rfl | hz
  · exact hA y hy
  · exact h2.2.2 y hy z hz
theorem putI_sorted {l : List Int} (h : l.Pairwise (· < ·)) (x : Int) : (putI l x).Pairwise (· < ·) := by
  unfold putI
  split
  · exact h
  · rename_i hx
    exact insBy_sorted h hx
theorem addE_sorted {ds : List InoD} : ∀ {es : List (ByteArray × Int)} {o : List Int}, o.Pairwise (· < ·) → (addE ds o es).Pairwise (· < ·)
  | [], _, h => h
  | e :: es, o, h => by
    have e0 : addE ds o (e :: es) = addE ds (if (look ds e.2).isSome then putI o e.2 else o) es := rfl
    rw [e0]
    apply addE_sorted
    split
    · exact putI_sorted h _
    · exact h
theorem nextD_sorted {ds : List InoD} {l : List Int} (h : l.Pairwise (· < ·)) : (nextD ds l).Pairwise (· < ·) := by
  have : ∀ (m o : List Int), o.Pairwise (· < ·) → (m.foldl (fun o x => addE ds o (dirEnts ds x)) o).Pairwise (· < ·) := by
    intro m
    induction m with
    | nil => exact fun o h => h
    | cons x m ih => exact fun o h => ih _ (addE_sorted h)
  exact this l l h
theorem reachD_sorted (ds : List InoD) : (reachD ds).Pairwise (· < ·) := by
  unfold reachD
  split
  · generalize ds.length = k
    induction k with
    | zero => simp [reachN]
    | succ k ih => exact nextD_sorted ih
  · exact List.Pairwise.nil
theorem sorted_ext : ∀ {l m : List Int}, l.Pairwise (· < ·) → m.Pairwise (· < ·) → (∀ x, x ∈ l ↔ x ∈ m) → l = m
  | [], [], _, _, _ => rfl
  | [], y :: m, _, _, h => by have := (h y).2 (List.mem_cons_self ..); simp at this
  | x :: l, [], _, _, h => by have := (h x).1 (List.mem_cons_self ..); simp at this
  | x :: l, y :: m, h1, h2, h => by
    have p1 := List.pairwise_cons.1 h1
    have p2 := List.pairwise_cons.1 h2
    have hxy : x = y := by
      rcases List.mem_cons.1 ((h x).1 (List.mem_cons_self ..)) with e | e
      · exact e
      · rcases List.mem_cons.1 ((h y).2 (List.mem_cons_self ..)) with e' | e'
        · exact e'.symm
        · have := p2.1 x e
          have := p1.1 y e'
          omega
    subst hxy
    rw [sorted_ext p1.2 p2.2 (fun z => by
      constructor
      · intro hz
        rcases List.mem_cons.1 ((h z).1 (List.mem_cons_of_mem _ hz)) with rfl | h'
        · exact absurd (p1.1 z hz) (Int.lt_irrefl z)
        · exact h'
      · intro hz
        rcases List.mem_cons.1 ((h z).2 (List.mem_cons_of_mem _ hz)) with rfl | h'
        · exact absurd (p2.1 z hz) (Int.lt_irrefl z)
        · exact h')]
/-- Sorted anew, what is as a set what is reached, is it. -/
theorem reachD_sort {ds : List InoD} {ss : List Int} (hn : ss.Nodup) (h : ∀ y, y ∈ reachD ds ↔ y ∈ ss) : ss.mergeSort (fun x y => decide (x ≤ y)) = reachD ds := by
  have hp := List.mergeSort_perm ss (fun x y => decide (x ≤ y))
  refine sorted_ext ?_ (reachD_sorted ds) (fun x => by rw [hp.mem_iff, h])
  have h1 := List.pairwise_mergeSort (le := fun x y : Int => decide (x ≤ y)) (fun a b c => by simp; omega) (fun a b => by simp; omega) ss
  have h2 : (ss.mergeSort (fun x y => decide (x ≤ y))).Nodup := hp.nodup_iff.2 hn
  exact (h1.and h2).imp (fun {a b} ⟨h3, h4⟩ => by simp at h3; omega)
end
end Go.Proofs.YtnfplimhhjpbkaaGreatDoor
