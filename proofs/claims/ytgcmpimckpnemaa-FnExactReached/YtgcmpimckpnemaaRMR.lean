/-
  Joined: ReachM, ReachI.
-/
import Derived.Test.YtgcmpimckpnemaaRows
import Derived.Test.YtgcmpimckpnemaaB1R
import Derived.Test.YtgcmpimckpnemaaPairsR
import Derived.Test.YtgcmpimckpnemaaInodeR
import Derived.Test.YtgcmpimckpnemaaTabMR
import Derived.Test.YtgcmpimckpnemaaTabWR
import Derived.Test.YtgcmpimckpnemaaMKR
import Derived.Test.YtgcmpimckpnemaaToJR
import Derived.Test.YtgcmpimckpnemaaCopySR
import Derived.Test.YtgcmpimckpnemaaLookR
import Derived.Test.YtgcmpimckpnemaaTreeR
import Derived.Test.YtgcmpimckpnemaaByNumR
import Derived.Test.YtgcmpimckpnemaaAtSR
import Derived.Test.YtgcmpimckpnemaaCopyIR
import Derived.Test.YtgcmpimckpnemaaTabNewR
import Derived.Test.YtgcmpimckpnemaaDropWR
import Derived.WalkKit
import Derived.WalkSpells
import Derived.WalkLawsBesides
import Derived.Deep.QuietTactic
import Derived.BigQuiet
import Derived.OpenShut
import Derived.Laws.BitsAllLaws
import Derived.Maps.AppendAt
import Derived.Lib.SliceRun
import Derived.Lib.Strings
import Derived.Deep.RegionWith
import Derived.Laws.IdiomStrings
import Derived.Deep.Slices
import Derived.ProofKit
import Derived.ChangeOld
import Derived.Below
import Derived.Deep.RegionHeld3
import Derived.Deep.DeepCutAuto
import Derived.Lib.AppendStr
import Derived.Lib.ConvBytes
import Derived.Deep.AppendLies
import Derived.Deep.AppendSrc
import Derived.Maps.OwnSet
import Derived.Maps.OwnOps
import Derived.Lib.Slices
import Derived.Lib.Walk
import Derived.Lib.Bytealg
import Derived.Lib.IndexLaws
import Derived.Lib.BufferWrite
import Derived.Lib.UnsafeStr
import Derived.Laws.MakeOwn
import Derived.Laws.Strings3
import Derived.Deep.RegionLaw
import Derived.RangeFuncBox
import Derived.RangeFuncNested
import Derived.RangeFuncBound
import Derived.RangeFuncCalls
import Derived.RangeFuncLeaves
import Derived.Shelf.Abstract
import Derived.Shelf.RegionOpen
import Derived.OwnWalkIn
import Derived.TacticsInMore
import Derived.LoopNIn
import Derived.LoopIn
import Derived.Deep.CutBlock
namespace Go.Proofs.Ytgcmpimckpnemaa
section
open Go.RowKit
/-- A set that has what its directories lead to. -/
def Closed (ds : List InoD) (S : Int → Prop) : Prop := ∀ y, S y → ∀ e ∈ dirEnts ds y, (look ds e.2).isSome = true → S e.2
/-- x leads to y, over entries. -/
def Leads (ds : List InoD) (x y : Int) : Prop := ∀ S : Int → Prop, Closed ds S → ((look ds x).isSome = true → S x) → S y
theorem Leads.self {ds : List InoD} {x : Int} (h : (look ds x).isSome = true) : Leads ds x x := fun _ _ k => k h
theorem Leads.step {ds : List InoD} {x y : Int} {e : ByteArray × Int} (h : Leads ds x y) (he : e ∈ dirEnts ds y) (hl : (look ds e.2).isSome = true) : Leads ds x e.2 := fun S hS k => hS y (h S hS k) e he hl
theorem Leads.trans {ds : List InoD} {x y z : Int} (h : Leads ds x y) (g : Leads ds y z) : Leads ds x z := fun S hS k => g S hS (fun _ => h S hS k)
theorem mem_putI {l : List Int} {x y : Int} : y ∈ putI l x ↔ y = x ∨ y ∈ l := by
  unfold putI
  split
  · rename_i h
    constructor
    · exact .inr
    · rintro (rfl | h')
      · exact h
      · exact h'
  · exact insBy_mem
theorem mem_addE {ds : List InoD} {y : Int} : ∀ {es : List (ByteArray × Int)} {o : List Int}, y ∈ addE ds o es ↔ y ∈ o ∨ ∃ e ∈ es, e.2 = y ∧ (look ds y).isSome = true
  | [], o => by simp [addE]
  | e :: es, o => by
    have ih := @mem_addE ds y es (if (look ds e.2).isSome then putI o e.2 else o)
    have e0 : addE ds o (e :: es) = addE ds (if (look ds e.2).isSome then putI o e.2 else o) es := rfl
    rw [e0, ih]
    constructor
    · rintro (h | ⟨f, hf, h1, h2⟩)
      · split at h
        · rename_i hl
          rcases mem_putI.1 h with rfl | h
          · exact .inr ⟨e, List.mem_cons_self .., rfl, hl⟩
          · exact .inl h
        · exact .inl h
      · exact .inr ⟨f, List.mem_cons_of_mem _ hf, h1, h2⟩
    · rintro (h | ⟨f, hf, h1, h2⟩)
      · left
        split
        · exact mem_putI.2 (.inr h)
        · exact h
      · rcases List.mem_cons.1 hf with rfl | hf
        · left
          rw [h1, if_pos h2]
          exact mem_putI.2 (.inl rfl)
        · exact .inr ⟨f, hf, h1, h2⟩
theorem mem_foldE {ds : List InoD} {y : Int} : ∀ {l o : List Int}, y ∈ l.foldl (fun o x => addE ds o (dirEnts ds x)) o ↔ y ∈ o ∨ ∃ x ∈ l, ∃ e ∈ dirEnts ds x, e.2 = y ∧ (look ds y).isSome = true
  | [], o => by simp
  | x :: l, o => by
    rw [List.foldl_cons, mem_foldE, mem_addE]
    constructor
    · rintro ((h | h) | ⟨z, hz, h⟩)
      · exact .inl h
      · exact .inr ⟨x, List.mem_cons_self .., h⟩
      · exact .inr ⟨z, List.mem_cons_of_mem _ hz, h⟩
    · rintro (h | ⟨z, hz, h⟩)
      · exact .inl (.inl h)
      · rcases List.mem_cons.1 hz with rfl | hz
        · exact .inl (.inr h)
        · exact .inr ⟨z, hz, h⟩
theorem mem_nextD {ds : List InoD} {l : List Int} {y : Int} : y ∈ nextD ds l ↔ y ∈ l ∨ ∃ x ∈ l, ∃ e ∈ dirEnts ds x, e.2 = y ∧ (look ds y).isSome = true := mem_foldE
theorem reachN_leads {ds : List InoD} (h : (look ds 1).isSome = true) : ∀ (k : Nat) (y : Int), y ∈ reachN ds k → Leads ds 1 y
  | 0, y, hy => by
    have : y = 1 := by simpa [reachN] using hy
    subst this
    exact Leads.self h
  | k + 1, y, hy => by
    rcases mem_nextD.1 hy with hy | ⟨x, hx, e, he, rfl, hl⟩
    · exact reachN_leads h k y hy
    · exact (reachN_leads h k x hx).step he hl
theorem reachN_one {ds : List InoD} : ∀ k : Nat, (1 : Int) ∈ reachN ds k
  | 0 => by simp [reachN]
  | k + 1 => mem_nextD.2 (.inl (reachN_one k))
theorem closed_of_sub {ds : List InoD} {l : List Int} (h : ∀ y ∈ nextD ds l, y ∈ l) : Closed ds (· ∈ l) := fun x hx e he hl => h _ (mem_nextD.2 (.inr ⟨x, hx, e, he, rfl, hl⟩))
theorem next_of_closed {ds : List InoD} {l : List Int} (h : Closed ds (· ∈ l)) : ∀ y, y ∈ nextD ds l ↔ y ∈ l := fun y => by
  rw [mem_nextD]
  constructor
  · rintro (h' | ⟨x, hx, e, he, rfl, hl⟩)
    · exact h'
    · exact h x hx e he hl
  · exact .inl
theorem reachN_closed {ds : List InoD} (h : (look ds 1).isSome = true) : ∀ k : Nat, Closed ds (· ∈ reachN ds k) ∨ k + 1 ≤ (reachN ds k).length
  | 0 => .inr (by simp [reachN])
  | k + 1 => by
    by_cases hs : ∀ y ∈ nextD ds (reachN ds k), y ∈ reachN ds k
    · left
      have hc := closed_of_sub hs
      have hm := next_of_closed hc
      intro x hx e he hl
      exact (hm _).2 (hc x ((hm x).1 hx) e he hl)
    · rcases reachN_closed h k with hc | hk
      · exact absurd (fun y hy => (next_of_closed hc y).1 hy) hs
      · right
        obtain ⟨y, hy⟩ := Classical.not_forall.1 hs
        have hy1 : y ∈ nextD ds (reachN ds k) := Classical.byContradiction fun c => hy fun a => absurd a c
        have hy2 : y ∉ reachN ds k := fun c => hy fun _ => c
        have hI := InTab.reach h k
        have h1 := sub_len (l := y :: reachN ds k) (m := nextD ds (reachN ds k)) (List.nodup_cons.2 ⟨hy2, hI.nd⟩) (fun z hz => by
          rcases List.mem_cons.1 hz with rfl | hz
          · exact hy1
          · exact mem_nextD.2 (.inl hz))
        rw [List.length_cons] at h1
        show k + 1 + 1 ≤ (nextD ds (reachN ds k)).length
        omega
theorem reachD_closed {ds : List InoD} (h : (look ds 1).isSome = true) : Closed ds (· ∈ reachD ds) := by
  unfold reachD
  rw [if_pos h]
  rcases reachN_closed h ds.length with hc | hk
  · exact hc
  · have := (InTab.reach h ds.length).len
    omega
/-- What is reached is what 1 leads to. -/
theorem reachD_iff {ds : List InoD} {S : List Int} (h1 : (look ds 1).isSome = true → (1 : Int) ∈ S) (hc : Closed ds (· ∈ S)) (hl : ∀ y ∈ S, Leads ds 1 y) (hn : (look ds 1).isSome = false → S = []) (y : Int) : y ∈ reachD ds ↔ y ∈ S := by
  cases hk : (look ds 1).isSome with
  | false =>
    rw [hn hk]
    unfold reachD
    rw [hk]
    simp
  | true =>
    constructor
    · intro hy
      unfold reachD at hy
      rw [if_pos hk] at hy
      exact reachN_leads hk _ y hy (· ∈ S) hc h1
    · intro hy
      refine hl y hy (· ∈ reachD ds) (reachD_closed hk) (fun _ => ?_)
      unfold reachD
      rw [if_pos hk]
      exact reachN_one _
theorem insBy_sorted {l : List Int} {x : Int} (h : l.Pairwise (· < ·)) (hx : x ∉ l) : (insBy (fun y => decide (x < y)) l x).Pairwise (· < ·) := by
  have e : l = (l.reverse.dropWhile (fun y => decide (x < y))).reverse ++ (l.reverse.takeWhile (fun y => decide (x < y))).reverse := by
    rw [← List.reverse_append, List.takeWhile_append_dropWhile, List.reverse_reverse]
  have hB : ∀ y ∈ (l.reverse.takeWhile (fun y => decide (x < y))).reverse, x < y := fun y hy => by
    have := List.all_takeWhile (p := fun y => decide (x < y)) (l := l.reverse)
    have := List.all_eq_true.1 this y (List.mem_reverse.1 hy)
    simpa using this
  have hA : ∀ y ∈ (l.reverse.dropWhile (fun y => decide (x < y))).reverse, y < x := by
    have hh := List.head?_dropWhile_not (fun y => decide (x < y)) l.reverse
    cases hd : l.reverse.dropWhile (fun y => decide (x < y)) with
    | nil => intro y hy; simp at hy
    | cons z t =>
      rw [hd] at hh
      simp at hh
      have hzl : z ∈ l := by rw [e, hd]; simp
      have hzx : z < x := by
        have : z ≠ x := fun c => hx (c ▸ hzl)
        omega
      intro y hy
      rw [List.reverse_cons] at hy
      rcases List.mem_append.1 hy with hy | hy
      · have hp : (t.reverse ++ [z]).Pairwise (· < ·) := by
          have h' := h
          rw [e, hd, List.reverse_cons] at h'
          exact (List.pairwise_append.1 h').1
        have := (List.pairwise_append.1 hp).2.2 y hy z (by simp)
        omega
      · have := List.mem_singleton.1 hy
        omega
  unfold insBy
  rw [e] at h
  have h2 := List.pairwise_append.1 h
  refine List.pairwise_append.2 ⟨h2.1, List.pairwise_cons.2 ⟨hB, h2.2.1⟩, fun y hy z hz => ?_⟩
  rcases List.mem_cons.1 hz with rfl | hz
  · exact hA y hy
  · exact h2.2.2 y hy z hz
theorem putI_sorted {l : List Int} (h : l.Pairwise (· < ·)) (x : Int) : (putI l x).Pairwise (· < ·) := by
  unfold putI
  split
  · exact h
  · rename_i hx
    exact insBy_sorted h hx
theorem addE_sorted {ds : List InoD} : ∀ {es : List (ByteArray × Int)} {o : List Int}, o.Pairwise (· < ·) → (addE ds o es).Pairwise (· < ·)
  | [], _, h => h
  | e :: es, o, h => by
    have e0 : addE ds o (e :: es) = addE ds (if (look ds e.2).isSome then putI o e.2 else o) es := rfl
    rw [e0]
    apply addE_sorted
    split
    · exact putI_sorted h _
    · exact h
theorem nextD_sorted {ds : List InoD} {l : List Int} (h : l.Pairwise (· < ·)) : (nextD ds l).Pairwise (· < ·) := by
  have : ∀ (m o : List Int), o.Pairwise (· < ·) → (m.foldl (fun o x => addE ds o (dirEnts ds x)) o).Pairwise (· < ·) := by
    intro m
    induction m with
    | nil => exact fun o h => h
    | cons x m ih => exact fun o h => ih _ (addE_sorted h)
  exact this l l h
theorem reachD_sorted (ds : List InoD) : (reachD ds).Pairwise (· < ·) := by
  unfold reachD
  split
  · generalize ds.length = k
    induction k with
    | zero => simp [reachN]
    | succ k ih => exact nextD_sorted ih
  · exact List.Pairwise.nil
theorem sorted_ext : ∀ {l m : List Int}, l.Pairwise (· < ·) → m.Pairwise (· < ·) → (∀ x, x ∈ l ↔ x ∈ m) → l = m
  | [], [], _, _, _ => rfl
  | [], y :: m, _, _, h => by have := (h y).2 (List.mem_cons_self ..); simp at this
  | x :: l, [], _, _, h => by have := (h x).1 (List.mem_cons_self ..); simp at this
  | x :: l, y :: m, h1, h2, h => by
    have p1 := List.pairwise_cons.1 h1
    have p2 := List.pairwise_cons.1 h2
    have hxy : x = y := by
      rcases List.mem_cons.1 ((h x).1 (List.mem_cons_self ..)) with e | e
      · exact e
      · rcases List.mem_cons.1 ((h y).2 (List.mem_cons_self ..)) with e' | e'
        · exact e'.symm
        · have := p2.1 x e
          have := p1.1 y e'
          omega
    subst hxy
    rw [sorted_ext p1.2 p2.2 (fun z => by
      constructor
      · intro hz
        rcases List.mem_cons.1 ((h z).1 (List.mem_cons_of_mem _ hz)) with rfl | h'
        · exact absurd (p1.1 z hz) (Int.lt_irrefl z)
        · exact h'
      · intro hz
        rcases List.mem_cons.1 ((h z).2 (List.mem_cons_of_mem _ hz)) with rfl | h'
        · exact absurd (p2.1 z hz) (Int.lt_irrefl z)
        · exact h')]
/-- Sorted anew, what is as a set what is reached, is it. -/
theorem reachD_sort {ds : List InoD} {ss : List Int} (hn : ss.Nodup) (h : ∀ y, y ∈ reachD ds ↔ y ∈ ss) : ss.mergeSort (fun x y => decide (x ≤ y)) = reachD ds := by
  have hp := List.mergeSort_perm ss (fun x y => decide (x ≤ y))
  refine sorted_ext ?_ (reachD_sorted ds) (fun x => by rw [hp.mem_iff, h])
  have h1 := List.pairwise_mergeSort (le := fun x y : Int => decide (x ≤ y)) (fun a b c => by simp; omega) (fun a b => by simp; omega) ss
  have h2 : (ss.mergeSort (fun x y => decide (x ≤ y))).Nodup := hp.nodup_iff.2 hn
  exact (h1.and h2).imp (fun {a b} ⟨h3, h4⟩ => by simp at h3; omega)
end

section
open Go.RowKit Go.Maps
/-- What one call adds to what was reached. -/
structure RP (ds : List InoD) (S : List Int) (x : Int) (S' : List Int) : Prop where
  sub : ∀ y ∈ S, y ∈ S'
  self : (look ds x).isSome = true → x ∈ S'
  closed : ∀ y ∈ S', y ∉ S → ∀ e ∈ dirEnts ds y, (look ds e.2).isSome = true → e.2 ∈ S'
  leads : ∀ y ∈ S', y ∈ S ∨ Leads ds x y
/-- The same, in the midst of a directory's entries. -/
structure RL (ds : List InoD) (S : List Int) (x : Int) (es : List (ByteArray × Int)) (p : Nat) (S' : List Int) : Prop where
  sub : ∀ y ∈ x :: S, y ∈ S'
  ents : ∀ e ∈ es.take p, (look ds e.2).isSome = true → e.2 ∈ S'
  closed : ∀ y ∈ S', y ∉ x :: S → ∀ e ∈ dirEnts ds y, (look ds e.2).isSome = true → e.2 ∈ S'
  leads : ∀ y ∈ S', y ∈ S ∨ Leads ds x y
theorem leads_none {ds : List InoD} {x y : Int} (h : (look ds x).isSome = false) (l : Leads ds x y) : False := l (fun _ => False) (fun _ h => h.elim) (fun k => by rw [h] at k; cases k)
theorem RP.same {ds : List InoD} {S : List Int} {x : Int} (h : (look ds x).isSome = true → x ∈ S) : RP ds S x S := ⟨fun _ h => h, h, fun _ h1 h2 => absurd h1 h2, fun _ h => .inl h⟩
theorem RL.start {ds : List InoD} {S : List Int} {x : Int} {es : List (ByteArray × Int)} (h : (look ds x).isSome = true) : RL ds S x es 0 (x :: S) :=
  ⟨fun _ h => h, fun e he => by simp at he, fun y h1 h2 => absurd h1 h2, fun y hy => by
    rcases List.mem_cons.1 hy with rfl | hy
    · exact .inr (Leads.self h)
    · exact .inl hy⟩
theorem RL.step {ds : List InoD} {S : List Int} {x : Int} {es : List (ByteArray × Int)} {p : Nat} {S1 S2 : List Int} {e : ByteArray × Int} (h : RL ds S x es p S1) (hx : (look ds x).isSome = true) (hes : dirEnts ds x = es) (he : es[p]? = some e) (g : RP ds S1 e.2 S2) : RL ds S x es (p + 1) S2 := by
  refine ⟨fun y hy => g.sub y (h.sub y hy), fun f hf hl => ?_, fun y hy hn => ?_, fun y hy => ?_⟩
  · rw [List.take_add_one, he] at hf
    rcases List.mem_append.1 hf with hf | hf
    · exact g.sub _ (h.ents f hf hl)
    · have : f = e := by simpa using hf
      subst this
      exact g.self hl
  · by_cases h1 : y ∈ S1
    · exact fun f hf hl => g.sub _ (h.closed y h1 hn f hf hl)
    · exact g.closed y hy h1
  · rcases g.leads y hy with h1 | h1
    · exact h.leads y h1
    · cases hl : (look ds e.2).isSome with
      | false => exact (leads_none hl h1).elim
      | true => exact .inr (((Leads.self hx).step (hes ▸ List.mem_of_getElem? he) hl).trans h1)
theorem RL.fin {ds : List InoD} {S : List Int} {x : Int} {es : List (ByteArray × Int)} {p : Nat} {S1 : List Int} (h : RL ds S x es p S1) (hp : es.length ≤ p) (hes : dirEnts ds x = es) : RP ds S x S1 := by
  refine ⟨fun y hy => h.sub y (List.mem_cons_of_mem _ hy), fun _ => h.sub x (List.mem_cons_self ..), fun y hy hn => ?_, h.leads⟩
  by_cases hyx : y = x
  · subst hyx
    rw [hes]
    exact fun e he hl => h.ents e (by rw [List.take_of_length_le hp]; exact he) hl
  · exact h.closed y hy (fun c => by
      rcases List.mem_cons.1 c with c | c
      · exact hyx c
      · exact hn c)
theorem RL.finN {ds : List InoD} {S : List Int} {x : Int} {es : List (ByteArray × Int)} {S1 : List Int} (h : RL ds S x es 0 S1) (hes : dirEnts ds x = []) : RP ds S x S1 := by
  refine ⟨fun y hy => h.sub y (List.mem_cons_of_mem _ hy), fun _ => h.sub x (List.mem_cons_self ..), fun y hy hn => ?_, h.leads⟩
  by_cases hyx : y = x
  · subst hyx
    rw [hes]
    exact fun e he => by simp at he
  · exact h.closed y hy (fun c => by
      rcases List.mem_cons.1 c with c | c
      · exact hyx c
      · exact hn c)
theorem InTab.cons {ds : List InoD} {S : List Int} {x : Int} (h : InTab ds S) (hx : (look ds x).isSome = true) (hn : x ∉ S) : InTab ds (x :: S) :=
  ⟨List.nodup_cons.2 ⟨hn, h.nd⟩, fun y hy => by
    rcases List.mem_cons.1 hy with rfl | hy
    · exact hx
    · exact h.mem y hy⟩
/-- What the closure sees: below wb all is as it was; its variables; the map of what was reached. -/
structure RC (wb W : World) (P Q Tb Fb pm qm : Nat) (ds : List InoD) (S : List Int) : Prop where
  b : Below wb.heap.size wb W
  zP : Blk W P 59 #[.map (some pm)]
  zQ : Blk W Q 59 #[.map (some qm)]
  zF : Blk W Fb 76 #[.func (.func 48) #[] #[.pointer (some ⟨P, 0, none⟩), .pointer (some ⟨Q, 0, none⟩), .pointer (some ⟨Tb, 0, none⟩), .pointer (some ⟨Fb, 0, none⟩)]]
  lo : wb.heap.size ≤ qm
  nP : P ≠ qm
  nQ : Q ≠ qm
  nF : Fb ≠ qm
  inT : InTab ds S
  re : ∃ (cnt : Nat) (D : DataW Unit), cnt ≤ S.length ∧ (∀ y, Maps.has D (.int .i64 y) = decide (y ∈ S)) ∧ IsMap D ∧ W.ownsMap Try.prog 3 (plainElem Try.prog 3) qm cnt D
section
variable {wb W W' : World} {P Q Tb Fb pm qm : Nat} {ds : List InoD} {S : List Int}
theorem RC.alloc (h : RC wb W P Q Tb Fb pm qm ds S) (o : Obj) : RC wb (W.alloc o) P Q Tb Fb pm qm ds S := by
  obtain ⟨cnt, D, h1, h2, h3, h4⟩ := h.re
  exact ⟨h.b.alloc h.b.size _, h.zP.alloc _, h.zQ.alloc _, h.zF.alloc _, h.lo, h.nP, h.nQ, h.nF, h.inT, ⟨cnt, D, h1, h2, h3, h4.alloc _⟩⟩
theorem RC.put (h : RC wb W P Q Tb Fb pm qm ds S) {x : Int} {d : DataW Unit} {cnt : Nat} {D : DataW Unit} (hc : cnt ≤ S.length) (hh : ∀ y, Maps.has D (.int .i64 y) = decide (y ∈ S)) (hI : IsMap D) (hx : (look ds x).isSome = true) (hn : x ∉ S) (hg : W.grownBy W' (some qm)) (ho : W'.ownsMap Try.prog 3 (plainElem Try.prog 3) qm (cnt + 1) (D.put (.int .i64 x) d)) : RC wb W' P Q Tb Fb pm qm ds (x :: S) := by
  refine ⟨h.b.grown hg h.b.size (fun j hj => by have := h.lo; simp at hj; omega), h.zP.kept hg h.nP, h.zQ.kept hg h.nQ, h.zF.kept hg h.nF, h.lo, h.nP, h.nQ, h.nF, h.inT.cons hx hn, ⟨cnt + 1, _, by simp; omega, fun y => ?_, hI.put _ _, ho⟩⟩
  by_cases hy : y = x
  · subst hy
    rw [has_put_same hI (show WideAt.IsKeyLit (.int .i64 y) from trivial)]
    simp
  · rw [has_put_other (by simp; exact fun h => hy h), hh y]
    simp [hy]
end
theorem look_first {rs : List InoR} {x : Int} {p : Nat} {r : InoR} (h : firstAt (inos rs) x = some p) (hr : rs[p]? = some r) : look (rs.map InoR.D) x = some r.D := by
  have := atD_look rs x
  unfold atD at this
  rw [h] at this
  simp only [List.getD_eq_getElem?_getD, hr, Option.getD_some] at this
  cases hl : look (rs.map InoR.D) x with
  | none =>
    have h2 := atB_look rs x
    unfold atB at h2
    rw [h, hl] at h2
    simp at h2
  | some D =>
    rw [hl] at this
    simp at this
    rw [this]
theorem look_first_none {rs : List InoR} {x : Int} (h : firstAt (inos rs) x = none) : (look (rs.map InoR.D) x).isSome = false := by
  have h2 := atB_look rs x
  unfold atB at h2
  rw [h] at h2
  simp at h2
  simp [h2]
set_option maxRecDepth 100000 in
set_option maxHeartbeats 4000000 in
theorem reachC (P Q Tb Fb pm qm : Nat) (a : Option Addr) (n cap : Nat) (nx : Int) (rs : List InoR) (wb : World) (ht : TR wb a n rs) (zT : Blk wb Tb 26 #[.slice a n cap, .int .i64 nx]) (cp : Nat) (Dp : DataW Unit) (hM : MapIs Dp (inos rs)) (hpo : wb.ownsMap Try.prog 3 (plainElem Try.prog 3) pm cp Dp) (hwe : ∀ r ∈ rs, ∀ e ∈ r.D.ents, (Lit.int .i64 e.2).wf = true) (g : Nat) : ∀ (x : Int) (w : World) (S : List Int), (Lit.int .i64 x).wf = true → n ≤ S.length + g → RC wb w P Q Tb Fb pm qm (rs.map InoR.D) S →
    Calls Try.prog 48 #[.int .i64 x, .pointer (some ⟨P, 0, none⟩), .pointer (some ⟨Q, 0, none⟩), .pointer (some ⟨Tb, 0, none⟩), .pointer (some ⟨Fb, 0, none⟩)] w fun e w' => e = .returned (.tuple #[]) ∧ ∃ S', RC wb w' P Q Tb Fb pm qm (rs.map InoR.D) S' ∧ RP (rs.map InoR.D) S x S' := by
  induction g using Nat.strongRecOn with
  | ind g ih =>
    intro x w S hwx hg hC
    have HIH : Hid _ := ih
    have HT : Hid _ := ht
    have HE : Hid _ := hwe
    have HC : Hid _ := hC
    have hkey : keyOf Try.prog 3 (.int .i64 x) = some (.int .i64 x) := keyOf_int_mk Try.underlying3 hwx
    have c1 := hC.zP.cell 0
    have c2 := hC.zQ.cell 0
    simp at c1 c2
    have hplt := hpo.lt
    have hpw : w.ownsMap Try.prog 3 (plainElem Try.prog 3) pm cp Dp := by
      obtain ⟨es, clock, hb, Ft, hs, hD⟩ := hpo
      exact ⟨es, clock, (hC.b.block pm hplt).trans hb, Ft, hs, hD⟩
    have hdl : Hid ((rs.map InoR.D).length = n) := by show _ = _; rw [List.length_map, ht.len]
    have hn20 := ht.n
    obtain ⟨cnt, D, hcnt, hhas, hIM, hqw⟩ := hC.re
    have hMx := hM.2 x
    have HHA : Hid _ := hhas
    have hsl := hC.inT.len
    rw [hdl.out] at hsl
    have HPR : Hid (∀ (w' : World) (S' : List Int), RC wb w' P Q Tb Fb pm qm (rs.map InoR.D) S' → RP (rs.map InoR.D) S x S' → ∃ S', RC wb w' P Q Tb Fb pm qm (rs.map InoR.D) S' ∧ RP (rs.map InoR.D) S x S') := fun w' S' h1 h2 => ⟨S', h1, h2⟩
    have hHx := hhas x
    clear ih ht hwe hC hpo hwx hhas
    cases hfa : firstAt (inos rs) x with
    | none =>
      have hp : Maps.has Dp (.int .i64 x) = false := by rw [hMx.1, hfa]; rfl
      have hend : Hid _ := HPR.out w S HC.out (RP.same (fun h => by rw [look_first_none hfa] at h; cases h))
      clear hMx
      go_enter Try.func48, Try.ntmps48
      go_wp2_with (first
        | (at_lookup; refine wpList_lookup_own_ok_int _ rfl _ _ 59 rfl 3 3 .i64 Try.keyInt Try.underlying59 Try.underlying3 (Try.zeroInt _) pm cp Dp rfl hpw _ _ rfl hkey ?_; intro c hat hwc; rw [hp])
        | go_in)
      refine bodyPost_ret (v := .tuple #[]) (results_none rfl _ _ _) rfl ?_
      exact ⟨rfl, hend.out⟩
    | some p =>
      have hp : Maps.has Dp (.int .i64 x) = true := by rw [hMx.1, hfa]; rfl
      have hat0 := hMx.2 p hfa
      have hpl := firstAt_in hfa
      obtain ⟨r, hrp⟩ : ∃ r, rs[p]? = some r := ⟨_, List.getElem?_eq_getElem hpl⟩
      have hlk : look (rs.map InoR.D) x = some r.D := look_first hfa hrp
      have hlx : (look (rs.map InoR.D) x).isSome = true := by rw [hlk]; rfl
      clear hMx
      by_cases hxS : x ∈ S
      · have hq : Maps.has D (.int .i64 x) = true := by rw [hHx]; simpa using hxS
        have hend : Hid _ := HPR.out w S HC.out (RP.same (fun _ => hxS))
        go_enter Try.func48, Try.ntmps48
        go_wp2_with (first
          | (at_lookup; refine wpList_lookup_own_ok_int _ rfl _ _ 59 rfl 3 3 .i64 Try.keyInt Try.underlying59 Try.underlying3 (Try.zeroInt _) pm cp Dp rfl hpw _ _ rfl hkey ?_; intro c hat hwc; rw [hp])
          | (at_lookup; refine wpList_lookup_own_ok_int _ rfl _ _ 59 rfl 3 3 .i64 Try.keyInt Try.underlying59 Try.underlying3 (Try.zeroInt _) qm cnt D rfl hqw _ _ rfl hkey ?_; intro c' hat' hwc'; rw [hq])
          | go_in)
        refine bodyPost_ret (v := .tuple #[]) (results_none rfl _ _ _) rfl ?_
        exact ⟨rfl, hend.out⟩
      · have hq : Maps.has D (.int .i64 x) = false := by rw [hHx]; simpa using hxS
        have hIn := HC.out.inT.cons hlx hxS
        have HIN : Hid _ := hIn
        have hlen := hIn.len
        rw [hdl.out, List.length_cons] at hlen
        obtain ⟨g', rfl⟩ : ∃ g', g = g' + 1 := ⟨g - 1, by omega⟩
        have hwk : (Lit.int .i64 (p : Int)).wf = true := WalkArith.wf_i64 (by have := HT.out.len; omega)
        have hpn : p < n := by have := HT.out.len; omega
        have hpi : (p : Int) < (n : Int) := by omega
        have hpp : (0 : Int) ≤ (p : Int) := by omega
        have hpq : ¬ (p : Int) < 0 := by omega
        go_enter Try.func48, Try.ntmps48
        go_upto_region 5 with (first
          | (at_lookup; refine wpList_lookup_own_ok_int _ rfl _ _ 59 rfl 3 3 .i64 Try.keyInt Try.underlying59 Try.underlying3 (Try.zeroInt _) pm cp Dp rfl hpw _ _ rfl hkey ?_; intro c hat hwc; rw [hp]; rw [hat0] at hat; simp at hat; subst hat)
          | (at_lookup; refine wpList_lookup_own_ok_int _ rfl _ _ 59 rfl 3 3 .i64 Try.keyInt Try.underlying59 Try.underlying3 (Try.zeroInt _) qm cnt D rfl hqw _ _ rfl hkey ?_; intro c' hat' hwc'; rw [hq])
          | (at_mapUpdate; refine wpList_mapUpdate_own _ rfl _ _ _ 59 rfl 3 3 Try.keyInt Try.underlying59 _ qm cnt D rfl hqw (by unfold maxLen; omega) _ _ _ rfl rfl hkey _ [] (plainElem_int Try.underlying3 hwk) ?_; intro w1 hown1 hgrow1)
          | go_in)
        have hC1 := RC.put HC.out hcnt HHA.out hIM hlx hxS hgrow1 hown1
        have hB1 := hC1.b
        have zt := (zT.keep hB1).cell 0
        simp at zt
        have hTr := HT.out.keep hB1
        obtain ⟨b, off, rfl, hlt, hc⟩ := RdI.lt hTr.rd (by intro h; rw [h] at hrp; simp at hrp)
        obtain ⟨x6, xr⟩ := hc p r hrp
        obtain ⟨x0, x1, x2, x3, x4, x5⟩ := x6
        have hsm := (hTr.small r (List.mem_of_getElem? hrp)).ents
        have hwr := HE.out r (List.mem_of_getElem? hrp)
        obtain ⟨es, hes⟩ : ∃ es, r.D.ents = es := ⟨_, rfl⟩
        have hre : RdP wb r.a2 (eP es) := by
          obtain ⟨b', off', _, _, hc'⟩ := RdI.lt HT.out.rd (by intro h; rw [h] at hrp; simp at hrp)
          rw [← hes]
          exact (hc' p r hrp).2.ents
        have hde : Hid (dirEnts (rs.map InoR.D) x = if r.D.kind = 2 then es else []) := by show _ = _; unfold dirEnts; rw [hlk]; show (if r.D.kind = 2 then r.D.ents else []) = _; rw [hes]
        rw [hes] at x4 hsm hwr
        obtain ⟨n2, hn2⟩ : ∃ n2, es.length = n2 := ⟨_, rfl⟩
        rw [hn2] at x4 hsm
        have HN : Hid _ := hn2
        generalize r.D.ino = i1 at x0
        generalize r.D.kind = i2 at x1 hde
        generalize r.D.links = i3 at x2
        generalize r.D.data.length = n1 at x3
        generalize r.D.attrs.length = n3 at x5
        have hC2 : Hid _ := hC1.alloc (.cells #[.int .i64 i1, .int .i64 i2, .int .i64 i3, .slice r.a1 n1 r.c1, .slice r.a2 n2 r.c2, .slice r.a3 n3 r.c3] 30)
        have bx := Blk.new w1 30 #[.int .i64 i1, .int .i64 i2, .int .i64 i3, .slice r.a1 n1 r.c1, .slice r.a2 n2 r.c2, .slice r.a3 n3 r.c3]
        have y1 := bx.cell 1
        have y4 := bx.cell 4
        simp at y1 y4
        have HRE : Hid _ := hre
        have HWR : Hid _ := hwr
        have hL0 : Hid _ := RL.start (S := S) (es := es) hlx
        have HLX : Hid _ := hlx
        clear hc xr hrp hes hn2 hre hTr bx hC1 hB1 hwr hlk hlx hgrow1 hown1 hqw hpw c1 c2 hIn hlen hlt hpl hfa hat0 hp hq hwk hIM HHA hHx HC hplt
        by_cases hk2 : i2 = 2
        · subst hk2
          have HDE : Hid (dirEnts (rs.map InoR.D) x = es) := by show _ = _; rw [hde.out, if_pos rfl]
          go_wp2
          obtain ⟨Wb, hWb⟩ : ∃ W, w1.alloc (.cells #[.int .i64 i1, .int .i64 2, .int .i64 i3, .slice r.a1 n1 r.c1, .slice r.a2 n2 r.c2, .slice r.a3 n3 r.c3] 30) = W := ⟨_, rfl⟩
          rw [hWb] at hC2 ⊢
          clear hWb y1 y4 x0 x1 x2 x3 x4 x5 zt hde
          go_loopw [42] (fun j wi => ∃ (q : Nat) (S1 : List Int), q ≤ n2 ∧ j = .int .i64 q ∧ Hid (RC wb wi P Q Tb Fb pm qm (rs.map InoR.D) S1 ∧ RL (rs.map InoR.D) S x es q S1)) (fun j _ => n2 - (intOf j).toNat)
          case atStart => exact ⟨0, x :: S, Nat.zero_le _, rfl, hC2.out, hL0.out⟩
          case round =>
            obtain ⟨q, S1, hq, rfl, hRR⟩ := hrel
            clear hC2 hL0
            by_cases hqn : q < n2
            · have hqi : (q : Int) < (n2 : Int) := by omega
              have hq0 : (0 : Int) ≤ (q : Int) := by omega
              have hql : q < es.length := by rw [HN.out]; exact hqn
              obtain ⟨eb, eo, hea, helt, hec⟩ := RdP.lt (RdP.keep HRE.out hRR.out.1.b) (by intro h; have := congrArg List.length h; rw [eP_length] at this; simp at this; rw [this] at hql; simp at hql)
              have hx := hec q (by rw [eP_length]; exact hql)
              rw [eP_at es q hql] at hx
              have hwu := HWR.out es[q] (List.getElem_mem hql)
              have HQ : Hid (es[q]? = some es[q]) := List.getElem?_eq_getElem hql
              obtain ⟨en, hen⟩ : ∃ en, es[q] = en := ⟨_, rfl⟩
              rw [hen] at hx hwu HQ
              obtain ⟨zn, u⟩ := en
              obtain ⟨x1, x2⟩ := hx
              dsimp only at x1 x2 hwu
              rw [hea]
              have hC3 := hRR.out.1.alloc (.cells #[.string zn, .int .i64 u] 67)
              have cF := hC3.zF.cell 0
              have bE := Blk.new wr 67 #[.string zn, .int .i64 u]
              have e1 := bE.cell 1
              simp at cF e1
              have hlS : S.length + 1 ≤ S1.length := by
                have := sub_len (l := x :: S) (m := S1) HIN.out.nd hRR.out.2.sub
                simpa using this
              have hcR := HIH.out g' (by omega) u _ S1 hwu (by omega) hC3
              clear hec hea hen helt
              go_wp2_with fail
              (with_reducible refine hcR.mono ?_)
              rintro e w5 ⟨rfl, S2, hC5, hP5⟩
              have hnx : Hid _ := And.intro hC5 (hRR.out.2.step HLX.out HDE.out HQ.out hP5)
              clear cF e1 x1 x2 hcR hC3 bE hC5 hP5
              go_wp2
              go_roundw
              case rel => exact ⟨q + 1, S2, by omega, by go_num, hnx⟩
              case measure => simp [intOf]; omega
            · have hqi : ¬ (q : Int) < (n2 : Int) := by omega
              have hend : Hid _ := HPR.out wr S1 hRR.out.1 (hRR.out.2.fin (by rw [HN.out]; omega) HDE.out)
              go_wp2
              go_end0
              exact ⟨rfl, hend.out⟩
        · have hkb : (i2 == 2) = false := by simpa using hk2
          have hkc : (i2 != 2) = true := by simpa using hk2
          have hend : Hid _ := HPR.out _ _ hC2.out ((hL0.out).finN (by show _ = _; rw [hde.out, if_neg hk2]))
          go_wp2
          go_end0
          exact ⟨rfl, hend.out⟩
end
end Go.Proofs.Ytgcmpimckpnemaa
