/-
  Trees: the models (no program): how many entries lead to a number, what is reached, what is a tree, its paths; and that the paths of a tree come to an end.
-/
import Derived.Test.YtnadeelnjhollaaGreatLookV
import Derived.Test.YtnadeelnjhollaaGreatTabOkSV
namespace Go.Proofs.YtnadeelnjhollaaGreat
open Go.RowKit
/-- x ahead of the last ones that are greater. -/
def insBy {α : Type} (gt : α → Bool) (l : List α) (x : α) : List α := (l.reverse.dropWhile gt).reverse ++ x :: (l.reverse.takeWhile gt).reverse
theorem takeWhile_app {α : Type} (p : α → Bool) (l m : List α) (h : ∀ y ∈ l, p y = true) : (l ++ m).takeWhile p = l ++ m.takeWhile p ∧ (l ++ m).dropWhile p = m.dropWhile p := by
  induction l with
  | nil => exact ⟨rfl, rfl⟩
  | cons y l ih =>
    have h1 := h y (List.mem_cons_self ..)
    have h2 := ih fun z hz => h z (List.mem_cons_of_mem _ hz)
    simp [h1, h2.1, h2.2]
theorem insBy_at {α : Type} {gt : α → Bool} {l : List α} {x : α} {k : Nat} (hk : k ≤ l.length) (h1 : ∀ y ∈ l.drop k, gt y = true) (h2 : k = 0 ∨ ∃ y, l[k - 1]? = some y ∧ gt y = false) : insBy gt l x = l.take k ++ x :: l.drop k := by
  have e : l.reverse = (l.drop k).reverse ++ (l.take k).reverse := by rw [← List.reverse_append, List.take_append_drop]
  have hh := takeWhile_app gt (l.drop k).reverse (l.take k).reverse (fun y hy => h1 y (List.mem_reverse.1 hy))
  unfold insBy
  rw [e, hh.1, hh.2]
  have h3 : (l.take k).reverse.takeWhile gt = [] ∧ (l.take k).reverse.dropWhile gt = (l.take k).reverse := by
    rcases h2 with rfl | ⟨y, hy, hg⟩
    · simp
    · have hk0 : k ≠ 0 := by
        rintro rfl
        obtain ⟨y', hy'⟩ : ∃ y', l[0]? = some y' := ⟨y, hy⟩
        have := h1 y (by simpa using List.mem_of_getElem? hy)
        rw [this] at hg
        simp at hg
      have e2 : (l.take k).reverse = y :: (l.take (k - 1)).reverse := by
        have : l.take k = l.take (k - 1) ++ [y] := by
          obtain ⟨m, rfl⟩ : ∃ m, k = m + 1 := ⟨k - 1, by omega⟩
          rw [Nat.add_sub_cancel] at hy ⊢
          rw [List.take_add_one, hy]
          rfl
        rw [this]
        simp
      rw [e2]
      simp [hg]
  rw [h3.1, h3.2]
  simp
theorem insBy_perm {α : Type} (gt : α → Bool) (l : List α) (x : α) : ∃ a b, l = a ++ b ∧ insBy gt l x = a ++ x :: b := by
  refine ⟨(l.reverse.dropWhile gt).reverse, (l.reverse.takeWhile gt).reverse, ?_, rfl⟩
  rw [← List.reverse_append, List.takeWhile_append_dropWhile, List.reverse_reverse]
theorem insBy_mem {α : Type} {gt : α → Bool} {l : List α} {x y : α} : y ∈ insBy gt l x ↔ y = x ∨ y ∈ l := by
  obtain ⟨a, b, h1, h2⟩ := insBy_perm gt l x
  rw [h2]
  subst h1
  simp only [List.mem_append, List.mem_cons]
  constructor
  · rintro (h | h | h)
    · exact .inr (.inl h)
    · exact .inl h
    · exact .inr (.inr h)
  · rintro (h | h | h)
    · exact .inr (.inl h)
    · exact .inl h
    · exact .inr (.inr h)
theorem insBy_len {α : Type} (gt : α → Bool) (l : List α) (x : α) : (insBy gt l x).length = l.length + 1 := by
  obtain ⟨a, b, h1, h2⟩ := insBy_perm gt l x
  rw [h2]
  subst h1
  simp
  omega
/-- How many entries of all directories lead to this number. -/
def linksIn (D : InoD) (x : Int) : Nat := if D.kind = 2 then (D.ents.filter fun e => e.2 == x).length else 0
def linksD (ds : List InoD) (x : Int) : Nat := (ds.map fun D => linksIn D x).sum
/-- A number put in order, if it is not there. -/
def putI (l : List Int) (x : Int) : List Int := if x ∈ l then l else insBy (fun y => decide (x < y)) l x
def dirEnts (ds : List InoD) (x : Int) : List (ByteArray × Int) := match look ds x with
  | some D => if D.kind = 2 then D.ents else []
  | none => []
def addE (ds : List InoD) (o : List Int) (es : List (ByteArray × Int)) : List Int := es.foldl (fun o e => if (look ds e.2).isSome then putI o e.2 else o) o
/-- What is reached by one entry more. -/
def nextD (ds : List InoD) (l : List Int) : List Int := l.foldl (fun o x => addE ds o (dirEnts ds x)) l
def reachN (ds : List InoD) : Nat → List Int
  | 0 => [1]
  | k + 1 => nextD ds (reachN ds k)
def reachD (ds : List InoD) : List Int := if (look ds 1).isSome then reachN ds ds.length else []
/-- Numbers of the table, none twice. -/
structure InTab (ds : List InoD) (l : List Int) : Prop where
  nd : l.Nodup
  mem : ∀ x ∈ l, (look ds x).isSome = true
theorem InTab.put {ds : List InoD} {l : List Int} (h : InTab ds l) {x : Int} (hx : (look ds x).isSome = true) : InTab ds (putI l x) := by
  unfold putI
  split
  · exact h
  · rename_i hn
    refine ⟨?_, fun y hy => ?_⟩
    · obtain ⟨a, b, h1, h2⟩ := insBy_perm (fun y => decide (x < y)) l x
      rw [h2]
      have hnd := h.nd
      rw [h1, List.nodup_append] at hnd
      have hna : x ∉ a ∧ x ∉ b := by
        rw [h1] at hn
        simpa [List.mem_append, not_or] using hn
      rw [List.nodup_append]
      refine ⟨hnd.1, List.nodup_cons.2 ⟨hna.2, hnd.2.1⟩, fun y hy z hz => ?_⟩
      rcases List.mem_cons.1 hz with rfl | hz
      · exact fun e => hna.1 (e ▸ hy)
      · exact hnd.2.2 y hy z hz
    · rcases insBy_mem.1 hy with rfl | hy
      · exact hx
      · exact h.mem y hy
theorem InTab.add {ds : List InoD} {l : List Int} (h : InTab ds l) (es : List (ByteArray × Int)) : InTab ds (addE ds l es) := by
  unfold addE
  induction es generalizing l with
  | nil => exact h
  | cons e es ih =>
    rw [List.foldl_cons]
    apply ih
    split
    · rename_i hx
      exact h.put hx
    · exact h
theorem InTab.fold {ds : List InoD} {o : List Int} (h : InTab ds o) (l : List Int) : InTab ds (l.foldl (fun o x => addE ds o (dirEnts ds x)) o) := by
  induction l generalizing o with
  | nil => exact h
  | cons x l ih =>
    rw [List.foldl_cons]
    exact ih (h.add _)
theorem InTab.next {ds : List InoD} {l : List Int} (h : InTab ds l) : InTab ds (nextD ds l) := h.fold l
theorem InTab.reach {ds : List InoD} (h : (look ds 1).isSome = true) (k : Nat) : InTab ds (reachN ds k) := by
  induction k with
  | zero => exact ⟨by simp [reachN], fun x hx => by simp [reachN] at hx; subst hx; exact h⟩
  | succ k ih => exact ih.next
theorem sub_len {α : Type} [BEq α] [LawfulBEq α] : ∀ {l m : List α}, l.Nodup → (∀ x ∈ l, x ∈ m) → l.length ≤ m.length
  | [], _, _, _ => Nat.zero_le _
  | x :: l, m, hn, hs => by
    have hx := hs x (List.mem_cons_self ..)
    have hn' := List.nodup_cons.1 hn
    have h1 := sub_len (l := l) (m := m.erase x) hn'.2 (fun y hy => (List.mem_erase_of_ne (by rintro rfl; exact hn'.1 hy)).2 (hs y (List.mem_cons_of_mem _ hy)))
    have h2 := List.length_erase_of_mem hx
    have h3 := List.length_pos_of_mem hx
    simp only [List.length_cons]
    omega
theorem look_ino {ds : List InoD} {x : Int} (h : (look ds x).isSome = true) : x ∈ ds.map InoD.ino := by
  obtain ⟨D, hD⟩ := Option.isSome_iff_exists.1 h
  obtain ⟨h1, h2⟩ := look_mem hD
  exact h2 ▸ List.mem_map_of_mem h1
theorem InTab.len {ds : List InoD} {l : List Int} (h : InTab ds l) : l.length ≤ ds.length := by
  have := sub_len h.nd (m := ds.map InoD.ino) (fun x hx => look_ino (h.mem x hx))
  simpa using this
/-- A table that is right; a tree. -/
def tabD (nx : Int) (ds : List InoD) : Bool := tabS nx (ds.map lift)
def treeD (nx : Int) (ds : List InoD) : Bool := tabD nx ds && (decide ((reachD ds).length = ds.length) && ds.all fun D => decide ((linksD ds D.ino : Int) = D.links) && D.ents.all fun e => (look ds e.2).isSome)
theorem getD_lift (rs : List InoR) (i : Nat) : (((rs.map InoR.D).map lift).getD i inoZ).D = (rs.getD i inoZ).D := by
  rw [List.getD_eq_getElem?_getD, List.getD_eq_getElem?_getD, List.getElem?_map, List.getElem?_map]
  cases rs[i]? <;> rfl
theorem tabS_D (nx : Int) (rs : List InoR) : tabS nx rs = tabD nx (rs.map InoR.D) := by
  unfold tabD tabS
  have h : stepT nx ((rs.map InoR.D).map lift) = stepT nx rs := by
    funext i
    unfold stepT
    simp only [getD_lift]
  simp only [List.length_map, getD_lift, h]
theorem tabD_ok {nx : Int} {ds : List InoD} (h : tabD nx ds = true) : 1 ≤ ds.length ∧ ds.length ≤ 30 ∧ 2 ≤ nx ∧ nx ≤ 1000 ∧ (∀ D ∈ ds, inoOk D = true ∧ D.ino < nx) ∧ ∃ D, ds[0]? = some D ∧ D.ino = 1 ∧ D.kind = 2 := by
  unfold tabD tabS at h
  simp only [List.length_map, Bool.and_eq_true, decide_eq_true_eq, List.all_eq_true, List.mem_range] at h
  obtain ⟨⟨h1, h2⟩, ⟨h3, h4⟩, h5, h6, h7⟩ := h
  refine ⟨h1, h2, h3, h4, fun D hD => ?_, ds[0], List.getElem?_eq_getElem (by omega), ?_, ?_⟩
  · obtain ⟨i, hi⟩ := List.getElem?_of_mem hD
    have hl := (List.getElem?_eq_some_iff.1 hi).1
    have := h5 i hl
    unfold stepT at this
    have e : ((ds.map lift).getD i inoZ).D = D := by
      rw [List.getD_eq_getElem?_getD, List.getElem?_map, hi]
      rfl
    rw [e] at this
    simp only [Bool.and_eq_true, decide_eq_true_eq] at this
    exact ⟨this.1, this.2.1⟩
  · rw [← h6, List.getD_eq_getElem?_getD, List.getElem?_map, List.getElem?_eq_getElem (by omega)]
    rfl
  · rw [← h7, List.getD_eq_getElem?_getD, List.getElem?_map, List.getElem?_eq_getElem (by omega)]
    rfl
end Go.Proofs.YtnadeelnjhollaaGreat
