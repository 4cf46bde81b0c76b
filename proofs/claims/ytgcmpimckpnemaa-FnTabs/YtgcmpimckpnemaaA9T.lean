/-
  Joined: Tree, Paths, SetQ, Ints, PutI, Next7.
-/
import Derived.Test.YtgcmpimckpnemaaA7T
import Derived.Test.YtgcmpimckpnemaaTabOkST
namespace Go.Proofs.Ytgcmpimckpnemaa
section
open Go.RowKit
/-- x ahead of the last ones that are greater. -/
def insBy {α : Type} (gt : α → Bool) (l : List α) (x : α) : List α := (l.reverse.dropWhile gt).reverse ++ x :: (l.reverse.takeWhile gt).reverse
theorem takeWhile_app {α : Type} (p : α → Bool) (l m : List α) (h : ∀ y ∈ l, p y = true) : (l ++ m).takeWhile p = l ++ m.takeWhile p ∧ (l ++ m).dropWhile p = m.dropWhile p := by
  induction l with
  | nil => exact ⟨rfl, rfl⟩
  | cons y l ih =>
    have h1 := h y (List.mem_cons_self ..)
    have h2 := ih fun z hz => h z (List.mem_cons_of_mem _ hz)
    simp [h1, h2.1, h2.2]
theorem insBy_at {α : Type} {gt : α → Bool} {l : List α} {x : α} {k : Nat} (hk : k ≤ l.length) (h1 : ∀ y ∈ l.drop k, gt y = true) (h2 : k = 0 ∨ ∃ y, l[k - 1]? = some y ∧ gt y = false) : insBy gt l x = l.take k ++ x :: l.drop k := by
  have e : l.reverse = (l.drop k).reverse ++ (l.take k).reverse := by rw [← List.reverse_append, List.take_append_drop]
  have hh := takeWhile_app gt (l.drop k).reverse (l.take k).reverse (fun y hy => h1 y (List.mem_reverse.1 hy))
  unfold insBy
  rw [e, hh.1, hh.2]
  have h3 : (l.take k).reverse.takeWhile gt = [] ∧ (l.take k).reverse.dropWhile gt = (l.take k).reverse := by
    rcases h2 with rfl | ⟨y, hy, hg⟩
    · simp
    · have hk0 : k ≠ 0 := by
        rintro rfl
        obtain ⟨y', hy'⟩ : ∃ y', l[0]? = some y' := ⟨y, hy⟩
        have := h1 y (by simpa using List.mem_of_getElem? hy)
        rw [this] at hg
        simp at hg
      have e2 : (l.take k).reverse = y :: (l.take (k - 1)).reverse := by
        have : l.take k = l.take (k - 1) ++ [y] := by
          obtain ⟨m, rfl⟩ : ∃ m, k = m + 1 := ⟨k - 1, by omega⟩
          rw [Nat.add_sub_cancel] at hy ⊢
          rw [List.take_add_one, hy]
          rfl
        rw [this]
        simp
      rw [e2]
      simp [hg]
  rw [h3.1, h3.2]
  simp
theorem insBy_perm {α : Type} (gt : α → Bool) (l : List α) (x : α) : ∃ a b, l = a ++ b ∧ insBy gt l x = a ++ x :: b := by
  refine ⟨(l.reverse.dropWhile gt).reverse, (l.reverse.takeWhile gt).reverse, ?_, rfl⟩
  rw [← List.reverse_append, List.takeWhile_append_dropWhile, List.reverse_reverse]
theorem insBy_mem {α : Type} {gt : α → Bool} {l : List α} {x y : α} : y ∈ insBy gt l x ↔ y = x ∨ y ∈ l := by
  obtain ⟨a, b, h1, h2⟩ := insBy_perm gt l x
  rw [h2]
  subst h1
  simp only [List.mem_append, List.mem_cons]
  constructor
  · rintro (h | h | h)
    · exact .inr (.inl h)
    · exact .inl h
    · exact .inr (.inr h)
  · rintro (h | h | h)
    · exact .inr (.inl h)
    · exact .inl h
    · exact .inr (.inr h)
theorem insBy_len {α : Type} (gt : α → Bool) (l : List α) (x : α) : (insBy gt l x).length = l.length + 1 := by
  obtain ⟨a, b, h1, h2⟩ := insBy_perm gt l x
  rw [h2]
  subst h1
  simp
  omega
/-- How many entries of all directories lead to this number. -/
def linksIn (D : InoD) (x : Int) : Nat := if D.kind = 2 then (D.ents.filter fun e => e.2 == x).length else 0
def linksD (ds : List InoD) (x : Int) : Nat := (ds.map fun D => linksIn D x).sum
/-- A number put in order, if it is not there. -/
def putI (l : List Int) (x : Int) : List Int := if x ∈ l then l else insBy (fun y => decide (x < y)) l x
def dirEnts (ds : List InoD) (x : Int) : List (ByteArray × Int) := match look ds x with
  | some D => if D.kind = 2 then D.ents else []
  | none => []
def addE (ds : List InoD) (o : List Int) (es : List (ByteArray × Int)) : List Int := es.foldl (fun o e => if (look ds e.2).isSome then putI o e.2 else o) o
/-- What is reached by one entry more. -/
def nextD (ds : List InoD) (l : List Int) : List Int := l.foldl (fun o x => addE ds o (dirEnts ds x)) l
def reachN (ds : List InoD) : Nat → List Int
  | 0 => [1]
  | k + 1 => nextD ds (reachN ds k)
def reachD (ds : List InoD) : List Int := if (look ds 1).isSome then reachN ds ds.length else []
/-- Numbers of the table, none twice. -/
structure InTab (ds : List InoD) (l : List Int) : Prop where
  nd : l.Nodup
  mem : ∀ x ∈ l, (look ds x).isSome = true
theorem InTab.put {ds : List InoD} {l : List Int} (h : InTab ds l) {x : Int} (hx : (look ds x).isSome = true) : InTab ds (putI l x) := by
  unfold putI
  split
  · exact h
  · rename_i hn
    refine ⟨?_, fun y hy => ?_⟩
    · obtain ⟨a, b, h1, h2⟩ := insBy_perm (fun y => decide (x < y)) l x
      rw [h2]
      have hnd := h.nd
      rw [h1, List.nodup_append] at hnd
      have hna : x ∉ a ∧ x ∉ b := by
        rw [h1] at hn
        simpa [List.mem_append, not_or] using hn
      rw [List.nodup_append]
      refine ⟨hnd.1, List.nodup_cons.2 ⟨hna.2, hnd.2.1⟩, fun y hy z hz => ?_⟩
      rcases List.mem_cons.1 hz with rfl | hz
      · exact fun e => hna.1 (e ▸ hy)
      · exact hnd.2.2 y hy z hz
    · rcases insBy_mem.1 hy with rfl | hy
      · exact hx
      · exact h.mem y hy
theorem InTab.add {ds : List InoD} {l : List Int} (h : InTab ds l) (es : List (ByteArray × Int)) : InTab ds (addE ds l es) := by
  unfold addE
  induction es generalizing l with
  | nil => exact h
  | cons e es ih =>
    rw [List.foldl_cons]
    apply ih
    split
    · rename_i hx
      exact h.put hx
    · exact h
theorem InTab.fold {ds : List InoD} {o : List Int} (h : InTab ds o) (l : List Int) : InTab ds (l.foldl (fun o x => addE ds o (dirEnts ds x)) o) := by
  induction l generalizing o with
  | nil => exact h
  | cons x l ih =>
    rw [List.foldl_cons]
    exact ih (h.add _)
theorem InTab.next {ds : List InoD} {l : List Int} (h : InTab ds l) : InTab ds (nextD ds l) := h.fold l
theorem InTab.reach {ds : List InoD} (h : (look ds 1).isSome = true) (k : Nat) : InTab ds (reachN ds k) := by
  induction k with
  | zero => exact ⟨by simp [reachN], fun x hx => by simp [reachN] at hx; subst hx; exact h⟩
  | succ k ih => exact ih.next
theorem sub_len {α : Type} [BEq α] [LawfulBEq α] : ∀ {l m : List α}, l.Nodup → (∀ x ∈ l, x ∈ m) → l.length ≤ m.length
  | [], _, _, _ => Nat.zero_le _
  | x :: l, m, hn, hs => by
    have hx := hs x (List.mem_cons_self ..)
    have hn' := List.nodup_cons.1 hn
    have h1 := sub_len (l := l) (m := m.erase x) hn'.2 (fun y hy => (List.mem_erase_of_ne (by rintro rfl; exact hn'.1 hy)).2 (hs y (List.mem_cons_of_mem _ hy)))
    have h2 := List.length_erase_of_mem hx
    have h3 := List.length_pos_of_mem hx
    simp only [List.length_cons]
    omega
theorem look_ino {ds : List InoD} {x : Int} (h : (look ds x).isSome = true) : x ∈ ds.map InoD.ino := by
  obtain ⟨D, hD⟩ := Option.isSome_iff_exists.1 h
  obtain ⟨h1, h2⟩ := look_mem hD
  exact h2 ▸ List.mem_map_of_mem h1
theorem InTab.len {ds : List InoD} {l : List Int} (h : InTab ds l) : l.length ≤ ds.length := by
  have := sub_len h.nd (m := ds.map InoD.ino) (fun x hx => look_ino (h.mem x hx))
  simpa using this
/-- A table that is right; a tree. -/
def tabD (nx : Int) (ds : List InoD) : Bool := tabS nx (ds.map lift)
def treeD (nx : Int) (ds : List InoD) : Bool := tabD nx ds && (decide ((reachD ds).length = ds.length) && ds.all fun D => decide ((linksD ds D.ino : Int) = D.links) && D.ents.all fun e => (look ds e.2).isSome)
theorem getD_lift (rs : List InoR) (i : Nat) : (((rs.map InoR.D).map lift).getD i inoZ).D = (rs.getD i inoZ).D := by
  rw [List.getD_eq_getElem?_getD, List.getD_eq_getElem?_getD, List.getElem?_map, List.getElem?_map]
  cases rs[i]? <;> rfl
theorem tabS_D (nx : Int) (rs : List InoR) : tabS nx rs = tabD nx (rs.map InoR.D) := by
  unfold tabD tabS
  have h : stepT nx ((rs.map InoR.D).map lift) = stepT nx rs := by
    funext i
    unfold stepT
    simp only [getD_lift]
  simp only [List.length_map, getD_lift, h]
theorem tabD_ok {nx : Int} {ds : List InoD} (h : tabD nx ds = true) : 1 ≤ ds.length ∧ ds.length ≤ 30 ∧ 2 ≤ nx ∧ nx ≤ 1000 ∧ (∀ D ∈ ds, inoOk D = true ∧ D.ino < nx) ∧ ∃ D, ds[0]? = some D ∧ D.ino = 1 ∧ D.kind = 2 := by
  unfold tabD tabS at h
  simp only [List.length_map, Bool.and_eq_true, decide_eq_true_eq, List.all_eq_true, List.mem_range] at h
  obtain ⟨⟨h1, h2⟩, ⟨h3, h4⟩, h5, h6, h7⟩ := h
  refine ⟨h1, h2, h3, h4, fun D hD => ?_, ds[0], List.getElem?_eq_getElem (by omega), ?_, ?_⟩
  · obtain ⟨i, hi⟩ := List.getElem?_of_mem hD
    have hl := (List.getElem?_eq_some_iff.1 hi).1
    have := h5 i hl
    unfold stepT at this
    have e : ((ds.map lift).getD i inoZ).D = D := by
      rw [List.getD_eq_getElem?_getD, List.getElem?_map, hi]
      rfl
    rw [e] at this
    simp only [Bool.and_eq_true, decide_eq_true_eq] at this
    exact ⟨this.1, this.2.1⟩
  · rw [← h6, List.getD_eq_getElem?_getD, List.getElem?_map, List.getElem?_eq_getElem (by omega)]
    rfl
  · rw [← h7, List.getD_eq_getElem?_getD, List.getElem?_map, List.getElem?_eq_getElem (by omega)]
    rfl
end

section
open Go.RowKit
/-- The entries of the inode of this number; none, where there is none. -/
def entsAt (ds : List InoD) (x : Int) : List (ByteArray × Int) := ((look ds x).getD inoZ.D).ents
/-- The numbers that are met one entry further. -/
def stepL (ds : List InoD) (l : List Int) : List Int := l.flatMap fun x => (entsAt ds x).map Prod.snd
def levL (ds : List InoD) : Nat → List Int → List Int
  | 0, l => l
  | k + 1, l => levL ds k (stepL ds l)
theorem levL_succ (ds : List InoD) (k : Nat) (l : List Int) : levL ds (k + 1) l = stepL ds (levL ds k l) := by
  induction k generalizing l with
  | zero => rfl
  | succ k ih => rw [levL, ih, levL]
theorem stepL_app (ds : List InoD) (l m : List Int) : stepL ds (l ++ m) = stepL ds l ++ stepL ds m := by simp [stepL]
theorem levL_app (ds : List InoD) (k : Nat) (l m : List Int) : levL ds k (l ++ m) = levL ds k l ++ levL ds k m := by
  induction k generalizing l m with
  | zero => rfl
  | succ k ih => rw [levL, stepL_app, ih, levL, levL]
theorem levL_one {ds : List InoD} {k : Nat} {l : List Int} (h : levL ds k l = []) : ∀ x ∈ l, levL ds k [x] = [] := by
  induction l with
  | nil => intro x hx; simp at hx
  | cons y l ih =>
    rw [show y :: l = [y] ++ l from rfl, levL_app, List.append_eq_nil_iff] at h
    intro x hx
    rcases List.mem_cons.1 hx with rfl | hx
    · exact h.1
    · exact ih h.2 x hx
theorem lev_ent {ds : List InoD} {k : Nat} {x : Int} (h : levL ds (k + 1) [x] = []) : ∀ e ∈ entsAt ds x, levL ds k [e.2] = [] := by
  intro e he
  rw [levL] at h
  exact levL_one h e.2 (by simp only [stepL, List.flatMap_cons, List.flatMap_nil, List.append_nil]; exact List.mem_map_of_mem he)
/-- All numbers that are met in k rounds. -/
def accL (ds : List InoD) : Nat → List Int → List Int
  | 0, _ => []
  | k + 1, l => l ++ accL ds k (stepL ds l)
theorem accL_step (ds : List InoD) (k : Nat) (l : List Int) : accL ds (k + 1) l = l ++ accL ds k (stepL ds l) := rfl
theorem accL_stepped (ds : List InoD) (k : Nat) (l : List Int) : accL ds k (stepL ds l) = stepL ds (accL ds k l) := by
  induction k generalizing l with
  | zero => rfl
  | succ k ih => rw [accL_step, accL_step, stepL_app, ih]
theorem accL_nil (ds : List InoD) (k : Nat) : accL ds k [] = [] := by
  induction k with
  | zero => rfl
  | succ k ih => rw [accL_step]; exact ih
/-- Does the inode of this number have entries? -/
def hasE (ds : List InoD) (x : Int) : Bool := !(entsAt ds x).isEmpty
theorem hasE_look {ds : List InoD} {x : Int} (h : hasE ds x = true) : ∃ D, look ds x = some D ∧ D.ents ≠ [] := by
  unfold hasE entsAt at h
  cases hl : look ds x with
  | none => rw [hl] at h; simp [inoZ] at h
  | some D => rw [hl] at h; exact ⟨D, rfl, by simpa using h⟩
theorem sum_sub {α : Type} [BEq α] [LawfulBEq α] (g : α → Nat) : ∀ {l m : List α}, l.Nodup → (∀ x ∈ l, x ∈ m) → (l.map g).sum ≤ (m.map g).sum
  | [], _, _, _ => Nat.zero_le _
  | x :: l, m, hn, hs => by
    have hx := hs x (List.mem_cons_self ..)
    have hn' := List.nodup_cons.1 hn
    have h1 := sum_sub g (l := l) (m := m.erase x) hn'.2 (fun y hy => (List.mem_erase_of_ne (by rintro rfl; exact hn'.1 hy)).2 (hs y (List.mem_cons_of_mem _ hy)))
    have h2 : (m.map g).sum = g x + ((m.erase x).map g).sum := by
      have := ((List.perm_cons_erase hx).map g).sum_nat
      simpa using this
    simp only [List.map_cons, List.sum_cons]
    omega
theorem count_flat {α β : Type} [BEq β] [LawfulBEq β] (f : α → List β) (l : List α) (d : β) : (l.flatMap f).count d = (l.map fun x => (f x).count d).sum := by
  induction l with
  | nil => rfl
  | cons x l ih => simp [List.flatMap_cons, List.count_append, ih]
theorem sum_filter {α : Type} (p : α → Bool) (g : α → Nat) (h : ∀ x, p x = false → g x = 0) (l : List α) : (l.map g).sum = ((l.filter p).map g).sum := by
  induction l with
  | nil => rfl
  | cons x l ih =>
    rw [List.filter_cons]
    split
    · simp [ih]
    · rename_i hp
      have := h x (by simpa using hp)
      simp [ih, this]
/-- What is known of a table that is right and whose Links are as many as entries lead there. -/
structure Tr (ds : List InoD) : Prop where
  n : ds.length ≤ 30
  ok : ∀ D ∈ ds, inoOk D = true
  asc : ∀ D ∈ ds, look ds D.ino = some D
  links : ∀ D ∈ ds, (linksD ds D.ino : Int) = D.links
theorem ok_parts {D : InoD} (h : inoOk D = true) : 0 ≤ D.links ∧ (D.links = 0 ↔ D.ino = 1) ∧ entsOk D.ents = true ∧ kindR D = true ∧ D.data.length ≤ 100 ∧ attsOk D.attrs = true := by
  unfold inoOk at h
  simp only [Bool.and_eq_true, decide_eq_true_eq] at h
  obtain ⟨⟨⟨⟨⟨⟨_, h1⟩, h2⟩, h3⟩, h4⟩, h5⟩, h6⟩ := h
  refine ⟨h1.1, ?_, h4, h6, h3, h5⟩
  have := beq_iff_eq.1 h2
  constructor
  · intro e
    rw [e] at this
    simpa using this.symm
  · intro e
    rw [e] at this
    simpa using this
theorem entsOk_at {es : List (ByteArray × Int)} (h : entsOk es = true) : es.length ≤ 10 ∧ ∀ e ∈ es, nameOk e.1.data.toList = true ∧ 2 ≤ e.2 ∧ e.2 ≤ 1000 := by
  unfold entsOk at h
  simp only [Bool.and_eq_true, decide_eq_true_eq, List.all_eq_true, List.mem_range] at h
  refine ⟨h.2, fun e he => ?_⟩
  obtain ⟨i, hi⟩ := List.getElem?_of_mem he
  have hl := (List.getElem?_eq_some_iff.1 hi).1
  have := h.1 i hl
  unfold entAt at this
  have e1 : es.getD i entD = e := by rw [List.getD_eq_getElem?_getD, hi]; rfl
  rw [e1] at this
  simp only [Bool.and_eq_true, decide_eq_true_eq] at this
  exact ⟨this.1.1, this.1.2⟩
theorem kind_of {D : InoD} (h : inoOk D = true) (he : D.ents ≠ []) : D.kind = 2 ∧ D.links ≤ 1 := by
  have := (ok_parts h).2.2.2.1
  unfold kindR at this
  simp only [Bool.or_eq_true, Bool.and_eq_true, decide_eq_true_eq] at this
  rcases this with ⟨_, h0⟩ | ⟨h1, _, h2⟩
  · exact absurd (List.length_eq_zero_iff.1 h0) he
  · exact ⟨h1, h2⟩
theorem count_links {D : InoD} (h : inoOk D = true) (d : Int) : (D.ents.map Prod.snd).count d = linksIn D d := by
  unfold linksIn
  by_cases he : D.ents = []
  · rw [he]; simp
  · rw [if_pos (kind_of h he).1, List.count, List.countP_map, List.countP_eq_length_filter]
    rfl
theorem entsAt_of {ds : List InoD} {x : Int} {D : InoD} (h : look ds x = some D) : entsAt ds x = D.ents := by unfold entsAt; rw [h]; rfl
theorem Tr.sum {ds : List InoD} (_ : Tr ds) (g : Int → Nat) {A : List Int} (hA : ∀ d, hasE ds d = true → A.count d ≤ 1) (hg : ∀ x, hasE ds x = false → g x = 0) : (A.map g).sum ≤ (ds.map fun D => g D.ino).sum ∧ (A.filter (hasE ds)).length ≤ ds.length := by
  have hnd : (A.filter (hasE ds)).Nodup := by
    rw [List.nodup_iff_count]
    intro d
    by_cases hd : hasE ds d = true
    · rw [List.count_filter hd]
      exact hA d hd
    · rw [List.count_eq_zero_of_not_mem (fun hm => hd (List.mem_filter.1 hm).2)]
      omega
  have hsub : ∀ x ∈ A.filter (hasE ds), x ∈ ds.map InoD.ino := fun x hx => by
    obtain ⟨D, hD, _⟩ := hasE_look (List.mem_filter.1 hx).2
    exact look_ino (by rw [hD]; rfl)
  refine ⟨?_, ?_⟩
  · rw [sum_filter (hasE ds) g hg]
    have := sum_sub g hnd hsub
    rw [List.map_map] at this
    exact this
  · have := sub_len hnd hsub
    simpa using this
theorem Tr.once {ds : List InoD} (h : Tr ds) (k : Nat) : ∀ d, hasE ds d = true → (accL ds k [1]).count d ≤ 1 := by
  induction k with
  | zero => intro d _; simp [accL]
  | succ k ih =>
    intro d hd
    obtain ⟨D, hD, hne⟩ := hasE_look hd
    obtain ⟨hm, hi⟩ := look_mem hD
    rw [accL_step, accL_stepped, List.count_append, stepL, count_flat]
    have h1 := (h.sum (fun x => ((entsAt ds x).map Prod.snd).count d) ih (fun x hx => by unfold hasE at hx; simp at hx; rw [hx]; rfl)).1
    have h2 : (ds.map fun E => ((entsAt ds E.ino).map Prod.snd).count d) = ds.map fun E => linksIn E d := List.map_congr_left fun E hE => by
      rw [entsAt_of (h.asc E hE), count_links (h.ok E hE)]
    rw [h2] at h1
    have h3 := h.links D hm
    rw [hi] at h3
    have h4 := kind_of (h.ok D hm) hne
    have h5 := (ok_parts (h.ok D hm)).2.1
    unfold linksD at h3
    by_cases hd1 : d = 1
    · have : D.links = 0 := h5.2 (by rw [hi]; exact hd1)
      have hc : ([1] : List Int).count d ≤ 1 := by rw [hd1]; simp
      omega
    · have hc : ([1] : List Int).count d = 0 := List.count_eq_zero_of_not_mem (by simpa using hd1)
      omega
theorem filt_len (ds : List InoD) (p : Int → Bool) (k : Nat) (l : List Int) : ((accL ds (k + 1) l).filter p).length = ((accL ds k l).filter p).length + ((levL ds k l).filter p).length := by
  induction k generalizing l with
  | zero => simp [accL, levL]
  | succ k ih => rw [accL_step, List.filter_append, List.length_append, ih, accL_step, List.filter_append, List.length_append, levL]; omega
theorem lev_has {ds : List InoD} {k : Nat} {l : List Int} (h : levL ds (k + 1) l ≠ []) : 1 ≤ ((levL ds k l).filter (hasE ds)).length := by
  rw [levL_succ] at h
  obtain ⟨y, hy⟩ := List.exists_mem_of_ne_nil _ h
  obtain ⟨x, hx, hy⟩ := List.mem_flatMap.1 hy
  have : hasE ds x = true := by
    unfold hasE
    cases he : entsAt ds x with
    | nil => rw [he] at hy; simp at hy
    | cons _ _ => rfl
  exact List.length_pos_of_mem (List.mem_filter.2 ⟨hx, this⟩)
theorem lev_all {ds : List InoD} {k : Nat} {l : List Int} (h : levL ds k l ≠ []) : ∀ j, j ≤ k → levL ds j l ≠ [] := by
  induction k with
  | zero => intro j hj; obtain rfl : j = 0 := (by omega); exact h
  | succ k ih =>
    intro j hj
    rcases (show j = k + 1 ∨ j ≤ k by omega) with rfl | hj
    · exact h
    · refine ih (fun e => h ?_) j hj
      rw [levL_succ, e]
      rfl
/-- The paths of a tree end: no way has more than 30 steps. -/
theorem Tr.ends {ds : List InoD} (h : Tr ds) : levL ds 31 [1] = [] := by
  by_cases hc : levL ds 31 [1] = []
  · exact hc
  · have h1 : ∀ k, k ≤ 31 → k ≤ ((accL ds k [1]).filter (hasE ds)).length := by
      intro k
      induction k with
      | zero => intro _; omega
      | succ k ih =>
        intro hk
        have h2 := ih (by omega)
        have h3 := lev_has (lev_all hc (k + 1) hk)
        rw [filt_len]
        omega
    have h4 := h1 31 (Nat.le_refl _)
    have h5 := (h.sum (fun _ => 0) (h.once 31) (fun _ _ => rfl)).2
    have := h.n
    omega
/-- The paths below a number, to a depth. -/
def sub (p : ByteArray) (e : ByteArray × Int) : ByteArray := p ++ (⟨#[47]⟩ : ByteArray) ++ e.1
def pathsF (ds : List InoD) : Nat → Int → ByteArray → List ByteArray
  | 0, _, _ => []
  | f + 1, x, p => (entsAt ds x).flatMap fun e => sub p e :: pathsF ds f e.2 (sub p e)
def sumE (ds : List InoD) (k : Nat) (l : List Int) : Nat := ((accL ds k l).map fun y => (entsAt ds y).length).sum
theorem sumE_app (ds : List InoD) (k : Nat) (l m : List Int) : sumE ds k (l ++ m) = sumE ds k l + sumE ds k m := by
  unfold sumE
  induction k generalizing l m with
  | zero => rfl
  | succ k ih =>
    simp only [accL_step, stepL_app, List.map_append, List.sum_append] at ih ⊢
    rw [ih]
    omega
theorem pathsF_len (ds : List InoD) (k : Nat) : ∀ (x : Int) (p : ByteArray), (pathsF ds k x p).length = sumE ds k [x] := by
  induction k with
  | zero => intro x p; rfl
  | succ k ih =>
    intro x p
    have h1 : ∀ es : List (ByteArray × Int), (es.flatMap fun e => sub p e :: pathsF ds k e.2 (sub p e)).length = es.length + sumE ds k (es.map Prod.snd) := by
      intro es
      induction es with
      | nil => simp [sumE, accL_nil]
      | cons e es ih2 =>
        rw [List.flatMap_cons, List.length_append, ih2, List.length_cons, ih, List.map_cons, show e.2 :: es.map Prod.snd = [e.2] ++ es.map Prod.snd from rfl, sumE_app, List.length_cons]
        omega
    rw [pathsF, h1]
    unfold sumE
    rw [accL_step]
    simp [stepL]
theorem Tr.few {ds : List InoD} (h : Tr ds) (k : Nat) (p : ByteArray) : (pathsF ds k 1 p).length ≤ 300 := by
  rw [pathsF_len]
  unfold sumE
  have h1 := (h.sum (fun y => (entsAt ds y).length) (h.once k) (fun x hx => by unfold hasE at hx; simp at hx; rw [hx]; rfl)).1
  have h2 : ∀ l : List InoD, (∀ D ∈ l, D ∈ ds) → (l.map fun D => (entsAt ds D.ino).length).sum ≤ 10 * l.length := by
    intro l hl
    induction l with
    | nil => simp
    | cons D l ih =>
      have hD := hl D (List.mem_cons_self ..)
      have h3 := (entsOk_at (ok_parts (h.ok D hD)).2.2.1).1
      have h4 := ih fun E hE => hl E (List.mem_cons_of_mem _ hE)
      have h5 : (entsAt ds D.ino).length ≤ 10 := by rw [entsAt_of (h.asc D hD)]; exact h3
      simp only [List.map_cons, List.sum_cons, List.length_cons]
      omega
  have h3 := h2 ds fun _ hD => hD
  have := h.n
  omega
theorem asc_lt {nx : Int} {ds : List InoD} (h : tabD nx ds = true) : ∀ (j i : Nat) (D E : InoD), i < j → ds[i]? = some D → ds[j]? = some E → D.ino < E.ino := by
  have hs : ∀ (i : Nat) (D E : InoD), ds[i]? = some D → ds[i + 1]? = some E → D.ino < E.ino := by
    intro i D E h1 h2
    unfold tabD tabS at h
    simp only [List.length_map, Bool.and_eq_true, decide_eq_true_eq, List.all_eq_true, List.mem_range] at h
    have := h.2.2.1 (i + 1) (List.getElem?_eq_some_iff.1 h2).1
    unfold stepT at this
    rw [Nat.add_sub_cancel] at this
    have e1 : ((ds.map lift).getD i inoZ).D = D := by rw [List.getD_eq_getElem?_getD, List.getElem?_map, h1]; rfl
    have e2 : ((ds.map lift).getD (i + 1) inoZ).D = E := by rw [List.getD_eq_getElem?_getD, List.getElem?_map, h2]; rfl
    rw [e1, e2] at this
    simp only [Bool.and_eq_true, Bool.or_eq_true, decide_eq_true_eq] at this
    rcases this.2.2 with h | h
    · omega
    · exact h
  intro j
  induction j with
  | zero => intro i D E hij; omega
  | succ j ih =>
    intro i D E hij h1 h2
    obtain ⟨F, hF⟩ : ∃ F, ds[j]? = some F := ⟨_, List.getElem?_eq_getElem (by have := (List.getElem?_eq_some_iff.1 h2).1; omega)⟩
    have h3 := hs j F E hF h2
    rcases (show i = j ∨ i < j by omega) with rfl | hij
    · rw [hF] at h1
      simp at h1
      rw [← h1]
      exact h3
    · have := ih i D F hij h1 hF
      omega
theorem look_self {nx : Int} {ds : List InoD} (h : tabD nx ds = true) : ∀ D ∈ ds, look ds D.ino = some D := by
  intro D hD
  obtain ⟨i, hi⟩ := List.getElem?_of_mem hD
  cases hl : look ds D.ino with
  | none =>
    unfold look at hl
    rw [List.find?_eq_none] at hl
    exact absurd (by simp) (hl D hD)
  | some E =>
    obtain ⟨hE, he⟩ := look_mem hl
    obtain ⟨j, hj⟩ := List.getElem?_of_mem hE
    rcases Nat.lt_trichotomy i j with hij | rfl | hij
    · have := asc_lt h j i D E hij hi hj
      omega
    · rw [hi] at hj
      exact hj.symm
    · have := asc_lt h i j E D hij hj hi
      omega
theorem treeD_parts {nx : Int} {ds : List InoD} (h : treeD nx ds = true) : tabD nx ds = true ∧ (reachD ds).length = ds.length ∧ ∀ D ∈ ds, (linksD ds D.ino : Int) = D.links ∧ ∀ e ∈ D.ents, (look ds e.2).isSome = true := by
  unfold treeD at h
  simp only [Bool.and_eq_true, decide_eq_true_eq, List.all_eq_true] at h
  exact ⟨h.1, h.2.1, h.2.2⟩
theorem treeD_tr {nx : Int} {ds : List InoD} (h : treeD nx ds = true) : Tr ds := by
  obtain ⟨h1, _, h3⟩ := treeD_parts h
  have h4 := tabD_ok h1
  exact ⟨h4.2.1, fun D hD => (h4.2.2.2.2.1 D hD).1, look_self h1, fun D hD => (h3 D hD).1⟩
/-- y is greater than z. -/
def gtS (z y : ByteArray) : Bool := !(Op.bytesLess y.toList z.toList || y.toList == z.toList)
/-- Texts in order. -/
def sortS (l : List ByteArray) : List ByteArray := l.foldl (fun o z => insBy (gtS z) o z) []
/-- All paths of a tree, in order. -/
def pathsD (nx : Int) (ds : List InoD) : List ByteArray := sortS (if treeD nx ds then pathsF ds 31 1 ⟨#[]⟩ else [])
end

section
open Go.RowKit
theorem row_stored6 {B : Nat} {w : World} {g n cap : Nat} {rs : List InoR} (h : w.ownsRow B 30 6 (.slice (some ⟨g, 0, none⟩) n cap) n (iv rs)) (k : Nat) (hk : k < n) (r : InoR) : ((((((w.setCell ⟨g, k * 6, none⟩ (.int .i64 r.D.ino)).setCell ⟨g, k * 6 + 1, none⟩ (.int .i64 r.D.kind)).setCell ⟨g, k * 6 + 2, none⟩ (.int .i64 r.D.links)).setCell ⟨g, k * 6 + 3, none⟩ (.slice r.a1 r.D.data.length r.c1)).setCell ⟨g, k * 6 + 4, none⟩ (.slice r.a2 r.D.ents.length r.c2)).setCell ⟨g, k * 6 + 5, none⟩ (.slice r.a3 r.D.attrs.length r.c3)).ownsRow B 30 6 (.slice (some ⟨g, 0, none⟩) n cap) n (iv (rs.set k r)) := by
  have hl : rs.length = n := by have := h.1; rw [iv_length] at this; omega
  have s0 := (World.ownsRow.stored h (k * 6) (.int .i64 r.D.ino)).1
  have s1 := (World.ownsRow.stored s0 (k * 6 + 1) (.int .i64 r.D.kind)).1
  have s2 := (World.ownsRow.stored s1 (k * 6 + 2) (.int .i64 r.D.links)).1
  have s3 := (World.ownsRow.stored s2 (k * 6 + 3) (.slice r.a1 r.D.data.length r.c1)).1
  have s4 := (World.ownsRow.stored s3 (k * 6 + 4) (.slice r.a2 r.D.ents.length r.c2)).1
  have s5 := (World.ownsRow.stored s4 (k * 6 + 5) (.slice r.a3 r.D.attrs.length r.c3)).1
  rw [iv_set rs k r (by omega)] at s5
  exact s5
/-- The p-th replaced. -/
theorem DQA.put {B : Nat} {W : World} {g n c lo hi : Nat} {ds : List InoR} {js : List InoJ} (h : DQA B W (.slice (some ⟨g, 0, none⟩) n c) ds js) (hn : js.length = n) (r r' : InoR) (hD : r'.D = r.D) (hG : (⟨r', lo, hi⟩ : InoJ).G W) (hlo : B ≤ lo ∧ lo ≤ hi ∧ hi ≤ W.heap.size) (hap : ∀ (i : Nat) (j : InoJ), js[i]? = some j → j.hi ≤ lo ∨ hi ≤ j.lo) (hg : g < lo ∨ hi ≤ g) (p : Nat) (hp : p < n) :
    DQA B ((((((W.setCell ⟨g, p * 6, none⟩ (.int .i64 r'.D.ino)).setCell ⟨g, p * 6 + 1, none⟩ (.int .i64 r'.D.kind)).setCell ⟨g, p * 6 + 2, none⟩ (.int .i64 r'.D.links)).setCell ⟨g, p * 6 + 3, none⟩ (.slice r'.a1 r'.D.data.length r'.c1)).setCell ⟨g, p * 6 + 4, none⟩ (.slice r'.a2 r'.D.ents.length r'.c2)).setCell ⟨g, p * 6 + 5, none⟩ (.slice r'.a3 r'.D.attrs.length r'.c3)) (.slice (some ⟨g, 0, none⟩) n c) (ds.set p r) (js.set p ⟨r', lo, hi⟩) := by
  have hrow := h.row
  rw [hn] at hrow
  have hr' := row_stored6 hrow p hp r'
  have hgr : W.grownBy ((((((W.setCell ⟨g, p * 6, none⟩ (.int .i64 r'.D.ino)).setCell ⟨g, p * 6 + 1, none⟩ (.int .i64 r'.D.kind)).setCell ⟨g, p * 6 + 2, none⟩ (.int .i64 r'.D.links)).setCell ⟨g, p * 6 + 3, none⟩ (.slice r'.a1 r'.D.data.length r'.c1)).setCell ⟨g, p * 6 + 4, none⟩ (.slice r'.a2 r'.D.ents.length r'.c2)).setCell ⟨g, p * 6 + 5, none⟩ (.slice r'.a3 r'.D.attrs.length r'.c3)) (some g) := gr_more (gr_more (gr_more (gr_more (gr_more (gr_setC W g (p * 6) _) (p * 6 + 1) _) (p * 6 + 2) _) (p * 6 + 3) _) (p * 6 + 4) _) (p * 6 + 5) _
  generalize (((((W.setCell ⟨g, p * 6, none⟩ (.int .i64 r'.D.ino)).setCell ⟨g, p * 6 + 1, none⟩ (.int .i64 r'.D.kind)).setCell ⟨g, p * 6 + 2, none⟩ (.int .i64 r'.D.links)).setCell ⟨g, p * 6 + 3, none⟩ (.slice r'.a1 r'.D.data.length r'.c1)).setCell ⟨g, p * 6 + 4, none⟩ (.slice r'.a2 r'.D.ents.length r'.c2)).setCell ⟨g, p * 6 + 5, none⟩ (.slice r'.a3 r'.D.attrs.length r'.c3) = W' at hr' hgr ⊢
  have hs := hgr.size
  have hc : ∀ (i : Nat) (j : InoJ), (js.set p ⟨r', lo, hi⟩)[i]? = some j → (i = p ∧ j = ⟨r', lo, hi⟩) ∨ (i ≠ p ∧ js[i]? = some j) := by
    intro i j e
    by_cases he : p = i
    · subst he
      rw [List.getElem?_set_self (by omega)] at e
      exact .inl ⟨rfl, by simpa using e.symm⟩
    · rw [List.getElem?_set_ne he] at e
      exact .inr ⟨fun e => he e.symm, e⟩
  refine ⟨?_, ?_, ?_, ?_, ?_, ?_⟩
  · rw [List.map_set, List.map_set, h.ds, List.map_set]
    dsimp only
    rw [hD]
  · rw [List.length_set, hn, List.map_set]
    exact hr'
  · intro i j e
    rcases hc i j e with ⟨_, rfl⟩ | ⟨_, e⟩
    · exact InoG.kept hG (fun b h1 h2 => hgr.block b (by dsimp only at h2; omega) (by dsimp only at h1 h2; simp; omega))
    · exact InoG.kept (h.G i j e) (fun b h1 h2 => hgr.block b (by have := h.lo i j e; omega) (by have := h.ap g rfl i j e; simp; omega))
  · intro i j e
    rcases hc i j e with ⟨_, rfl⟩ | ⟨_, e⟩
    · dsimp only
      omega
    · have := h.lo i j e
      omega
  · intro i i' j j' e e' hne
    rcases hc i j e with ⟨h1, rfl⟩ | ⟨h1, e⟩
    · rcases hc i' j' e' with ⟨h2, rfl⟩ | ⟨h2, e'⟩
      · omega
      · have := hap i' j' e'
        dsimp only
        omega
    · rcases hc i' j' e' with ⟨h2, rfl⟩ | ⟨h2, e'⟩
      · exact hap i j e
      · exact h.apart i i' j j' e e' hne
  · intro m hm i j e
    simp [Value.ownBlock] at hm
    subst hm
    rcases hc i j e with ⟨_, rfl⟩ | ⟨_, e⟩
    · exact hg
    · exact h.ap g rfl i j e
/-- One put in, in another row. -/
theorem DQA.ins {B : Nat} {W W' : World} {v : Value} {g n c k lo hi : Nat} {ds : List InoR} {js : List InoJ} (h : DQA B W v ds js) (hn : js.length = n) (hk : k ≤ n) (r r' : InoR) (hD : r'.D = r.D) (hs : W.heap.size ≤ W'.heap.size)
    (hrow : W'.ownsRow B 30 6 (.slice (some ⟨g, 0, none⟩) (n + 1) c) (n + 1) (iv ((js.take k).map InoJ.r) ++ r'.six ++ iv ((js.drop k).map InoJ.r))) (hkeep : ∀ (i : Nat) (j : InoJ), js[i]? = some j → ∀ b, j.lo ≤ b → b < j.hi → W'.heap[b]? = W.heap[b]?)
    (hG : (⟨r', lo, hi⟩ : InoJ).G W') (hlo : B ≤ lo ∧ lo ≤ hi ∧ hi ≤ W'.heap.size) (hap : ∀ (i : Nat) (j : InoJ), js[i]? = some j → j.hi ≤ lo ∨ hi ≤ j.lo) (hg : g < lo ∨ hi ≤ g) (hgj : ∀ (i : Nat) (j : InoJ), js[i]? = some j → g < j.lo ∨ j.hi ≤ g) :
    DQA B W' (.slice (some ⟨g, 0, none⟩) (n + 1) c) (putAt ds r k) (js.take k ++ ⟨r', lo, hi⟩ :: js.drop k) := by
  have hlt : (js.take k).length = k := by rw [List.length_take]; omega
  have hc : ∀ (i : Nat) (j : InoJ), (js.take k ++ ⟨r', lo, hi⟩ :: js.drop k)[i]? = some j → (i = k ∧ j = ⟨r', lo, hi⟩) ∨ ∃ i0, js[i0]? = some j ∧ ((i < k ∧ i0 = i) ∨ (k < i ∧ i0 + 1 = i)) := by
    intro i j e
    by_cases hi' : i < k
    · rw [List.getElem?_append_left (by omega), List.getElem?_take_of_lt hi'] at e
      exact .inr ⟨i, e, .inl ⟨hi', rfl⟩⟩
    · rw [List.getElem?_append_right (by omega), hlt] at e
      by_cases hz : i = k
      · subst hz
        simp at e
        exact .inl ⟨rfl, e.symm⟩
      · obtain ⟨m, hm⟩ : ∃ m, i - k = m + 1 := ⟨i - k - 1, by omega⟩
        rw [hm, List.getElem?_cons_succ, List.getElem?_drop] at e
        exact .inr ⟨k + m, e, .inr ⟨by omega, by omega⟩⟩
  refine ⟨?_, ?_, ?_, ?_, ?_, ?_⟩
  · have hd := h.ds
    unfold putAt
    simp only [List.map_append, List.map_cons, List.map_take, List.map_drop, hd, hD]
  · have hl : (js.take k ++ ⟨r', lo, hi⟩ :: js.drop k).length = n + 1 := by simp; omega
    rw [hl, List.map_append, List.map_cons, iv_append, iv_cons, ← List.append_assoc]
    exact hrow
  · intro i j e
    rcases hc i j e with ⟨_, rfl⟩ | ⟨i0, e0, _⟩
    · exact hG
    · exact InoG.kept (h.G i0 j e0) (hkeep i0 j e0)
  · intro i j e
    rcases hc i j e with ⟨_, rfl⟩ | ⟨i0, e0, _⟩
    · exact hlo
    · have := h.lo i0 j e0
      omega
  · intro i i' j j' e e' hne
    rcases hc i j e with ⟨h1, rfl⟩ | ⟨i0, e0, h1⟩
    · rcases hc i' j' e' with ⟨h2, rfl⟩ | ⟨i1, e1, h2⟩
      · omega
      · have := hap i1 j' e1
        dsimp only
        omega
    · rcases hc i' j' e' with ⟨h2, rfl⟩ | ⟨i1, e1, h2⟩
      · exact hap i0 j e0
      · exact h.apart i0 i1 j j' e0 e1 (by omega)
  · intro m hm i j e
    simp [Value.ownBlock] at hm
    subst hm
    rcases hc i j e with ⟨_, rfl⟩ | ⟨i0, e0, _⟩
    · exact hg
    · exact hgj i0 j e0
/-- Inodes appended onto a row of one's own; none, too. -/
theorem run_app6 (W : World) (B : Nat) (g k c : Nat) (xs : List Value) (hB : B ≤ W.heap.size) (hown : W.ownsRow B 30 6 (.slice (some ⟨g, 0, none⟩) k c) k xs) (ao : Option Addr) (m mc : Nat) (news : List Value) (hl : news.length = m * 6) (hsrc : m = 0 ∨ ∃ ad, ao = some ad ∧ ∀ j u, news[j]? = some u → W.cell? (ad.add j) = some u)
    (h1 : ∀ u ∈ news, u.oneCell' = true) (hkm : k + m ≤ 2000000) (ty : TypeId) :
    ∃ g' c' W', (Builtin.append_ #[24, 24] ty #[.slice (some ⟨g, 0, none⟩) k c, .slice ao m mc]).run Try.prog W = .ok (.slice (some ⟨g', 0, none⟩) (k + m) c') W' ∧ W'.ownsRow B 30 6 (.slice (some ⟨g', 0, none⟩) (k + m) c') (k + m) (xs ++ news) ∧ W.grownBy W' (some g) ∧ (g' = g ∨ g' = W.heap.size) ∧ g' < W'.heap.size := by
  obtain ⟨ii, hii, zi0, zi1, zi2⟩ := info_parts Try.infoInode
  have hglt : g < W.heap.size := (World.ownsRow.lt hown g rfl).2
  by_cases h0 : m = 0
  · subst h0
    obtain rfl : news = [] := List.length_eq_zero_iff.1 (by simpa using hl)
    have hs : Go.Src Try.prog ii.size 24 (.slice ao 0 mc) 0 [] W := by
      cases ao with
      | none => exact Go.Src.ofNil W Try.underlying24 mc
      | some ad => exact Go.Src.ofSlice W Try.underlying24 ad 0 mc [] (by simp) (fun j u hj => by simp at hj) (fun u hu => by simp at hu)
    have hkc : k ≤ c := by
      rcases hown.2 with ⟨h', _⟩ | ⟨g', c', cur, h', _, _, h5, _⟩
      · simp at h'
      · simp at h'
        omega
    have hr := run_append_room_src W 24 24 ty 30 ii Try.underlying24 hii g 0 k c (.slice ao 0 mc) 0 [] hs (by omega) (fun j hj => by simp at hj) (fun j hj => by simp at hj)
    refine ⟨g, c, W, ?_, by rw [Nat.add_zero, List.append_nil]; exact hown, World.grownBy.refl W _, .inl rfl, hglt⟩
    rw [hr]
    rfl
  · rcases hsrc with hz | ⟨ad, rfl, hn⟩
    · exact absurd hz h0
    · obtain ⟨g', c', W', h2, h3, h4, h5, h6⟩ := run_append_lies (P := Try.prog) W 24 ty B 30 ii _ 6 96 Try.underlying24 hii zi0 zi1 zi2 rfl (by omega) _ k xs hown ad m mc news hl hn h1 (by omega) (by unfold maxLen; omega) (by omega) hB W.heap.size rfl
      exact ⟨g', c', W', h2, h3, h4, h5.imp (fun e => by simpa [Value.ownBlock] using e.symm) id, h6⟩
/-- At the operation; at a step of a region that draws. -/
theorem wpList_app6 (W : World) {ops : Array Oper} {rest : List Oper} {o : Oper} {a : Act} {Q : Exit → Act → World → Prop} (hgd : o.guard = none) (s x : Operand)
    (ho : o.op = .call { callee := .builtin .append, args := #[s, x], argTypes := #[24, 24] }) (B g k c : Nat) (xs : List Value) (hB : B ≤ W.heap.size) (hs : a.eval s = .slice (some ⟨g, 0, none⟩) k c) (hown : W.ownsRow B 30 6 (.slice (some ⟨g, 0, none⟩) k c) k xs) (ao : Option Addr) (m mc : Nat) (hx : a.eval x = .slice ao m mc) (news : List Value) (hl : news.length = m * 6) (hsrc : m = 0 ∨ ∃ ad, ao = some ad ∧ ∀ j u, news[j]? = some u → W.cell? (ad.add j) = some u)
    (h1 : ∀ u ∈ news, u.oneCell' = true) (hkm : k + m ≤ 2000000)
    (h : ∀ g' c' W', W'.ownsRow B 30 6 (.slice (some ⟨g', 0, none⟩) (k + m) c') (k + m) (xs ++ news) → W.grownBy W' (some g) → (g' = g ∨ g' = W.heap.size) → g' < W'.heap.size → wpList Try.prog ops Q rest (a.put o.dst (.slice (some ⟨g', 0, none⟩) (k + m) c')) W') :
    wpList Try.prog ops Q (o :: rest) a W := by
  refine wpList_plain hgd fun K hK => ?_
  obtain ⟨g', c', W', e1, e2, e3, e4, e5⟩ := run_app6 W B g k c xs hB hown ao m mc news hl hsrc h1 hkm o.type
  unfold Oper.wp execOp
  simp only [ho, resolve, invoke, builtin, Sem.run_bind, Sem.run_pure, Result.andThen_ok, List.map_toArray, List.map_cons, List.map_nil, hs, hx, e1]
  exact hK _ _ (h g' c' W' e2 e3 e4 e5)
theorem step_app6 (W : World) {ops : Array Oper} {o : Oper} {a : Act} {K : Act → World → Prop} {Q : Exit → Act → World → Prop} {E : Prop} (hgd : o.guard = none) (s x : Operand)
    (ho : o.op = .call { callee := .builtin .append, args := #[s, x], argTypes := #[24, 24] }) (B g k c : Nat) (xs : List Value) (hB : B ≤ W.heap.size) (hs : a.eval s = .slice (some ⟨g, 0, none⟩) k c) (hown : W.ownsRow B 30 6 (.slice (some ⟨g, 0, none⟩) k c) k xs) (ao : Option Addr) (m mc : Nat) (hx : a.eval x = .slice ao m mc) (news : List Value) (hl : news.length = m * 6) (hsrc : m = 0 ∨ ∃ ad, ao = some ad ∧ ∀ j u, news[j]? = some u → W.cell? (ad.add j) = some u)
    (h1 : ∀ u ∈ news, u.oneCell' = true) (hkm : k + m ≤ 2000000)
    (h : ∀ g' c' W', W'.ownsRow B 30 6 (.slice (some ⟨g', 0, none⟩) (k + m) c') (k + m) (xs ++ news) → W.grownBy W' (some g) → (g' = g ∨ g' = W.heap.size) → g' < W'.heap.size → K (a.put o.dst (.slice (some ⟨g', 0, none⟩) (k + m) c')) W') :
    if Region.wanted o (yielded ops a.tmps) = true then Oper.wp Try.prog o a W K Q else E := by
  have hw : Region.wanted o (yielded ops a.tmps) = true := by simp [Region.wanted, hgd]
  rw [if_pos hw]
  obtain ⟨g', c', W', e1, e2, e3, e4, e5⟩ := run_app6 W B g k c xs hB hown ao m mc news hl hsrc h1 hkm o.type
  unfold Oper.wp execOp
  simp only [ho, resolve, invoke, builtin, Sem.run_bind, Sem.run_pure, Result.andThen_ok, List.map_toArray, List.map_cons, List.map_nil, hs, hx, e1]
  exact h g' c' W' e2 e3 e4 e5
theorem iv_one (rs : List InoR) : ∀ u ∈ iv rs, u.oneCell' = true := fun u hu => by
  unfold iv at hu
  obtain ⟨r, _, hr⟩ := List.mem_flatMap.1 hu
  exact six_one r u hr
theorem iv_take (rs : List InoR) (k : Nat) : iv (rs.take k) = (iv rs).take (k * 6) := by
  by_cases h : k ≤ rs.length
  · have e : iv rs = iv (rs.take k) ++ iv (rs.drop k) := by rw [← iv_append, List.take_append_drop]
    rw [e, List.take_left' (by rw [iv_length, List.length_take]; omega)]
  · rw [List.take_of_length_le (by omega), List.take_of_length_le (by rw [iv_length]; omega)]
theorem iv_drop (rs : List InoR) (k : Nat) : iv (rs.drop k) = (iv rs).drop (k * 6) := by
  by_cases h : k ≤ rs.length
  · have e : iv rs = iv (rs.take k) ++ iv (rs.drop k) := by rw [← iv_append, List.take_append_drop]
    rw [e, List.drop_left' (by rw [iv_length, List.length_take]; omega)]
  · rw [List.drop_of_length_le (by omega), List.drop_of_length_le (by rw [iv_length]; omega)]
    rfl
/-- The cells of a table's row. -/
theorem DQA.cell {B : Nat} {W : World} {g n c : Nat} {ds : List InoR} {js : List InoJ} (h : DQA B W (.slice (some ⟨g, 0, none⟩) n c) ds js) (hn : js.length = n) (j : Nat) (u : Value) (hu : (iv (js.map InoJ.r))[j]? = some u) : W.cell? ⟨g, j, none⟩ = some u := by
  have hr := h.row
  rw [hn] at hr
  have hj := (List.getElem?_eq_some_iff.1 hu).1
  rw [hr.1] at hj
  rw [World.ownsRow.cellAt hr j (by omega)]
  exact hu
theorem DQA.own {B : Nat} {W : World} {g n c : Nat} {ds : List InoR} {js : List InoJ} (h : DQA B W (.slice (some ⟨g, 0, none⟩) n c) ds js) (hn : js.length = n) : OwnI W g n c (js.map InoJ.r) := by
  rcases h.cases hn with ⟨h', _⟩ | ⟨g', h', _, ho⟩
  · simp at h'
  · simp at h'
    subst h'
    exact ho
end

section
open Go.RowKit
/-- The values can be read from an address on. -/
def RdV (w : World) (a : Option Addr) (vs : List Value) : Prop := vs = [] ∨ ∃ b off, a = some ⟨b, off, none⟩ ∧ ∀ (i : Nat) (v : Value), vs[i]? = some v → w.cell? ⟨b, off + i, none⟩ = some v
theorem RdV.lt {w : World} {a : Option Addr} {vs : List Value} (h : RdV w a vs) (hz : vs ≠ []) : ∃ b off, a = some ⟨b, off, none⟩ ∧ b < w.heap.size ∧ ∀ (i : Nat) (v : Value), vs[i]? = some v → w.cell? ⟨b, off + i, none⟩ = some v := by
  rcases h with h | ⟨b, off, rfl, hc⟩
  · exact absurd h hz
  · obtain ⟨v, l, rfl⟩ := List.exists_cons_of_ne_nil hz
    exact ⟨b, off, rfl, World.block_lt_of_cell? w _ (hc 0 v rfl), hc⟩
theorem RdV.keep {w w' : World} {a : Option Addr} {vs : List Value} (h : RdV w a vs) (hb : Below w.heap.size w w') : RdV w' a vs := by
  by_cases hz : vs = []
  · exact .inl hz
  · obtain ⟨b, off, rfl, hlt, hc⟩ := h.lt hz
    exact .inr ⟨b, off, rfl, fun i v hi => (hb.cell (p := ⟨b, off + i, none⟩) hlt).trans (hc i v hi)⟩
theorem rowV_rd {w : World} {B : Nat} {e : TypeId} {g n c : Nat} {vs : List Value} (h : w.ownsRow B e 1 (.slice (some ⟨g, 0, none⟩) n c) n vs) : RdV w (some ⟨g, 0, none⟩) vs := by
  refine .inr ⟨g, 0, rfl, fun i v hi => ?_⟩
  have hl := (List.getElem?_eq_some_iff.1 hi).1
  have hn := h.1
  rw [Nat.zero_add, World.ownsRow.cellAt h i (by omega)]
  exact hi
/-- Numbers as cells. -/
def iV (xs : List Int) : List Value := xs.map (Value.int .i64)
theorem iV_len (xs : List Int) : (iV xs).length = xs.length := by simp [iV]
theorem iV_at {xs : List Int} {k : Nat} {x : Int} (h : xs[k]? = some x) : (iV xs)[k]? = some (.int .i64 x) := by simp [iV, h]
theorem iV_one (xs : List Int) : ∀ u ∈ iV xs, u.oneCell' = true := fun u hu => by obtain ⟨z, _, rfl⟩ := List.mem_map.1 hu; rfl
theorem Try.info3 : (Try.prog.info? 3).map (fun i => (i.zero, i.size, i.bytes)) = some (some (.int .i64 0), 1, 8) := by kernel_rfl
/-- A row of one cell an element, appended to a fresh empty one. -/
theorem fresh_vals (W : World) (B g : Nat) (t e : TypeId) (i : TypeInfo) (z : Value) (bytes : Nat) (ht : Try.prog.underlying t = some (.slice e)) (hi : Try.prog.info? e = some i) (hz : i.zero = some z) (hsize : i.size = 1) (hby : i.bytes = bytes) (hzs : z.cells.size = 1) (hb64 : bytes ≤ 64) (a : Option Addr) (n c : Nat) (vs : List Value) (hn : vs.length = n) (hs : n ≤ 8000000) (hone : ∀ u ∈ vs, u.oneCell' = true) (hB : B ≤ g) (hown : W.ownsRow B e 1 (.slice (some ⟨g, 0, none⟩) 0 0) 0 []) (hr : RdV W a vs) (ty : TypeId) :
    ∃ g' c' W', (Builtin.append_ #[t, t] ty #[.slice (some ⟨g, 0, none⟩) 0 0, .slice a n c]).run Try.prog W = .ok (.slice (some ⟨g', 0, none⟩) n c') W' ∧ W'.ownsRow B e 1 (.slice (some ⟨g', 0, none⟩) n c') n vs ∧ B ≤ g' ∧ g' < W'.heap.size ∧ Below W.heap.size W W' := by
  refine run_fresh W B t ty e i z 1 bytes ht hi hz hsize hby hzs (by omega) g hB hown a n c vs (by simp [hn]) ?_ (fun _ => by cases a with | none => exact .inl rfl | some ad => exact .inr ⟨ad, rfl⟩) hone hs hb64
  rcases hr with rfl | ⟨b, off, rfl, hc⟩
  · exact .inl rfl
  · exact .inr ⟨_, rfl, fun j u hj => by rw [show (⟨b, off, none⟩ : Addr).add j = ⟨b, off + j, none⟩ by simp [Addr.add]]; exact hc j u hj⟩
/-- One more element of one cell. -/
theorem wpList_app1 (w : World) {ops : Array Oper} {rest : List Oper} {o : Oper} {a : Act} {Q : Exit → Act → World → Prop} (hgd : o.guard = none) (s x : Operand) (t e : TypeId)
    (ho : o.op = .call { callee := .builtin .append, args := #[s, x], argTypes := #[t, t] }) (ht : Try.prog.underlying t = some (.slice e)) (i : TypeInfo) (z : Value) (bytes : Nat) (hi : Try.prog.info? e = some i) (hz : i.zero = some z) (hsz : i.size = 1) (hby : i.bytes = bytes) (hzs : z.cells.size = 1) (hb64 : bytes ≤ 64)
    (B g k c : Nat) (vs : List Value) (hs : a.eval s = .slice (some ⟨g, 0, none⟩) k c) (hown : w.ownsRow B e 1 (.slice (some ⟨g, 0, none⟩) k c) k vs)
    (ad : Nat) (u : Value) (hx : a.eval x = .slice (some ⟨ad, 0, none⟩) 1 1) (hcell : w.cell? ⟨ad, 0, none⟩ = some u) (hone : u.oneCell' = true) (hk : k ≤ 8000000) (hB : B ≤ w.heap.size) (H : Nat) (hH : w.heap.size = H)
    (h : ∀ g' c' w', w'.ownsRow B e 1 (.slice (some ⟨g', 0, none⟩) (k + 1) c') (k + 1) (vs ++ [u]) → w.grownBy w' (some g) → (g' = g ∨ g' = H) → wpList Try.prog ops Q rest (a.put o.dst (.slice (some ⟨g', 0, none⟩) (k + 1) c')) w') :
    wpList Try.prog ops Q (o :: rest) a w := by
  refine wpList_append_own_at w hgd s x t ho B e i z 1 bytes ht hi hz hsz hby hzs (by decide) _ k vs hs hown ⟨ad, 0, none⟩ 1 1 [u] hx rfl ?_ (by intro y hy; simp at hy; subst hy; exact hone) (by unfold maxLen; omega) (by have : (k + 1) * bytes ≤ 8000001 * 64 := Nat.mul_le_mul (by omega) hb64; omega) hB ?_
  · intro j y hj
    cases j with
    | zero => simp at hj; subst hj; simpa [Addr.add] using hcell
    | succ j => simp at hj
  · intro v' w' h1 h2 _ h4
    obtain ⟨g', c', rfl⟩ := ownsRow_succ h1
    refine h g' c' w' h1 h2 ?_
    rcases h4 with h4 | h4
    · left; simpa [Value.ownBlock] using h4
    · right; rw [← hH]; simpa [Value.ownBlock] using h4
set_option maxRecDepth 100000 in
set_option maxHeartbeats 2000000 in
theorem l7HasS (a : Option Addr) (n cap : Nat) (x : Int) (xs : List Int) (w : World) (hn : xs.length = n) (hs : n ≤ 4000000) (hr : RdV w a (iV xs)) :
    Calls Try.prog 95 #[.slice a n cap, .int .i64 x] w fun e w' => e = .returned (.bool (decide (x ∈ xs))) ∧ w' = w := by
  have hn' : Hid (xs.length = n) := hn
  have HR : Hid _ := hr
  have hR : Hid (∀ k : Nat, xs[k]? = some x → true = decide (x ∈ xs)) := fun k hk => by
    have := List.mem_of_getElem? hk
    simp [this]
  have hE : Hid ((∀ j, j < n → xs[j]? ≠ some x) → false = decide (x ∈ xs)) := by
    intro h
    have : x ∉ xs := fun hm => by
      obtain ⟨j, hj⟩ := List.getElem?_of_mem hm
      exact h j (by rw [← hn]; exact (List.getElem?_eq_some_iff.1 hj).1) hj
    simp [this]
  generalize decide (x ∈ xs) = R at hR hE ⊢
  clear hr hn
  go_enter Try.func95, Try.ntmps95
  go_wp2
  go_loop [5] (fun i => ∃ k : Nat, k ≤ n ∧ i = .int .i64 k ∧ Hid (∀ j, j < k → xs[j]? ≠ some x)) (fun i => n - (intOf i).toNat)
  case atStart => exact ⟨0, Nat.zero_le _, rfl, fun j hj => by omega⟩
  case round =>
    obtain ⟨k, hk, rfl, hall⟩ := hrel
    by_cases hkn : k < n
    · have hki : (k : Int) < (n : Int) := by omega
      have hkl : k < xs.length := by rw [hn'.out]; exact hkn
      obtain ⟨y, hy⟩ : ∃ y, xs[k]? = some y := ⟨_, List.getElem?_eq_getElem hkl⟩
      obtain ⟨b, off, rfl, hlt, hc⟩ := RdV.lt HR.out (by intro h; have := congrArg List.length h; rw [iV_len] at this; simp at this; rw [this] at hkl; simp at hkl)
      have x0 := hc k _ (iV_at hy)
      have hyes : Hid (y = x → true = R) := fun he => hR.out k (he ▸ hy)
      have hno : Hid (y ≠ x → ∀ j, j < k + 1 → xs[j]? ≠ some x) := by
        intro he j hj
        rcases (show j < k ∨ j = k by omega) with h | rfl
        · exact hall.out j h
        · rw [hy]
          simpa using he
      clear hc hy hall hR hE HR
      by_cases he : y = x
      · have hb : (y == x) = true := by simp [he]
        have hend : Hid (true = R) := hyes.out he
        subst he
        clear hyes hno
        go_wp2
        go_ret
        exact ⟨ret_bool hend.out, rfl⟩
      · have hb : (y == x) = false := by simp [he]
        have hnx : Hid _ := hno.out he
        clear hyes hno
        go_wp2
        go_round
        case rel => exact ⟨k + 1, by omega, by go_num, hnx⟩
        case measure => simp [intOf]; omega
    · have hki : ¬ (k : Int) < (n : Int) := by omega
      have hend : Hid (false = R) := hE.out (fun j hj => hall.out j (by omega))
      clear hR hE HR hall
      go_wp2
      go_ret
      exact ⟨ret_bool hend.out, rfl⟩
/-- The row while the greater ones are moved. -/
theorem hole_step {α : Type} {l : List α} {q : Nat} {y : α} (u : α) (h : l[q]? = some y) : (l.take (q + 1) ++ u :: l.drop (q + 1)).set (q + 1) y = l.take q ++ y :: l.drop q := by
  have hq := (List.getElem?_eq_some_iff.1 h).1
  have h1 : (l.take (q + 1)).length = q + 1 := by simp; omega
  rw [List.set_append_right _ _ (by omega), h1, Nat.sub_self, List.set_cons_zero, List.take_add_one, h]
  have h2 : l.drop q = y :: l.drop (q + 1) := by
    rw [List.drop_eq_getElem_cons hq]
    congr 1
    exact (List.getElem?_eq_some_iff.1 h).2
  rw [h2]
  simp
theorem hole_end {α : Type} {l : List α} {p : Nat} (u x : α) (hp : p ≤ l.length) : (l.take p ++ u :: l.drop p).set p x = l.take p ++ x :: l.drop p := by
  have h1 : (l.take p).length = p := by simp; omega
  rw [List.set_append_right _ _ (by omega), h1, Nat.sub_self, List.set_cons_zero]
theorem hole_left {α : Type} {l : List α} {p q : Nat} {y : α} (u : α) (hq : q < p) (hp : p ≤ l.length) (h : l[q]? = some y) : (l.take p ++ u :: l.drop p)[q]? = some y := by
  rw [List.getElem?_append_left (by simp; omega), List.getElem?_take_of_lt hq, h]
theorem hole_len {α : Type} {l : List α} {p : Nat} (u : α) (hp : p ≤ l.length) : (l.take p ++ u :: l.drop p).length = l.length + 1 := by simp; omega
theorem drop_mem {α : Type} {l : List α} {q : Nat} {y z : α} (h : l[q]? = some y) (hz : z ∈ l.drop q) : z = y ∨ z ∈ l.drop (q + 1) := by
  have hq := (List.getElem?_eq_some_iff.1 h).1
  rw [List.drop_eq_getElem_cons hq] at hz
  rcases List.mem_cons.1 hz with hz | hz
  · exact .inl (hz.trans (List.getElem?_eq_some_iff.1 h).2)
  · exact .inr hz
end

section
open Go.RowKit
set_option maxRecDepth 100000 in
set_option maxHeartbeats 4000000 in
theorem l7PutS (a : Option Addr) (n cap : Nat) (x : Int) (xs : List Int) (w : World) (hn : xs.length = n) (hs : n ≤ 4000000) (hr : RdV w a (iV xs)) :
    Calls Try.prog 67 #[.slice a n cap, .int .i64 x] w fun e w' => ∃ a' c', e = .returned (.slice a' (putI xs x).length c') ∧ RdV w' a' (iV (putI xs x)) ∧ Below w.heap.size w w' := by
  have hcH := l7HasS a n cap x xs w hn hs hr
  by_cases hx : x ∈ xs
  · have hp : putI xs x = xs := by unfold putI; rw [if_pos hx]
    rw [hp, hn]
    have HR : Hid _ := hr
    rw [decide_eq_true hx] at hcH
    clear hr hp hx hn
    go_enter Try.func67, Try.ntmps67
    go_wp2_with fail
    (with_reducible refine hcH.mono ?_)
    rintro e w1 ⟨rfl, hw1⟩
    obtain rfl := hw1.symm
    clear hcH
    go_wp2
    go_ret
    exact ⟨a, cap, rfl, HR.out, Below.refl _ _⟩
  · have hp : putI xs x = insBy (fun y => decide (x < y)) xs x := by unfold putI; rw [if_neg hx]
    rw [hp, insBy_len, hn]
    rw [decide_eq_false hx] at hcH
    have hn' : Hid (xs.length = n) := hn
    obtain ⟨i0, hi, hz0, hz1, hz2⟩ := info_parts Try.info3
    have hfr := fun ty => fresh_vals (w.alloc (.cells #[] 3)) w.heap.size w.heap.size 46 3 i0 (.int .i64 0) 8 Try.underlying46 hi hz0 hz1 hz2 rfl (by omega) a n cap (iV xs) (by rw [iV_len, hn]) (by omega) (iV_one xs) (Nat.le_refl _) (empty_row w w.heap.size 3 1 (Nat.le_refl _)) (hr.keep ((Below.refl _ w).alloc (Nat.le_refl _) _)) ty
    have BA : Below w.heap.size w (w.alloc (.cells #[] 3)) := (Below.refl _ w).alloc (Nat.le_refl _) _
    have HF : Hid _ := hfr
    clear hp hx hn hr hfr
    go_enter Try.func67, Try.ntmps67
    go_wp2_with fail
    (with_reducible refine hcH.mono ?_)
    rintro e w1 ⟨rfl, hw1⟩
    obtain rfl := hw1.symm
    clear hcH
    go_wp2_with (at_builtin; (first | refine wpList_fresh _ rfl (.tmp 11) (.tmp 12) 46 rfl w.heap.size w.heap.size a n cap 3 1 (iV xs) rfl rfl HF.out ?_; intro g1 c1 W1 o1 hg1 hl1 hb1 | refine wpList_app1 (W1.alloc (.cells #[.int .i64 x] 3)) rfl (.tmp 13) (.tmp 15) 46 3 rfl Try.underlying46 i0 (.int .i64 0) 8 hi hz0 hz1 hz2 rfl (by omega) w.heap.size g1 n c1 (iV xs) rfl (World.ownsRow.alloc o1 _) W1.heap.size (.int .i64 x) rfl (Blk.new W1 3 #[.int .i64 x] |>.cell 0) rfl (by omega) (by have := BA.size; have := hb1.size; simp at this ⊢; omega) (W1.heap.size + 1) (by simp) ?_; intro g2 c2 W2 o2 hg2 hat2))
    have hb2 : Below w.heap.size w W2 := by
      have h1 : Below w.heap.size w W1 := BA.trans (hb1.mono BA.size)
      have h2 := h1.alloc h1.size (.cells #[.int .i64 x] 3)
      exact h2.grown hg2 h2.size (fun m hm => by simp at hm; omega)
    have o2' : W2.ownsRow w.heap.size 3 1 (.slice (some ⟨g2, 0, none⟩) (n + 1) c2) (n + 1) (iV (xs.take n ++ x :: xs.drop n)) := by
      have e : iV (xs.take n ++ x :: xs.drop n) = iV xs ++ [.int .i64 x] := by
        rw [List.take_of_length_le (by rw [hn'.out]; omega), List.drop_of_length_le (by rw [hn'.out]; omega)]
        simp [iV]
      rw [e]
      exact o2
    have hgl : w.heap.size ≤ g2 := (World.ownsRow.lt o2 g2 rfl).1
    clear o1 o2 hg2 hb1 hat2 HF BA hl1 hi hz0 hz1 hz2
    go_loopw [6] (fun k wr => ∃ (p : Nat) (u : Int), p ≤ n ∧ k = .int .i64 p ∧ wr.ownsRow w.heap.size 3 1 (.slice (some ⟨g2, 0, none⟩) (n + 1) c2) (n + 1) (iV (xs.take p ++ u :: xs.drop p)) ∧ Below w.heap.size w wr ∧ Hid (∀ y ∈ xs.drop p, decide (x < y) = true)) (fun k _ => (intOf k).toNat)
    case atStart => exact ⟨n, x, Nat.le_refl _, by go_num, o2', hb2, fun y hy => by rw [List.drop_of_length_le (by rw [hn'.out]; omega)] at hy; simp at hy⟩
    case round =>
      obtain ⟨p, u, hp, rfl, ho, hb, hgt⟩ := hrel
      clear o2' hb2
      have fin : Hid (∀ W : World, W = wr.setCell ⟨g2, p, none⟩ (.int .i64 x) → (p = 0 ∨ ∃ y, xs[p - 1]? = some y ∧ decide (x < y) = false) → RdV W (some ⟨g2, 0, none⟩) (iV (insBy (fun y => decide (x < y)) xs x)) ∧ Below w.heap.size w W) := by
        intro W hW hc
        subst hW
        have h1 := (World.ownsRow.stored ho p (.int .i64 x)).1
        have e : (iV (xs.take p ++ u :: xs.drop p)).set p (.int .i64 x) = iV (insBy (fun y => decide (x < y)) xs x) := by
          rw [insBy_at (by rw [hn'.out]; exact hp) hgt.out hc]
          unfold iV
          rw [← List.map_set, hole_end u x (by rw [hn'.out]; exact hp)]
        rw [e] at h1
        exact ⟨rowV_rd h1, hb.setCell (p := ⟨g2, p, none⟩) hgl _⟩
      have hlen := hole_len u (show p ≤ xs.length by rw [hn'.out]; exact hp)
      have hcp := World.ownsRow.cellAt ho p (by omega)
      have hfp := World.ownsRow.frozenAt ho p
      obtain ⟨V, hV⟩ : ∃ V, (iV (xs.take p ++ u :: xs.drop p))[p]? = some V := ⟨_, List.getElem?_eq_getElem (by rw [iV_len, hlen, hn'.out]; omega)⟩
      rw [hV] at hcp
      have hpn1 : (p : Int) < ((n + 1 : Nat) : Int) := by omega
      have hp0' : (0 : Int) ≤ (p : Int) := by omega
      rcases Nat.eq_zero_or_pos p with rfl | hpos
      · have HD : Hid _ := fin.out _ rfl (.inl rfl)
        clear fin ho hb hgt hV hlen
        go_wp2
        go_ret
        exact ⟨_, _, rfl, HD.out⟩
      · obtain ⟨q, rfl⟩ : ∃ q, p = q + 1 := ⟨p - 1, by omega⟩
        have hql : q < xs.length := by rw [hn'.out]; omega
        obtain ⟨y, hy⟩ : ∃ y, xs[q]? = some y := ⟨_, List.getElem?_eq_getElem hql⟩
        have hcq := World.ownsRow.cellAt ho q (by omega)
        rw [iV_at (hole_left u (Nat.lt_succ_self q) (by rw [hn'.out]; exact hp) hy)] at hcq
        have hgt0 : (0 : Int) < ((q + 1 : Nat) : Int) := by omega
        have hqn : (q : Int) < ((n + 1 : Nat) : Int) := by omega
        have hq0 : (0 : Int) ≤ (q : Int) := by omega
        have hsub : (((q + 1 : Nat) : Int) - 1) = (q : Int) := by omega
        by_cases hxy : x < y
        · have hst := (World.ownsRow.stored ho (q + 1) (.int .i64 y)).1
          have e : (iV (xs.take (q + 1) ++ u :: xs.drop (q + 1))).set (q + 1) (.int .i64 y) = iV (xs.take q ++ y :: xs.drop q) := by
            unfold iV
            rw [← List.map_set, hole_step u hy]
          rw [e] at hst
          have hb' := hb.setCell (p := ⟨g2, q + 1, none⟩) hgl (.int .i64 y)
          have hgt' : Hid (∀ z ∈ xs.drop q, decide (x < z) = true) := fun z hz => by
            rcases drop_mem hy hz with rfl | hz
            · exact decide_eq_true hxy
            · exact hgt.out z hz
          clear fin ho hb hgt hV hlen e
          go_wp2
          go_roundw
          case rel => exact ⟨q, y, by omega, by go_num, hst, hb', hgt'⟩
          case measure => simp [intOf]
        · have HD : Hid _ := fin.out _ rfl (.inr ⟨y, by rw [Nat.add_sub_cancel]; exact hy, decide_eq_false hxy⟩)
          clear fin ho hb hgt hV hlen
          go_wp2
          go_ret
          first | exact ⟨_, _, rfl, HD.out⟩ | exact ⟨_, ⟨_, rfl⟩, HD.out⟩
end

section
open Go.RowKit
def foldN (ds : List InoD) (l : List Int) (o : List Int) : List Int := l.foldl (fun o x => addE ds o (dirEnts ds x)) o
theorem foldN_drop {ds : List InoD} {l o : List Int} {k : Nat} {x : Int} (h : l[k]? = some x) : foldN ds (l.drop k) o = foldN ds (l.drop (k + 1)) (addE ds o (dirEnts ds x)) := by
  have hk := (List.getElem?_eq_some_iff.1 h).1
  unfold foldN
  rw [List.drop_eq_getElem_cons hk, List.foldl_cons, (List.getElem?_eq_some_iff.1 h).2]
theorem addE_drop {ds : List InoD} {es : List (ByteArray × Int)} {o : List Int} {k : Nat} (h : k < es.length) : addE ds o (es.drop k) = addE ds (if (look ds es[k].2).isSome then putI o es[k].2 else o) (es.drop (k + 1)) := by
  unfold addE
  rw [List.drop_eq_getElem_cons h, List.foldl_cons]
/-- Six cells of a box stored anew. -/
theorem blk6 {W : World} {X : Nat} {t : TypeId} {u0 u1 u2 u3 u4 u5 : Value} (h : Blk W X t #[u0, u1, u2, u3, u4, u5]) (v0 v1 v2 v3 v4 v5 : Value) : Blk ((((((W.setCell ⟨X, 0, none⟩ v0).setCell ⟨X, 1, none⟩ v1).setCell ⟨X, 2, none⟩ v2).setCell ⟨X, 3, none⟩ v3).setCell ⟨X, 4, none⟩ v4).setCell ⟨X, 5, none⟩ v5) X t #[v0, v1, v2, v3, v4, v5] :=
  (((((h.set 0 v0).set 1 v1).set 2 v2).set 3 v3).set 4 v4).set 5 v5
theorem gr6s (W : World) (X : Nat) (v0 v1 v2 v3 v4 v5 : Value) : W.grownBy ((((((W.setCell ⟨X, 0, none⟩ v0).setCell ⟨X, 1, none⟩ v1).setCell ⟨X, 2, none⟩ v2).setCell ⟨X, 3, none⟩ v3).setCell ⟨X, 4, none⟩ v4).setCell ⟨X, 5, none⟩ v5) (some X) :=
  gr_more (gr_more (gr_more (gr_more (gr_more (gr_setC W _ 0 _) 1 _) 2 _) 3 _) 4 _) 5 _
theorem InoG.ents_rd {w : World} {B T : Nat} {D : InoD} {v1 v3 : Value} {a2 : Option Addr} {c2 : Nat} (h : InoG w B T D v1 (.slice a2 D.ents.length c2) v3) : RdP w a2 (eP D.ents) := by
  obtain ⟨_, _, _, _, _, _, _, e2, _, r⟩ := h.form
  simp only [Value.slice.injEq, true_and] at e2
  rw [e2.1]
  exact r.ents
/-- An inode that InodeAt answered, in a box of its own. -/
structure NXR (W0 : World) (D : InoD) (ok : Bool) (p q : Value) (wx : World) : Prop where
  ex : ∃ (X : Nat) (b1 : Option Addr) (d1 : Nat) (b2 : Option Addr) (d2 : Nat) (b3 : Option Addr) (d3 : Nat), p = .pointer (some ⟨X, 0, none⟩) ∧ W0.heap.size ≤ X ∧ Blk wx X 30 #[.int .i64 D.ino, .int .i64 D.kind, .int .i64 D.links, .slice b1 D.data.length d1, .slice b2 D.ents.length d2, .slice b3 D.attrs.length d3] ∧ InoRd wx D b1 b2 b3
  ok : q = .bool ok
  below : Below W0.heap.size W0 wx
theorem InoG.rds {w : World} {B T : Nat} {D : InoD} {a1 a2 a3 : Option Addr} {c1 c2 c3 : Nat} (h : InoG w B T D (.slice a1 D.data.length c1) (.slice a2 D.ents.length c2) (.slice a3 D.attrs.length c3)) : InoRd w D a1 a2 a3 := by
  obtain ⟨_, _, _, _, _, _, e1, e2, e3, r⟩ := h.form
  simp only [Value.slice.injEq, true_and] at e1 e2 e3
  rw [e1.1, e2.1, e3.1]
  exact r
theorem nxrA {W0 wr W : World} {D : InoD} {ok : Bool} {b1 b2 b3 : Option Addr} {d1 d2 d3 : Nat} (hB : Below W0.heap.size W0 wr) (hb : Below wr.heap.size wr W) (g : InoG W wr.heap.size W.heap.size D (.slice b1 D.data.length d1) (.slice b2 D.ents.length d2) (.slice b3 D.attrs.length d3)) :
    NXR W0 D ok (.pointer (some ⟨W.heap.size, 0, none⟩)) (.bool ok) (W.alloc (.cells #[.int .i64 D.ino, .int .i64 D.kind, .int .i64 D.links, .slice b1 D.data.length d1, .slice b2 D.ents.length d2, .slice b3 D.attrs.length d3] 30)) := by
  have hB1 : Below W0.heap.size W0 W := hB.trans (hb.mono hB.size)
  exact ⟨⟨W.heap.size, b1, d1, b2, d2, b3, d3, rfl, hB1.size, Blk.new W _ _, g.rds.keep ((Below.refl _ W).alloc (Nat.le_refl _) _)⟩, rfl, hB1.alloc hB1.size _⟩
theorem nxrB {W0 wr W : World} {D : InoD} {ok : Bool} {b1 b2 b3 : Option Addr} {d1 d2 d3 : Nat} {u0 u1 u2 u3 u4 u5 : Value} {X lo : Nat} (hB : Below W0.heap.size W0 wr) (hX : W0.heap.size ≤ X) (hlo : X < lo ∨ W.heap.size ≤ X) (hb : Below wr.heap.size wr W) (z : Blk W X 30 #[u0, u1, u2, u3, u4, u5]) (g : InoG W lo W.heap.size D (.slice b1 D.data.length d1) (.slice b2 D.ents.length d2) (.slice b3 D.attrs.length d3)) :
    NXR W0 D ok (.pointer (some ⟨X, 0, none⟩)) (.bool ok) ((((((W.setCell ⟨X, 0, none⟩ (.int .i64 D.ino)).setCell ⟨X, 1, none⟩ (.int .i64 D.kind)).setCell ⟨X, 2, none⟩ (.int .i64 D.links)).setCell ⟨X, 3, none⟩ (.slice b1 D.data.length d1)).setCell ⟨X, 4, none⟩ (.slice b2 D.ents.length d2)).setCell ⟨X, 5, none⟩ (.slice b3 D.attrs.length d3)) := by
  have hB1 : Below W0.heap.size W0 W := hB.trans (hb.mono hB.size)
  have gg := gr6s W X (.int .i64 D.ino) (.int .i64 D.kind) (.int .i64 D.links) (.slice b1 D.data.length d1) (.slice b2 D.ents.length d2) (.slice b3 D.attrs.length d3)
  exact ⟨⟨X, b1, d1, b2, d2, b3, d3, rfl, hX, blk6 z _ _ _ _ _ _, (g.kept fun b h1 h2 => gg.block b h2 (by simp; omega)).rds⟩, rfl, hB1.grown gg hB1.size (fun m hm => by simp at hm; omega)⟩
set_option maxRecDepth 100000 in
set_option maxHeartbeats 4000000 in
theorem l7NextS (a : Option Addr) (n cap : Nat) (nx : Int) (rs : List InoR) (la : Option Addr) (m lc : Nat) (xs : List Int) (w : World) (ht : TR w a n rs) (hm : xs.length = m) (hl : RdV w la (iV xs)) (hin : InTab (rs.map InoR.D) xs) :
    Calls Try.prog 47 #[.agg #[.slice a n cap, .int .i64 nx], .slice la m lc] w fun e w' => ∃ a' c', e = .returned (.slice a' (nextD (rs.map InoR.D) xs).length c') ∧ RdV w' a' (iV (nextD (rs.map InoR.D) xs)) ∧ Below w.heap.size w w' := by
  have B0 : Below w.heap.size w (w.alloc (.cells #[.slice a n cap, .int .i64 nx] 26)) := (Below.refl _ w).alloc (Nat.le_refl _) _
  have z0 := Blk.new w 26 #[.slice a n cap, .int .i64 nx]
  obtain ⟨ds, hds⟩ : ∃ ds, rs.map InoR.D = ds := ⟨_, rfl⟩
  rw [hds] at hin ⊢
  have HDS : Hid _ := hds
  have hm' : Hid (xs.length = m) := hm
  obtain ⟨R, hR⟩ : ∃ R, nextD ds xs = R := ⟨_, rfl⟩
  rw [hR]
  have HR : Hid (foldN ds (xs.drop 0) xs = R) := hR
  have hmn : m ≤ 1048576 := by
    have h1 := hin.len
    have h2 : ds.length = n := by rw [← hds, List.length_map, ht.len]
    have := ht.n
    omega
  have HT0 := ht.keep B0
  have HL0 := hl.keep B0
  have HI : Hid _ := hin
  clear ht hl hds hm hR hin
  go_enter Try.func47, Try.ntmps47
  go_wp2
  obtain ⟨W0, hW0⟩ : ∃ W, w.alloc (.cells #[.slice a n cap, .int .i64 nx] 26) = W := ⟨_, rfl⟩
  rw [hW0] at B0 z0 HT0 HL0 ⊢
  clear hW0
  have HT : Hid _ := HT0
  have HL : Hid _ := HL0
  have HZ : Hid _ := z0
  have HB0 : Hid _ := B0
  have hws : w.heap.size ≤ W0.heap.size := B0.size
  clear HT0 HL0 z0 B0
  go_loopw [5, 6] (fun o i wr => ∃ (k : Nat) (ov : List Int) (oa : Option Addr) (on oc : Nat), k ≤ m ∧ i = .int .i64 k ∧ o = .slice oa on oc ∧ ov.length = on ∧ RdV wr oa (iV ov) ∧ Hid (InTab ds ov) ∧ Hid (foldN ds (xs.drop k) ov = R) ∧ Below W0.heap.size W0 wr) (fun _ i _ => m - (intOf i).toNat)
  case atStart => exact ⟨0, xs, la, m, lc, Nat.zero_le _, rfl, rfl, hm'.out, HL.out, HI, HR, Below.refl _ _⟩
  case round =>
    obtain ⟨k, ov, oa, on, oc, hk, rfl, rfl, hon, hro, hio, hfo, hB⟩ := hrel
    clear HR
    by_cases hkm : k < m
    · have hki : (k : Int) < (m : Int) := by omega
      have hkl : k < xs.length := by rw [hm'.out]; exact hkm
      obtain ⟨x, hx⟩ : ∃ x, xs[k]? = some x := ⟨_, List.getElem?_eq_getElem hkl⟩
      have hfo' := hfo.out
      rw [foldN_drop hx] at hfo'
      obtain ⟨lb, loff, rfl, hllt, hlc⟩ := RdV.lt HL.out (by intro h; have := congrArg List.length h; rw [iV_len] at this; simp at this; rw [this] at hkl; simp at hkl)
      have hln := (hB.cell (p := ⟨lb, loff + k, none⟩) hllt).trans (hlc k _ (iV_at hx))
      have zb := Blk.keep HZ.out hB
      have zt0 := zb.cell 0
      have zt1 := zb.cell 1
      simp at zt0 zt1
      have hTr := HT.out.keep hB
      have hcA := fun (W : World) (hW : Below wr.heap.size wr W) => inodeAtS a n cap nx x rs W hTr.len (by have := hTr.n; omega) hTr.small (hTr.keep hW).rd
      have hA1 := hcA wr.drew (Below.refl _ _).drew
      have hA2 := hcA (wr.alloc (.cells #[.int .i64 0, .int .i64 0, .int .i64 0, .slice none 0 0, .slice none 0 0, .slice none 0 0] 30)).drew ((Below.refl _ _).alloc (Nat.le_refl _) _).drew
      have hlnA := ((Below.refl _ wr).alloc (Nat.le_refl _) (.cells #[.int .i64 0, .int .i64 0, .int .i64 0, .slice none 0 0, .slice none 0 0, .slice none 0 0] 30)).cell (p := ⟨lb, loff + k, none⟩) (Nat.lt_of_lt_of_le hllt hB.size) |>.trans hln
      have zbA := zb.alloc (.cells #[.int .i64 0, .int .i64 0, .int .i64 0, .slice none 0 0, .slice none 0 0, .slice none 0 0] 30)
      have ztA0 := zbA.cell 0
      have ztA1 := zbA.cell 1
      simp at ztA0 ztA1
      clear hlc hfo hcA
      go_upto_region 5 with fail
      go_cut [7, 8] (fun p q wx => NXR wr (atD rs x) (atB rs x) p q wx)
      case first =>
        go_region_law (first
          | (go_simp; go_at_call 66; (with_reducible refine hA1.mono ?_); rintro e w10 ⟨b1, d1, b2, d2, b3, d3, rfl, gA, bA⟩; have zN := Blk.new w10 30 #[.int .i64 0, .int .i64 0, .int .i64 0, .slice none 0 0, .slice none 0 0, .slice none 0 0]; obtain ⟨t0, t1, t2, t3, t4, t5⟩ := zN.six; have f0 := zN.frozen 0; have f1 := zN.frozen 1; have f2 := zN.frozen 2; have f3 := zN.frozen 3; have f4 := zN.frozen 4; have f5 := zN.frozen 5; dsimp only)
          | (go_simp; go_at_call 66; (with_reducible refine hA2.mono ?_); rintro e w10 ⟨b1, d1, b2, d2, b3, d3, rfl, gB, bB⟩; have zN := Blk.keep (Blk.drew (Blk.new wr 30 #[.int .i64 0, .int .i64 0, .int .i64 0, .slice none 0 0, .slice none 0 0, .slice none 0 0])) bB; obtain ⟨t0, t1, t2, t3, t4, t5⟩ := zN.six; have f0 := zN.frozen 0; have f1 := zN.frozen 1; have f2 := zN.frozen 2; have f3 := zN.frozen 3; have f4 := zN.frozen 4; have f5 := zN.frozen 5; dsimp only))
        all_goals (go_wp2_with fail; go_meet)
        all_goals first
          | (have q := gA; exact nxrA (Below.refl _ _) ((Below.refl _ wr).drew.trans bA) gA)
          | (have q := gB; exact nxrB (Below.refl _ _) (Nat.le_refl _) (.inl (by show _ < (wr.alloc _).heap.size; simp)) (((Below.refl _ wr).alloc (Nat.le_refl _) _).drew.trans (bB.mono (by show _ ≤ (wr.alloc _).heap.size; simp))) zN gB)
          | fail
      case rest =>
        obtain ⟨⟨X, b1, d1, b2, d2, b3, d3, rfl, hX, zX, rX⟩, rfl, bX⟩ := hcut
        obtain ⟨Wc, hwc⟩ : ∃ W, W = wc := ⟨_, rfl⟩
        subst hwc
        have hBc : Below W0.heap.size W0 Wc := hB.trans (bX.mono hB.size)
        have hro' := hro.keep bX
        have hde : dirEnts ds x = if atB rs x = true ∧ (atD rs x).kind = 2 then (atD rs x).ents else [] := by
          rw [atB_look, atD_look, HDS.out]
          unfold dirEnts
          cases look ds x with
          | none => simp
          | some D => simp
        rw [hde] at hfo'
        have hsm : (atD rs x).ents.length ≤ 1048576 := by
          rw [atD_look]
          cases hlo : look (rs.map InoR.D) x with
          | none => simp [inoZ]
          | some D =>
            obtain ⟨p, r, _, hrp, rfl, _⟩ := lookD_some hlo
            exact (HT.out.small r (List.mem_of_getElem? hrp)).ents
        generalize atB rs x = ok at hfo' ⊢
        obtain ⟨es, hes⟩ : ∃ es, (atD rs x).ents = es := ⟨_, rfl⟩
        have hre : RdP Wc b2 (eP es) := by rw [← hes]; exact rX.ents
        rw [hes] at zX hfo' hsm
        obtain ⟨n2, hn2⟩ : ∃ n2, es.length = n2 := ⟨_, rfl⟩
        rw [hn2] at zX hsm
        have HN : Hid _ := hn2
        generalize (atD rs x).data.length = n1 at zX
        generalize (atD rs x).attrs.length = n3 at zX
        generalize (atD rs x).ino = i1 at zX
        generalize (atD rs x).kind = i2 at zX hfo'
        generalize (atD rs x).links = i3 at zX
        have HRE : Hid _ := hre
        have HZX : Hid _ := zX
        have y1 := zX.cell 1
        have y4 := zX.cell 4
        simp at y1 y4
        clear hde hes rX hre hn2 zt0 zt1 ztA0 ztA1 zb zbA hln hlnA hA1 hA2 hTr hx bX hro
        by_cases hgo : ok = true ∧ i2 = 2
        · obtain ⟨rfl, rfl⟩ := hgo
          rw [if_pos ⟨rfl, rfl⟩] at hfo'
          obtain ⟨E, hE⟩ : ∃ E, addE ds ov es = E := ⟨_, rfl⟩
          rw [hE] at hfo'
          have HF : Hid (foldN ds (xs.drop (k + 1)) E = R) := hfo'
          have HE : Hid (addE ds ov (es.drop 0) = E) := hE
          clear hfo' hE
          go_wp2
          clear y1 y4
          go_loopw [5, 9] (fun o j wi => ∃ (q : Nat) (pv : List Int) (pa : Option Addr) (pn pc : Nat), q ≤ n2 ∧ j = .int .i64 q ∧ o = .slice pa pn pc ∧ pv.length = pn ∧ RdV wi pa (iV pv) ∧ Hid (InTab ds pv) ∧ Hid (addE ds pv (es.drop q) = E) ∧ Below Wc.heap.size Wc wi) (fun _ j _ => n2 - (intOf j).toNat)
          case atStart => exact ⟨0, ov, oa, on, oc, Nat.zero_le _, rfl, rfl, hon, hro', hio, HE, Below.refl _ _⟩
          case round =>
            obtain ⟨q, pw, pa, pn, pc, hq, rfl, rfl, hpn, hrp, hip, hap, hBi⟩ := hrel
            clear HE hro' hio
            have zXi := Blk.keep HZX.out hBi
            have y1 := zXi.cell 1
            have y4 := zXi.cell 4
            simp at y1 y4
            have hBw : Below W0.heap.size W0 wr := hBc.trans (hBi.mono hBc.size)
            by_cases hqn : q < n2
            · have hqi : (q : Int) < (n2 : Int) := by omega
              have hql : q < es.length := by rw [HN.out]; exact hqn
              have hap' := hap.out
              rw [addE_drop hql] at hap'
              obtain ⟨eb, eo, rfl, helt, hec⟩ := RdP.lt HRE.out (by intro h; have := congrArg List.length h; rw [eP_length] at this; simp at this; rw [this] at hql; simp at hql)
              have hx := hec q (by rw [eP_length]; exact hql)
              rw [eP_at es q hql] at hx
              obtain ⟨u, hu⟩ : ∃ u, es[q].2 = u := ⟨_, rfl⟩
              rw [hu] at hx hap'
              have x2 : wr.cell? ⟨eb, eo + q * 2 + 1, none⟩ = some (.int .i64 u) := (hBi.cell (p := ⟨eb, eo + q * 2 + 1, none⟩) helt).trans hx.2
              have zb := Blk.keep HZ.out hBw
              have zt0 := zb.cell 0
              have zt1 := zb.cell 1
              simp at zt0 zt1
              have hTr := HT.out.keep hBw
              have hcL := l4At_any a n cap nx u rs wr.drew hTr.len (by have := hTr.n; omega) (hTr.rd.keep (Below.refl _ _).drew)
              have HK : Hid (∀ W : World, Below wr.heap.size wr W → W.cell? ⟨w.heap.size, 0, none⟩ = some (.slice a n cap) ∧ W.cell? ⟨w.heap.size, 1, none⟩ = some (.int .i64 nx) ∧ W.cell? ⟨X, 4, none⟩ = some (.slice (some ⟨eb, eo, none⟩) n2 d2) ∧ W.cell? ⟨X, 1, none⟩ = some (.int .i64 2) ∧ W.cell? ⟨eb, eo + q * 2 + 1, none⟩ = some (.int .i64 u)) := fun W hW => ⟨(zb.keep hW).cell 0, (zb.keep hW).cell 1, (zXi.keep hW).cell 4, (zXi.keep hW).cell 1, (hW.cell (p := ⟨eb, eo + q * 2 + 1, none⟩) (Nat.lt_of_lt_of_le helt hBi.size)).trans x2⟩
              have hlo : atN rs u = if (look ds u).isSome then atN rs u else -1 := by
                cases hl : look ds u with
                | none => rw [atN_none (by rw [HDS.out]; exact hl)]; rfl
                | some D => rfl
              cases hl : (look ds u).isSome with
              | false =>
                rw [hl] at hap' hlo
                simp only [Bool.false_eq_true, if_false] at hap' hlo
                rw [hlo] at hcL
                have hnx : Hid _ := hap'
                clear hap' hlo hec hx hTr hap hu
                go_wp2
                go_region_held3 (fun W : World => W.cell? ⟨w.heap.size, 0, none⟩ = some (.slice a n cap) ∧ W.cell? ⟨w.heap.size, 1, none⟩ = some (.int .i64 nx) ∧ W.cell? ⟨X, 4, none⟩ = some (.slice (some ⟨eb, eo, none⟩) n2 d2) ∧ W.cell? ⟨X, 1, none⟩ = some (.int .i64 2) ∧ W.cell? ⟨eb, eo + q * 2 + 1, none⟩ = some (.int .i64 u)) (go_keep) ((go_at_call 42; (with_reducible refine hcL.mono ?_); rintro e w2 ⟨rfl, hb2⟩; obtain ⟨p0, p1, p2, p3, p4⟩ := HK.out w2 ((Below.refl _ _).drew.trans hb2)))
                all_goals (have hB2 : Below wr.heap.size wr w2 := (Below.refl _ wr).drew.trans hb2; clear zt0 zt1 y1 y4 x2 hcL)
                all_goals go_wp2
                all_goals go_roundw
                all_goals first
                  | (case rel => exact ⟨q + 1, pw, pa, pn, pc, by omega, by go_num, rfl, hpn, hrp.keep hB2, hip, hnx, hBi.trans (hB2.mono hBi.size)⟩)
                  | (case measure => simp [intOf]; omega)
              | true =>
                rw [hl] at hap'
                simp only [if_true] at hap'
                obtain ⟨D, hD⟩ := Option.isSome_iff_exists.1 hl
                obtain ⟨pp, _, hf, _, _, hpl⟩ := lookD_some (rs := rs) (by rw [HDS.out]; exact hD)
                have hN : atN rs u = (pp : Int) := by unfold atN; rw [hf]
                rw [hN] at hcL
                have hge : (0 : Int) ≤ (pp : Int) := by omega
                have hpn' : pn ≤ 4000000 := by
                  have h1 := hip.out.len
                  have h2 : ds.length = n := by rw [← HDS.out, List.length_map, hTr.len]
                  have := hTr.n
                  omega
                have hip' : Hid (InTab ds (putI pw u)) := InTab.put hip.out hl
                have hcP := fun (W : World) (hW : Below wr.heap.size wr W) => l7PutS pa pn pc u pw W hpn hpn' (hrp.keep hW)
                have HP : Hid _ := hcP
                have hnx : Hid _ := hap'
                clear hap' hlo hec hx hTr hap hu hD hf hN hcP
                go_wp2
                go_region_held3 (fun W : World => W.cell? ⟨w.heap.size, 0, none⟩ = some (.slice a n cap) ∧ W.cell? ⟨w.heap.size, 1, none⟩ = some (.int .i64 nx) ∧ W.cell? ⟨X, 4, none⟩ = some (.slice (some ⟨eb, eo, none⟩) n2 d2) ∧ W.cell? ⟨X, 1, none⟩ = some (.int .i64 2) ∧ W.cell? ⟨eb, eo + q * 2 + 1, none⟩ = some (.int .i64 u)) (go_keep) ((go_at_call 42; (with_reducible refine hcL.mono ?_); rintro e w2 ⟨rfl, hb2⟩; obtain ⟨p0, p1, p2, p3, p4⟩ := HK.out w2 ((Below.refl _ _).drew.trans hb2)))
                all_goals (have hB2 : Below wr.heap.size wr w2 := (Below.refl _ wr).drew.trans hb2; have hc3 := HP.out w2 hB2; clear zt0 zt1 y1 y4 x2 hcL)
                all_goals go_wp2_with fail
                all_goals (with_reducible refine hc3.mono ?_)
                all_goals (rintro e w3 ⟨pa', pc', rfl, hr3, b3⟩; clear hc3 p0 p1 p2 p3 p4)
                all_goals go_wp2
                all_goals go_roundw
                all_goals first
                  | (case rel => exact ⟨q + 1, putI pw u, pa', _, pc', by omega, by go_num, rfl, rfl, hr3, hip', hnx, (hBi.trans (hB2.mono hBi.size)).trans (b3.mono (hBi.trans (hB2.mono hBi.size)).size)⟩)
                  | (case measure => simp [intOf]; omega)
            · have hqi : ¬ (q : Int) < (n2 : Int) := by omega
              have hfin : Hid (foldN ds (xs.drop (k + 1)) pw = R) := by
                have h1 := hap.out
                rw [List.drop_of_length_le (by rw [HN.out]; omega)] at h1
                have h2 : pw = E := h1
                show _ = _
                rw [h2]
                exact HF.out
              go_wp2
              go_roundw
              case rel => exact ⟨k + 1, pw, pa, pn, pc, by omega, by go_num, rfl, hpn, hrp, hip, hfin, hBw⟩
              case measure => simp [intOf]; omega
        · rw [if_neg hgo] at hfo'
          have HF : Hid (foldN ds (xs.drop (k + 1)) ov = R) := hfo'
          clear hfo'
          go_wp2
          refine wp_loop_rounds 1 ?_; rw [rounds_succ]
          by_cases h0 : (0 : Int) < (n2 : Int)
          · cases ok with
            | false =>
              go_wp2
              go_roundw
              case rel => exact ⟨k + 1, ov, oa, on, oc, by omega, by go_num, rfl, hon, hro', hio, HF, hBc⟩
              case measure => simp [intOf]; omega
            | true =>
              have hkb : (i2 == 2) = false := by simpa using hgo
              go_wp2
              go_roundw
              case rel => exact ⟨k + 1, ov, oa, on, oc, by omega, by go_num, rfl, hon, hro', hio, HF, hBc⟩
              case measure => simp [intOf]; omega
          · go_wp2
            go_roundw
            case rel => exact ⟨k + 1, ov, oa, on, oc, by omega, by go_num, rfl, hon, hro', hio, HF, hBc⟩
            case measure => simp [intOf]; omega
    · have hki : ¬ (k : Int) < (m : Int) := by omega
      have hend : ov = R := by
        have h1 := hfo.out
        rw [List.drop_of_length_le (by rw [hm'.out]; omega)] at h1
        exact h1
      subst hend
      subst hon
      have HD : Hid (RdV wr oa (iV ov) ∧ Below w.heap.size w wr) := ⟨hro, HB0.out.trans (hB.mono hws)⟩
      clear hro hB hio hfo
      go_wp2
      go_ret
      first | exact ⟨_, _, rfl, HD.out⟩ | exact ⟨_, ⟨_, rfl⟩, HD.out⟩
end
end Go.Proofs.Ytgcmpimckpnemaa
