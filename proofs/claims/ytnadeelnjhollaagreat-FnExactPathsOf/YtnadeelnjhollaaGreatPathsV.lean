/-
  The paths of a tree (no program): the model, and that it comes to an end: no directory is met twice.
-/
import Derived.Test.YtnadeelnjhollaaGreatTreeV
namespace Go.Proofs.YtnadeelnjhollaaGreat
open Go.RowKit
/-- The entries of the inode of this number; none, where there is none. -/
def entsAt (ds : List InoD) (x : Int) : List (ByteArray × Int) := ((look ds x).getD inoZ.D).ents
/-- The numbers that are met one entry further. -/
def stepL (ds : List InoD) (l : List Int) : List Int := l.flatMap fun x => (entsAt ds x).map Prod.snd
def levL (ds : List InoD) : Nat → List Int → List Int
  | 0, l => l
  | k + 1, l => levL ds k (stepL ds l)
theorem levL_succ (ds : List InoD) (k : Nat) (l : List Int) : levL ds (k + 1) l = stepL ds (levL ds k l) := by
  induction k generalizing l with
  | zero => rfl
  | succ k ih => rw [levL, ih, levL]
theorem stepL_app (ds : List InoD) (l m : List Int) : stepL ds (l ++ m) = stepL ds l ++ stepL ds m := by simp [stepL]
theorem levL_app (ds : List InoD) (k : Nat) (l m : List Int) : levL ds k (l ++ m) = levL ds k l ++ levL ds k m := by
  induction k generalizing l m with
  | zero => rfl
  | succ k ih => rw [levL, stepL_app, ih, levL, levL]
theorem levL_one {ds : List InoD} {k : Nat} {l : List Int} (h : levL ds k l = []) : ∀ x ∈ l, levL ds k [x] = [] := by
  induction l with
  | nil => intro x hx; simp at hx
  | cons y l ih =>
    rw [show y :: l = [y] ++ l from rfl, levL_app, List.append_eq_nil_iff] at h
    intro x hx
    rcases List.mem_cons.1 hx with rfl | hx
    · exact h.1
    · exact ih h.2 x hx
theorem lev_ent {ds : List InoD} {k : Nat} {x : Int} (h : levL ds (k + 1) [x] = []) : ∀ e ∈ entsAt ds x, levL ds k [e.2] = [] := by
  intro e he
  rw [levL] at h
  exact levL_one h e.2 (by simp only [stepL, List.flatMap_cons, List.flatMap_nil, List.append_nil]; exact List.mem_map_of_mem he)
/-- All numbers that are met in k rounds. -/
def accL (ds : List InoD) : Nat → List Int → List Int
  | 0, _ => []
  | k + 1, l => l ++ accL ds k (stepL ds l)
theorem accL_step (ds : List InoD) (k : Nat) (l : List Int) : accL ds (k + 1) l = l ++ accL ds k (stepL ds l) := rfl
theorem accL_stepped (ds : List InoD) (k : Nat) (l : List Int) : accL ds k (stepL ds l) = stepL ds (accL ds k l) := by
  induction k generalizing l with
  | zero => rfl
  | succ k ih => rw [accL_step, accL_step, stepL_app, ih]
theorem accL_nil (ds : List InoD) (k : Nat) : accL ds k [] = [] := by
  induction k with
  | zero => rfl
  | succ k ih => rw [accL_step]; exact ih
/-- Does the inode of this number have entries? -/
def hasE (ds : List InoD) (x : Int) : Bool := !(entsAt ds x).isEmpty
theorem hasE_look {ds : List InoD} {x : Int} (h : hasE ds x = true) : ∃ D, look ds x = some D ∧ D.ents ≠ [] := by
  unfold hasE entsAt at h
  cases hl : look ds x with
  | none => rw [hl] at h; simp [inoZ] at h
  | some D => rw [hl] at h; exact ⟨D, rfl, by simpa using h⟩
theorem sum_sub {α : Type} [BEq α] [LawfulBEq α] (g : α → Nat) : ∀ {l m : List α}, l.Nodup → (∀ x ∈ l, x ∈ m) → (l.map g).sum ≤ (m.map g).sum
  | [], _, _, _ => Nat.zero_le _
  | x :: l, m, hn, hs => by
    have hx := hs x (List.mem_cons_self ..)
    have hn' := List.nodup_cons.1 hn
    have h1 := sum_sub g (l := l) (m := m.erase x) hn'.2 (fun y hy => (List.mem_erase_of_ne (by rintro rfl; exact hn'.1 hy)).2 (hs y (List.mem_cons_of_mem _ hy)))
    have h2 : (m.map g).sum = g x + ((m.erase x).map g).sum := by
      have := ((List.perm_cons_erase hx).map g).sum_nat
      simpa using this
    simp only [List.map_cons, List.sum_cons]
    omega
theorem count_flat {α β : Type} [BEq β] [LawfulBEq β] (f : α → List β) (l : List α) (d : β) : (l.flatMap f).count d = (l.map fun x => (f x).count d).sum := by
  induction l with
  | nil => rfl
  | cons x l ih => simp [List.flatMap_cons, List.count_append, ih]
theorem sum_filter {α : Type} (p : α → Bool) (g : α → Nat) (h : ∀ x, p x = false → g x = 0) (l : List α) : (l.map g).sum = ((l.filter p).map g).sum := by
  induction l with
  | nil => rfl
  | cons x l ih =>
    rw [List.filter_cons]
    split
    · simp [ih]
    · rename_i hp
      have := h x (by simpa using hp)
      simp [ih, this]
/-- What is known of a table that is right and whose Links are as many as entries lead there. -/
structure Tr (ds : List InoD) : Prop where
  n : ds.length ≤ 30
  ok : ∀ D ∈ ds, inoOk D = true
  asc : ∀ D ∈ ds, look ds D.ino = some D
  links : ∀ D ∈ ds, (linksD ds D.ino : Int) = D.links
theorem ok_parts {D : InoD} (h : inoOk D = true) : 0 ≤ D.links ∧ (D.links = 0 ↔ D.ino = 1) ∧ entsOk D.ents = true ∧ kindR D = true ∧ D.data.length ≤ 100 ∧ attsOk D.attrs = true := by
  unfold inoOk at h
  simp only [Bool.and_eq_true, decide_eq_true_eq] at h
  obtain ⟨⟨⟨⟨⟨⟨_, h1⟩, h2⟩, h3⟩, h4⟩, h5⟩, h6⟩ := h
  refine ⟨h1.1, ?_, h4, h6, h3, h5⟩
  have := beq_iff_eq.1 h2
  constructor
  · intro e
    rw [e] at this
    simpa using this.symm
  · intro e
    rw [e] at this
    simpa using this
theorem entsOk_at {es : List (ByteArray × Int)} (h : entsOk es = true) : es.length ≤ 10 ∧ ∀ e ∈ es, nameOk e.1.data.toList = true ∧ 2 ≤ e.2 ∧ e.2 ≤ 1000 := by
  unfold entsOk at h
  simp only [Bool.and_eq_true, decide_eq_true_eq, List.all_eq_true, List.mem_range] at h
  refine ⟨h.2, fun e he => ?_⟩
  obtain ⟨i, hi⟩ := List.getElem?_of_mem he
  have hl := (List.getElem?_eq_some_iff.1 hi).1
  have := h.1 i hl
  unfold entAt at this
  have e1 : es.getD i entD = e := by rw [List.getD_eq_getElem?_getD, hi]; rfl
  rw [e1] at this
  simp only [Bool.and_eq_true, decide_eq_true_eq] at this
  exact ⟨this.1.1, this.1.2⟩
theorem kind_of {D : InoD} (h : inoOk D = true) (he : D.ents ≠ []) : D.kind = 2 ∧ D.links ≤ 1 := by
  have := (ok_parts h).2.2.2.1
  unfold kindR at this
  simp only [Bool.or_eq_true, Bool.and_eq_true, decide_eq_true_eq] at this
  rcases this with ⟨_, h0⟩ | ⟨h1, _, h2⟩
  · exact absurd (List.length_eq_zero_iff.1 h0) he
  · exact ⟨h1, h2⟩
theorem count_links {D : InoD} (h : inoOk D = true) (d : Int) : (D.ents.map Prod.snd).count d = linksIn D d := by
  unfold linksIn
  by_cases he : D.ents = []
  · rw [he]; simp
  · rw [if_pos (kind_of h he).1, List.count, List.countP_map, List.countP_eq_length_filter]
    rfl
theorem entsAt_of {ds : List InoD} {x : Int} {D : InoD} (h : look ds x = some D) : entsAt ds x = D.ents := by unfold entsAt; rw [h]; rfl
theorem Tr.sum {ds : List InoD} (_ : Tr ds) (g : Int → Nat) {A : List Int} (hA : ∀ d, hasE ds d = true → A.count d ≤ 1) (hg : ∀ x, hasE ds x = false → g x = 0) : (A.map g).sum ≤ (ds.map fun D => g D.ino).sum ∧ (A.filter (hasE ds)).length ≤ ds.length := by
  have hnd : (A.filter (hasE ds)).Nodup := by
    rw [List.nodup_iff_count]
    intro d
    by_cases hd : hasE ds d = true
    · rw [List.count_filter hd]
      exact hA d hd
    · rw [List.count_eq_zero_of_not_mem (fun hm => hd (List.mem_filter.1 hm).2)]
      omega
  have hsub : ∀ x ∈ A.filter (hasE ds), x ∈ ds.map InoD.ino := fun x hx => by
    obtain ⟨D, hD, _⟩ := hasE_look (List.mem_filter.1 hx).2
    exact look_ino (by rw [hD]; rfl)
  refine ⟨?_, ?_⟩
  · rw [sum_filter (hasE ds) g hg]
    have := sum_sub g hnd hsub
    rw [List.map_map] at this
    exact this
  · have := sub_len hnd hsub
    simpa using this
theorem Tr.once {ds : List InoD} (h : Tr ds) (k : Nat) : ∀ d, hasE ds d = true → (accL ds k [1]).count d ≤ 1 := by
  induction k with
  | zero => intro d _; simp [accL]
  | succ k ih =>
    intro d hd
    obtain ⟨D, hD, hne⟩ := hasE_look hd
    obtain ⟨hm, hi⟩ := look_mem hD
    rw [accL_step, accL_stepped, List.count_append, stepL, count_flat]
    have h1 := (h.sum (fun x => ((entsAt ds x).map Prod.snd).count d) ih (fun x hx => by unfold hasE at hx; simp at hx; rw [hx]; rfl)).1
    have h2 : (ds.map fun E => ((entsAt ds E.ino).map Prod.snd).count d) = ds.map fun E => linksIn E d := List.map_congr_left fun E hE => by
      rw [entsAt_of (h.asc E hE), count_links (h.ok E hE)]
    rw [h2] at h1
    have h3 := h.links D hm
    rw [hi] at h3
    have h4 := kind_of (h.ok D hm) hne
    have h5 := (ok_parts (h.ok D hm)).2.1
    unfold linksD at h3
    by_cases hd1 : d = 1
    · have : D.links = 0 := h5.2 (by rw [hi]; exact hd1)
      have hc : ([1] : List Int).count d ≤ 1 := by rw [hd1]; simp
      omega
    · have hc : ([1] : List Int).count d = 0 := List.count_eq_zero_of_not_mem (by simpa using hd1)
      omega
theorem filt_len (ds : List InoD) (p : Int → Bool) (k : Nat) (l : List Int) : ((accL ds (k + 1) l).filter p).length = ((accL ds k l).filter p).length + ((levL ds k l).filter p).length := by
  induction k generalizing l with
  | zero => simp [accL, levL]
  | succ k ih => rw [accL_step, List.filter_append, List.length_append, ih, accL_step, List.filter_append, List.length_append, levL]; omega
theorem lev_has {ds : List InoD} {k : Nat} {l : List Int} (h : levL ds (k + 1) l ≠ []) : 1 ≤ ((levL ds k l).filter (hasE ds)).length := by
  rw [levL_succ] at h
  obtain ⟨y, hy⟩ := List.exists_mem_of_ne_nil _ h
  obtain ⟨x, hx, hy⟩ := List.mem_flatMap.1 hy
  have : hasE ds x = true := by
    unfold hasE
    cases he : entsAt ds x with
    | nil => rw [he] at hy; simp at hy
    | cons _ _ => rfl
  exact List.length_pos_of_mem (List.mem_filter.2 ⟨hx, this⟩)
theorem lev_all {ds : List InoD} {k : Nat} {l : List Int} (h : levL ds k l ≠ []) : ∀ j, j ≤ k → levL ds j l ≠ [] := by
  induction k with
  | zero => intro j hj; obtain rfl : j = 0 := (by omega); exact h
  | succ k ih =>
    intro j hj
    rcases (show j = k + 1 ∨ j ≤ k by omega) with rfl | hj
    · exact h
    · refine ih (fun e => h ?_) j hj
      rw [levL_succ, e]
      rfl
/-- The paths of a tree end: no way has more than 30 steps. -/
theorem Tr.ends {ds : List InoD} (h : Tr ds) : levL ds 31 [1] = [] := by
  by_cases hc : levL ds 31 [1] = []
  · exact hc
  · have h1 : ∀ k, k ≤ 31 → k ≤ ((accL ds k [1]).filter (hasE ds)).length := by
      intro k
      induction k with
      | zero => intro _; omega
      | succ k ih =>
        intro hk
        have h2 := ih (by omega)
        have h3 := lev_has (lev_all hc (k + 1) hk)
        rw [filt_len]
        omega
    have h4 := h1 31 (Nat.le_refl _)
    have h5 := (h.sum (fun _ => 0) (h.once 31) (fun _ _ => rfl)).2
    have := h.n
    omega
/-- The paths below a number, to a depth. -/
def sub (p : ByteArray) (e : ByteArray × Int) : ByteArray := p ++ (⟨#[47]⟩ : ByteArray) ++ e.1
def pathsF (ds : List InoD) : Nat → Int → ByteArray → List ByteArray
  | 0, _, _ => []
  | f + 1, x, p => (entsAt ds x).flatMap fun e => sub p e :: pathsF ds f e.2 (sub p e)
def sumE (ds : List InoD) (k : Nat) (l : List Int) : Nat := ((accL ds k l).map fun y => (entsAt ds y).length).sum
theorem sumE_app (ds : List InoD) (k : Nat) (l m : List Int) : sumE ds k (l ++ m) = sumE ds k l + sumE ds k m := by
  unfold sumE
  induction k generalizing l m with
  | zero => rfl
  | succ k ih =>
    simp only [accL_step, stepL_app, List.map_append, List.sum_append] at ih ⊢
    rw [ih]
    omega
theorem pathsF_len (ds : List InoD) (k : Nat) : ∀ (x : Int) (p : ByteArray), (pathsF ds k x p).length = sumE ds k [x] := by
  induction k with
  | zero => intro x p; rfl
  | succ k ih =>
    intro x p
    have h1 : ∀ es : List (ByteArray × Int), (es.flatMap fun e => sub p e :: pathsF ds k e.2 (sub p e)).length = es.length + sumE ds k (es.map Prod.snd) := by
      intro es
      induction es with
      | nil => simp [sumE, accL_nil]
      | cons e es ih2 =>
        rw [List.flatMap_cons, List.length_append, ih2, List.length_cons, ih, List.map_cons, show e.2 :: es.map Prod.snd = [e.2] ++ es.map Prod.snd from rfl, sumE_app, List.length_cons]
        omega
    rw [pathsF, h1]
    unfold sumE
    rw [accL_step]
    simp [stepL]
theorem Tr.few {ds : List InoD} (h : Tr ds) (k : Nat) (p : ByteArray) : (pathsF ds k 1 p).length ≤ 300 := by
  rw [pathsF_len]
  unfold sumE
  have h1 := (h.sum (fun y => (entsAt ds y).length) (h.once k) (fun x hx => by unfold hasE at hx; simp at hx; rw [hx]; rfl)).1
  have h2 : ∀ l : List InoD, (∀ D ∈ l, D ∈ ds) → (l.map fun D => (entsAt ds D.ino).length).sum ≤ 10 * l.length := by
    intro l hl
    induction l with
    | nil => simp
    | cons D l ih =>
      have hD := hl D (List.mem_cons_self ..)
      have h3 := (entsOk_at (ok_parts (h.ok D hD)).2.2.1).1
      have h4 := ih fun E hE => hl E (List.mem_cons_of_mem _ hE)
      have h5 : (entsAt ds D.ino).length ≤ 10 := by rw [entsAt_of (h.asc D hD)]; exact h3
      simp only [List.map_cons, List.sum_cons, List.length_cons]
      omega
  have h3 := h2 ds fun _ hD => hD
  have := h.n
  omega
theorem asc_lt {nx : Int} {ds : List InoD} (h : tabD nx ds = true) : ∀ (j i : Nat) (D E : InoD), i < j → ds[i]? = some D → ds[j]? = some E → D.ino < E.ino := by
  have hs : ∀ (i : Nat) (D E : InoD), ds[i]? = some D → ds[i + 1]? = some E → D.ino < E.ino := by
    intro i D E h1 h2
    unfold tabD tabS at h
    simp only [List.length_map, Bool.and_eq_true, decide_eq_true_eq, List.all_eq_true, List.mem_range] at h
    have := h.2.2.1 (i + 1) (List.getElem?_eq_some_iff.1 h2).1
    unfold stepT at this
    rw [Nat.add_sub_cancel] at this
    have e1 : ((ds.map lift).getD i inoZ).D = D := by rw [List.getD_eq_getElem?_getD, List.getElem?_map, h1]; rfl
    have e2 : ((ds.map lift).getD (i + 1) inoZ).D = E := by rw [List.getD_eq_getElem?_getD, List.getElem?_map, h2]; rfl
    rw [e1, e2] at this
    simp only [Bool.and_eq_true, Bool.or_eq_true, decide_eq_true_eq] at this
    rcases this.2.2 with h | h
    · omega
    · exact h
  intro j
  induction j with
  | zero => intro i D E hij; omega
  | succ j ih =>
    intro i D E hij h1 h2
    obtain ⟨F, hF⟩ : ∃ F, ds[j]? = some F := ⟨_, List.getElem?_eq_getElem (by have := (List.getElem?_eq_some_iff.1 h2).1; omega)⟩
    have h3 := hs j F E hF h2
    rcases (show i = j ∨ i < j by omega) with rfl | hij
    · rw [hF] at h1
      simp at h1
      rw [← h1]
      exact h3
    · have := ih i D F hij h1 hF
      omega
theorem look_self {nx : Int} {ds : List InoD} (h : tabD nx ds = true) : ∀ D ∈ ds, look ds D.ino = some D := by
  intro D hD
  obtain ⟨i, hi⟩ := List.getElem?_of_mem hD
  cases hl : look ds D.ino with
  | none =>
    unfold look at hl
    rw [List.find?_eq_none] at hl
    exact absurd (by simp) (hl D hD)
  | some E =>
    obtain ⟨hE, he⟩ := look_mem hl
    obtain ⟨j, hj⟩ := List.getElem?_of_mem hE
    rcases Nat.lt_trichotomy i j with hij | rfl | hij
    · have := asc_lt h j i D E hij hi hj
      omega
    · rw [hi] at hj
      exact hj.symm
    · have := asc_lt h i j E D hij hj hi
      omega
theorem treeD_parts {nx : Int} {ds : List InoD} (h : treeD nx ds = true) : tabD nx ds = true ∧ (reachD ds).length = ds.length ∧ ∀ D ∈ ds, (linksD ds D.ino : Int) = D.links ∧ ∀ e ∈ D.ents, (look ds e.2).isSome = true := by
  unfold treeD at h
  simp only [Bool.and_eq_true, decide_eq_true_eq, List.all_eq_true] at h
  exact ⟨h.1, h.2.1, h.2.2⟩
theorem treeD_tr {nx : Int} {ds : List InoD} (h : treeD nx ds = true) : Tr ds := by
  obtain ⟨h1, _, h3⟩ := treeD_parts h
  have h4 := tabD_ok h1
  exact ⟨h4.2.1, fun D hD => (h4.2.2.2.2.1 D hD).1, look_self h1, fun D hD => (h3 D hD).1⟩
/-- y is greater than z. -/
def gtS (z y : ByteArray) : Bool := !(Op.bytesLess y.toList z.toList || y.toList == z.toList)
/-- Texts in order. -/
def sortS (l : List ByteArray) : List ByteArray := l.foldl (fun o z => insBy (gtS z) o z) []
/-- All paths of a tree, in order. -/
def pathsD (nx : Int) (ds : List InoD) : List ByteArray := sortS (if treeD nx ds then pathsF ds 31 1 ⟨#[]⟩ else [])
end Go.Proofs.YtnadeelnjhollaaGreat
