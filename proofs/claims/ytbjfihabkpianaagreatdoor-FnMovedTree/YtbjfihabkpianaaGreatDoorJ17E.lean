/-
  Joined: Tree, Paths, SetQ, Ints.
-/
import Derived.Test.YtbjfihabkpianaaGreatDoorJ08E
import Derived.Test.YtbjfihabkpianaaGreatDoorTabOkSE
namespace Go.Proofs.YtbjfihabkpianaaGreatDoor
section
open Go.RowKit
/-- x ahead of the last ones that are greater. -/
def insBy {α : Type} (gt : α → Bool) (l : List α) (x : α) : List α := (l.reverse.dropWhile gt).reverse ++ x :: (l.reverse.takeWhile gt).reverse
theorem takeWhile_app {α : Type} (p : α → Bool) (l m : List α) (h : ∀ y ∈ l, p y = true) : (l ++ m).takeWhile p = l ++ m.takeWhile p ∧ (l ++ m).dropWhile p = m.dropWhile p := by
  induction l with
  | nil => exact ⟨rfl, rfl⟩
  | cons y l ih =>
    have h1 := h y (List.mem_cons_self ..)
    have h2 := ih fun z hz => h z (List.mem_cons_of_mem _ hz)
    simp [h1, h2.1, h2.2]
theorem insBy_at {α : Type} {gt : α → Bool} {l : List α} {x : α} {k : Nat} (hk : k ≤ l.length) (h1 : ∀ y ∈ l.drop k, gt y = true) (h2 : k = 0 ∨ ∃ y, l[k - 1]? = some y ∧ gt y = false) : insBy gt l x = l.take k ++ x :: l.drop k := by
  have e : l.reverse = (l.drop k).reverse ++ (l.take k).reverse := by rw [← List.reverse_append, List.take_append_drop]
  have hh := takeWhile_app gt (l.drop k).reverse (l.take k).reverse (fun y hy => h1 y (List.mem_reverse.1 hy))
  unfold insBy
  rw [e, hh.1, hh.2]
  have h3 : (l.take k).reverse.takeWhile gt = [] ∧ (l.take k).reverse.dropWhile gt = (l.take k).reverse := by
    rcases h2 with rfl | ⟨y, hy, hg⟩
    · simp
    · have hk0 : k ≠ 0 := by
        rintro rfl
        obtain ⟨y', hy'⟩ : ∃ y', l[0]? = some y' := ⟨y, hy⟩
        have := h1 y (by simpa using List.mem_of_getElem? hy)
        rw [this] at hg
        simp at hg
      have e2 : (l.take k).reverse = y :: (l.take (k - 1)).reverse := by
        have : l.take k = l.take (k - 1) ++ [y] := by
          obtain ⟨m, rfl⟩ : ∃ m, k = m + 1 := ⟨k - 1, by omega⟩
          rw [Nat.add_sub_cancel] at hy ⊢
          rw [List.take_add_one, hy]
          rfl
        rw [this]
        simp
      rw [e2]
      simp [hg]
  rw [h3.1, h3.2]
  simp
theorem insBy_perm {α : Type} (gt : α → Bool) (l : List α) (x : α) : ∃ a b, l = a ++ b ∧ insBy gt l x = a ++ x :: b := by
  refine ⟨(l.reverse.dropWhile gt).reverse, (l.reverse.takeWhile gt).reverse, ?_, rfl⟩
  rw [← List.reverse_append, List.takeWhile_append_dropWhile, List.reverse_reverse]
theorem insBy_mem {α : Type} {gt : α → Bool} {l : List α} {x y : α} : y ∈ insBy gt l x ↔ y = x ∨ y ∈ l := by
  obtain ⟨a, b, h1, h2⟩ := insBy_perm gt l x
  rw [h2]
  subst h1
  simp only [List.mem_append, List.mem_cons]
  constructor
  · rintro (h | h | h)
    · exact .inr (.inl h)
    · exact .inl h
    · exact .inr (.inr h)
  · rintro (h | h | h)
    · exact .inr (.inl h)
    · exact .inl h
    · exact .inr (.inr h)
theorem insBy_len {α : Type} (gt : α → Bool) (l : List α) (x : α) : (insBy gt l x).length = l.length + 1 := by
  obtain ⟨a, b, h1, h2⟩ := insBy_perm gt l x
  rw [h2]
  subst h1
  simp
  omega
/-- How many entries of all directories lead to this number. -/
def linksIn (D : InoD) (x : Int) : Nat := if D.kind = 2 then (D.ents.filter fun e => e.2 == x).length else 0
def linksD (ds : List InoD) (x : Int) : Nat := (ds.map fun D => linksIn D x).sum
/-- A number put in order, if it is not there. -/
def putI (l : List Int) (x : Int) : List Int := if x ∈ l then l else insBy (fun y => decide (x < y)) l x
def dirEnts (ds : List InoD) (x : Int) : List (ByteArray × Int) := match look ds x with
  | some D => if D.kind = 2 then D.ents else []
  | none => []
def addE (ds : List InoD) (o : List Int) (es : List (ByteArray × Int)) : List Int := es.foldl (fun o e => if (look ds e.2).isSome then putI o e.2 else o) o
/-- What is reached by one entry more. -/
def nextD (ds : List InoD) (l : List Int) : List Int := l.foldl (fun o x => addE ds o (dirEnts ds x)) l
def reachN (ds : List InoD) : Nat → List Int
  | 0 => [1]
  | k + 1 => nextD ds (reachN ds k)
def reachD (ds : List InoD) : List Int := if (look ds 1).isSome then reachN ds ds.length else []
/-- Numbers of the table, none twice. -/
structure InTab (ds : List InoD) (l : List Int) : Prop where
  nd : l.Nodup
  mem : ∀ x ∈ l, (look ds x).isSome = true
theorem InTab.put {ds : List InoD} {l : List Int} (h : InTab ds l) {x : Int} (hx : (look ds x).isSome = true) : InTab ds (putI l x) := by
  unfold putI
  split
  · exact h
  · rename_i hn
    refine ⟨?_, fun y hy => ?_⟩
    · obtain ⟨a, b, h1, h2⟩ := insBy_perm (fun y => decide (x < y)) l x
      rw [h2]
      have hnd := h.nd
      rw [h1, List.nodup_append] at hnd
      have hna : x ∉ a ∧ x ∉ b := by
        rw [h1] at hn
        simpa [List.mem_append, not_or] using hn
      rw [List.nodup_append]
      refine ⟨hnd.1, List.nodup_cons.2 ⟨hna.2, hnd.2.1⟩, fun y hy z hz => ?_⟩
      rcases List.mem_cons.1 hz with rfl | hz
      · exact fun e => hna.1 (e ▸ hy)
      · exact hnd.2.2 y hy z hz
    · rcases insBy_mem.1 hy with rfl | hy
      · exact hx
      · exact h.mem y hy
theorem InTab.add {ds : List InoD} {l : List Int} (h : InTab ds l) (es : List (ByteArray × Int)) : InTab ds (addE ds l es) := by
  unfold addE
  induction es generalizing l with
  | nil => exact h
  | cons e es ih =>
    rw [List.foldl_cons]
    apply ih
    split
    · rename_i hx
      exact h.put hx
    · exact h
theorem InTab.fold {ds : List InoD} {o : List Int} (h : InTab ds o) (l : List Int) : InTab ds (l.foldl (fun o x => addE ds o (dirEnts ds x)) o) := by
  induction l generalizing o with
  | nil => exact h
  | cons x l ih =>
    rw [List.foldl_cons]
    exact ih (h.add _)
theorem InTab.next {ds : List InoD} {l : List Int} (h : InTab ds l) : InTab ds (nextD ds l) := h.fold l
theorem InTab.reach {ds : List InoD} (h : (look ds 1).isSome = true) (k : Nat) : InTab ds (reachN ds k) := by
  induction k with
  | zero => exact ⟨by simp [reachN], fun x hx => by simp [reachN] at hx; subst hx; exact h⟩
  | succ k ih => exact ih.next
theorem sub_len {α : Type} [BEq α] [LawfulBEq α] : ∀ {l m : List α}, l.Nodup → (∀ x ∈ l, x ∈ m) → l.length ≤ m.length
  | [], _, _, _ => Nat.zero_le _
  | x :: l, m, hn, hs => by
    have hx := hs x (List.mem_cons_self ..)
    have hn' := List.nodup_cons.1 hn
    have h1 := sub_len (l := l) (m := m.erase x) hn'.2 (fun y hy => (List.mem_erase_of_ne (by rintro rfl; exact hn'.1 hy)).2 (hs y (List.mem_cons_of_mem _ hy)))
    have h2 := List.length_erase_of_mem hx
    have h3 := List.length_pos_of_mem hx
    simp only [List.length_cons]
    omega
theorem look_ino {ds : List InoD} {x : Int} (h : (look ds x).isSome = true) : x ∈ ds.map InoD.ino := by
  obtain ⟨D, hD⟩ := Option.isSome_iff_exists.1 h
  obtain ⟨h1, h2⟩ := look_mem hD
  exact h2 ▸ List.mem_map_of_mem h1
theorem InTab.len {ds : List InoD} {l : List Int} (h : InTab ds l) : l.length ≤ ds.length := by
  have := sub_len h.nd (m := ds.map InoD.ino) (fun x hx => look_ino (h.mem x hx))
  simpa using this
/-- A table that is right; a tree. -/
def tabD (nx : Int) (ds : List InoD) : Bool := tabS nx (ds.map lift)
def treeD (nx : Int) (ds : List InoD) : Bool := tabD nx ds && (decide ((reachD ds).length = ds.length) && ds.all fun D => decide ((linksD ds D.ino : Int) = D.links) && D.ents.all fun e => (look ds e.2).isSome)
theorem getD_lift (rs : List InoR) (i : Nat) : (((rs.map InoR.D).map lift).getD i inoZ).D = (rs.getD i inoZ).D := by
  rw [List.getD_eq_getElem?_getD, List.getD_eq_getElem?_getD, List.getElem?_map, List.getElem?_map]
  cases rs[i]? <;> rfl
theorem tabS_D (nx : Int) (rs : List InoR) : tabS nx rs = tabD nx (rs.map InoR.D) := by
  unfold tabD tabS
  have h : stepT nx ((rs.map InoR.D).map lift) = stepT nx rs := by
    funext i
    unfold stepT
    simp only [getD_lift]
  simp only [List.length_map, getD_lift, h]
theorem tabD_ok {nx : Int} {ds : List InoD} (h : tabD nx ds = true) : 1 ≤ ds.length ∧ ds.length ≤ 30 ∧ 2 ≤ nx ∧ nx ≤ 1000 ∧ (∀ D ∈ ds, inoOk D = true ∧ D.ino < nx) ∧ ∃ D, ds[0]? = some D ∧ D.ino = 1 ∧ D.kind = 2 := by
  unfold tabD tabS at h
  simp only [List.length_map, Bool.and_eq_true, decide_eq_true_eq, List.all_eq_true, List.mem_range] at h
  obtain ⟨⟨h1, h2⟩, ⟨h3, h4⟩, h5, h6, h7⟩ := h
  refine ⟨h1, h2, h3, h4, fun D hD => ?_, ds[0], List.getElem?_eq_getElem (by omega), ?_, ?_⟩
  · obtain ⟨i, hi⟩ := List.getElem?_of_mem hD
    have hl := (List.getElem?_eq_some_iff.1 hi).1
    have := h5 i hl
    unfold stepT at this
    have e : ((ds.map lift).getD i inoZ).D = D := by
      rw [List.getD_eq_getElem?_getD, List.getElem?_map, hi]
      rfl
    rw [e] at this
    simp only [Bool.and_eq_true, decide_eq_true_eq] at this
    exact ⟨this.1, this.2.1⟩
  · rw [← h6, List.getD_eq_getElem?_getD, List.getElem?_map, List.getElem?_eq_getElem (by omega)]
    rfl
  · rw [← h7, List.getD_eq_getElem?_getD, List.getElem?_map, List.getElem?_eq_getElem (by omega)]
    rfl
end

section
open Go.RowKit
/-- The entries of the inode of this number; none, where there is none. -/
def entsAt (ds : List InoD) (x : Int) : List (ByteArray × Int) := ((look ds x).getD inoZ.D).ents
theorem ok_parts {D : InoD} (h : inoOk D = true) : 0 ≤ D.links ∧ (D.links = 0 ↔ D.ino = 1) ∧ entsOk D.ents = true ∧ kindR D = true ∧ D.data.length ≤ 100 ∧ attsOk D.attrs = true := by
  unfold inoOk at h
  simp only [Bool.and_eq_true, decide_eq_true_eq] at h
  obtain ⟨⟨⟨⟨⟨⟨_, h1⟩, h2⟩, h3⟩, h4⟩, h5⟩, h6⟩ := h
  refine ⟨h1.1, ?_, h4, h6, h3, h5⟩
  have := beq_iff_eq.1 h2
  constructor
  · intro e
    rw [e] at this
    simpa using this.symm
  · intro e
    rw [e] at this
    simpa using this
theorem entsOk_at {es : List (ByteArray × Int)} (h : entsOk es = true) : es.length ≤ 10 ∧ ∀ e ∈ es, nameOk e.1.data.toList = true ∧ 2 ≤ e.2 ∧ e.2 ≤ 1000 := by
  unfold entsOk at h
  simp only [Bool.and_eq_true, decide_eq_true_eq, List.all_eq_true, List.mem_range] at h
  refine ⟨h.2, fun e he => ?_⟩
  obtain ⟨i, hi⟩ := List.getElem?_of_mem he
  have hl := (List.getElem?_eq_some_iff.1 hi).1
  have := h.1 i hl
  unfold entAt at this
  have e1 : es.getD i entD = e := by rw [List.getD_eq_getElem?_getD, hi]; rfl
  rw [e1] at this
  simp only [Bool.and_eq_true, decide_eq_true_eq] at this
  exact ⟨this.1.1, this.1.2⟩
/-- The paths below a number, to a depth. -/
def sub (p : ByteArray) (e : ByteArray × Int) : ByteArray := p ++ (⟨#[47]⟩ : ByteArray) ++ e.1
def pathsF (ds : List InoD) : Nat → Int → ByteArray → List ByteArray
  | 0, _, _ => []
  | f + 1, x, p => (entsAt ds x).flatMap fun e => sub p e :: pathsF ds f e.2 (sub p e)
theorem asc_lt {nx : Int} {ds : List InoD} (h : tabD nx ds = true) : ∀ (j i : Nat) (D E : InoD), i < j → ds[i]? = some D → ds[j]? = some E → D.ino < E.ino := by
  have hs : ∀ (i : Nat) (D E : InoD), ds[i]? = some D → ds[i + 1]? = some E → D.ino < E.ino := by
    intro i D E h1 h2
    unfold tabD tabS at h
    simp only [List.length_map, Bool.and_eq_true, decide_eq_true_eq, List.all_eq_true, List.mem_range] at h
    have := h.2.2.1 (i + 1) (List.getElem?_eq_some_iff.1 h2).1
    unfold stepT at this
    rw [Nat.add_sub_cancel] at this
    have e1 : ((ds.map lift).getD i inoZ).D = D := by rw [List.getD_eq_getElem?_getD, List.getElem?_map, h1]; rfl
    have e2 : ((ds.map lift).getD (i + 1) inoZ).D = E := by rw [List.getD_eq_getElem?_getD, List.getElem?_map, h2]; rfl
    rw [e1, e2] at this
    simp only [Bool.and_eq_true, Bool.or_eq_true, decide_eq_true_eq] at this
    rcases this.2.2 with h | h
    · omega
    · exact h
  intro j
  induction j with
  | zero => intro i D E hij; omega
  | succ j ih =>
    intro i D E hij h1 h2
    obtain ⟨F, hF⟩ : ∃ F, ds[j]? = some F := ⟨_, List.getElem?_eq_getElem (by have := (List.getElem?_eq_some_iff.1 h2).1; omega)⟩
    have h3 := hs j F E hF h2
    rcases (show i = j ∨ i < j by omega) with rfl | hij
    · rw [hF] at h1
      simp at h1
      rw [← h1]
      exact h3
    · have := ih i D F hij h1 hF
      omega
theorem look_self {nx : Int} {ds : List InoD} (h : tabD nx ds = true) : ∀ D ∈ ds, look ds D.ino = some D := by
  intro D hD
  obtain ⟨i, hi⟩ := List.getElem?_of_mem hD
  cases hl : look ds D.ino with
  | none =>
    unfold look at hl
    rw [List.find?_eq_none] at hl
    exact absurd (by simp) (hl D hD)
  | some E =>
    obtain ⟨hE, he⟩ := look_mem hl
    obtain ⟨j, hj⟩ := List.getElem?_of_mem hE
    rcases Nat.lt_trichotomy i j with hij | rfl | hij
    · have := asc_lt h j i D E hij hi hj
      omega
    · rw [hi] at hj
      exact hj.symm
    · have := asc_lt h i j E D hij hj hi
      omega
theorem treeD_parts {nx : Int} {ds : List InoD} (h : treeD nx ds = true) : tabD nx ds = true ∧ (reachD ds).length = ds.length ∧ ∀ D ∈ ds, (linksD ds D.ino : Int) = D.links ∧ ∀ e ∈ D.ents, (look ds e.2).isSome = true := by
  unfold treeD at h
  simp only [Bool.and_eq_true, decide_eq_true_eq, List.all_eq_true] at h
  exact ⟨h.1, h.2.1, h.2.2⟩
/-- y is greater than z. -/
def gtS (z y : ByteArray) : Bool := !(Op.bytesLess y.toList z.toList || y.toList == z.toList)
end

section
open Go.RowKit
theorem row_stored6 {B : Nat} {w : World} {g n cap : Nat} {rs : List InoR} (h : w.ownsRow B 68 6 (.slice (some ⟨g, 0, none⟩) n cap) n (iv rs)) (k : Nat) (hk : k < n) (r : InoR) : ((((((w.setCell ⟨g, k * 6, none⟩ (.int .i64 r.D.ino)).setCell ⟨g, k * 6 + 1, none⟩ (.int .i64 r.D.kind)).setCell ⟨g, k * 6 + 2, none⟩ (.int .i64 r.D.links)).setCell ⟨g, k * 6 + 3, none⟩ (.slice r.a1 r.D.data.length r.c1)).setCell ⟨g, k * 6 + 4, none⟩ (.slice r.a2 r.D.ents.length r.c2)).setCell ⟨g, k * 6 + 5, none⟩ (.slice r.a3 r.D.attrs.length r.c3)).ownsRow B 68 6 (.slice (some ⟨g, 0, none⟩) n cap) n (iv (rs.set k r)) := by
  have hl : rs.length = n := by have := h.1; rw [iv_length] at this; omega
  have s0 := (World.ownsRow.stored h (k * 6) (.int .i64 r.D.ino)).1
  have s1 := (World.ownsRow.stored s0 (k * 6 + 1) (.int .i64 r.D.kind)).1
  have s2 := (World.ownsRow.stored s1 (k * 6 + 2) (.int .i64 r.D.links)).1
  have s3 := (World.ownsRow.stored s2 (k * 6 + 3) (.slice r.a1 r.D.data.length r.c1)).1
  have s4 := (World.ownsRow.stored s3 (k * 6 + 4) (.slice r.a2 r.D.ents.length r.c2)).1
  have s5 := (World.ownsRow.stored s4 (k * 6 + 5) (.slice r.a3 r.D.attrs.length r.c3)).1
  rw [iv_set rs k r (by omega)] at s5
  exact s5
/-- The p-th replaced. -/
theorem DQA.put {B : Nat} {W : World} {g n c lo hi : Nat} {ds : List InoR} {js : List InoJ} (h : DQA B W (.slice (some ⟨g, 0, none⟩) n c) ds js) (hn : js.length = n) (r r' : InoR) (hD : r'.D = r.D) (hG : (⟨r', lo, hi⟩ : InoJ).G W) (hlo : B ≤ lo ∧ lo ≤ hi ∧ hi ≤ W.heap.size) (hap : ∀ (i : Nat) (j : InoJ), js[i]? = some j → j.hi ≤ lo ∨ hi ≤ j.lo) (hg : g < lo ∨ hi ≤ g) (p : Nat) (hp : p < n) :
    DQA B ((((((W.setCell ⟨g, p * 6, none⟩ (.int .i64 r'.D.ino)).setCell ⟨g, p * 6 + 1, none⟩ (.int .i64 r'.D.kind)).setCell ⟨g, p * 6 + 2, none⟩ (.int .i64 r'.D.links)).setCell ⟨g, p * 6 + 3, none⟩ (.slice r'.a1 r'.D.data.length r'.c1)).setCell ⟨g, p * 6 + 4, none⟩ (.slice r'.a2 r'.D.ents.length r'.c2)).setCell ⟨g, p * 6 + 5, none⟩ (.slice r'.a3 r'.D.attrs.length r'.c3)) (.slice (some ⟨g, 0, none⟩) n c) (ds.set p r) (js.set p ⟨r', lo, hi⟩) := by
  have hrow := h.row
  rw [hn] at hrow
  have hr' := row_stored6 hrow p hp r'
  have hgr : W.grownBy ((((((W.setCell ⟨g, p * 6, none⟩ (.int .i64 r'.D.ino)).setCell ⟨g, p * 6 + 1, none⟩ (.int .i64 r'.D.kind)).setCell ⟨g, p * 6 + 2, none⟩ (.int .i64 r'.D.links)).setCell ⟨g, p * 6 + 3, none⟩ (.slice r'.a1 r'.D.data.length r'.c1)).setCell ⟨g, p * 6 + 4, none⟩ (.slice r'.a2 r'.D.ents.length r'.c2)).setCell ⟨g, p * 6 + 5, none⟩ (.slice r'.a3 r'.D.attrs.length r'.c3)) (some g) := gr_more (gr_more (gr_more (gr_more (gr_more (gr_setC W g (p * 6) _) (p * 6 + 1) _) (p * 6 + 2) _) (p * 6 + 3) _) (p * 6 + 4) _) (p * 6 + 5) _
  generalize (((((W.setCell ⟨g, p * 6, none⟩ (.int .i64 r'.D.ino)).setCell ⟨g, p * 6 + 1, none⟩ (.int .i64 r'.D.kind)).setCell ⟨g, p * 6 + 2, none⟩ (.int .i64 r'.D.links)).setCell ⟨g, p * 6 + 3, none⟩ (.slice r'.a1 r'.D.data.length r'.c1)).setCell ⟨g, p * 6 + 4, none⟩ (.slice r'.a2 r'.D.ents.length r'.c2)).setCell ⟨g, p * 6 + 5, none⟩ (.slice r'.a3 r'.D.attrs.length r'.c3) = W' at hr' hgr ⊢
  have hs := hgr.size
  have hc : ∀ (i : Nat) (j : InoJ), (js.set p ⟨r', lo, hi⟩)[i]? = some j → (i = p ∧ j = ⟨r', lo, hi⟩) ∨ (i ≠ p ∧ js[i]? = some j) := by
    intro i j e
    by_cases he : p = i
    · subst he
      rw [List.getElem?_set_self (by omega)] at e
      exact .inl ⟨rfl, by simpa using e.symm⟩
    · rw [List.getElem?_set_ne he] at e
      exact .inr ⟨fun e => he e.symm, e⟩
  refine ⟨?_, ?_, ?_, ?_, ?_, ?_⟩
  · rw [List.map_set, List.map_set, h.ds, List.map_set]
    dsimp only
    rw [hD]
  · rw [List.length_set, hn, List.map_set]
    exact hr'
  · intro i j e
    rcases hc i j e with ⟨_, rfl⟩ | ⟨_, e⟩
    · exact InoG.kept hG (fun b h1 h2 => hgr.block b (by dsimp only at h2; omega) (by dsimp only at h1 h2; simp; omega))
    · exact InoG.kept (h.G i j e) (fun b h1 h2 => hgr.block b (by have := h.lo i j e; omega) (by have := h.ap g rfl i j e; simp; omega))
  · intro i j e
    rcases hc i j e with ⟨_, rfl⟩ | ⟨_, e⟩
    · dsimp only
      omega
    · have := h.lo i j e
      omega
  · intro i i' j j' e e' hne
    rcases hc i j e with ⟨h1, rfl⟩ | ⟨h1, e⟩
    · rcases hc i' j' e' with ⟨h2, rfl⟩ | ⟨h2, e'⟩
      · omega
      · have := hap i' j' e'
        dsimp only
        omega
    · rcases hc i' j' e' with ⟨h2, rfl⟩ | ⟨h2, e'⟩
      · exact hap i j e
      · exact h.apart i i' j j' e e' hne
  · intro m hm i j e
    simp [Value.ownBlock] at hm
    subst hm
    rcases hc i j e with ⟨_, rfl⟩ | ⟨_, e⟩
    · exact hg
    · exact h.ap g rfl i j e
/-- One put in, in another row. -/
theorem DQA.ins {B : Nat} {W W' : World} {v : Value} {g n c k lo hi : Nat} {ds : List InoR} {js : List InoJ} (h : DQA B W v ds js) (hn : js.length = n) (hk : k ≤ n) (r r' : InoR) (hD : r'.D = r.D) (hs : W.heap.size ≤ W'.heap.size)
    (hrow : W'.ownsRow B 68 6 (.slice (some ⟨g, 0, none⟩) (n + 1) c) (n + 1) (iv ((js.take k).map InoJ.r) ++ r'.six ++ iv ((js.drop k).map InoJ.r))) (hkeep : ∀ (i : Nat) (j : InoJ), js[i]? = some j → ∀ b, j.lo ≤ b → b < j.hi → W'.heap[b]? = W.heap[b]?)
    (hG : (⟨r', lo, hi⟩ : InoJ).G W') (hlo : B ≤ lo ∧ lo ≤ hi ∧ hi ≤ W'.heap.size) (hap : ∀ (i : Nat) (j : InoJ), js[i]? = some j → j.hi ≤ lo ∨ hi ≤ j.lo) (hg : g < lo ∨ hi ≤ g) (hgj : ∀ (i : Nat) (j : InoJ), js[i]? = some j → g < j.lo ∨ j.hi ≤ g) :
    DQA B W' (.slice (some ⟨g, 0, none⟩) (n + 1) c) (putAt ds r k) (js.take k ++ ⟨r', lo, hi⟩ :: js.drop k) := by
  have hlt : (js.take k).length = k := by rw [List.length_take]; omega
  have hc : ∀ (i : Nat) (j : InoJ), (js.take k ++ ⟨r', lo, hi⟩ :: js.drop k)[i]? = some j → (i = k ∧ j = ⟨r', lo, hi⟩) ∨ ∃ i0, js[i0]? = some j ∧ ((i < k ∧ i0 = i) ∨ (k < i ∧ i0 + 1 = i)) := by
    intro i j e
    by_cases hi' : i < k
    · rw [List.getElem?_append_left (by omega), List.getElem?_take_of_lt hi'] at e
      exact .inr ⟨i, e, .inl ⟨hi', rfl⟩⟩
    · rw [List.getElem?_append_right (by omega), hlt] at e
      by_cases hz : i = k
      · subst hz
        simp at e
        exact .inl ⟨rfl, e.symm⟩
      · obtain ⟨m, hm⟩ : ∃ m, i - k = m + 1 := ⟨i - k - 1, by omega⟩
        rw [hm, List.getElem?_cons_succ, List.getElem?_drop] at e
        exact .inr ⟨k + m, e, .inr ⟨by omega, by omega⟩⟩
  refine ⟨?_, ?_, ?_, ?_, ?_, ?_⟩
  · have hd := h.ds
    unfold putAt
    simp only [List.map_append, List.map_cons, List.map_take, List.map_drop, hd, hD]
  · have hl : (js.take k ++ ⟨r', lo, hi⟩ :: js.drop k).length = n + 1 := by simp; omega
    rw [hl, List.map_append, List.map_cons, iv_append, iv_cons, ← List.append_assoc]
    exact hrow
  · intro i j e
    rcases hc i j e with ⟨_, rfl⟩ | ⟨i0, e0, _⟩
    · exact hG
    · exact InoG.kept (h.G i0 j e0) (hkeep i0 j e0)
  · intro i j e
    rcases hc i j e with ⟨_, rfl⟩ | ⟨i0, e0, _⟩
    · exact hlo
    · have := h.lo i0 j e0
      omega
  · intro i i' j j' e e' hne
    rcases hc i j e with ⟨h1, rfl⟩ | ⟨i0, e0, h1⟩
    · rcases hc i' j' e' with ⟨h2, rfl⟩ | ⟨i1, e1, h2⟩
      · omega
      · have := hap i1 j' e1
        dsimp only
        omega
    · rcases hc i' j' e' with ⟨h2, rfl⟩ | ⟨i1, e1, h2⟩
      · exact hap i0 j e0
      · exact h.apart i0 i1 j j' e0 e1 (by omega)
  · intro m hm i j e
    simp [Value.ownBlock] at hm
    subst hm
    rcases hc i j e with ⟨_, rfl⟩ | ⟨i0, e0, _⟩
    · exact hg
    · exact hgj i0 j e0
theorem iv_one (rs : List InoR) : ∀ u ∈ iv rs, u.oneCell' = true := fun u hu => by
  unfold iv at hu
  obtain ⟨r, _, hr⟩ := List.mem_flatMap.1 hu
  exact six_one r u hr
theorem iv_take (rs : List InoR) (k : Nat) : iv (rs.take k) = (iv rs).take (k * 6) := by
  by_cases h : k ≤ rs.length
  · have e : iv rs = iv (rs.take k) ++ iv (rs.drop k) := by rw [← iv_append, List.take_append_drop]
    rw [e, List.take_left' (by rw [iv_length, List.length_take]; omega)]
  · rw [List.take_of_length_le (by omega), List.take_of_length_le (by rw [iv_length]; omega)]
theorem iv_drop (rs : List InoR) (k : Nat) : iv (rs.drop k) = (iv rs).drop (k * 6) := by
  by_cases h : k ≤ rs.length
  · have e : iv rs = iv (rs.take k) ++ iv (rs.drop k) := by rw [← iv_append, List.take_append_drop]
    rw [e, List.drop_left' (by rw [iv_length, List.length_take]; omega)]
  · rw [List.drop_of_length_le (by omega), List.drop_of_length_le (by rw [iv_length]; omega)]
    rfl
/-- The cells of a table's row. -/
theorem DQA.cell {B : Nat} {W : World} {g n c : Nat} {ds : List InoR} {js : List InoJ} (h : DQA B W (.slice (some ⟨g, 0, none⟩) n c) ds js) (hn : js.length = n) (j : Nat) (u : Value) (hu : (iv (js.map InoJ.r))[j]? = some u) : W.cell? ⟨g, j, none⟩ = some u := by
  have hr := h.row
  rw [hn] at hr
  have hj := (List.getElem?_eq_some_iff.1 hu).1
  rw [hr.1] at hj
  rw [World.ownsRow.cellAt hr j (by omega)]
  exact hu
theorem DQA.own {B : Nat} {W : World} {g n c : Nat} {ds : List InoR} {js : List InoJ} (h : DQA B W (.slice (some ⟨g, 0, none⟩) n c) ds js) (hn : js.length = n) : OwnI W g n c (js.map InoJ.r) := by
  rcases h.cases hn with ⟨h', _⟩ | ⟨g', h', _, ho⟩
  · simp at h'
  · simp at h'
    subst h'
    exact ho
end

section
open Go.RowKit
/-- Numbers as cells. -/
def iV (xs : List Int) : List Value := xs.map (Value.int .i64)
theorem iV_at {xs : List Int} {k : Nat} {x : Int} (h : xs[k]? = some x) : (iV xs)[k]? = some (.int .i64 x) := by simp [iV, h]
theorem Tryz.info3 : (Tryz.prog.info? 3).map (fun i => (i.zero, i.size, i.bytes)) = some (some (.int .i64 0), 1, 8) := by kernel_rfl
end
end Go.Proofs.YtbjfihabkpianaaGreatDoor
