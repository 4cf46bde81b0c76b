/-
  Joined: Tree, Paths, Ints, PutI.
-/
import Derived.Test.YtmfimoccemgoiaaGreatDoorJ16B
import Derived.Test.YtmfimoccemgoiaaGreatDoorTabOkSB
namespace Go.Proofs.YtmfimoccemgoiaaGreatDoor
section
open Go.RowKit
/-- x ahead of the last ones that are greater. -/
def insBy {α : Type} (gt : α → Bool) (l : List α) (x : α) : List α := (l.reverse.dropWhile gt).reverse ++ x :: (l.reverse.takeWhile gt).reverse
theorem takeWhile_app {α : Type} (p : α → Bool) (l m : List α) (h : ∀ y ∈ l, p y = true) : (l ++ m).takeWhile p = l ++ m.takeWhile p ∧ (l ++ m).dropWhile p = m.dropWhile p := by
  induction l with
  | nil => exact ⟨rfl, rfl⟩
  | cons y l ih =>
    have h1 := h y (List.mem_cons_self ..)
    have h2 := ih fun z hz => h z (List.mem_cons_of_mem _ hz)
    simp [h1, h2.1, h2.2]
theorem insBy_at {α : Type} {gt : α → Bool} {l : List α} {x : α} {k : Nat} (hk : k ≤ l.length) (h1 : ∀ y ∈ l.drop k, gt y = true) (h2 : k = 0 ∨ ∃ y, l[k - 1]? = some y ∧ gt y = false) : insBy gt l x = l.take k ++ x :: l.drop k := by
  have e : l.reverse = (l.drop k).reverse ++ (l.take k).reverse := by rw [← List.reverse_append, List.take_append_drop]
  have hh := takeWhile_app gt (l.drop k).reverse (l.take k).reverse (fun y hy => h1 y (List.mem_reverse.1 hy))
  unfold insBy
  rw [e, hh.1, hh.2]
  have h3 : (l.take k).reverse.takeWhile gt = [] ∧ (l.take k).reverse.dropWhile gt = (l.take k).reverse := by
    rcases h2 with rfl | ⟨y, hy, hg⟩
    · simp
    · have hk0 : k ≠ 0 := by
        rintro rfl
        obtain ⟨y', hy'⟩ : ∃ y', l[0]? = some y' := ⟨y, hy⟩
        have := h1 y (by simpa using List.mem_of_getElem? hy)
        rw [this] at hg
        simp at hg
      have e2 : (l.take k).reverse = y :: (l.take (k - 1)).reverse := by
        have : l.take k = l.take (k - 1) ++ [y] := by
          obtain ⟨m, rfl⟩ : ∃ m, k = m + 1 := ⟨k - 1, by omega⟩
          rw [Nat.add_sub_cancel] at hy ⊢
          rw [List.take_add_one, hy]
          rfl
        rw [this]
        simp
      rw [e2]
      simp [hg]
  rw [h3.1, h3.2]
  simp
theorem insBy_perm {α : Type} (gt : α → Bool) (l : List α) (x : α) : ∃ a b, l = a ++ b ∧ insBy gt l x = a ++ x :: b := by
  refine ⟨(l.reverse.dropWhile gt).reverse, (l.reverse.takeWhile gt).reverse, ?_, rfl⟩
  rw [← List.reverse_append, List.takeWhile_append_dropWhile, List.reverse_reverse]
theorem insBy_mem {α : Type} {gt : α → Bool} {l : List α} {x y : α} : y ∈ insBy gt l x ↔ y = x ∨ y ∈ l := by
  obtain ⟨a, b, h1, h2⟩ := insBy_perm gt l x
  rw [h2]
  subst h1
  simp only [List.mem_append, List.mem_cons]
  constructor
  · rintro (h | h | h)
    · exact .inr (.inl h)
    · exact .inl h
    · exact .inr (.inr h)
  · rintro (h | h | h)
    · exact .inr (.inl h)
    · exact .inl h
    · exact .inr (.inr h)
theorem insBy_len {α : Type} (gt : α → Bool) (l : List α) (x : α) : (insBy gt l x).length = l.length + 1 := by
  obtain ⟨a, b, h1, h2⟩ := insBy_perm gt l x
  rw [h2]
  subst h1
  simp
  omega
/-- How many entries of all directories lead to this number. -/
def linksIn (D : InoD) (x : Int) : Nat := if D.kind = 2 then (D.ents.filter fun e => e.2 == x).length else 0
def linksD (ds : List InoD) (x : Int) : Nat := (ds.map fun D => linksIn D x).sum
/-- A number put in order, if it is not there. -/
def putI (l : List Int) (x : Int) : List Int := if x ∈ l then l else insBy (fun y => decide (x < y)) l x
def dirEnts (ds : List InoD) (x : Int) : List (ByteArray × Int) := match look ds x with
  | some D => if D.kind = 2 then D.ents else []
  | none => []
def addE (ds : List InoD) (o : List Int) (es : List (ByteArray × Int)) : List Int := es.foldl (fun o e => if (look ds e.2).isSome then putI o e.2 else o) o
/-- What is reached by one entry more. -/
def nextD (ds : List InoD) (l : List Int) : List Int := l.foldl (fun o x => addE ds o (dirEnts ds x)) l
def reachN (ds : List InoD) : Nat → List Int
  | 0 => [1]
  | k + 1 => nextD ds (reachN ds k)
def reachD (ds : List InoD) : List Int := if (look ds 1).isSome then reachN ds ds.length else []
/-- Numbers of the table, none twice. -/
structure InTab (ds : List InoD) (l : List Int) : Prop where
  nd : l.Nodup
  mem : ∀ x ∈ l, (look ds x).isSome = true
theorem InTab.put {ds : List InoD} {l : List Int} (h : InTab ds l) {x : Int} (hx : (look ds x).isSome = true) : InTab ds (putI l x) := by
  unfold putI
  split
  · exact h
  · rename_i hn
    refine ⟨?_, fun y hy => ?_⟩
    · obtain ⟨a, b, h1, h2⟩ := insBy_perm (fun y => decide (x < y)) l x
      rw [h2]
      have hnd := h.nd
      rw [h1, List.nodup_append] at hnd
      have hna : x ∉ a ∧ x ∉ b := by
        rw [h1] at hn
        simpa [List.mem_append, not_or] using hn
      rw [List.nodup_append]
      refine ⟨hnd.1, List.nodup_cons.2 ⟨hna.2, hnd.2.1⟩, fun y hy z hz => ?_⟩
      rcases List.mem_cons.1 hz with rfl | hz
      · exact fun e => hna.1 (e ▸ hy)
      · exact hnd.2.2 y hy z hz
    · rcases insBy_mem.1 hy with rfl | hy
      · exact hx
      · exact h.mem y hy
theorem InTab.add {ds : List InoD} {l : List Int} (h : InTab ds l) (es : List (ByteArray × Int)) : InTab ds (addE ds l es) := by
  unfold addE
  induction es generalizing l with
  | nil => exact h
  | cons e es ih =>
    rw [List.foldl_cons]
    apply ih
    split
    · rename_i hx
      exact h.put hx
    · exact h
theorem InTab.fold {ds : List InoD} {o : List Int} (h : InTab ds o) (l : List Int) : InTab ds (l.foldl (fun o x => addE ds o (dirEnts ds x)) o) := by
  induction l generalizing o with
  | nil => exact h
  | cons x l ih =>
    rw [List.foldl_cons]
    exact ih (h.add _)
theorem InTab.next {ds : List InoD} {l : List Int} (h : InTab ds l) : InTab ds (nextD ds l) := h.fold l
theorem InTab.reach {ds : List InoD} (h : (look ds 1).isSome = true) (k : Nat) : InTab ds (reachN ds k) := by
  induction k with
  | zero => exact ⟨by simp [reachN], fun x hx => by simp [reachN] at hx; subst hx; exact h⟩
  | succ k ih => exact ih.next
theorem sub_len {α : Type} [BEq α] [LawfulBEq α] : ∀ {l m : List α}, l.Nodup → (∀ x ∈ l, x ∈ m) → l.length ≤ m.length
  | [], _, _, _ => Nat.zero_le _
  | x :: l, m, hn, hs => by
    have hx := hs x (List.mem_cons_self ..)
    have hn' := List.nodup_cons.1 hn
    have h1 := sub_len (l := l) (m := m.erase x) hn'.2 (fun y hy => (List.mem_erase_of_ne (by rintro rfl; exact hn'.1 hy)).2 (hs y (List.mem_cons_of_mem _ hy)))
    have h2 := List.length_erase_of_mem hx
    have h3 := List.length_pos_of_mem hx
    simp only [List.length_cons]
    omega
theorem look_ino {ds : List InoD} {x : Int} (h : (look ds x).isSome = true) : x ∈ ds.map InoD.ino := by
  obtain ⟨D, hD⟩ := Option.isSome_iff_exists.1 h
  obtain ⟨h1, h2⟩ := look_mem hD
  exact h2 ▸ List.mem_map_of_mem h1
theorem InTab.len {ds : List InoD} {l : List Int} (h : InTab ds l) : l.length ≤ ds.length := by
  have := sub_len h.nd (m := ds.map InoD.ino) (fun x hx => look_ino (h.mem x hx))
  simpa using this
/-- A table that is right; a tree. -/
def tabD (nx : Int) (ds : List InoD) : Bool := tabS nx (ds.map lift)
def treeD (nx : Int) (ds : List InoD) : Bool := tabD nx ds && (decide ((reachD ds).length = ds.length) && ds.all fun D => decide ((linksD ds D.ino : Int) = D.links) && D.ents.all fun e => (look ds e.2).isSome)
theorem getD_lift (rs : List InoR) (i : Nat) : (((rs.map InoR.D).map lift).getD i inoZ).D = (rs.getD i inoZ).D := by
  rw [List.getD_eq_getElem?_getD, List.getD_eq_getElem?_getD, List.getElem?_map, List.getElem?_map]
  cases rs[i]? <;> rfl
theorem tabS_D (nx : Int) (rs : List InoR) : tabS nx rs = tabD nx (rs.map InoR.D) := by
  unfold tabD tabS
  have h : stepT nx ((rs.map InoR.D).map lift) = stepT nx rs := by
    funext i
    unfold stepT
    simp only [getD_lift]
  simp only [List.length_map, getD_lift, h]
theorem tabD_ok {nx : Int} {ds : List InoD} (h : tabD nx ds = true) : 1 ≤ ds.length ∧ ds.length ≤ 30 ∧ 2 ≤ nx ∧ nx ≤ 1000 ∧ (∀ D ∈ ds, inoOk D = true ∧ D.ino < nx) ∧ ∃ D, ds[0]? = some D ∧ D.ino = 1 ∧ D.kind = 2 := by
  unfold tabD tabS at h
  simp only [List.length_map, Bool.and_eq_true, decide_eq_true_eq, List.all_eq_true, List.mem_range] at h
  obtain ⟨⟨h1, h2⟩, ⟨h3, h4⟩, h5, h6, h7⟩ := h
  refine ⟨h1, h2, h3, h4, fun D hD => ?_, ds[0], List.getElem?_eq_getElem (by omega), ?_, ?_⟩
  · obtain ⟨i, hi⟩ := List.getElem?_of_mem hD
    have hl := (List.getElem?_eq_some_iff.1 hi).1
    have := h5 i hl
    unfold stepT at this
    have e : ((ds.map lift).getD i inoZ).D = D := by
      rw [List.getD_eq_getElem?_getD, List.getElem?_map, hi]
      rfl
    rw [e] at this
    simp only [Bool.and_eq_true, decide_eq_true_eq] at this
    exact ⟨this.1, this.2.1⟩
  · rw [← h6, List.getD_eq_getElem?_getD, List.getElem?_map, List.getElem?_eq_getElem (by omega)]
    rfl
  · rw [← h7, List.getD_eq_getElem?_getD, List.getElem?_map, List.getElem?_eq_getElem (by omega)]
    rfl
end

section
open Go.RowKit
/-- The entries of the inode of this number; none, where there is none. -/
def entsAt (ds : List InoD) (x : Int) : List (ByteArray × Int) := ((look ds x).getD inoZ.D).ents
theorem ok_parts {D : InoD} (h : inoOk D = true) : 0 ≤ D.links ∧ (D.links = 0 ↔ D.ino = 1) ∧ entsOk D.ents = true ∧ kindR D = true ∧ D.data.length ≤ 100 ∧ attsOk D.attrs = true := by
  unfold inoOk at h
  simp only [Bool.and_eq_true, decide_eq_true_eq] at h
  obtain ⟨⟨⟨⟨⟨⟨_, h1⟩, h2⟩, h3⟩, h4⟩, h5⟩, h6⟩ := h
  refine ⟨h1.1, ?_, h4, h6, h3, h5⟩
  have := beq_iff_eq.1 h2
  constructor
  · intro e
    rw [e] at this
    simpa using this.symm
  · intro e
    rw [e] at this
    simpa using this
theorem entsOk_at {es : List (ByteArray × Int)} (h : entsOk es = true) : es.length ≤ 10 ∧ ∀ e ∈ es, nameOk e.1.data.toList = true ∧ 2 ≤ e.2 ∧ e.2 ≤ 1000 := by
  unfold entsOk at h
  simp only [Bool.and_eq_true, decide_eq_true_eq, List.all_eq_true, List.mem_range] at h
  refine ⟨h.2, fun e he => ?_⟩
  obtain ⟨i, hi⟩ := List.getElem?_of_mem he
  have hl := (List.getElem?_eq_some_iff.1 hi).1
  have := h.1 i hl
  unfold entAt at this
  have e1 : es.getD i entD = e := by rw [List.getD_eq_getElem?_getD, hi]; rfl
  rw [e1] at this
  simp only [Bool.and_eq_true, decide_eq_true_eq] at this
  exact ⟨this.1.1, this.1.2⟩
/-- The paths below a number, to a depth. -/
def sub (p : ByteArray) (e : ByteArray × Int) : ByteArray := p ++ (⟨#[47]⟩ : ByteArray) ++ e.1
def pathsF (ds : List InoD) : Nat → Int → ByteArray → List ByteArray
  | 0, _, _ => []
  | f + 1, x, p => (entsAt ds x).flatMap fun e => sub p e :: pathsF ds f e.2 (sub p e)
theorem treeD_parts {nx : Int} {ds : List InoD} (h : treeD nx ds = true) : tabD nx ds = true ∧ (reachD ds).length = ds.length ∧ ∀ D ∈ ds, (linksD ds D.ino : Int) = D.links ∧ ∀ e ∈ D.ents, (look ds e.2).isSome = true := by
  unfold treeD at h
  simp only [Bool.and_eq_true, decide_eq_true_eq, List.all_eq_true] at h
  exact ⟨h.1, h.2.1, h.2.2⟩
/-- y is greater than z. -/
def gtS (z y : ByteArray) : Bool := !(Op.bytesLess y.toList z.toList || y.toList == z.toList)
end

section
open Go.RowKit
/-- The values can be read from an address on. -/
def RdV (w : World) (a : Option Addr) (vs : List Value) : Prop := vs = [] ∨ ∃ b off, a = some ⟨b, off, none⟩ ∧ ∀ (i : Nat) (v : Value), vs[i]? = some v → w.cell? ⟨b, off + i, none⟩ = some v
theorem RdV.lt {w : World} {a : Option Addr} {vs : List Value} (h : RdV w a vs) (hz : vs ≠ []) : ∃ b off, a = some ⟨b, off, none⟩ ∧ b < w.heap.size ∧ ∀ (i : Nat) (v : Value), vs[i]? = some v → w.cell? ⟨b, off + i, none⟩ = some v := by
  rcases h with h | ⟨b, off, rfl, hc⟩
  · exact absurd h hz
  · obtain ⟨v, l, rfl⟩ := List.exists_cons_of_ne_nil hz
    exact ⟨b, off, rfl, World.block_lt_of_cell? w _ (hc 0 v rfl), hc⟩
theorem RdV.keep {w w' : World} {a : Option Addr} {vs : List Value} (h : RdV w a vs) (hb : Below w.heap.size w w') : RdV w' a vs := by
  by_cases hz : vs = []
  · exact .inl hz
  · obtain ⟨b, off, rfl, hlt, hc⟩ := h.lt hz
    exact .inr ⟨b, off, rfl, fun i v hi => (hb.cell (p := ⟨b, off + i, none⟩) hlt).trans (hc i v hi)⟩
theorem rowV_rd {w : World} {B : Nat} {e : TypeId} {g n c : Nat} {vs : List Value} (h : w.ownsRow B e 1 (.slice (some ⟨g, 0, none⟩) n c) n vs) : RdV w (some ⟨g, 0, none⟩) vs := by
  refine .inr ⟨g, 0, rfl, fun i v hi => ?_⟩
  have hl := (List.getElem?_eq_some_iff.1 hi).1
  have hn := h.1
  rw [Nat.zero_add, World.ownsRow.cellAt h i (by omega)]
  exact hi
/-- Numbers as cells. -/
def iV (xs : List Int) : List Value := xs.map (Value.int .i64)
theorem iV_len (xs : List Int) : (iV xs).length = xs.length := by simp [iV]
theorem iV_at {xs : List Int} {k : Nat} {x : Int} (h : xs[k]? = some x) : (iV xs)[k]? = some (.int .i64 x) := by simp [iV, h]
theorem iV_one (xs : List Int) : ∀ u ∈ iV xs, u.oneCell' = true := fun u hu => by obtain ⟨z, _, rfl⟩ := List.mem_map.1 hu; rfl
theorem Tryz.info3 : (Tryz.prog.info? 3).map (fun i => (i.zero, i.size, i.bytes)) = some (some (.int .i64 0), 1, 8) := by kernel_rfl
/-- A row of one cell an element, appended to a fresh empty one. -/
theorem fresh_vals (W : World) (B g : Nat) (t e : TypeId) (i : TypeInfo) (z : Value) (bytes : Nat) (ht : Tryz.prog.underlying t = some (.slice e)) (hi : Tryz.prog.info? e = some i) (hz : i.zero = some z) (hsize : i.size = 1) (hby : i.bytes = bytes) (hzs : z.cells.size = 1) (hb64 : bytes ≤ 64) (a : Option Addr) (n c : Nat) (vs : List Value) (hn : vs.length = n) (hs : n ≤ 8000000) (hone : ∀ u ∈ vs, u.oneCell' = true) (hB : B ≤ g) (hown : W.ownsRow B e 1 (.slice (some ⟨g, 0, none⟩) 0 0) 0 []) (hr : RdV W a vs) (ty : TypeId) :
    ∃ g' c' W', (Builtin.append_ #[t, t] ty #[.slice (some ⟨g, 0, none⟩) 0 0, .slice a n c]).run Tryz.prog W = .ok (.slice (some ⟨g', 0, none⟩) n c') W' ∧ W'.ownsRow B e 1 (.slice (some ⟨g', 0, none⟩) n c') n vs ∧ B ≤ g' ∧ g' < W'.heap.size ∧ Below W.heap.size W W' := by
  refine run_fresh W B t ty e i z 1 bytes ht hi hz hsize hby hzs (by omega) g hB hown a n c vs (by simp [hn]) ?_ (fun _ => by cases a with | none => exact .inl rfl | some ad => exact .inr ⟨ad, rfl⟩) hone hs hb64
  rcases hr with rfl | ⟨b, off, rfl, hc⟩
  · exact .inl rfl
  · exact .inr ⟨_, rfl, fun j u hj => by rw [show (⟨b, off, none⟩ : Addr).add j = ⟨b, off + j, none⟩ by simp [Addr.add]]; exact hc j u hj⟩
/-- One more element of one cell. -/
theorem wpList_app1 (w : World) {ops : Array Oper} {rest : List Oper} {o : Oper} {a : Act} {Q : Exit → Act → World → Prop} (hgd : o.guard = none) (s x : Operand) (t e : TypeId)
    (ho : o.op = .call { callee := .builtin .append, args := #[s, x], argTypes := #[t, t] }) (ht : Tryz.prog.underlying t = some (.slice e)) (i : TypeInfo) (z : Value) (bytes : Nat) (hi : Tryz.prog.info? e = some i) (hz : i.zero = some z) (hsz : i.size = 1) (hby : i.bytes = bytes) (hzs : z.cells.size = 1) (hb64 : bytes ≤ 64)
    (B g k c : Nat) (vs : List Value) (hs : a.eval s = .slice (some ⟨g, 0, none⟩) k c) (hown : w.ownsRow B e 1 (.slice (some ⟨g, 0, none⟩) k c) k vs)
    (ad : Nat) (u : Value) (hx : a.eval x = .slice (some ⟨ad, 0, none⟩) 1 1) (hcell : w.cell? ⟨ad, 0, none⟩ = some u) (hone : u.oneCell' = true) (hk : k ≤ 8000000) (hB : B ≤ w.heap.size) (H : Nat) (hH : w.heap.size = H)
    (h : ∀ g' c' w', w'.ownsRow B e 1 (.slice (some ⟨g', 0, none⟩) (k + 1) c') (k + 1) (vs ++ [u]) → w.grownBy w' (some g) → (g' = g ∨ g' = H) → wpList Tryz.prog ops Q rest (a.put o.dst (.slice (some ⟨g', 0, none⟩) (k + 1) c')) w') :
    wpList Tryz.prog ops Q (o :: rest) a w := by
  refine wpList_append_own_at w hgd s x t ho B e i z 1 bytes ht hi hz hsz hby hzs (by decide) _ k vs hs hown ⟨ad, 0, none⟩ 1 1 [u] hx rfl ?_ (by intro y hy; simp at hy; subst hy; exact hone) (by unfold maxLen; omega) (by have : (k + 1) * bytes ≤ 8000001 * 64 := Nat.mul_le_mul (by omega) hb64; omega) hB ?_
  · intro j y hj
    cases j with
    | zero => simp at hj; subst hj; simpa [Addr.add] using hcell
    | succ j => simp at hj
  · intro v' w' h1 h2 _ h4
    obtain ⟨g', c', rfl⟩ := ownsRow_succ h1
    refine h g' c' w' h1 h2 ?_
    rcases h4 with h4 | h4
    · left; simpa [Value.ownBlock] using h4
    · right; rw [← hH]; simpa [Value.ownBlock] using h4
set_option maxRecDepth 100000 in
set_option maxHeartbeats 2000000 in
theorem l7HasS (a : Option Addr) (n cap : Nat) (x : Int) (xs : List Int) (w : World) (hn : xs.length = n) (hs : n ≤ 4000000) (hr : RdV w a (iV xs)) :
    Calls Tryz.prog 194 #[.slice a n cap, .int .i64 x] w fun e w' => e = .returned (.bool (decide (x ∈ xs))) ∧ w' = w := by
  have hn' : Hid (xs.length = n) := hn
  have HR : Hid _ := hr
  have hR : Hid (∀ k : Nat, xs[k]? = some x → true = decide (x ∈ xs)) := fun k hk => by
    have := List.mem_of_getElem? hk
    simp [this]
  have hE : Hid ((∀ j, j < n → xs[j]? ≠ some x) → false = decide (x ∈ xs)) := by
    intro h
    have : x ∉ xs := fun hm => by
      obtain ⟨j, hj⟩ := List.getElem?_of_mem hm
      exact h j (by rw [← hn]; exact (List.getElem?_eq_some_iff.1 hj).1) hj
    simp [this]
  generalize decide (x ∈ xs) = R at hR hE ⊢
  clear hr hn
  go_enter Tryz.func194, Tryz.ntmps194
  go_wp2
  go_loop [5] (fun i => ∃ k : Nat, k ≤ n ∧ i = .int .i64 k ∧ Hid (∀ j, j < k → xs[j]? ≠ some x)) (fun i => n - (intOf i).toNat)
  case atStart => exact ⟨0, Nat.zero_le _, rfl, fun j hj => by omega⟩
  case round =>
    obtain ⟨k, hk, rfl, hall⟩ := hrel
    by_cases hkn : k < n
    · have hki : (k : Int) < (n : Int) := by omega
      have hkl : k < xs.length := by rw [hn'.out]; exact hkn
      obtain ⟨y, hy⟩ : ∃ y, xs[k]? = some y := ⟨_, List.getElem?_eq_getElem hkl⟩
      obtain ⟨b, off, rfl, hlt, hc⟩ := RdV.lt HR.out (by intro h; have := congrArg List.length h; rw [iV_len] at this; simp at this; rw [this] at hkl; simp at hkl)
      have x0 := hc k _ (iV_at hy)
      have hyes : Hid (y = x → true = R) := fun he => hR.out k (he ▸ hy)
      have hno : Hid (y ≠ x → ∀ j, j < k + 1 → xs[j]? ≠ some x) := by
        intro he j hj
        rcases (show j < k ∨ j = k by omega) with h | rfl
        · exact hall.out j h
        · rw [hy]
          simpa using he
      clear hc hy hall hR hE HR
      by_cases he : y = x
      · have hb : (y == x) = true := by simp [he]
        have hend : Hid (true = R) := hyes.out he
        subst he
        clear hyes hno
        go_wp2
        go_ret
        exact ⟨ret_bool hend.out, rfl⟩
      · have hb : (y == x) = false := by simp [he]
        have hnx : Hid _ := hno.out he
        clear hyes hno
        go_wp2
        go_round
        case rel => exact ⟨k + 1, by omega, by go_num, hnx⟩
        case measure => simp [intOf]; omega
    · have hki : ¬ (k : Int) < (n : Int) := by omega
      have hend : Hid (false = R) := hE.out (fun j hj => hall.out j (by omega))
      clear hR hE HR hall
      go_wp2
      go_ret
      exact ⟨ret_bool hend.out, rfl⟩
/-- The row while the greater ones are moved. -/
theorem hole_step {α : Type} {l : List α} {q : Nat} {y : α} (u : α) (h : l[q]? = some y) : (l.take (q + 1) ++ u :: l.drop (q + 1)).set (q + 1) y = l.take q ++ y :: l.drop q := by
  have hq := (List.getElem?_eq_some_iff.1 h).1
  have h1 : (l.take (q + 1)).length = q + 1 := by simp; omega
  rw [List.set_append_right _ _ (by omega), h1, Nat.sub_self, List.set_cons_zero, List.take_add_one, h]
  have h2 : l.drop q = y :: l.drop (q + 1) := by
    rw [List.drop_eq_getElem_cons hq]
    congr 1
    exact (List.getElem?_eq_some_iff.1 h).2
  rw [h2]
  simp
theorem hole_end {α : Type} {l : List α} {p : Nat} (u x : α) (hp : p ≤ l.length) : (l.take p ++ u :: l.drop p).set p x = l.take p ++ x :: l.drop p := by
  have h1 : (l.take p).length = p := by simp; omega
  rw [List.set_append_right _ _ (by omega), h1, Nat.sub_self, List.set_cons_zero]
theorem hole_left {α : Type} {l : List α} {p q : Nat} {y : α} (u : α) (hq : q < p) (hp : p ≤ l.length) (h : l[q]? = some y) : (l.take p ++ u :: l.drop p)[q]? = some y := by
  rw [List.getElem?_append_left (by simp; omega), List.getElem?_take_of_lt hq, h]
theorem hole_len {α : Type} {l : List α} {p : Nat} (u : α) (hp : p ≤ l.length) : (l.take p ++ u :: l.drop p).length = l.length + 1 := by simp; omega
theorem drop_mem {α : Type} {l : List α} {q : Nat} {y z : α} (h : l[q]? = some y) (hz : z ∈ l.drop q) : z = y ∨ z ∈ l.drop (q + 1) := by
  have hq := (List.getElem?_eq_some_iff.1 h).1
  rw [List.drop_eq_getElem_cons hq] at hz
  rcases List.mem_cons.1 hz with hz | hz
  · exact .inl (hz.trans (List.getElem?_eq_some_iff.1 h).2)
  · exact .inr hz
end

section
open Go.RowKit
set_option maxRecDepth 100000 in
set_option maxHeartbeats 4000000 in
theorem l7PutS (a : Option Addr) (n cap : Nat) (x : Int) (xs : List Int) (w : World) (hn : xs.length = n) (hs : n ≤ 4000000) (hr : RdV w a (iV xs)) :
    Calls Tryz.prog 142 #[.slice a n cap, .int .i64 x] w fun e w' => ∃ a' c', e = .returned (.slice a' (putI xs x).length c') ∧ RdV w' a' (iV (putI xs x)) ∧ Below w.heap.size w w' := by
  have hcH := l7HasS a n cap x xs w hn hs hr
  by_cases hx : x ∈ xs
  · have hp : putI xs x = xs := by unfold putI; rw [if_pos hx]
    rw [hp, hn]
    have HR : Hid _ := hr
    rw [decide_eq_true hx] at hcH
    clear hr hp hx hn
    go_enter Tryz.func142, Tryz.ntmps142
    go_wp2_with fail
    (with_reducible refine hcH.mono ?_)
    rintro e w1 ⟨rfl, hw1⟩
    obtain rfl := hw1.symm
    clear hcH
    go_wp2
    go_ret
    exact ⟨a, cap, rfl, HR.out, Below.refl _ _⟩
  · have hp : putI xs x = insBy (fun y => decide (x < y)) xs x := by unfold putI; rw [if_neg hx]
    rw [hp, insBy_len, hn]
    rw [decide_eq_false hx] at hcH
    have hn' : Hid (xs.length = n) := hn
    obtain ⟨i0, hi, hz0, hz1, hz2⟩ := info_parts Tryz.info3
    have hfr := fun ty => fresh_vals (w.alloc (.cells #[] 3)) w.heap.size w.heap.size 59 3 i0 (.int .i64 0) 8 Tryz.underlying59 hi hz0 hz1 hz2 rfl (by omega) a n cap (iV xs) (by rw [iV_len, hn]) (by omega) (iV_one xs) (Nat.le_refl _) (empty_row w w.heap.size 3 1 (Nat.le_refl _)) (hr.keep ((Below.refl _ w).alloc (Nat.le_refl _) _)) ty
    have BA : Below w.heap.size w (w.alloc (.cells #[] 3)) := (Below.refl _ w).alloc (Nat.le_refl _) _
    have HF : Hid _ := hfr
    clear hp hx hn hr hfr
    go_enter Tryz.func142, Tryz.ntmps142
    go_wp2_with fail
    (with_reducible refine hcH.mono ?_)
    rintro e w1 ⟨rfl, hw1⟩
    obtain rfl := hw1.symm
    clear hcH
    go_wp2_with (at_builtin; (first | refine wpList_fresh _ rfl (.tmp 11) (.tmp 12) 59 rfl w.heap.size w.heap.size a n cap 3 1 (iV xs) rfl rfl HF.out ?_; intro g1 c1 W1 o1 hg1 hl1 hb1 | refine wpList_app1 (W1.alloc (.cells #[.int .i64 x] 3)) rfl (.tmp 13) (.tmp 15) 59 3 rfl Tryz.underlying59 i0 (.int .i64 0) 8 hi hz0 hz1 hz2 rfl (by omega) w.heap.size g1 n c1 (iV xs) rfl (World.ownsRow.alloc o1 _) W1.heap.size (.int .i64 x) rfl (Blk.new W1 3 #[.int .i64 x] |>.cell 0) rfl (by omega) (by have := BA.size; have := hb1.size; simp at this ⊢; omega) (W1.heap.size + 1) (by simp) ?_; intro g2 c2 W2 o2 hg2 hat2))
    have hb2 : Below w.heap.size w W2 := by
      have h1 : Below w.heap.size w W1 := BA.trans (hb1.mono BA.size)
      have h2 := h1.alloc h1.size (.cells #[.int .i64 x] 3)
      exact h2.grown hg2 h2.size (fun m hm => by simp at hm; omega)
    have o2' : W2.ownsRow w.heap.size 3 1 (.slice (some ⟨g2, 0, none⟩) (n + 1) c2) (n + 1) (iV (xs.take n ++ x :: xs.drop n)) := by
      have e : iV (xs.take n ++ x :: xs.drop n) = iV xs ++ [.int .i64 x] := by
        rw [List.take_of_length_le (by rw [hn'.out]; omega), List.drop_of_length_le (by rw [hn'.out]; omega)]
        simp [iV]
      rw [e]
      exact o2
    have hgl : w.heap.size ≤ g2 := (World.ownsRow.lt o2 g2 rfl).1
    clear o1 o2 hg2 hb1 hat2 HF BA hl1 hi hz0 hz1 hz2
    go_loopw [6] (fun k wr => ∃ (p : Nat) (u : Int), p ≤ n ∧ k = .int .i64 p ∧ wr.ownsRow w.heap.size 3 1 (.slice (some ⟨g2, 0, none⟩) (n + 1) c2) (n + 1) (iV (xs.take p ++ u :: xs.drop p)) ∧ Below w.heap.size w wr ∧ Hid (∀ y ∈ xs.drop p, decide (x < y) = true)) (fun k _ => (intOf k).toNat)
    case atStart => exact ⟨n, x, Nat.le_refl _, by go_num, o2', hb2, fun y hy => by rw [List.drop_of_length_le (by rw [hn'.out]; omega)] at hy; simp at hy⟩
    case round =>
      obtain ⟨p, u, hp, rfl, ho, hb, hgt⟩ := hrel
      clear o2' hb2
      have fin : Hid (∀ W : World, W = wr.setCell ⟨g2, p, none⟩ (.int .i64 x) → (p = 0 ∨ ∃ y, xs[p - 1]? = some y ∧ decide (x < y) = false) → RdV W (some ⟨g2, 0, none⟩) (iV (insBy (fun y => decide (x < y)) xs x)) ∧ Below w.heap.size w W) := by
        intro W hW hc
        subst hW
        have h1 := (World.ownsRow.stored ho p (.int .i64 x)).1
        have e : (iV (xs.take p ++ u :: xs.drop p)).set p (.int .i64 x) = iV (insBy (fun y => decide (x < y)) xs x) := by
          rw [insBy_at (by rw [hn'.out]; exact hp) hgt.out hc]
          unfold iV
          rw [← List.map_set, hole_end u x (by rw [hn'.out]; exact hp)]
        rw [e] at h1
        exact ⟨rowV_rd h1, hb.setCell (p := ⟨g2, p, none⟩) hgl _⟩
      have hlen := hole_len u (show p ≤ xs.length by rw [hn'.out]; exact hp)
      have hcp := World.ownsRow.cellAt ho p (by omega)
      have hfp := World.ownsRow.frozenAt ho p
      obtain ⟨V, hV⟩ : ∃ V, (iV (xs.take p ++ u :: xs.drop p))[p]? = some V := ⟨_, List.getElem?_eq_getElem (by rw [iV_len, hlen, hn'.out]; omega)⟩
      rw [hV] at hcp
      have hpn1 : (p : Int) < ((n + 1 : Nat) : Int) := by omega
      have hp0' : (0 : Int) ≤ (p : Int) := by omega
      rcases Nat.eq_zero_or_pos p with rfl | hpos
      · have HD : Hid _ := fin.out _ rfl (.inl rfl)
        clear fin ho hb hgt hV hlen
        go_wp2
        go_ret
        exact ⟨_, _, rfl, HD.out⟩
      · obtain ⟨q, rfl⟩ : ∃ q, p = q + 1 := ⟨p - 1, by omega⟩
        have hql : q < xs.length := by rw [hn'.out]; omega
        obtain ⟨y, hy⟩ : ∃ y, xs[q]? = some y := ⟨_, List.getElem?_eq_getElem hql⟩
        have hcq := World.ownsRow.cellAt ho q (by omega)
        rw [iV_at (hole_left u (Nat.lt_succ_self q) (by rw [hn'.out]; exact hp) hy)] at hcq
        have hgt0 : (0 : Int) < ((q + 1 : Nat) : Int) := by omega
        have hqn : (q : Int) < ((n + 1 : Nat) : Int) := by omega
        have hq0 : (0 : Int) ≤ (q : Int) := by omega
        have hsub : (((q + 1 : Nat) : Int) - 1) = (q : Int) := by omega
        by_cases hxy : x < y
        · have hst := (World.ownsRow.stored ho (q + 1) (.int .i64 y)).1
          have e : (iV (xs.take (q + 1) ++ u :: xs.drop (q + 1))).set (q + 1) (.int .i64 y) = iV (xs.take q ++ y :: xs.drop q) := by
            unfold iV
            rw [← List.map_set, hole_step u hy]
          rw [e] at hst
          have hb' := hb.setCell (p := ⟨g2, q + 1, none⟩) hgl (.int .i64 y)
          have hgt' : Hid (∀ z ∈ xs.drop q, decide (x < z) = true) := fun z hz => by
            rcases drop_mem hy hz with rfl | hz
            · exact decide_eq_true hxy
            · exact hgt.out z hz
          clear fin ho hb hgt hV hlen e
          go_wp2
          go_roundw
          case rel => exact ⟨q, y, by omega, by go_num, hst, hb', hgt'⟩
          case measure => simp [intOf]
        · have HD : Hid _ := fin.out _ rfl (.inr ⟨y, by rw [Nat.add_sub_cancel]; exact hy, decide_eq_false hxy⟩)
          clear fin ho hb hgt hV hlen
          go_wp2
          go_ret
          first | exact ⟨_, _, rfl, HD.out⟩ | exact ⟨_, ⟨_, rfl⟩, HD.out⟩
end
end Go.Proofs.YtmfimoccemgoiaaGreatDoor
