/-
  Joined: ReachM, Ints, ReachI.
-/
import Derived.Test.YtfjlemnohjnkhaaGreatJ22F
namespace Go.Proofs.YtfjlemnohjnkhaaGreat
section
open Go.RowKit
/-- A set that has what its directories lead to. -/
def Closed (ds : List InoD) (S : Int → Prop) : Prop := ∀ y, S y → ∀ e ∈ dirEnts ds y, (look ds e.2).isSome = true → S e.2
/-- x leads to y, over entries. -/
def Leads (ds : List InoD) (x y : Int) : Prop := ∀ S : Int → Prop, Closed ds S → ((look ds x).isSome = true → S x) → S y
theorem Leads.self {ds : List InoD} {x : Int} (h : (look ds x).isSome = true) : Leads ds x x := fun _ _ k => k h
theorem Leads.step {ds : List InoD} {x y : Int} {e : ByteArray × Int} (h : Leads ds x y) (he : e ∈ dirEnts ds y) (hl : (look ds e.2).isSome = true) : Leads ds x e.2 := fun S hS k => hS y (h S hS k) e he hl
theorem Leads.trans {ds : List InoD} {x y z : Int} (h : Leads ds x y) (g : Leads ds y z) : Leads ds x z := fun S hS k => g S hS (fun _ => h S hS k)
theorem mem_putI {l : List Int} {x y : Int} : y ∈ putI l x ↔ y = x ∨ y ∈ l := by
  unfold putI
  split
  · rename_i h
    constructor
    · exact .inr
    · rintro (rfl | h')
      · exact h
      · exact h'
  · exact insBy_mem
theorem mem_addE {ds : List InoD} {y : Int} : ∀ {es : List (ByteArray × Int)} {o : List Int}, y ∈ addE ds o es ↔ y ∈ o ∨ ∃ e ∈ es, e.2 = y ∧ (look ds y).isSome = true
  | [], o => by simp [addE]
  | e :: es, o => by
    have ih := @mem_addE ds y es (if (look ds e.2).isSome then putI o e.2 else o)
    have e0 : addE ds o (e :: es) = addE ds (if (look ds e.2).isSome then putI o e.2 else o) es := rfl
    rw [e0, ih]
    constructor
    · rintro (h | ⟨f, hf, h1, h2⟩)
      · split at h
        · rename_i hl
          rcases mem_putI.1 h with rfl | h
          · exact .inr ⟨e, List.mem_cons_self .., rfl, hl⟩
          · exact .inl h
        · exact .inl h
      · exact .inr ⟨f, List.mem_cons_of_mem _ hf, h1, h2⟩
    · rintro (h | ⟨f, hf, h1, h2⟩)
      · left
        split
        · exact mem_putI.2 (.inr h)
        · exact h
      · rcases List.mem_cons.1 hf with rfl | hf
        · left
          rw [h1, if_pos h2]
          exact mem_putI.2 (.inl rfl)
        · exact .inr ⟨f, hf, h1, h2⟩
theorem mem_foldE {ds : List InoD} {y : Int} : ∀ {l o : List Int}, y ∈ l.foldl (fun o x => addE ds o (dirEnts ds x)) o ↔ y ∈ o ∨ ∃ x ∈ l, ∃ e ∈ dirEnts ds x, e.2 = y ∧ (look ds y).isSome = true
  | [], o => by simp
  | x :: l, o => by
    rw [List.foldl_cons, mem_foldE, mem_addE]
    constructor
    · rintro ((h | h) | ⟨z, hz, h⟩)
      · exact .inl h
      · exact .inr ⟨x, List.mem_cons_self .., h⟩
      · exact .inr ⟨z, List.mem_cons_of_mem _ hz, h⟩
    · rintro (h | ⟨z, hz, h⟩)
      · exact .inl (.inl h)
      · rcases List.mem_cons.1 hz with rfl | hz
        · exact .inl (.inr h)
        · exact .inr ⟨z, hz, h⟩
theorem mem_nextD {ds : List InoD} {l : List Int} {y : Int} : y ∈ nextD ds l ↔ y ∈ l ∨ ∃ x ∈ l, ∃ e ∈ dirEnts ds x, e.2 = y ∧ (look ds y).isSome = true := mem_foldE
theorem reachN_leads {ds : List InoD} (h : (look ds 1).isSome = true) : ∀ (k : Nat) (y : Int), y ∈ reachN ds k → Leads ds 1 y
  | 0, y, hy => by
    have : y = 1 := by simpa [reachN] using hy
    subst this
    exact Leads.self h
  | k + 1, y, hy => by
    rcases mem_nextD.1 hy with hy | ⟨x, hx, e, he, rfl, hl⟩
    · exact reachN_leads h k y hy
    · exact (reachN_leads h k x hx).step he hl
theorem reachN_one {ds : List InoD} : ∀ k : Nat, (1 : Int) ∈ reachN ds k
  | 0 => by simp [reachN]
  | k + 1 => mem_nextD.2 (.inl (reachN_one k))
theorem closed_of_sub {ds : List InoD} {l : List Int} (h : ∀ y ∈ nextD ds l, y ∈ l) : Closed ds (· ∈ l) := fun x hx e he hl => h _ (mem_nextD.2 (.inr ⟨x, hx, e, he, rfl, hl⟩))
theorem next_of_closed {ds : List InoD} {l : List Int} (h : Closed ds (· ∈ l)) : ∀ y, y ∈ nextD ds l ↔ y ∈ l := fun y => by
  rw [mem_nextD]
  constructor
  · rintro (h' | ⟨x, hx, e, he, rfl, hl⟩)
    · exact h'
    · exact h x hx e he hl
  · exact .inl
theorem reachN_closed {ds : List InoD} (h : (look ds 1).isSome = true) : ∀ k : Nat, Closed ds (· ∈ reachN ds k) ∨ k + 1 ≤ (reachN ds k).length
  | 0 => .inr (by simp [reachN])
  | k + 1 => by
    by_cases hs : ∀ y ∈ nextD ds (reachN ds k), y ∈ reachN ds k
    · left
      have hc := closed_of_sub hs
      have hm := next_of_closed hc
      intro x hx e he hl
      exact (hm _).2 (hc x ((hm x).1 hx) e he hl)
    · rcases reachN_closed h k with hc | hk
      · exact absurd (fun y hy => (next_of_closed hc y).1 hy) hs
      · right
        obtain ⟨y, hy⟩ := Classical.not_forall.1 hs
        have hy1 : y ∈ nextD ds (reachN ds k) := Classical.byContradiction fun c => hy fun a => absurd a c
        have hy2 : y ∉ reachN ds k := fun c => hy fun _ => c
        have hI := InTab.reach h k
        have h1 := sub_len (l := y :: reachN ds k) (m := nextD ds (reachN ds k)) (List.nodup_cons.2 ⟨hy2, hI.nd⟩) (fun z hz => by
          rcases List.mem_cons.1 hz with rfl | hz
          · exact hy1
          · exact mem_nextD.2 (.inl hz))
        rw [List.length_cons] at h1
        show k + 1 + 1 ≤ (nextD ds (reachN ds k)).length
        omega
theorem reachD_closed {ds : List InoD} (h : (look ds 1).isSome = true) : Closed ds (· ∈ reachD ds) := by
  unfold reachD
  rw [if_pos h]
  rcases reachN_closed h ds.length with hc | hk
  · exact hc
  · have := (InTab.reach h ds.length).len
    omega
/-- What is reached is what 1 leads to. -/
theorem reachD_iff {ds : List InoD} {S : List Int} (h1 : (look ds 1).isSome = true → (1 : Int) ∈ S) (hc : Closed ds (· ∈ S)) (hl : ∀ y ∈ S, Leads ds 1 y) (hn : (look ds 1).isSome = false → S = []) (y : Int) : y ∈ reachD ds ↔ y ∈ S := by
  cases hk : (look ds 1).isSome with
  | false =>
    rw [hn hk]
    unfold reachD
    rw [hk]
    simp
  | true =>
    constructor
    · intro hy
      unfold reachD at hy
      rw [if_pos hk] at hy
      exact reachN_leads hk _ y hy (· ∈ S) hc h1
    · intro hy
      refine hl y hy (· ∈ reachD ds) (reachD_closed hk) (fun _ => ?_)
      unfold reachD
      rw [if_pos hk]
      exact reachN_one _
theorem insBy_sorted {l : List Int} {x : Int} (h : l.Pairwise (· < ·)) (hx : x ∉ l) : (insBy (fun y => decide (x < y)) l x).Pairwise (· < ·) := by
  have e : l = (l.reverse.dropWhile (fun y => decide (x < y))).reverse ++ (l.reverse.takeWhile (fun y => decide (x < y))).reverse := by
    rw [← List.reverse_append, List.takeWhile_append_dropWhile, List.reverse_reverse]
  have hB : ∀ y ∈ (l.reverse.takeWhile (fun y => decide (x < y))).reverse, x < y := fun y hy => by
    have := List.all_takeWhile (p := fun y => decide (x < y)) (l := l.reverse)
    have := List.all_eq_true.1 this y (List.mem_reverse.1 hy)
    simpa using this
  have hA : ∀ y ∈ (l.reverse.dropWhile (fun y => decide (x < y))).reverse, y < x := by
    have hh := List.head?_dropWhile_not (fun y => decide (x < y)) l.reverse
    cases hd : l.reverse.dropWhile (fun y => decide (x < y)) with
    | nil => intro y hy; simp at hy
    | cons z t =>
      rw [hd] at hh
      simp at hh
      have hzl : z ∈ l := by rw [e, hd]; simp
      have hzx : z < x := by
        have : z ≠ x := fun c => hx (c ▸ hzl)
        omega
      intro y hy
      rw [List.reverse_cons] at hy
      rcases List.mem_append.1 hy with hy | hy
      · have hp : (t.reverse ++ [z]).Pairwise (· < ·) := by
          have h' := h
          rw [e, hd, List.reverse_cons] at h'
          exact (List.pairwise_append.1 h').1
        have := (List.pairwise_append.1 hp).2.2 y hy z (by simp)
        omega
      · have := List.mem_singleton.1 hy
        omega
  unfold insBy
  rw [e] at h
  have h2 := List.pairwise_append.1 h
  refine List.pairwise_append.2 ⟨h2.1, List.pairwise_cons.2 ⟨hB, h2.2.1⟩, fun y hy z hz => ?_⟩
  rcases List.mem_cons.1 hz with rfl | hz
  · exact hA y hy
  · exact h2.2.2 y hy z hz
theorem putI_sorted {l : List Int} (h : l.Pairwise (· < ·)) (x : Int) : (putI l x).Pairwise (· < ·) := by
  unfold putI
  split
  · exact h
  · rename_i hx
    exact insBy_sorted h hx
theorem addE_sorted {ds : List InoD} : ∀ {es : List (ByteArray × Int)} {o : List Int}, o.Pairwise (· < ·) → (addE ds o es).Pairwise (· < ·)
  | [], _, h => h
  | e :: es, o, h => by
    have e0 : addE ds o (e :: es) = addE ds (if (look ds e.2).isSome then putI o e.2 else o) es := rfl
    rw [e0]
    apply addE_sorted
    split
    · exact putI_sorted h _
    · exact h
theorem nextD_sorted {ds : List InoD} {l : List Int} (h : l.Pairwise (· < ·)) : (nextD ds l).Pairwise (· < ·) := by
  have : ∀ (m o : List Int), o.Pairwise (· < ·) → (m.foldl (fun o x => addE ds o (dirEnts ds x)) o).Pairwise (· < ·) := by
    intro m
    induction m with
    | nil => exact fun o h => h
    | cons x m ih => exact fun o h => ih _ (addE_sorted h)
  exact this l l h
theorem reachD_sorted (ds : List InoD) : (reachD ds).Pairwise (· < ·) := by
  unfold reachD
  split
  · generalize ds.length = k
    induction k with
    | zero => simp [reachN]
    | succ k ih => exact nextD_sorted ih
  · exact List.Pairwise.nil
theorem sorted_ext : ∀ {l m : List Int}, l.Pairwise (· < ·) → m.Pairwise (· < ·) → (∀ x, x ∈ l ↔ x ∈ m) → l = m
  | [], [], _, _, _ => rfl
  | [], y :: m, _, _, h => by have := (h y).2 (List.mem_cons_self ..); simp at this
  | x :: l, [], _, _, h => by have := (h x).1 (List.mem_cons_self ..); simp at this
  | x :: l, y :: m, h1, h2, h => by
    have p1 := List.pairwise_cons.1 h1
    have p2 := List.pairwise_cons.1 h2
    have hxy : x = y := by
      rcases List.mem_cons.1 ((h x).1 (List.mem_cons_self ..)) with e | e
      · exact e
      · rcases List.mem_cons.1 ((h y).2 (List.mem_cons_self ..)) with e' | e'
        · exact e'.symm
        · have := p2.1 x e
          have := p1.1 y e'
          omega
    subst hxy
    rw [sorted_ext p1.2 p2.2 (fun z => by
      constructor
      · intro hz
        rcases List.mem_cons.1 ((h z).1 (List.mem_cons_of_mem _ hz)) with rfl | h'
        · exact absurd (p1.1 z hz) (Int.lt_irrefl z)
        · exact h'
      · intro hz
        rcases List.mem_cons.1 ((h z).2 (List.mem_cons_of_mem _ hz)) with rfl | h'
        · exact absurd (p2.1 z hz) (Int.lt_irrefl z)
        · exact h')]
/-- Sorted anew, what is as a set what is reached, is it. -/
theorem reachD_sort {ds : List InoD} {ss : List Int} (hn : ss.Nodup) (h : ∀ y, y ∈ reachD ds ↔ y ∈ ss) : ss.mergeSort (fun x y => decide (x ≤ y)) = reachD ds := by
  have hp := List.mergeSort_perm ss (fun x y => decide (x ≤ y))
  refine sorted_ext ?_ (reachD_sorted ds) (fun x => by rw [hp.mem_iff, h])
  have h1 := List.pairwise_mergeSort (le := fun x y : Int => decide (x ≤ y)) (fun a b c => by simp; omega) (fun a b => by simp; omega) ss
  have h2 : (ss.mergeSort (fun x y => decide (x ≤ y))).Nodup := hp.nodup_iff.2 hn
  exact (h1.and h2).imp (fun {a b} ⟨h3, h4⟩ => by simp at h3; omega)
end

section
open Go.RowKit
/-- The values can be read from an address on. -/
def RdV (w : World) (a : Option Addr) (vs : List Value) : Prop := vs = [] ∨ ∃ b off, a = some ⟨b, off, none⟩ ∧ ∀ (i : Nat) (v : Value), vs[i]? = some v → w.cell? ⟨b, off + i, none⟩ = some v
theorem RdV.lt {w : World} {a : Option Addr} {vs : List Value} (h : RdV w a vs) (hz : vs ≠ []) : ∃ b off, a = some ⟨b, off, none⟩ ∧ b < w.heap.size ∧ ∀ (i : Nat) (v : Value), vs[i]? = some v → w.cell? ⟨b, off + i, none⟩ = some v := by
  rcases h with h | ⟨b, off, rfl, hc⟩
  · exact absurd h hz
  · obtain ⟨v, l, rfl⟩ := List.exists_cons_of_ne_nil hz
    exact ⟨b, off, rfl, World.block_lt_of_cell? w _ (hc 0 v rfl), hc⟩
theorem RdV.keep {w w' : World} {a : Option Addr} {vs : List Value} (h : RdV w a vs) (hb : Below w.heap.size w w') : RdV w' a vs := by
  by_cases hz : vs = []
  · exact .inl hz
  · obtain ⟨b, off, rfl, hlt, hc⟩ := h.lt hz
    exact .inr ⟨b, off, rfl, fun i v hi => (hb.cell (p := ⟨b, off + i, none⟩) hlt).trans (hc i v hi)⟩
theorem rowV_rd {w : World} {B : Nat} {e : TypeId} {g n c : Nat} {vs : List Value} (h : w.ownsRow B e 1 (.slice (some ⟨g, 0, none⟩) n c) n vs) : RdV w (some ⟨g, 0, none⟩) vs := by
  refine .inr ⟨g, 0, rfl, fun i v hi => ?_⟩
  have hl := (List.getElem?_eq_some_iff.1 hi).1
  have hn := h.1
  rw [Nat.zero_add, World.ownsRow.cellAt h i (by omega)]
  exact hi
/-- Numbers as cells. -/
def iV (xs : List Int) : List Value := xs.map (Value.int .i64)
theorem iV_len (xs : List Int) : (iV xs).length = xs.length := by simp [iV]
theorem iV_at {xs : List Int} {k : Nat} {x : Int} (h : xs[k]? = some x) : (iV xs)[k]? = some (.int .i64 x) := by simp [iV, h]
theorem iV_one (xs : List Int) : ∀ u ∈ iV xs, u.oneCell' = true := fun u hu => by obtain ⟨z, _, rfl⟩ := List.mem_map.1 hu; rfl
theorem Tryz.info3 : (Tryz.prog.info? 3).map (fun i => (i.zero, i.size, i.bytes)) = some (some (.int .i64 0), 1, 8) := by kernel_rfl
/-- A row of one cell an element, appended to a fresh empty one. -/
theorem fresh_vals (W : World) (B g : Nat) (t e : TypeId) (i : TypeInfo) (z : Value) (bytes : Nat) (ht : Tryz.prog.underlying t = some (.slice e)) (hi : Tryz.prog.info? e = some i) (hz : i.zero = some z) (hsize : i.size = 1) (hby : i.bytes = bytes) (hzs : z.cells.size = 1) (hb64 : bytes ≤ 64) (a : Option Addr) (n c : Nat) (vs : List Value) (hn : vs.length = n) (hs : n ≤ 8000000) (hone : ∀ u ∈ vs, u.oneCell' = true) (hB : B ≤ g) (hown : W.ownsRow B e 1 (.slice (some ⟨g, 0, none⟩) 0 0) 0 []) (hr : RdV W a vs) (ty : TypeId) :
    ∃ g' c' W', (Builtin.append_ #[t, t] ty #[.slice (some ⟨g, 0, none⟩) 0 0, .slice a n c]).run Tryz.prog W = .ok (.slice (some ⟨g', 0, none⟩) n c') W' ∧ W'.ownsRow B e 1 (.slice (some ⟨g', 0, none⟩) n c') n vs ∧ B ≤ g' ∧ g' < W'.heap.size ∧ Below W.heap.size W W' := by
  refine run_fresh W B t ty e i z 1 bytes ht hi hz hsize hby hzs (by omega) g hB hown a n c vs (by simp [hn]) ?_ (fun _ => by cases a with | none => exact .inl rfl | some ad => exact .inr ⟨ad, rfl⟩) hone hs hb64
  rcases hr with rfl | ⟨b, off, rfl, hc⟩
  · exact .inl rfl
  · exact .inr ⟨_, rfl, fun j u hj => by rw [show (⟨b, off, none⟩ : Addr).add j = ⟨b, off + j, none⟩ by simp [Addr.add]]; exact hc j u hj⟩
/-- One more element of one cell. -/
theorem wpList_app1 (w : World) {ops : Array Oper} {rest : List Oper} {o : Oper} {a : Act} {Q : Exit → Act → World → Prop} (hgd : o.guard = none) (s x : Operand) (t e : TypeId)
    (ho : o.op = .call { callee := .builtin .append, args := #[s, x], argTypes := #[t, t] }) (ht : Tryz.prog.underlying t = some (.slice e)) (i : TypeInfo) (z : Value) (bytes : Nat) (hi : Tryz.prog.info? e = some i) (hz : i.zero = some z) (hsz : i.size = 1) (hby : i.bytes = bytes) (hzs : z.cells.size = 1) (hb64 : bytes ≤ 64)
    (B g k c : Nat) (vs : List Value) (hs : a.eval s = .slice (some ⟨g, 0, none⟩) k c) (hown : w.ownsRow B e 1 (.slice (some ⟨g, 0, none⟩) k c) k vs)
    (ad : Nat) (u : Value) (hx : a.eval x = .slice (some ⟨ad, 0, none⟩) 1 1) (hcell : w.cell? ⟨ad, 0, none⟩ = some u) (hone : u.oneCell' = true) (hk : k ≤ 8000000) (hB : B ≤ w.heap.size) (H : Nat) (hH : w.heap.size = H)
    (h : ∀ g' c' w', w'.ownsRow B e 1 (.slice (some ⟨g', 0, none⟩) (k + 1) c') (k + 1) (vs ++ [u]) → w.grownBy w' (some g) → (g' = g ∨ g' = H) → wpList Tryz.prog ops Q rest (a.put o.dst (.slice (some ⟨g', 0, none⟩) (k + 1) c')) w') :
    wpList Tryz.prog ops Q (o :: rest) a w := by
  refine wpList_append_own_at w hgd s x t ho B e i z 1 bytes ht hi hz hsz hby hzs (by decide) _ k vs hs hown ⟨ad, 0, none⟩ 1 1 [u] hx rfl ?_ (by intro y hy; simp at hy; subst hy; exact hone) (by unfold maxLen; omega) (by have : (k + 1) * bytes ≤ 8000001 * 64 := Nat.mul_le_mul (by omega) hb64; omega) hB ?_
  · intro j y hj
    cases j with
    | zero => simp at hj; subst hj; simpa [Addr.add] using hcell
    | succ j => simp at hj
  · intro v' w' h1 h2 _ h4
    obtain ⟨g', c', rfl⟩ := ownsRow_succ h1
    refine h g' c' w' h1 h2 ?_
    rcases h4 with h4 | h4
    · left; simpa [Value.ownBlock] using h4
    · right; rw [← hH]; simpa [Value.ownBlock] using h4
set_option maxRecDepth 100000 in
set_option maxHeartbeats 2000000 in
theorem l7HasS (a : Option Addr) (n cap : Nat) (x : Int) (xs : List Int) (w : World) (hn : xs.length = n) (hs : n ≤ 4000000) (hr : RdV w a (iV xs)) :
    Calls Tryz.prog 123 #[.slice a n cap, .int .i64 x] w fun e w' => e = .returned (.bool (decide (x ∈ xs))) ∧ w' = w := by
  have hn' : Hid (xs.length = n) := hn
  have HR : Hid _ := hr
  have hR : Hid (∀ k : Nat, xs[k]? = some x → true = decide (x ∈ xs)) := fun k hk => by
    have := List.mem_of_getElem? hk
    simp [this]
  have hE : Hid ((∀ j, j < n → xs[j]? ≠ some x) → false = decide (x ∈ xs)) := by
    intro h
    have : x ∉ xs := fun hm => by
      obtain ⟨j, hj⟩ := List.getElem?_of_mem hm
      exact h j (by rw [← hn]; exact (List.getElem?_eq_some_iff.1 hj).1) hj
    simp [this]
  generalize decide (x ∈ xs) = R at hR hE ⊢
  clear hr hn
  go_enter Tryz.func123, Tryz.ntmps123
  go_wp2
  go_loop [5] (fun i => ∃ k : Nat, k ≤ n ∧ i = .int .i64 k ∧ Hid (∀ j, j < k → xs[j]? ≠ some x)) (fun i => n - (intOf i).toNat)
  case atStart => exact ⟨0, Nat.zero_le _, rfl, fun j hj => by omega⟩
  case round =>
    obtain ⟨k, hk, rfl, hall⟩ := hrel
    by_cases hkn : k < n
    · have hki : (k : Int) < (n : Int) := by omega
      have hkl : k < xs.length := by rw [hn'.out]; exact hkn
      obtain ⟨y, hy⟩ : ∃ y, xs[k]? = some y := ⟨_, List.getElem?_eq_getElem hkl⟩
      obtain ⟨b, off, rfl, hlt, hc⟩ := RdV.lt HR.out (by intro h; have := congrArg List.length h; rw [iV_len] at this; simp at this; rw [this] at hkl; simp at hkl)
      have x0 := hc k _ (iV_at hy)
      have hyes : Hid (y = x → true = R) := fun he => hR.out k (he ▸ hy)
      have hno : Hid (y ≠ x → ∀ j, j < k + 1 → xs[j]? ≠ some x) := by
        intro he j hj
        rcases (show j < k ∨ j = k by omega) with h | rfl
        · exact hall.out j h
        · rw [hy]
          simpa using he
      clear hc hy hall hR hE HR
      by_cases he : y = x
      · have hb : (y == x) = true := by simp [he]
        have hend : Hid (true = R) := hyes.out he
        subst he
        clear hyes hno
        go_wp2
        go_ret
        exact ⟨ret_bool hend.out, rfl⟩
      · have hb : (y == x) = false := by simp [he]
        have hnx : Hid _ := hno.out he
        clear hyes hno
        go_wp2
        go_round
        case rel => exact ⟨k + 1, by omega, by go_num, hnx⟩
        case measure => simp [intOf]; omega
    · have hki : ¬ (k : Int) < (n : Int) := by omega
      have hend : Hid (false = R) := hE.out (fun j hj => hall.out j (by omega))
      clear hR hE HR hall
      go_wp2
      go_ret
      exact ⟨ret_bool hend.out, rfl⟩
/-- The row while the greater ones are moved. -/
theorem hole_step {α : Type} {l : List α} {q : Nat} {y : α} (u : α) (h : l[q]? = some y) : (l.take (q + 1) ++ u :: l.drop (q + 1)).set (q + 1) y = l.take q ++ y :: l.drop q := by
  have hq := (List.getElem?_eq_some_iff.1 h).1
  have h1 : (l.take (q + 1)).length = q + 1 := by simp; omega
  rw [List.set_append_right _ _ (by omega), h1, Nat.sub_self, List.set_cons_zero, List.take_add_one, h]
  have h2 : l.drop q = y :: l.drop (q + 1) := by
    rw [List.drop_eq_getElem_cons hq]
    congr 1
    exact (List.getElem?_eq_some_iff.1 h).2
  rw [h2]
  simp
theorem hole_end {α : Type} {l : List α} {p : Nat} (u x : α) (hp : p ≤ l.length) : (l.take p ++ u :: l.drop p).set p x = l.take p ++ x :: l.drop p := by
  have h1 : (l.take p).length = p := by simp; omega
  rw [List.set_append_right _ _ (by omega), h1, Nat.sub_self, List.set_cons_zero]
theorem hole_left {α : Type} {l : List α} {p q : Nat} {y : α} (u : α) (hq : q < p) (hp : p ≤ l.length) (h : l[q]? = some y) : (l.take p ++ u :: l.drop p)[q]? = some y := by
  rw [List.getElem?_append_left (by simp; omega), List.getElem?_take_of_lt hq, h]
theorem hole_len {α : Type} {l : List α} {p : Nat} (u : α) (hp : p ≤ l.length) : (l.take p ++ u :: l.drop p).length = l.length + 1 := by simp; omega
theorem drop_mem {α : Type} {l : List α} {q : Nat} {y z : α} (h : l[q]? = some y) (hz : z ∈ l.drop q) : z = y ∨ z ∈ l.drop (q + 1) := by
  have hq := (List.getElem?_eq_some_iff.1 h).1
  rw [List.drop_eq_getElem_cons hq] at hz
  rcases List.mem_cons.1 hz with hz | hz
  · exact .inl (hz.trans (List.getElem?_eq_some_iff.1 h).2)
  · exact .inr hz
end

section
open Go.RowKit Go.Maps
/-- So many entries a directory has at most. -/
def mXE : Nat := 1048576
/-- What one call adds to what was reached, and to what was put by. -/
structure RP (ds : List InoD) (S Bs : List Int) (x : Int) (m : Nat) (S' Bs' : List Int) : Prop where
  sub : ∀ y ∈ S, y ∈ S'
  pre : Bs <+: Bs'
  self : (look ds x).isSome = true → x ∈ S' ∨ (m = 1 ∧ x ∈ Bs')
  closed : ∀ y ∈ S', y ∉ S → ∀ e ∈ dirEnts ds y, (look ds e.2).isSome = true → e.2 ∈ S' ∨ e.2 ∈ Bs'
  leads : ∀ y ∈ S', y ∈ S ∨ Leads ds x y
  bleads : ∀ y ∈ Bs', y ∈ Bs ∨ Leads ds x y
  count : Bs'.length + mXE * S.length ≤ Bs.length + mXE * S'.length + m
  wfs : (∀ y ∈ Bs, (Lit.int .i64 y).wf = true) → ∀ y ∈ Bs', (Lit.int .i64 y).wf = true
/-- The same, in the midst of a directory's entries. -/
structure RL (ds : List InoD) (S Bs : List Int) (x : Int) (es : List (ByteArray × Int)) (p : Nat) (S' Bs' : List Int) : Prop where
  sub : ∀ y ∈ x :: S, y ∈ S'
  pre : Bs <+: Bs'
  ents : ∀ e ∈ es.take p, (look ds e.2).isSome = true → e.2 ∈ S' ∨ e.2 ∈ Bs'
  closed : ∀ y ∈ S', y ∉ x :: S → ∀ e ∈ dirEnts ds y, (look ds e.2).isSome = true → e.2 ∈ S' ∨ e.2 ∈ Bs'
  leads : ∀ y ∈ S', y ∈ S ∨ Leads ds x y
  bleads : ∀ y ∈ Bs', y ∈ Bs ∨ Leads ds x y
  count : Bs'.length + mXE * (S.length + 1) ≤ Bs.length + mXE * S'.length + p
  wfs : (∀ y ∈ Bs, (Lit.int .i64 y).wf = true) → ∀ y ∈ Bs', (Lit.int .i64 y).wf = true
theorem leads_none {ds : List InoD} {x y : Int} (h : (look ds x).isSome = false) (l : Leads ds x y) : False := l (fun _ => False) (fun _ h => h.elim) (fun k => by rw [h] at k; cases k)
theorem RP.same {ds : List InoD} {S Bs : List Int} {x : Int} {m : Nat} (h : (look ds x).isSome = true → x ∈ S) : RP ds S Bs x m S Bs := ⟨fun _ h => h, List.prefix_refl _, fun k => .inl (h k), fun y h1 h2 => absurd h1 h2, fun y h => .inl h, fun y h => .inl h, by omega, fun h => h⟩
theorem RP.by {ds : List InoD} {S Bs : List Int} {x : Int} (h : (look ds x).isSome = true) (hw : (Lit.int .i64 x).wf = true) : RP ds S Bs x 1 S (Bs ++ [x]) :=
  ⟨fun _ h => h, List.prefix_append _ _, fun _ => .inr ⟨rfl, by simp⟩, fun y h1 h2 => absurd h1 h2, fun y h => .inl h, fun y hy => by
    rcases List.mem_append.1 hy with hy | hy
    · exact .inl hy
    · have := List.mem_singleton.1 hy
      subst this
      exact .inr (Leads.self h), by rw [List.length_append, List.length_singleton]; omega, fun hb y hy => by
    rcases List.mem_append.1 hy with hy | hy
    · exact hb y hy
    · have := List.mem_singleton.1 hy
      subst this
      exact hw⟩
theorem RL.start {ds : List InoD} {S Bs : List Int} {x : Int} {es : List (ByteArray × Int)} (h : (look ds x).isSome = true) : RL ds S Bs x es 0 (x :: S) Bs :=
  ⟨fun _ h => h, List.prefix_refl _, fun e he => by simp at he, fun y h1 h2 => absurd h1 h2, fun y hy => by
    rcases List.mem_cons.1 hy with rfl | hy
    · exact .inr (Leads.self h)
    · exact .inl hy, fun y h => .inl h, by rw [List.length_cons]; omega, fun h => h⟩
theorem pre_mem {Bs Bs' : List Int} (h : Bs <+: Bs') {y : Int} (hy : y ∈ Bs) : y ∈ Bs' := h.subset hy
theorem RL.step {ds : List InoD} {S Bs : List Int} {x : Int} {es : List (ByteArray × Int)} {p m : Nat} {S1 B1 S2 B2 : List Int} {e : ByteArray × Int} (h : RL ds S Bs x es p S1 B1) (hx : (look ds x).isSome = true) (hes : dirEnts ds x = es) (he : es[p]? = some e) (hm : m ≤ 1) (g : RP ds S1 B1 e.2 m S2 B2) : RL ds S Bs x es (p + 1) S2 B2 := by
  have hlead : ∀ y, Leads ds e.2 y → Leads ds x y := fun y h1 => by
    cases hl : (look ds e.2).isSome with
    | false => exact (leads_none hl h1).elim
    | true => exact ((Leads.self hx).step (hes ▸ List.mem_of_getElem? he) hl).trans h1
  refine ⟨fun y hy => g.sub y (h.sub y hy), h.pre.trans g.pre, fun f hf hl => ?_, fun y hy hn => ?_, fun y hy => ?_, fun y hy => ?_, ?_, fun hb => g.wfs (h.wfs hb)⟩
  · rw [List.take_add_one, he] at hf
    rcases List.mem_append.1 hf with hf | hf
    · rcases h.ents f hf hl with h1 | h1
      · exact .inl (g.sub _ h1)
      · exact .inr (pre_mem g.pre h1)
    · have : f = e := by simpa using hf
      subst this
      rcases g.self hl with h1 | h1
      · exact .inl h1
      · exact .inr h1.2
  · by_cases h1 : y ∈ S1
    · intro f hf hl
      rcases h.closed y h1 hn f hf hl with h2 | h2
      · exact .inl (g.sub _ h2)
      · exact .inr (pre_mem g.pre h2)
    · exact g.closed y hy h1
  · rcases g.leads y hy with h1 | h1
    · exact h.leads y h1
    · exact .inr (hlead y h1)
  · rcases g.bleads y hy with h1 | h1
    · exact h.bleads y h1
    · exact .inr (hlead y h1)
  · have h1 := h.count
    have h2 := g.count
    omega
theorem RL.fin {ds : List InoD} {S Bs : List Int} {x : Int} {es : List (ByteArray × Int)} {p m : Nat} {S1 B1 : List Int} (h : RL ds S Bs x es p S1 B1) (hp : es.length ≤ p) (hq : p ≤ mXE) (hes : dirEnts ds x = es) : RP ds S Bs x m S1 B1 := by
  refine ⟨fun y hy => h.sub y (List.mem_cons_of_mem _ hy), h.pre, fun _ => .inl (h.sub x (List.mem_cons_self ..)), fun y hy hn => ?_, h.leads, h.bleads, ?_, h.wfs⟩
  · by_cases hyx : y = x
    · subst hyx
      rw [hes]
      exact fun e he hl => h.ents e (by rw [List.take_of_length_le hp]; exact he) hl
    · exact h.closed y hy (fun c => by
        rcases List.mem_cons.1 c with c | c
        · exact hyx c
        · exact hn c)
  · have h1 := h.count
    rw [Nat.mul_add] at h1
    omega
theorem RL.finN {ds : List InoD} {S Bs : List Int} {x : Int} {es : List (ByteArray × Int)} {m : Nat} {S1 B1 : List Int} (h : RL ds S Bs x es 0 S1 B1) (hes : dirEnts ds x = []) : RP ds S Bs x m S1 B1 := by
  refine ⟨fun y hy => h.sub y (List.mem_cons_of_mem _ hy), h.pre, fun _ => .inl (h.sub x (List.mem_cons_self ..)), fun y hy hn => ?_, h.leads, h.bleads, ?_, h.wfs⟩
  · by_cases hyx : y = x
    · subst hyx
      rw [hes]
      exact fun e he => by simp at he
    · exact h.closed y hy (fun c => by
        rcases List.mem_cons.1 c with c | c
        · exact hyx c
        · exact hn c)
  · have h1 := h.count
    rw [Nat.mul_add] at h1
    omega
theorem InTab.cons {ds : List InoD} {S : List Int} {x : Int} (h : InTab ds S) (hx : (look ds x).isSome = true) (hn : x ∉ S) : InTab ds (x :: S) :=
  ⟨List.nodup_cons.2 ⟨hn, h.nd⟩, fun y hy => by
    rcases List.mem_cons.1 hy with rfl | hy
    · exact hx
    · exact h.mem y hy⟩
/-- A variable X holds a list of numbers, in a row of the call's own. -/
structure BX (B : Nat) (w : World) (X g c : Nat) (L : List Int) : Prop where
  cell : Blk w X 80 #[.slice (some ⟨g, 0, none⟩) L.length c]
  row : w.ownsRow B 3 1 (.slice (some ⟨g, 0, none⟩) L.length c) L.length (iV L)
theorem BX.ne {B : Nat} {w : World} {X g c : Nat} {L : List Int} (h : BX B w X g c L) : g ≠ X := by
  rintro rfl
  obtain ⟨_, cur, h1⟩ := row_at h.row (g := g) rfl
  have h2 : w.heap[g]? = _ := h.cell
  rw [h1] at h2
  simp at h2
theorem BX.neB {B : Nat} {w : World} {X g c : Nat} {L : List Int} (h : BX B w X g c L) {b : Nat} {t : TypeId} {vs : Array Value} (hb : Blk w b t vs) (ht : t ≠ 3) : b ≠ g := by
  rintro rfl
  obtain ⟨_, cur, h1⟩ := row_at h.row (g := b) rfl
  have h2 : w.heap[b]? = _ := hb
  rw [h1] at h2
  simp at h2
  exact ht h2.2.symm
theorem BX.neM {B : Nat} {w : World} {X g c : Nat} {L : List Int} (h : BX B w X g c L) {R : Value → Option (DataW Unit × List MemPlace)} {b n : Nat} {D : DataW Unit} (hb : w.ownsMap Tryz.prog 3 R b n D) : b ≠ g ∧ b ≠ X := by
  obtain ⟨es, clock, hb, _⟩ := hb
  constructor
  · rintro rfl
    obtain ⟨_, cur, h1⟩ := row_at h.row (g := b) rfl
    rw [h1] at hb
    simp at hb
  · rintro rfl
    have h2 : w.heap[b]? = _ := h.cell
    rw [h2] at hb
    simp at hb
theorem BX.lt {B : Nat} {w : World} {X g c : Nat} {L : List Int} (h : BX B w X g c L) : B ≤ g ∧ g < w.heap.size ∧ X < w.heap.size := ⟨(World.ownsRow.lt h.row g rfl).1, (World.ownsRow.lt h.row g rfl).2, h.cell.lt⟩
theorem BX.keep {B : Nat} {w w' : World} {X g c : Nat} {L : List Int} (h : BX B w X g c L) (hb : Below w.heap.size w w') : BX B w' X g c L := ⟨h.cell.keep hb, row_keep6 h.row hb⟩
theorem BX.kept {B : Nat} {w w' : World} {X g c q : Nat} {L : List Int} (h : BX B w X g c L) (hg : w.grownBy w' (some q)) (h1 : X ≠ q) (h2 : g ≠ q) : BX B w' X g c L := ⟨h.cell.kept hg h1, World.ownsRow.kept h.row hg (.inr (by simp [Value.ownBlock]; exact h2))⟩
/-- One more element of one cell, of a long row, too. -/
theorem wpList_app1W (w : World) {ops : Array Oper} {rest : List Oper} {o : Oper} {a : Act} {Q : Exit → Act → World → Prop} (hgd : o.guard = none) (s x : Operand) (t e : TypeId)
    (ho : o.op = .call { callee := .builtin .append, args := #[s, x], argTypes := #[t, t] }) (ht : Tryz.prog.underlying t = some (.slice e)) (i : TypeInfo) (z : Value) (bytes : Nat) (hi : Tryz.prog.info? e = some i) (hz : i.zero = some z) (hsz : i.size = 1) (hby : i.bytes = bytes) (hzs : z.cells.size = 1) (hb64 : bytes ≤ 16)
    (B g k c : Nat) (vs : List Value) (hs : a.eval s = .slice (some ⟨g, 0, none⟩) k c) (hown : w.ownsRow B e 1 (.slice (some ⟨g, 0, none⟩) k c) k vs)
    (ad : Nat) (u : Value) (hx : a.eval x = .slice (some ⟨ad, 0, none⟩) 1 1) (hcell : w.cell? ⟨ad, 0, none⟩ = some u) (hone : u.oneCell' = true) (hk : k ≤ 2000000000000) (hB : B ≤ w.heap.size) (H : Nat) (hH : w.heap.size = H)
    (h : ∀ g' c' w', w'.ownsRow B e 1 (.slice (some ⟨g', 0, none⟩) (k + 1) c') (k + 1) (vs ++ [u]) → w.grownBy w' (some g) → (g' = g ∨ g' = H) → wpList Tryz.prog ops Q rest (a.put o.dst (.slice (some ⟨g', 0, none⟩) (k + 1) c')) w') :
    wpList Tryz.prog ops Q (o :: rest) a w := by
  refine wpList_append_own_at w hgd s x t ho B e i z 1 bytes ht hi hz hsz hby hzs (by decide) _ k vs hs hown ⟨ad, 0, none⟩ 1 1 [u] hx rfl ?_ (by intro y hy; simp at hy; subst hy; exact hone) (by unfold maxLen; omega) (by have : (k + 1) * bytes ≤ 2000000000001 * 16 := Nat.mul_le_mul (by omega) hb64; omega) hB ?_
  · intro j y hj
    cases j with
    | zero => simp at hj; subst hj; simpa [Addr.add] using hcell
    | succ j => simp at hj
  · intro v' w' h1 h2 _ h4
    obtain ⟨g', c', rfl⟩ := ownsRow_succ h1
    refine h g' c' w' h1 h2 ?_
    rcases h4 with h4 | h4
    · left; simpa [Value.ownBlock] using h4
    · right; rw [← hH]; simpa [Value.ownBlock] using h4
/-- What the closure sees: below wb all is as it was; its variables; the map of what was reached; what was put by. -/
structure RC (wb W : World) (P Q X Tb Fb pm qm : Nat) (ds : List InoD) (S Bs : List Int) : Prop where
  b : Below wb.heap.size wb W
  zP : Blk W P 159 #[.map (some pm)]
  zQ : Blk W Q 159 #[.map (some qm)]
  zF : Blk W Fb 163 #[.func (.func 129) #[] #[.pointer (some ⟨P, 0, none⟩), .pointer (some ⟨Q, 0, none⟩), .pointer (some ⟨X, 0, none⟩), .pointer (some ⟨Tb, 0, none⟩), .pointer (some ⟨Fb, 0, none⟩)]]
  lo : wb.heap.size ≤ qm
  loX : wb.heap.size ≤ X
  nP : P ≠ qm
  nQ : Q ≠ qm
  nF : Fb ≠ qm
  nPX : P ≠ X
  nQX : Q ≠ X
  nFX : Fb ≠ X
  inT : InTab ds S
  re : ∃ (cnt : Nat) (D : DataW Unit), cnt ≤ S.length ∧ (∀ y, Maps.has D (.int .i64 y) = decide (y ∈ S)) ∧ IsMap D ∧ W.ownsMap Tryz.prog 3 (plainElem Tryz.prog 3) qm cnt D
  bx : ∃ g c, BX wb.heap.size W X g c Bs
section
variable {wb W W' : World} {P Q X Tb Fb pm qm : Nat} {ds : List InoD} {S Bs : List Int}
theorem RC.alloc (h : RC wb W P Q X Tb Fb pm qm ds S Bs) (o : Obj) : RC wb (W.alloc o) P Q X Tb Fb pm qm ds S Bs := by
  obtain ⟨cnt, D, h1, h2, h3, h4⟩ := h.re
  obtain ⟨g, c, h5⟩ := h.bx
  exact ⟨h.b.alloc h.b.size _, h.zP.alloc _, h.zQ.alloc _, h.zF.alloc _, h.lo, h.loX, h.nP, h.nQ, h.nF, h.nPX, h.nQX, h.nFX, h.inT, ⟨cnt, D, h1, h2, h3, h4.alloc _⟩, ⟨g, c, h5.keep ((Below.refl _ W).alloc (Nat.le_refl _) o)⟩⟩
theorem RC.put (h : RC wb W P Q X Tb Fb pm qm ds S Bs) {x : Int} {d : DataW Unit} {cnt : Nat} {D : DataW Unit} (hc : cnt ≤ S.length) (hh : ∀ y, Maps.has D (.int .i64 y) = decide (y ∈ S)) (hI : IsMap D) (hx : (look ds x).isSome = true) (hn : x ∉ S) (hg : W.grownBy W' (some qm)) (ho : W'.ownsMap Tryz.prog 3 (plainElem Tryz.prog 3) qm (cnt + 1) (D.put (.int .i64 x) d)) : RC wb W' P Q X Tb Fb pm qm ds (x :: S) Bs := by
  obtain ⟨_, _, _, _, _, h4⟩ := h.re
  obtain ⟨g, c, h5⟩ := h.bx
  have hne := h5.neM h4
  refine ⟨h.b.grown hg h.b.size (fun j hj => by have := h.lo; simp at hj; omega), h.zP.kept hg h.nP, h.zQ.kept hg h.nQ, h.zF.kept hg h.nF, h.lo, h.loX, h.nP, h.nQ, h.nF, h.nPX, h.nQX, h.nFX, h.inT.cons hx hn, ⟨cnt + 1, _, by simp; omega, fun y => ?_, hI.put _ _, ho⟩, ⟨g, c, h5.kept hg (Ne.symm hne.2) (Ne.symm hne.1)⟩⟩
  by_cases hy : y = x
  · subst hy
    rw [has_put_same hI (show WideAt.IsKeyLit (.int .i64 y) from trivial)]
    simp
  · rw [has_put_other (by simp; exact fun h => hy h), hh y]
    simp [hy]
/-- One number more is put by. -/
theorem RC.app (h : RC wb W P Q X Tb Fb pm qm ds S Bs) {g c g' c' : Nat} {x : Int} (hb : BX wb.heap.size W X g c Bs) (ho : W'.ownsRow wb.heap.size 3 1 (.slice (some ⟨g', 0, none⟩) (Bs.length + 1) c') (Bs.length + 1) (iV Bs ++ [.int .i64 x])) (hg : W.grownBy W' (some g)) (hat : g' = g ∨ g' = W.heap.size) : RC wb (W'.setCell ⟨X, 0, none⟩ (.slice (some ⟨g', 0, none⟩) (Bs.length + 1) c')) P Q X Tb Fb pm qm ds S (Bs ++ [x]) := by
  obtain ⟨cnt, D, h1, h2, h3, h4⟩ := h.re
  have hnm := hb.neM h4
  have hne := hb.ne
  have hl := hb.lt
  have hX : g' ≠ X := by omega
  have hbl := h.b.size
  have e : (Bs ++ [x]).length = Bs.length + 1 := by simp
  refine ⟨(h.b.grown hg hbl (fun j hj => by simp at hj; omega)).setCell (p := ⟨X, 0, none⟩) h.loX _, (h.zP.kept hg (hb.neB h.zP (by decide))).other h.nPX _ _, (h.zQ.kept hg (hb.neB h.zQ (by decide))).other h.nQX _ _, (h.zF.kept hg (hb.neB h.zF (by decide))).other h.nFX _ _, h.lo, h.loX, h.nP, h.nQ, h.nF, h.nPX, h.nQX, h.nFX, h.inT, ⟨cnt, D, h1, h2, h3, (h4.kept hg (by simpa using hnm.1)).setCell hnm.2 _⟩, ⟨g', c', ?_, ?_⟩⟩
  · rw [e]
    exact (hb.cell.kept hg (by omega)).set 0 _
  · rw [e]
    have e2 : iV (Bs ++ [x]) = iV Bs ++ [.int .i64 x] := by simp [iV]
    rw [e2]
    exact row_kept ho (gr_setC W' X 0 _) (fun m hm e => by simp [Value.ownBlock] at hm; simp at e; omega)
end
theorem look_first {rs : List InoR} {x : Int} {p : Nat} {r : InoR} (h : firstAt (inos rs) x = some p) (hr : rs[p]? = some r) : look (rs.map InoR.D) x = some r.D := by
  have := atD_look rs x
  unfold atD at this
  rw [h] at this
  simp only [List.getD_eq_getElem?_getD, hr, Option.getD_some] at this
  cases hl : look (rs.map InoR.D) x with
  | none =>
    have h2 := atB_look rs x
    unfold atB at h2
    rw [h, hl] at h2
    simp at h2
  | some D =>
    rw [hl] at this
    simp at this
    rw [this]
theorem look_first_none {rs : List InoR} {x : Int} (h : firstAt (inos rs) x = none) : (look (rs.map InoR.D) x).isSome = false := by
  have h2 := atB_look rs x
  unfold atB at h2
  rw [h] at h2
  simp at h2
  simp [h2]
set_option maxRecDepth 100000 in
set_option maxHeartbeats 4000000 in
theorem reachC (P Q X Tb Fb pm qm : Nat) (a : Option Addr) (n cap : Nat) (nx : Int) (rs : List InoR) (wb : World) (ht : TR wb a n rs) (zT : Blk wb Tb 47 #[.slice a n cap, .int .i64 nx]) (cp : Nat) (Dp : DataW Unit) (hM : MapIs Dp (inos rs)) (hpo : wb.ownsMap Tryz.prog 3 (plainElem Tryz.prog 3) pm cp Dp) (hwe : ∀ r ∈ rs, ∀ e ∈ r.D.ents, (Lit.int .i64 e.2).wf = true) (g : Nat) : ∀ (x : Int) (dp : Nat) (w : World) (S Bs : List Int), (Lit.int .i64 x).wf = true → dp ≤ 30 → n ≤ S.length + g → Bs.length ≤ 1 + mXE * S.length → RC wb w P Q X Tb Fb pm qm (rs.map InoR.D) S Bs →
    Calls Tryz.prog 129 #[.int .i64 x, .int .i64 (dp : Int), .pointer (some ⟨P, 0, none⟩), .pointer (some ⟨Q, 0, none⟩), .pointer (some ⟨X, 0, none⟩), .pointer (some ⟨Tb, 0, none⟩), .pointer (some ⟨Fb, 0, none⟩)] w fun e w' => e = .returned (.tuple #[]) ∧ ∃ S' Bs', RC wb w' P Q X Tb Fb pm qm (rs.map InoR.D) S' Bs' ∧ RP (rs.map InoR.D) S Bs x (if dp = 30 then 1 else 0) S' Bs' := by
  induction g using Nat.strongRecOn with
  | ind g ih =>
    intro x dp w S Bs hwx hdp hg hbl hC
    have HIH : Hid _ := ih
    have HT : Hid _ := ht
    have HE : Hid _ := hwe
    have HC : Hid _ := hC
    have HWX : Hid _ := hwx
    have hkey : keyOf Tryz.prog 3 (.int .i64 x) = some (.int .i64 x) := keyOf_int_mk Tryz.underlying3 hwx
    have c1 := hC.zP.cell 0
    have c2 := hC.zQ.cell 0
    simp at c1 c2
    have hplt := hpo.lt
    have hpw : w.ownsMap Tryz.prog 3 (plainElem Tryz.prog 3) pm cp Dp := by
      obtain ⟨es, clock, hb, Ft, hs, hD⟩ := hpo
      exact ⟨es, clock, (hC.b.block pm hplt).trans hb, Ft, hs, hD⟩
    have hdl : Hid ((rs.map InoR.D).length = n) := by show _ = _; rw [List.length_map, ht.len]
    have hn20 := ht.n
    obtain ⟨cnt, D, hcnt, hhas, hIM, hqw⟩ := hC.re
    have hMx := hM.2 x
    have HHA : Hid _ := hhas
    have hsl := hC.inT.len
    rw [hdl.out] at hsl
    obtain ⟨m, hm⟩ : ∃ m, (if dp = 30 then 1 else 0) = m := ⟨_, rfl⟩
    rw [hm]
    have HM1 : Hid (m ≤ 1) := by show _ ≤ _; rw [← hm]; split <;> omega
    have HPR : Hid (∀ (w' : World) (S' Bs' : List Int), RC wb w' P Q X Tb Fb pm qm (rs.map InoR.D) S' Bs' → RP (rs.map InoR.D) S Bs x m S' Bs' → ∃ S' Bs', RC wb w' P Q X Tb Fb pm qm (rs.map InoR.D) S' Bs' ∧ RP (rs.map InoR.D) S Bs x m S' Bs') := fun w' S' Bs' h1 h2 => ⟨S', Bs', h1, h2⟩
    have hHx := hhas x
    clear ih ht hwe hC hpo hwx hhas
    cases hfa : firstAt (inos rs) x with
    | none =>
      have hp : Maps.has Dp (.int .i64 x) = false := by rw [hMx.1, hfa]; rfl
      have hlf := look_first_none hfa
      have hxS : x ∉ S := fun c => by have := HC.out.inT.mem x c; rw [hlf] at this; cases this
      have hq : Maps.has D (.int .i64 x) = false := by rw [hHx]; simpa using hxS
      have hend : Hid _ := HPR.out w S Bs HC.out (RP.same (fun h => by rw [hlf] at h; cases h))
      clear hMx hlf hxS
      go_enter Tryz.func129, Tryz.ntmps129
      go_wp2_with (first
        | (at_lookup; refine wpList_lookup_own_ok_int _ rfl _ _ 159 rfl 3 3 .i64 Tryz.keyInt Tryz.underlying159 Tryz.underlying3 (Tryz.zeroInt _) pm cp Dp rfl hpw _ _ rfl hkey ?_; intro c hat hwc; rw [hp])
        | (at_lookup; refine wpList_lookup_own_ok_int _ rfl _ _ 159 rfl 3 3 .i64 Tryz.keyInt Tryz.underlying159 Tryz.underlying3 (Tryz.zeroInt _) qm cnt D rfl hqw _ _ rfl hkey ?_; intro c' hat' hwc'; rw [hq])
        | go_in)
      refine bodyPost_ret (v := .tuple #[]) (results_none rfl _ _ _) rfl ?_
      exact ⟨rfl, hend.out⟩
    | some p =>
      have hp : Maps.has Dp (.int .i64 x) = true := by rw [hMx.1, hfa]; rfl
      have hat0 := hMx.2 p hfa
      have hpl := firstAt_in hfa
      obtain ⟨r, hrp⟩ : ∃ r, rs[p]? = some r := ⟨_, List.getElem?_eq_getElem hpl⟩
      have hlk : look (rs.map InoR.D) x = some r.D := look_first hfa hrp
      have hlx : (look (rs.map InoR.D) x).isSome = true := by rw [hlk]; rfl
      clear hMx
      by_cases hxS : x ∈ S
      · have hq : Maps.has D (.int .i64 x) = true := by rw [hHx]; simpa using hxS
        have hend : Hid _ := HPR.out w S Bs HC.out (RP.same (fun _ => hxS))
        go_enter Tryz.func129, Tryz.ntmps129
        go_wp2_with (first
          | (at_lookup; refine wpList_lookup_own_ok_int _ rfl _ _ 159 rfl 3 3 .i64 Tryz.keyInt Tryz.underlying159 Tryz.underlying3 (Tryz.zeroInt _) pm cp Dp rfl hpw _ _ rfl hkey ?_; intro c hat hwc; rw [hp])
          | (at_lookup; refine wpList_lookup_own_ok_int _ rfl _ _ 159 rfl 3 3 .i64 Tryz.keyInt Tryz.underlying159 Tryz.underlying3 (Tryz.zeroInt _) qm cnt D rfl hqw _ _ rfl hkey ?_; intro c' hat' hwc'; rw [hq])
          | go_in)
        refine bodyPost_ret (v := .tuple #[]) (results_none rfl _ _ _) rfl ?_
        exact ⟨rfl, hend.out⟩
      · have hq : Maps.has D (.int .i64 x) = false := by rw [hHx]; simpa using hxS
        by_cases hd30 : dp = 30
        · subst hd30
          have hm1 : m = 1 := by rw [← hm]; rfl
          subst hm1
          obtain ⟨gb, cb, hbx⟩ := HC.out.bx
          obtain ⟨i0, hi, hz0, hz1, hz2⟩ := info_parts Tryz.info3
          have y0 := hbx.cell.cell 0
          have yf := hbx.cell.frozen 0
          simp at y0
          obtain ⟨lb, hlb⟩ : ∃ lb, Bs.length = lb := ⟨_, rfl⟩
          have hrow := hbx.row
          rw [hlb] at y0 hrow hbl
          have hlb2 : lb ≤ 2000000000000 := by
            have : mXE * S.length ≤ 1048576 * 1048576 := Nat.mul_le_mul (by unfold mXE; omega) (by omega)
            omega
          have HLB : Hid _ := hlb
          have HBX : Hid _ := hbx
          have hneX := hbx.ne
          have hbz : wb.heap.size ≤ w.heap.size := HC.out.b.size
          have HRP : Hid _ := RP.by (S := S) (Bs := Bs) hlx HWX.out
          clear hlb hbx hm hbl hIM hHx hsl hat0 hpl hrp hlk hlx hfa
          go_enter Tryz.func129, Tryz.ntmps129
          go_wp2_with (first
            | (at_lookup; refine wpList_lookup_own_ok_int _ rfl _ _ 159 rfl 3 3 .i64 Tryz.keyInt Tryz.underlying159 Tryz.underlying3 (Tryz.zeroInt _) pm cp Dp rfl hpw _ _ rfl hkey ?_; intro c hat hwc; rw [hp])
            | (at_lookup; refine wpList_lookup_own_ok_int _ rfl _ _ 159 rfl 3 3 .i64 Tryz.keyInt Tryz.underlying159 Tryz.underlying3 (Tryz.zeroInt _) qm cnt D rfl hqw _ _ rfl hkey ?_; intro c' hat' hwc'; rw [hq])
            | (at_builtin; refine wpList_app1W (w.alloc (.cells #[.int .i64 x] 3)) rfl (.tmp 35) (.tmp 37) 80 3 rfl Tryz.underlying80 i0 (.int .i64 0) 8 hi hz0 hz1 hz2 rfl (by omega) wb.heap.size gb lb cb (iV Bs) rfl (World.ownsRow.alloc hrow _) w.heap.size (.int .i64 x) rfl (Blk.new w 3 #[.int .i64 x] |>.cell 0) rfl hlb2 (by simp; omega) (w.heap.size + 1) (by simp) ?_; intro g2 c2 W2 o2 hg2 hat2; have zc2 := ((HBX.out.cell).alloc (.cells #[.int .i64 x] 3)).kept hg2 (Ne.symm hneX); have hX2 := zc2.cell 0; have hXf2 := zc2.frozen 0; simp at hX2)
            | go_in)
          have hC2 := RC.app (x := x) (HC.out.alloc (.cells #[.int .i64 x] 3)) (HBX.out.keep ((Below.refl _ w).alloc (Nat.le_refl _) _)) (by rw [HLB.out]; exact o2) hg2 (by simpa using hat2)
          rw [HLB.out] at hC2
          have hend : Hid _ := HPR.out _ _ _ hC2 HRP.out
          clear hC2 o2 zc2 hX2 hXf2 hg2
          refine bodyPost_ret (v := .tuple #[]) (results_none rfl _ _ _) rfl ?_
          exact ⟨rfl, hend.out⟩
        have hd3 : ((dp : Int) == 30) = false := by
          have : (dp : Int) ≠ 30 := by omega
          simpa using this
        have hd4 : dp < 30 := by omega
        have hIn := HC.out.inT.cons hlx hxS
        have HIN : Hid _ := hIn
        have hlen := hIn.len
        rw [hdl.out, List.length_cons] at hlen
        obtain ⟨g', rfl⟩ : ∃ g', g = g' + 1 := ⟨g - 1, by omega⟩
        have hwk : (Lit.int .i64 (p : Int)).wf = true := WalkArith.wf_i64 (by have := HT.out.len; omega)
        have hpn : p < n := by have := HT.out.len; omega
        have hpi : (p : Int) < (n : Int) := by omega
        have hpp : (0 : Int) ≤ (p : Int) := by omega
        have hpq : ¬ (p : Int) < 0 := by omega
        have HBL : Hid _ := hbl
        clear hm hbl hd30
        go_enter Tryz.func129, Tryz.ntmps129
        go_upto_region 6 with (first
          | (at_lookup; refine wpList_lookup_own_ok_int _ rfl _ _ 159 rfl 3 3 .i64 Tryz.keyInt Tryz.underlying159 Tryz.underlying3 (Tryz.zeroInt _) pm cp Dp rfl hpw _ _ rfl hkey ?_; intro c hat hwc; rw [hp]; rw [hat0] at hat; simp at hat; subst hat)
          | (at_lookup; refine wpList_lookup_own_ok_int _ rfl _ _ 159 rfl 3 3 .i64 Tryz.keyInt Tryz.underlying159 Tryz.underlying3 (Tryz.zeroInt _) qm cnt D rfl hqw _ _ rfl hkey ?_; intro c' hat' hwc'; rw [hq])
          | (at_mapUpdate; refine wpList_mapUpdate_own _ rfl _ _ _ 159 rfl 3 3 Tryz.keyInt Tryz.underlying159 _ qm cnt D rfl hqw (by unfold maxLen; omega) _ _ _ rfl rfl hkey _ [] (plainElem_int Tryz.underlying3 hwk) ?_; intro w1 hown1 hgrow1)
          | go_in)
        have hC1 := RC.put HC.out hcnt HHA.out hIM hlx hxS hgrow1 hown1
        have hB1 := hC1.b
        have zt := (zT.keep hB1).cell 0
        simp at zt
        have hTr := HT.out.keep hB1
        obtain ⟨b, off, rfl, hlt, hc⟩ := RdI.lt hTr.rd (by intro h; rw [h] at hrp; simp at hrp)
        obtain ⟨x6, xr⟩ := hc p r hrp
        obtain ⟨x0, x1, x2, x3, x4, x5⟩ := x6
        have hsm := (hTr.small r (List.mem_of_getElem? hrp)).ents
        have hwr := HE.out r (List.mem_of_getElem? hrp)
        obtain ⟨es, hes⟩ : ∃ es, r.D.ents = es := ⟨_, rfl⟩
        have hre : RdP wb r.a2 (eP es) := by
          obtain ⟨b', off', _, _, hc'⟩ := RdI.lt HT.out.rd (by intro h; rw [h] at hrp; simp at hrp)
          rw [← hes]
          exact (hc' p r hrp).2.ents
        have hde : Hid (dirEnts (rs.map InoR.D) x = if r.D.kind = 2 then es else []) := by show _ = _; unfold dirEnts; rw [hlk]; show (if r.D.kind = 2 then r.D.ents else []) = _; rw [hes]
        rw [hes] at x4 hsm hwr
        obtain ⟨n2, hn2⟩ : ∃ n2, es.length = n2 := ⟨_, rfl⟩
        rw [hn2] at x4 hsm
        have HN : Hid _ := hn2
        generalize r.D.ino = i1 at x0
        generalize r.D.kind = i2 at x1 hde
        generalize r.D.links = i3 at x2
        generalize r.D.data.length = n1 at x3
        generalize r.D.attrs.length = n3 at x5
        have hC2 : Hid _ := hC1.alloc (.cells #[.int .i64 i1, .int .i64 i2, .int .i64 i3, .slice r.a1 n1 r.c1, .slice r.a2 n2 r.c2, .slice r.a3 n3 r.c3] 85)
        have bx := Blk.new w1 85 #[.int .i64 i1, .int .i64 i2, .int .i64 i3, .slice r.a1 n1 r.c1, .slice r.a2 n2 r.c2, .slice r.a3 n3 r.c3]
        have y1 := bx.cell 1
        have y4 := bx.cell 4
        simp at y1 y4
        have HRE : Hid _ := hre
        have HWR : Hid _ := hwr
        have hL0 : Hid _ := RL.start (S := S) (Bs := Bs) (es := es) hlx
        have HLX : Hid _ := hlx
        clear hc xr hrp hes hn2 hre hTr bx hC1 hB1 hwr hlk hlx hgrow1 hown1 hqw hpw c1 c2 hIn hlen hlt hpl hfa hat0 hp hq hwk hIM HHA hHx HC hplt
        by_cases hk2 : i2 = 2
        · subst hk2
          have HDE : Hid (dirEnts (rs.map InoR.D) x = es) := by show _ = _; rw [hde.out, if_pos rfl]
          go_wp2
          obtain ⟨Wb, hWb⟩ : ∃ W, w1.alloc (.cells #[.int .i64 i1, .int .i64 2, .int .i64 i3, .slice r.a1 n1 r.c1, .slice r.a2 n2 r.c2, .slice r.a3 n3 r.c3] 85) = W := ⟨_, rfl⟩
          rw [hWb] at hC2 ⊢
          clear hWb y1 y4 x0 x1 x2 x3 x4 x5 zt hde
          go_loopw [53] (fun j wi => ∃ (q : Nat) (S1 B1 : List Int), q ≤ n2 ∧ j = .int .i64 q ∧ Hid (RC wb wi P Q X Tb Fb pm qm (rs.map InoR.D) S1 B1 ∧ RL (rs.map InoR.D) S Bs x es q S1 B1)) (fun j _ => n2 - (intOf j).toNat)
          case atStart => exact ⟨0, x :: S, Bs, Nat.zero_le _, rfl, hC2.out, hL0.out⟩
          case round =>
            obtain ⟨q, S1, B1, hq, rfl, hRR⟩ := hrel
            clear hC2 hL0
            by_cases hqn : q < n2
            · have hqi : (q : Int) < (n2 : Int) := by omega
              have hq0 : (0 : Int) ≤ (q : Int) := by omega
              have hql : q < es.length := by rw [HN.out]; exact hqn
              obtain ⟨eb, eo, hea, helt, hec⟩ := RdP.lt (RdP.keep HRE.out hRR.out.1.b) (by intro h; have := congrArg List.length h; rw [eP_length] at this; simp at this; rw [this] at hql; simp at hql)
              have hx := hec q (by rw [eP_length]; exact hql)
              rw [eP_at es q hql] at hx
              have hwu := HWR.out es[q] (List.getElem_mem hql)
              have HQ : Hid (es[q]? = some es[q]) := List.getElem?_eq_getElem hql
              obtain ⟨en, hen⟩ : ∃ en, es[q] = en := ⟨_, rfl⟩
              rw [hen] at hx hwu HQ
              obtain ⟨zn, u⟩ := en
              obtain ⟨x1, x2⟩ := hx
              dsimp only at x1 x2 hwu
              rw [hea]
              have hC3 := hRR.out.1.alloc (.cells #[.string zn, .int .i64 u] 88)
              have cF := hC3.zF.cell 0
              have bE := Blk.new wr 88 #[.string zn, .int .i64 u]
              have e1 := bE.cell 1
              simp at cF e1
              have hlS : S.length + 1 ≤ S1.length := by
                have := sub_len (l := x :: S) (m := S1) HIN.out.nd hRR.out.2.sub
                simpa using this
              have hb1 : B1.length ≤ 1 + mXE * S1.length := by
                have h1 := hRR.out.2.count
                have h2 := HBL.out
                have h3 : q ≤ mXE := by unfold mXE; omega
                rw [Nat.mul_add] at h1
                omega
              have hcR := HIH.out g' (by omega) u (dp + 1) _ S1 B1 hwu (by omega) (by omega) hb1 hC3
              rw [show ((dp + 1 : Nat) : Int) = (dp : Int) + 1 by omega] at hcR
              clear hec hea hen helt
              go_wp2_with fail
              (with_reducible refine hcR.mono ?_)
              rintro e w5 ⟨rfl, S2, B2, hC5, hP5⟩
              have hnx : Hid _ := And.intro hC5 (hRR.out.2.step HLX.out HDE.out HQ.out (by split <;> omega) hP5)
              clear cF e1 x1 x2 hcR hC3 bE hC5 hP5
              go_wp2
              go_roundw
              case rel => exact ⟨q + 1, S2, B2, by omega, by go_num, hnx⟩
              case measure => simp [intOf]; omega
            · have hqi : ¬ (q : Int) < (n2 : Int) := by omega
              have hend : Hid _ := HPR.out wr S1 B1 hRR.out.1 (hRR.out.2.fin (by rw [HN.out]; omega) (by unfold mXE; omega) HDE.out)
              go_wp2
              go_end0
              exact ⟨rfl, hend.out⟩
        · have hkb : (i2 == 2) = false := by simpa using hk2
          have hkc : (i2 != 2) = true := by simpa using hk2
          have hend : Hid _ := HPR.out _ _ _ hC2.out ((hL0.out).finN (by show _ = _; rw [hde.out, if_neg hk2]))
          go_wp2
          go_end0
          exact ⟨rfl, hend.out⟩
end
end Go.Proofs.YtfjlemnohjnkhaaGreat
