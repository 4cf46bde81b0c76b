/-
  What the drawing functions of the paths answer: texts of few bytes, rows of few texts.
-/
import Derived.Test.YtgdloohafkanhaaCursor
namespace Go.Proofs.Ytgdloohafkanhaa
open Go.RowKit

theorem strs_cells (w : World) (vs : List ByteArray) : ∀ j, j < vs.length → (w.alloc (.cells (vs.map Value.string).toArray 9)).cell? ⟨w.heap.size, j, none⟩ = some (.string (vs.getD j ⟨#[]⟩)) := by
  intro j hj
  rw [cell_of_row _ w.heap.size j _ 9 (0, 0) (heap_alloc_new w _)]
  simp [hj]

set_option maxHeartbeats 800000 in
theorem str_step (gc n cap : Nat) (a : Option Addr) (zs : List Int) (gl L : Nat) (vs : List ByteArray) (w : World) (h : Src w gc n cap a zs) (hL : vs.length = L) (hL1 : 1 ≤ L) (hL2 : L ≤ 256) (hne : gl ≠ gc)
    (hv : ∀ j, j < L → w.cell? ⟨gl, j, none⟩ = some (.string (vs.getD j ⟨#[]⟩))) (hsz : ∀ v ∈ vs, v.size ≤ 16) :
    Calls Try.prog 36 #[.pointer (some ⟨gc, 0, none⟩), .slice (some ⟨gl, 0, none⟩) L L] w fun e w' => ∃ z : ByteArray, e = .returned (.string z) ∧ z.size ≤ 16 ∧ Src w' gc n cap a zs ∧ w.grownBy w' (some gc) := by
  have hL' : Hid (vs.length = L) := hL
  clear hL
  go_enter Try.func36, Try.ntmps36
  go_wp2_with fail
  refine (below_step gc n cap a zs L w h hL1 (by omega)).mono ?_
  rintro e w1 ⟨x, rfl, hx, hs1, hg1⟩
  have hcx := hg1.cell (hv x hx) (by simpa using hne)
  have hxl : x < vs.length := by rw [hL'.out]; exact hx
  have hz : (vs.getD x ⟨#[]⟩).size ≤ 16 := by
    have e : vs.getD x ⟨#[]⟩ = vs[x] := by simp [hxl]
    rw [e]; exact hsz _ (List.getElem_mem hxl)
  obtain ⟨z, hzz⟩ : ∃ z, vs.getD x ⟨#[]⟩ = z := ⟨_, rfl⟩
  rw [hzz] at hcx hz
  clear hzz hxl
  have hx1 : (x : Int) < (L : Int) := by omega
  go_wp2
  go_ret
  exact ⟨z, rfl, hz, hs1, hg1⟩

set_option maxHeartbeats 400000 in
theorem once_step (gc n cap : Nat) (a : Option Addr) (zs : List Int) (m : Nat) (w : World) (h : Src w gc n cap a zs) (hm : 1 ≤ m) (hm2 : m ≤ 10000000) :
    Calls Try.prog 34 #[.pointer (some ⟨gc, 0, none⟩), .int .i64 m] w fun e w' => ∃ B : Bool, e = .returned (.bool B) ∧ Src w' gc n cap a zs ∧ w.grownBy w' (some gc) := by
  go_enter Try.func34, Try.ntmps34
  go_wp2_with fail
  refine (below_step gc n cap a zs m w h hm hm2).mono ?_
  rintro e w1 ⟨x, rfl, hx, hs1, hg1⟩
  go_wp2
  go_ret
  exact ⟨_, rfl, hs1, hg1⟩

set_option maxHeartbeats 400000 in
theorem name_step (gc n cap : Nat) (a : Option Addr) (zs : List Int) (w : World) (h : Src w gc n cap a zs) :
    Calls Try.prog 35 #[.pointer (some ⟨gc, 0, none⟩)] w fun e w' => ∃ z : ByteArray, e = .returned (.string z) ∧ z.size ≤ 16 ∧ Src w' gc n cap a zs ∧ w.grownBy w' (some gc) := by
  have hgc := h.cur.lt
  have hcl : Hid (∀ j, j < 4 → (w.alloc (.cells #[.string ⟨#[97]⟩, .string ⟨#[98]⟩, .string ⟨#[99]⟩, .string ⟨#[100, 46, 116, 120, 116]⟩] 9)).cell? ⟨w.heap.size, j, none⟩ = some (.string (([⟨#[97]⟩, ⟨#[98]⟩, ⟨#[99]⟩, ⟨#[100, 46, 116, 120, 116]⟩] : List ByteArray).getD j ⟨#[]⟩))) := strs_cells w [⟨#[97]⟩, ⟨#[98]⟩, ⟨#[99]⟩, ⟨#[100, 46, 116, 120, 116]⟩]
  go_enter Try.func35, Try.ntmps35
  go_wp2_with fail
  refine (str_step gc n cap a zs w.heap.size 4 [⟨#[97]⟩, ⟨#[98]⟩, ⟨#[99]⟩, ⟨#[100, 46, 116, 120, 116]⟩] _ (h.alloc _) rfl (by omega) (by omega) (by omega) hcl.out (by decide)).mono ?_
  rintro e w1 ⟨z, rfl, hz, hs1, hg1⟩
  go_wp2
  go_ret
  exact ⟨z, rfl, hz, hs1, gr_mono (World.grownBy_alloc w _ _) (.inl rfl) hg1⟩

set_option maxHeartbeats 800000 in
theorem path_step (gc n cap : Nat) (a : Option Addr) (zs : List Int) (w : World) (h : Src w gc n cap a zs) :
    Calls Try.prog 50 #[.pointer (some ⟨gc, 0, none⟩)] w fun e w' => ∃ z : ByteArray, e = .returned (.string z) ∧ z.size ≤ 100 ∧ Src w' gc n cap a zs ∧ w.grownBy w' (some gc) := by
  go_enter Try.func50, Try.ntmps50
  go_wp2_with fail
  refine (below_step gc n cap a zs 3 w h (by omega) (by omega)).mono ?_
  rintro e w1 ⟨x, rfl, hx, hs1, hg1⟩
  go_wp2
  go_loopw [3, 4] (fun v i wr => ∃ (k : Nat) (z : ByteArray), i = .int .i64 k ∧ k ≤ 3 ∧ v = .string z ∧ z.size + 17 * k ≤ 60 ∧ Src wr gc n cap a zs ∧ w.grownBy wr (some gc)) (fun _ i _ => (intOf i).toNat)
  case atStart => exact ⟨1 + x, ⟨#[]⟩, by go_num, by omega, rfl, by have : (⟨#[]⟩ : ByteArray).size = 0 := rfl; omega, hs1, hg1⟩
  case round =>
    obtain ⟨k, z, rfl, hk, rfl, hz, hs2, hg2⟩ := hrel
    by_cases hk0 : k = 0
    · subst hk0
      go_wp2
      go_ret
      exact ⟨z, rfl, by omega, hs2, hg2⟩
    · have hk1 : (0 : Int) < (k : Int) := by omega
      have hl1 : ¬ 9223372036854775807 < z.size + 1 := by omega
      go_wp2_with fail
      refine (name_step gc n cap a zs wr hs2).mono ?_
      rintro e w3 ⟨y, rfl, hy, hs3, hg3⟩
      have hl2 : ¬ 9223372036854775807 < z.size + 1 + y.size := by omega
      have hsz : (z ++ (⟨#[47]⟩ : ByteArray) ++ y).size = z.size + 1 + y.size := by simp [ByteArray.size_append]; rfl
      go_wp2
      go_roundw
      case rel => exact ⟨k - 1, _, by go_num, by omega, rfl, by rw [hsz]; omega, hs3, hg2.trans hg3⟩
      case measure => simp [intOf]; omega

theorem gr_below {w w1 w2 : World} {B g : Nat} (h : Below B w w1) (k : w1.grownBy w2 (some g)) (hB : B ≤ w1.heap.size) (hg : B ≤ g) : Below B w w2 :=
  h.grown k hB (by intro i hi; simp at hi; omega)

set_option maxHeartbeats 800000 in
theorem any_step (gc n cap : Nat) (a : Option Addr) (zs : List Int) (w : World) (h : Src w gc n cap a zs) :
    Calls Try.prog 40 #[.pointer (some ⟨gc, 0, none⟩)] w fun e w' => ∃ z : ByteArray, e = .returned (.string z) ∧ z.size ≤ 100 ∧ Src w' gc n cap a zs ∧ w.grownBy w' (some gc) := by
  have hgc := h.cur.lt
  go_enter Try.func40, Try.ntmps40
  go_wp2_with fail
  refine (once_step gc n cap a zs 6 w h (by omega) (by omega)).mono ?_
  rintro e w1 ⟨B, rfl, hs1, hg1⟩
  have hsz1 := hg1.size
  cases B with
  | true =>
    have hcl : Hid (∀ j, j < 10 → (w1.alloc (.cells #[.string ⟨#[]⟩, .string ⟨#[47]⟩, .string ⟨#[97]⟩, .string ⟨#[47, 47]⟩, .string ⟨#[47, 97, 47]⟩, .string ⟨#[47, 65]⟩, .string ⟨#[47, 46, 46]⟩, .string ⟨#[47, 46]⟩, .string ⟨#[47, 102, 105, 102, 116, 101, 101, 110, 98, 121, 116, 101, 115, 120, 120, 120]⟩, .string ⟨#[47, 97, 47, 47, 98]⟩] 9)).cell? ⟨w1.heap.size, j, none⟩ = some (.string (([⟨#[]⟩, ⟨#[47]⟩, ⟨#[97]⟩, ⟨#[47, 47]⟩, ⟨#[47, 97, 47]⟩, ⟨#[47, 65]⟩, ⟨#[47, 46, 46]⟩, ⟨#[47, 46]⟩, ⟨#[47, 102, 105, 102, 116, 101, 101, 110, 98, 121, 116, 101, 115, 120, 120, 120]⟩, ⟨#[47, 97, 47, 47, 98]⟩] : List ByteArray).getD j ⟨#[]⟩))) := strs_cells w1 [⟨#[]⟩, ⟨#[47]⟩, ⟨#[97]⟩, ⟨#[47, 47]⟩, ⟨#[47, 97, 47]⟩, ⟨#[47, 65]⟩, ⟨#[47, 46, 46]⟩, ⟨#[47, 46]⟩, ⟨#[47, 102, 105, 102, 116, 101, 101, 110, 98, 121, 116, 101, 115, 120, 120, 120]⟩, ⟨#[47, 97, 47, 47, 98]⟩]
    go_wp2_with fail
    refine (str_step gc n cap a zs w1.heap.size 10 [⟨#[]⟩, ⟨#[47]⟩, ⟨#[97]⟩, ⟨#[47, 47]⟩, ⟨#[47, 97, 47]⟩, ⟨#[47, 65]⟩, ⟨#[47, 46, 46]⟩, ⟨#[47, 46]⟩, ⟨#[47, 102, 105, 102, 116, 101, 101, 110, 98, 121, 116, 101, 115, 120, 120, 120]⟩, ⟨#[47, 97, 47, 47, 98]⟩] _ (hs1.alloc _) rfl (by omega) (by omega) (by omega) hcl.out (by decide)).mono ?_
    rintro e w2 ⟨z, rfl, hz, hs2, hg2⟩
    go_wp2
    go_ret
    exact ⟨z, rfl, by omega, hs2, hg1.trans (gr_mono (World.grownBy_alloc w1 _ _) (.inl rfl) hg2)⟩
  | false =>
    go_wp2_with fail
    refine (path_step gc n cap a zs w1 hs1).mono ?_
    rintro e w2 ⟨z, rfl, hz, hs2, hg2⟩
    go_wp2
    go_ret
    exact ⟨z, rfl, hz, hs2, hg1.trans hg2⟩

set_option maxHeartbeats 800000 in
theorem drawSplit_any (a : Option Addr) (n cap : Nat) (zs : List Int) (w : World) (hn : zs.length = n) (hs : n ≤ 1048576) (hr : Rd w a zs) (hb : Byt zs) :
    Calls Try.prog 15 #[.slice a n cap] w fun e w' => ∃ z : ByteArray, e = .returned (.string z) ∧ z.size ≤ 100 ∧ Below w.heap.size w w' := by
  go_enter Try.func15, Try.ntmps15
  go_wp2_with fail
  refine (new_step a n cap zs w hn hs hr hb).mono ?_
  rintro e w1 ⟨rfl, hs1, hb1⟩
  have hz1 := hb1.size
  go_wp2_with fail
  refine (once_step _ n cap a zs 20 w1 hs1 (by omega) (by omega)).mono ?_
  rintro e w2 ⟨B, rfl, hs2, hg2⟩
  have B2 := gr_below hb1 hg2 hz1 (Nat.le_refl _)
  cases B with
  | true =>
    go_wp2
    go_loopw [4, 5] (fun v i wr => ∃ (k : Nat) (z : ByteArray), i = .int .i64 k ∧ k ≤ 31 ∧ v = .string z ∧ z.size = 2 * k ∧ Src wr w.heap.size n cap a zs ∧ Below w.heap.size w wr) (fun _ i _ => 31 - (intOf i).toNat)
    case atStart => exact ⟨0, ⟨#[]⟩, rfl, by omega, rfl, rfl, hs2, B2⟩
    case round =>
      obtain ⟨k, z, rfl, hk, rfl, hz, hs3, B3⟩ := hrel
      have hl : ¬ 9223372036854775807 < z.size + 2 := by omega
      have hsz : (z ++ (⟨#[47, 97]⟩ : ByteArray)).size = z.size + 2 := by simp [ByteArray.size_append]; rfl
      go_wp2_with fail
      refine (below_step _ n cap a zs 2 wr hs3 (by omega) (by omega)).mono ?_
      rintro e w4 ⟨x, rfl, hx, hs4, hg4⟩
      have B4 := gr_below B3 hg4 B3.size (Nat.le_refl _)
      by_cases hkx : k < 30 + x
      · have hkx' : (k : Int) < 30 + (x : Int) := by omega
        go_wp2
        go_roundw
        case rel => exact ⟨k + 1, _, by go_num, by omega, rfl, by rw [hsz]; omega, hs4, B4⟩
        case measure => simp [intOf]; omega
      · have hkx' : ¬ (k : Int) < 30 + (x : Int) := by omega
        go_wp2
        go_ret
        exact ⟨z, rfl, by omega, B4⟩
  | false =>
    go_wp2_with fail
    refine (any_step _ n cap a zs w2 hs2).mono ?_
    rintro e w3 ⟨z, rfl, hz, hs3, hg3⟩
    go_wp2
    go_ret
    exact ⟨z, rfl, hz, gr_below B2 hg3 B2.size (Nat.le_refl _)⟩

set_option maxHeartbeats 400000 in
theorem drawParent_any (a : Option Addr) (n cap : Nat) (zs : List Int) (w : World) (hn : zs.length = n) (hs : n ≤ 1048576) (hr : Rd w a zs) (hb : Byt zs) :
    Calls Try.prog 19 #[.slice a n cap] w fun e w' => ∃ z : ByteArray, e = .returned (.string z) ∧ z.size ≤ 100 ∧ Below w.heap.size w w' := by
  go_enter Try.func19, Try.ntmps19
  go_wp2_with fail
  refine (drawSplit_any a n cap zs w hn hs hr hb).mono ?_
  rintro e w1 ⟨z, rfl, hz, hb1⟩
  go_wp2
  go_ret
  exact ⟨z, rfl, hz, hb1⟩

set_option maxHeartbeats 800000 in
theorem drawBelow_any (a : Option Addr) (n cap : Nat) (zs : List Int) (w : World) (hn : zs.length = n) (hs : n ≤ 1048576) (hr : Rd w a zs) (hb : Byt zs) :
    Calls Try.prog 24 #[.slice a n cap] w fun e w' => ∃ z y : ByteArray, e = .returned (.tuple #[.string z, .string y]) ∧ z.size ≤ 100 ∧ y.size ≤ 200 ∧ Below w.heap.size w w' := by
  go_enter Try.func24, Try.ntmps24
  go_wp2_with fail
  refine (new_step a n cap zs w hn hs hr hb).mono ?_
  rintro e w1 ⟨rfl, hs1, hb1⟩
  have hz1 := hb1.size
  go_wp2_with fail
  refine (any_step _ n cap a zs w1 hs1).mono ?_
  rintro e w2 ⟨z, rfl, hz, hs2, hg2⟩
  have B2 := gr_below hb1 hg2 hz1 (Nat.le_refl _)
  go_wp2_with fail
  refine (once_step _ n cap a zs 2 w2 hs2 (by omega) (by omega)).mono ?_
  rintro e w3 ⟨B, rfl, hs3, hg3⟩
  have B3 := gr_below B2 hg3 B2.size (Nat.le_refl _)
  have hgc := hs3.cur.lt
  cases B with
  | true =>
    have hcl : Hid (∀ j, j < 3 → (w3.alloc (.cells #[.string ⟨#[]⟩, .string ⟨#[47, 98]⟩, .string ⟨#[120]⟩] 9)).cell? ⟨w3.heap.size, j, none⟩ = some (.string (([⟨#[]⟩, ⟨#[47, 98]⟩, ⟨#[120]⟩] : List ByteArray).getD j ⟨#[]⟩))) := strs_cells w3 [⟨#[]⟩, ⟨#[47, 98]⟩, ⟨#[120]⟩]
    go_wp2_with fail
    refine (str_step _ n cap a zs w3.heap.size 3 [⟨#[]⟩, ⟨#[47, 98]⟩, ⟨#[120]⟩] _ (hs3.alloc _) rfl (by omega) (by omega) (by omega) hcl.out (by decide)).mono ?_
    rintro e w4 ⟨y, rfl, hy, hs4, hg4⟩
    have hl : ¬ 9223372036854775807 < z.size + y.size := by omega
    have B4 := gr_below (B3.alloc B3.size _) hg4 (by have := B3.size; simp; omega) (Nat.le_refl _)
    go_wp2
    go_ret2
    exact ⟨z, z ++ y, rfl, hz, by rw [ByteArray.size_append]; omega, B4⟩
  | false =>
    go_wp2_with fail
    refine (any_step _ n cap a zs w3 hs3).mono ?_
    rintro e w4 ⟨y, rfl, hy, hs4, hg4⟩
    go_wp2
    go_ret2
    exact ⟨z, y, rfl, hz, by omega, gr_below B3 hg4 B3.size (Nat.le_refl _)⟩

/-- Texts of at most 16 bytes each. -/
def Tiny (zs : List ByteArray) : Prop := ∀ z ∈ zs, z.size ≤ 16
theorem Tiny.snoc {zs : List ByteArray} {z : ByteArray} (h : Tiny zs) (hz : z.size ≤ 16) : Tiny (zs ++ [z]) := by
  intro y hy
  simp only [List.mem_append, List.mem_cons, List.not_mem_nil, or_false] at hy
  rcases hy with hy | rfl
  · exact h y hy
  · exact hz
theorem Tiny.set {zs : List ByteArray} {z : ByteArray} (h : Tiny zs) (hz : z.size ≤ 16) (k : Nat) : Tiny (zs.set k z) := by
  intro y hy
  rcases List.mem_or_eq_of_mem_set hy with hy | rfl
  · exact h y hy
  · exact hz

/-- What DrawJoinPath answers: a row of its own, of few texts. -/
def DjPost (w : World) (e : Ending) (w' : World) : Prop :=
  ∃ (g m c : Nat) (ys : List ByteArray), e = .returned (.slice (some ⟨g, 0, none⟩) m c) ∧ m ≤ 31 ∧ w.heap.size ≤ g ∧ Tiny ys ∧ OwnS w' g m c ys ∧ Below w.heap.size w w'

set_option maxHeartbeats 2000000 in
theorem drawJoin_any (a : Option Addr) (n cap : Nat) (zs : List Int) (w : World) (hn : zs.length = n) (hs : n ≤ 1048576) (hr : Rd w a zs) (hb : Byt zs) :
    Calls Try.prog 12 #[.slice a n cap] w (DjPost w) := by
  go_enter Try.func12, Try.ntmps12
  go_wp2_with fail
  refine (new_step a n cap zs w hn hs hr hb).mono ?_
  rintro e w1 ⟨rfl, hs1, hb1⟩
  have hz1 := hb1.size
  have hgc := hs1.cur.lt
  go_wp2_with fail
  refine (below_step _ n cap a zs 4 _ (hs1.alloc _) (by omega) (by omega)).mono ?_
  rintro e w2 ⟨x, rfl, hx, hs2, hg2⟩
  have B2 := gr_below (hb1.alloc hz1 _) hg2 (by simp; omega) (Nat.le_refl _)
  have ho2 := (ownS_empty w1).kept hg2 (by omega)
  go_wp2_with fail
  refine (once_step _ n cap a zs 20 w2 hs2 (by omega) (by omega)).mono ?_
  rintro e w3 ⟨B, rfl, hs3, hg3⟩
  have B3 := gr_below B2 hg3 B2.size (Nat.le_refl _)
  have ho3 := ho2.kept hg3 (by omega)
  have hw1 : w.heap.size < w1.heap.size := hgc
  clear ho2 hs2 hg2 hg3 B2 hs1 hb1
  cases B with
  | true =>
    go_wp2_with fail
    refine (below_step _ n cap a zs 2 w3 hs3 (by omega) (by omega)).mono ?_
    rintro e w4 ⟨y, rfl, hy, hs4, hg4⟩
    have B4 := gr_below B3 hg4 B3.size (Nat.le_refl _)
    have ho4 := ho3.kept hg4 (by omega)
    obtain ⟨N, hN⟩ : ∃ N : Nat, 30 + y = N := ⟨_, rfl⟩
    have hNi : (30 : Int) + (y : Int) = (N : Int) := by omega
    clear ho3 hs3 hg4 B3
    go_wp2
    go_loopw [4, 6] (fun v i wr => ∃ (k g c : Nat) (ys : List ByteArray), i = .int .i64 k ∧ k ≤ N ∧ v = .slice (some ⟨g, 0, none⟩) k c ∧ w.heap.size < g ∧ Tiny ys ∧ OwnS wr g k c ys ∧ Src wr w.heap.size n cap a zs ∧ Below w.heap.size w wr) (fun _ i _ => N - (intOf i).toNat)
    case atStart => exact ⟨0, w1.heap.size, 0, [], rfl, Nat.zero_le _, rfl, hw1, by intro z hz; simp at hz, ho4, hs4, B4⟩
    case round =>
      clear ho4 hs4 B4
      obtain ⟨k, g, c, ys, rfl, hk, rfl, hg, hty, ho, hsr, hbl⟩ := hrel
      have hbz := hbl.size
      by_cases hkN : k < N
      · have hki : (k : Int) < (N : Int) := by omega
        go_wp2_with fail
        refine (name_step _ n cap a zs wr hsr).mono ?_
        rintro e w5 ⟨z, rfl, hz, hs5, hg5⟩
        have ho5 := ho.kept hg5 (by omega)
        have B5 := gr_below hbl hg5 hbz (Nat.le_refl _)
        have hz5 := hg5.size
        clear ho hsr hg5
        go_wp2_with (at_builtin; refine appS _ rfl (.tmp 22) (.tmp 25) rfl g k c ys rfl (ho5.alloc _) w5.heap.size z rfl (Boxed.new w5 9 (.string z)).cell (by omega) (w5.heap.size + 1) (by simp) ?_; intro g6 c6 w6 ho6 hg6 ha6)
        go_roundw
        case rel => exact ⟨k + 1, g6, c6, ys ++ [z], by go_num, by omega, rfl, by omega, hty.snoc hz, ho6, (hs5.alloc _).other hg6 (by omega), gr_below (B5.alloc B5.size _) hg6 (by have := B5.size; simp; omega) (by omega)⟩
        case measure => simp [intOf]; omega
      · have hki : ¬ (k : Int) < (N : Int) := by omega
        obtain rfl : k = N := by omega
        by_cases hk0 : k = 0
        · subst hk0
          go_wp2
          go_ret
          exact ⟨g, 0, c, ys, rfl, by omega, by omega, hty, ho, hbl⟩
        · have hk1 : (0 : Int) < (k : Int) := by omega
          go_wp2_with fail
          refine (once_step _ n cap a zs 6 wr hsr (by omega) (by omega)).mono ?_
          rintro e w5 ⟨B, rfl, hs5, hg5⟩
          have ho5 := ho.kept hg5 (by omega)
          have B5 := gr_below hbl hg5 hbz (Nat.le_refl _)
          have hgc5 := hs5.cur.lt
          clear ho hsr hg5
          cases B with
          | true =>
            have hcl : Hid (∀ j, j < 3 → (w5.alloc (.cells #[.string ⟨#[]⟩, .string ⟨#[65]⟩, .string ⟨#[46, 46]⟩] 9)).cell? ⟨w5.heap.size, j, none⟩ = some (.string (([⟨#[]⟩, ⟨#[65]⟩, ⟨#[46, 46]⟩] : List ByteArray).getD j ⟨#[]⟩))) := strs_cells w5 [⟨#[]⟩, ⟨#[65]⟩, ⟨#[46, 46]⟩]
            go_wp2_with fail
            refine (str_step _ n cap a zs w5.heap.size 3 [⟨#[]⟩, ⟨#[65]⟩, ⟨#[46, 46]⟩] _ (hs5.alloc _) rfl (by omega) (by omega) (by omega) hcl.out (by decide)).mono ?_
            rintro e w6 ⟨z, rfl, hz, hs6, hg6⟩
            have ho6 := (ho5.alloc (.cells #[.string ⟨#[]⟩, .string ⟨#[65]⟩, .string ⟨#[46, 46]⟩] 9)).kept hg6 (by omega)
            have B6 := gr_below (B5.alloc B5.size _) hg6 (by have := B5.size; simp; omega) (Nat.le_refl _)
            have hyl : 0 < ys.length := by rw [ho6.len]; omega
            have hcy := World.ownsRow.cellAt ho6 0 (by omega)
            have hfy := World.ownsRow.frozenAt ho6 0
            simp only [List.getElem?_map, List.getElem?_eq_getElem hyl, Option.map_some] at hcy
            have hst := ownS_stored ho6 0 z
            have B7 := B6.setCell (p := ⟨g, 0, none⟩) (Nat.le_of_lt hg) (.string z)
            clear ho6 ho5 hs6 hg6 B6
            go_wp2
            go_ret
            exact ⟨g, k, c, _, rfl, by omega, by omega, hty.set hz 0, hst, B7⟩
          | false =>
            go_wp2
            go_ret
            exact ⟨g, k, c, ys, rfl, by omega, by omega, hty, ho5, B5⟩
  | false =>
    go_wp2
    go_loopw [4, 6] (fun v i wr => ∃ (k g c : Nat) (ys : List ByteArray), i = .int .i64 k ∧ k ≤ x ∧ v = .slice (some ⟨g, 0, none⟩) k c ∧ w.heap.size < g ∧ Tiny ys ∧ OwnS wr g k c ys ∧ Src wr w.heap.size n cap a zs ∧ Below w.heap.size w wr) (fun _ i _ => x - (intOf i).toNat)
    case atStart => exact ⟨0, w1.heap.size, 0, [], rfl, Nat.zero_le _, rfl, hw1, by intro z hz; simp at hz, ho3, hs3, B3⟩
    case round =>
      clear ho3 hs3 B3
      obtain ⟨k, g, c, ys, rfl, hk, rfl, hg, hty, ho, hsr, hbl⟩ := hrel
      have hbz := hbl.size
      by_cases hkN : k < x
      · have hki : (k : Int) < (x : Int) := by omega
        go_wp2_with fail
        refine (name_step _ n cap a zs wr hsr).mono ?_
        rintro e w5 ⟨z, rfl, hz, hs5, hg5⟩
        have ho5 := ho.kept hg5 (by omega)
        have B5 := gr_below hbl hg5 hbz (Nat.le_refl _)
        have hz5 := hg5.size
        clear ho hsr hg5
        go_wp2_with (at_builtin; refine appS _ rfl (.tmp 22) (.tmp 25) rfl g k c ys rfl (ho5.alloc _) w5.heap.size z rfl (Boxed.new w5 9 (.string z)).cell (by omega) (w5.heap.size + 1) (by simp) ?_; intro g6 c6 w6 ho6 hg6 ha6)
        go_roundw
        case rel => exact ⟨k + 1, g6, c6, ys ++ [z], by go_num, by omega, rfl, by omega, hty.snoc hz, ho6, (hs5.alloc _).other hg6 (by omega), gr_below (B5.alloc B5.size _) hg6 (by have := B5.size; simp; omega) (by omega)⟩
        case measure => simp [intOf]; omega
      · have hki : ¬ (k : Int) < (x : Int) := by omega
        obtain rfl : k = x := by omega
        by_cases hk0 : k = 0
        · subst hk0
          go_wp2
          go_ret
          exact ⟨g, 0, c, ys, rfl, by omega, by omega, hty, ho, hbl⟩
        · have hk1 : (0 : Int) < (k : Int) := by omega
          go_wp2_with fail
          refine (once_step _ n cap a zs 6 wr hsr (by omega) (by omega)).mono ?_
          rintro e w5 ⟨B, rfl, hs5, hg5⟩
          have ho5 := ho.kept hg5 (by omega)
          have B5 := gr_below hbl hg5 hbz (Nat.le_refl _)
          have hgc5 := hs5.cur.lt
          clear ho hsr hg5
          cases B with
          | true =>
            have hcl : Hid (∀ j, j < 3 → (w5.alloc (.cells #[.string ⟨#[]⟩, .string ⟨#[65]⟩, .string ⟨#[46, 46]⟩] 9)).cell? ⟨w5.heap.size, j, none⟩ = some (.string (([⟨#[]⟩, ⟨#[65]⟩, ⟨#[46, 46]⟩] : List ByteArray).getD j ⟨#[]⟩))) := strs_cells w5 [⟨#[]⟩, ⟨#[65]⟩, ⟨#[46, 46]⟩]
            go_wp2_with fail
            refine (str_step _ n cap a zs w5.heap.size 3 [⟨#[]⟩, ⟨#[65]⟩, ⟨#[46, 46]⟩] _ (hs5.alloc _) rfl (by omega) (by omega) (by omega) hcl.out (by decide)).mono ?_
            rintro e w6 ⟨z, rfl, hz, hs6, hg6⟩
            have ho6 := (ho5.alloc (.cells #[.string ⟨#[]⟩, .string ⟨#[65]⟩, .string ⟨#[46, 46]⟩] 9)).kept hg6 (by omega)
            have B6 := gr_below (B5.alloc B5.size _) hg6 (by have := B5.size; simp; omega) (Nat.le_refl _)
            have hyl : 0 < ys.length := by rw [ho6.len]; omega
            have hcy := World.ownsRow.cellAt ho6 0 (by omega)
            have hfy := World.ownsRow.frozenAt ho6 0
            simp only [List.getElem?_map, List.getElem?_eq_getElem hyl, Option.map_some] at hcy
            have hst := ownS_stored ho6 0 z
            have B7 := B6.setCell (p := ⟨g, 0, none⟩) (Nat.le_of_lt hg) (.string z)
            clear ho6 ho5 hs6 hg6 B6
            go_wp2
            go_ret
            exact ⟨g, k, c, _, rfl, by omega, by omega, hty.set hz 0, hst, B7⟩
          | false =>
            go_wp2
            go_ret
            exact ⟨g, k, c, ys, rfl, by omega, by omega, hty, ho5, B5⟩
end Go.Proofs.Ytgdloohafkanhaa
