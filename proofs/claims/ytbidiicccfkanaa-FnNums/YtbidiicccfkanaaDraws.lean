/-
  Contracts for DrawPutNum, DrawPutText, DrawCrc and big.
-/
import Derived.Test.YtbidiicccfkanaaNums
import Derived.Deep.RegionWith
import Derived.Deep.DrawnRows
namespace Go.Proofs.Ytbidiicccfkanaa
open Go.RowKit

theorem gr_below {w w1 w2 : World} {B g : Nat} (h : Below B w w1) (k : w1.grownBy w2 (some g)) (hB : B ≤ w1.heap.size) (hg : B ≤ g) : Below B w w2 :=
  h.grown k hB (by intro i hi; simp at hi; omega)

set_option maxHeartbeats 400000 in
theorem big_any (a : Option Addr) (n cap : Nat) (w : World) : Calls Try.prog 12 #[.slice a n cap] w fun e w' => e = .returned (.bool (decide ((1048576 : Int) < (n : Int)))) ∧ w' = w := by
  go_enter Try.func12, Try.ntmps12
  go_wp2
  go_ret
  exact ⟨rfl, rfl⟩

set_option maxHeartbeats 800000 in
theorem drawPutNum_any (a : Option Addr) (n cap : Nat) (zs : List Int) (w : World) (hn : zs.length = n) (hs : n ≤ 1048576) (hr : Rd w a zs) (hb : Byt zs) :
    Calls Try.prog 13 #[.slice a n cap] w fun e w' => ∃ (g m c : Nat) (ys : List Int) (x : Int), e = .returned (.tuple #[.slice (some ⟨g, 0, none⟩) m c, .int .i64 x]) ∧ m ≤ 9 ∧ w.heap.size ≤ g ∧ Byt ys ∧ Own w' g m c ys ∧ Below w.heap.size w w' := by
  go_enter Try.func13, Try.ntmps13
  go_wp2_with fail
  refine (new_step a n cap zs w hn hs hr hb).mono ?_
  rintro e w1 ⟨rfl, hs1, hb1⟩
  have hz1 := hb1.size
  go_wp2_with fail
  refine (some_step _ n cap a zs w1 hs1).mono ?_
  rintro e w2 ⟨g, m, c, ys, rfl, hm, hg, hby, ho, hs2, hg2⟩
  have B2 := gr_below hb1 hg2 hz1 (Nat.le_refl _)
  have hz2 := hg2.size
  go_wp2_with fail
  refine (below_step _ n cap a zs 100000 w2 hs2 (by omega) (by omega)).mono ?_
  rintro e w3 ⟨x, rfl, hx, hs3, hg3⟩
  have B3 := gr_below B2 hg3 B2.size (Nat.le_refl _)
  have ho3 := ho.kept hg3 (by have := hs1.cur.lt; omega)
  have hz3 := hg3.size
  have hcl : Hid (∀ j, j < 11 → (w3.alloc (.cells #[.int .i64 0, .int .i64 1, .int .i64 127, .int .i64 128, .int .i64 16383, .int .i64 16384, .int .i64 1000000, .int .i64 1000001, .int .i64 (-1), .int .i64 9223372036854775807, .int .i64 x] 3)).cell? ⟨w3.heap.size, j, none⟩ = some (.int .i64 (([0, 1, 127, 128, 16383, 16384, 1000000, 1000001, -1, 9223372036854775807, (x : Int)] : List Int).getD j 0))) := ints_cells w3 [0, 1, 127, 128, 16383, 16384, 1000000, 1000001, -1, 9223372036854775807, (x : Int)] 3
  go_wp2_with fail
  refine (int_step _ n cap a zs w3.heap.size 11 [0, 1, 127, 128, 16383, 16384, 1000000, 1000001, -1, 9223372036854775807, (x : Int)] _ (hs3.alloc _) rfl (by omega) (by omega) (by have := hs1.cur.lt; omega) hcl.out).mono ?_
  rintro e w4 ⟨k, rfl, hk, hs4, hg4⟩
  have ho4 := (World.ownsRow.alloc ho3 (.cells #[.int .i64 0, .int .i64 1, .int .i64 127, .int .i64 128, .int .i64 16383, .int .i64 16384, .int .i64 1000000, .int .i64 1000001, .int .i64 (-1), .int .i64 9223372036854775807, .int .i64 x] 3))
  have ho5 := Own.kept ho4 hg4 (by have := hs1.cur.lt; omega)
  have B4 := gr_below (B3.alloc B3.size _) hg4 (by have := B3.size; simp; omega) (Nat.le_refl _)
  go_wp2
  go_ret2
  exact ⟨g, m, c, ys, _, rfl, hm, by omega, hby, ho5, B4⟩

theorem conv_own {w : World} {g m c : Nat} {ys : List Int} (h : Own w g m c ys) : (convert 22 9 (.slice (some ⟨g, 0, none⟩) m c)).run Try.prog w = .ok (.string (str ys)) w := by
  rw [run_convert_bytes_string w 22 9 5 _ _ _ Try.underlying22 Try.underlying5 Try.underlying9]
  have hl := h.len
  have h2 := run_loadCells_list (P := Try.prog) (w := w) ⟨g, 0, none⟩ (ys.map (Value.int .u8)) (fun j u hu => World.ownsRow.cells h (g := g) rfl j u hu)
  simp only [List.length_map, hl] at h2
  exact run_bytesToString w _ m c _ h2

set_option maxHeartbeats 800000 in
theorem drawPutText_any (a : Option Addr) (n cap : Nat) (zs : List Int) (w : World) (hn : zs.length = n) (hs : n ≤ 1048576) (hr : Rd w a zs) (hb : Byt zs) :
    Calls Try.prog 16 #[.slice a n cap] w fun e w' => ∃ (g m c : Nat) (ys l : List Int), e = .returned (.tuple #[.slice (some ⟨g, 0, none⟩) m c, .string (str l)]) ∧ m ≤ 9 ∧ w.heap.size ≤ g ∧ Byt ys ∧ Byt l ∧ l.length ≤ 9 ∧ Own w' g m c ys ∧ Below w.heap.size w w' := by
  go_enter Try.func16, Try.ntmps16
  go_wp2_with fail
  refine (new_step a n cap zs w hn hs hr hb).mono ?_
  rintro e w1 ⟨rfl, hs1, hb1⟩
  have hz1 := hb1.size
  have hs1d := hs1.drew
  go_wp2
  go_region_with (first | (go_at_call 44; refine (some_step _ n cap a zs _ hs1d).mono ?_; rintro e w2 ⟨g, m, c, ys, rfl, hm, hg, hby, ho, hs2, hg2⟩; clear hs1d) | (go_at_call 44; refine (some_step _ n cap a zs _ hs2).mono ?_; rintro e w3 ⟨g', m', c', l, rfl, hm', hg', hby', ho', hs3, hg3⟩; have hcv := conv_own ho'))
  have hg1 : w1.grownBy w2 (some w.heap.size) := ⟨hg2.os, hg2.tape, hg2.output, hg2.size, hg2.block⟩
  have B2 := gr_below hb1 hg1 hz1 (Nat.le_refl _)
  have B3 := gr_below B2 hg3 B2.size (Nat.le_refl _)
  have ho3 := ho.kept hg3 (by have := hs1.cur.lt; simp at hg; omega)
  have hll := ho'.len
  have HL : Hid (l.length = m') := hll
  have hg0 : w1.heap.size ≤ g := hg
  clear hll ho' hcv
  go_wp2
  go_ret2
  exact ⟨g, m, c, ys, l, rfl, hm, by omega, hby, hby', by rw [HL.out]; exact hm', ho3, B3⟩


theorem Own.cap {w : World} {g n c : Nat} {zs : List Int} (h : Own w g n c zs) : n ≤ c := by
  rcases h.2 with ⟨h', _⟩ | ⟨g', cap', cur, h', _, _, hc, _⟩
  · simp at h'
  · simp only [Value.slice.injEq, Option.some.injEq, Addr.mk.injEq, and_true, true_and] at h'
    omega
theorem encGo_byt (f m : Nat) (h : m < 128 ^ (f + 1)) : Byt (encGo f m) := by
  induction f generalizing m with
  | zero => intro z hz; simp [encGo] at hz; omega
  | succ f ih =>
    unfold encGo
    split
    · intro z hz
      simp only [List.mem_cons] at hz
      rcases hz with hz | hz
      · omega
      · exact ih (m / 128) (Nat.div_lt_of_lt_mul (by rw [Nat.pow_succ] at h; omega)) z hz
    · intro z hz
      simp at hz
      omega
theorem enc_byt (x : Int) : Byt (enc x) := encGo_byt 3 _ (by have := clamp_le x; omega)
theorem enc_pos (x : Int) : 1 ≤ (enc x).length := by
  unfold enc encGo
  split <;> simp
theorem Byt.append {a b : List Int} (ha : Byt a) (hb : Byt b) : Byt (a ++ b) := by
  intro z hz
  rcases List.mem_append.1 hz with h | h
  · exact ha z h
  · exact hb z h
theorem strZ_byt (s : ByteArray) : Byt (strZ s) := by
  intro z hz
  simp only [strZ, List.mem_map] at hz
  obtain ⟨b, _, rfl⟩ := hz
  have := b.toNat_lt
  omega
theorem Rd.take {w : World} {a : Option Addr} {zs : List Int} (h : Rd w a zs) (k : Nat) : Rd w a (zs.take k) := by
  rcases h with h | ⟨b, off, rfl, hc⟩
  · left; simp [h]
  · refine .inr ⟨b, off, rfl, fun i hi => ?_⟩
    simp only [List.length_take] at hi
    rw [hc i (by omega)]
    simp [show i < k by omega]
end Go.Proofs.Ytbidiicccfkanaa
