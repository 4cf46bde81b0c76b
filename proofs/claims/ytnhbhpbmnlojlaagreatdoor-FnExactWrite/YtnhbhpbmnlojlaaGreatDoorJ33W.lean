/-
  Joined: RecS, Draw, DrawI.
-/
import Derived.Test.YtnhbhpbmnlojlaaGreatDoorJ32W
import Derived.ArgAppend
import Derived.Laws.BitsLemmas
namespace Go.Proofs.YtnhbhpbmnlojlaaGreatDoor
section
open Go.RowKit
/-- The sum of bytes, and its four bytes, the highest first. -/
def sumOf (zs : List Int) : Int := ((crcTo zs ^^^ 4294967295 : Nat) : Int)
def sum4 (s : Int) : List Int := [s / 16777216, s / 65536 % 256, s / 256 % 256, s % 256]
/-- Bytes with their sum. -/
def summedOf (zs : List Int) : List Int := zs ++ sum4 (sumOf zs)
theorem sumOf_lt (zs : List Int) (hb : Byt zs) : 0 ≤ sumOf zs ∧ sumOf zs < 4294967296 := by
  have := xor_lt32 (crcTo_lt zs hb) (show 4294967295 < 4294967296 by omega)
  unfold sumOf
  omega
theorem summedOf_len (zs : List Int) : (summedOf zs).length = zs.length + 4 := by simp [summedOf, sum4]
theorem four_news (w : World) (a b c d : Int) : ∀ j, j < 4 → (w.alloc (.cells #[.int .u8 a, .int .u8 b, .int .u8 c, .int .u8 d] 5)).cell? ((⟨w.heap.size, 0, none⟩ : Addr).add j) = some (.int .u8 (([a, b, c, d] : List Int).getD j 0)) := by
  intro j hj
  rw [add_at, (Blk.new w 5 #[.int .u8 a, .int .u8 b, .int .u8 c, .int .u8 d]).cell j]
  match j, hj with
  | 0, _ => rfl
  | 1, _ => rfl
  | 2, _ => rfl
  | 3, _ => rfl
set_option maxHeartbeats 1600000 in
theorem withSum_own (g n c : Nat) (zs : List Int) (w : World) (hs : n ≤ 4000000) (hb : Byt zs) (ho : Own w g n c zs) :
    Calls Tryz.prog 52 #[.slice (some ⟨g, 0, none⟩) n c] w fun e w' => ∃ g' c', e = .returned (.slice (some ⟨g', 0, none⟩) (n + 4) c') ∧ (g' = g ∨ w.heap.size ≤ g') ∧ Own w' g' (n + 4) c' (summedOf zs) ∧ w.grownBy w' (some g) := by
  have hc := implCrc_any (some ⟨g, 0, none⟩) n c zs w ho.len hs ho.rd hb
  have hlt := sumOf_lt zs hb
  have hS : Hid (summedOf zs = zs ++ sum4 (sumOf zs)) := rfl
  rw [show ((crcTo zs ^^^ 4294967295 : Nat) : Int) = sumOf zs from rfl] at hc
  generalize sumOf zs = s at *
  generalize summedOf zs = Y at *
  go_enter Tryz.func52, Tryz.ntmps52
  go_wp2_with fail
  refine hc.mono ?_
  rintro e w1 ⟨rfl, hw⟩
  obtain rfl := hw.symm
  clear hc
  go_wp2_with (at_builtin; refine wpList_app _ rfl (.tmp 6) (.tmp 18) rfl g n c zs rfl (World.ownsRow.alloc ho _) ⟨w.heap.size, 0, none⟩ 4 4 (sum4 s) rfl rfl (four_news w _ _ _ _) (by omega) (w.heap.size + 1) (by simp) ?_; intro g2 c2 w2 ho2 hg2 ha2)
  go_wp2
  go_ret
  refine ⟨g2, c2, rfl, ?_, by rw [hS.out]; exact ho2, (World.grownBy_alloc w _ _).trans hg2⟩
  omega
end

section
open Go.RowKit
/-- The cursor gc over the slice (a, n, cap). -/
def Cur (w : World) (gc : Nat) (a : Option Addr) (n cap : Nat) : Prop :=
  ∃ (i : Nat) (h : Int), i ≤ n ∧ w.heap[gc]? = some (.cells #[.slice a n cap, .int .i64 i, .int .i64 h] 109 (0, 0))
theorem Cur.kept {w w' : World} {gc n cap g : Nat} {a : Option Addr} (h : Cur w gc a n cap) (hg : w.grownBy w' (some g)) (hne : gc ≠ g) : Cur w' gc a n cap := by
  obtain ⟨i, hh, hi, hb⟩ := h
  exact ⟨i, hh, hi, by rw [hg.block gc (Array.getElem?_eq_some_iff.1 hb).1 (by simpa using hne)]; exact hb⟩
theorem Cur.keep {w w' : World} {gc n cap B : Nat} {a : Option Addr} (h : Cur w gc a n cap) (hb : Below B w w') (hg : gc < B) : Cur w' gc a n cap := by
  obtain ⟨i, hh, hi, hbk⟩ := h
  exact ⟨i, hh, hi, by rw [hb.block gc hg]; exact hbk⟩
theorem Cur.lt {w : World} {gc n cap : Nat} {a : Option Addr} (h : Cur w gc a n cap) : gc < w.heap.size := by
  obtain ⟨i, hh, hi, hb⟩ := h
  exact (Array.getElem?_eq_some_iff.1 hb).1
theorem Rd.kept {w w' : World} {a : Option Addr} {zs : List Int} {g : Nat} (h : Rd w a zs) (hg : w.grownBy w' (some g)) (hne : zs ≠ [] → ∀ b off, a = some ⟨b, off, none⟩ → b ≠ g) : Rd w' a zs := by
  by_cases hz : zs = []
  · exact .inl hz
  · obtain ⟨b, off, rfl, hlt, hc⟩ := h.lt hz
    refine .inr ⟨b, off, rfl, fun i hi => ?_⟩
    have := hne hz b off rfl
    exact hg.cell (hc i hi) (by simpa using this)
/-- What a step of the cursor needs: the cursor, and the bytes that it reads, apart from it. -/
structure Src (w : World) (gc n cap : Nat) (a : Option Addr) (zs : List Int) : Prop where
  len : zs.length = n
  small : n ≤ 1048576
  cur : Cur w gc a n cap
  rd : Rd w a zs
  byt : Byt zs
  ne : zs ≠ [] → ∀ b off, a = some ⟨b, off, none⟩ → b < gc
theorem Src.step {w w' : World} {gc n cap : Nat} {a : Option Addr} {zs : List Int} (h : Src w gc n cap a zs) (hc : Cur w' gc a n cap) (hg : w.grownBy w' (some gc)) : Src w' gc n cap a zs :=
  ⟨h.len, h.small, hc, h.rd.kept hg (fun hz b off e => Nat.ne_of_lt (h.ne hz b off e)), h.byt, h.ne⟩
theorem Src.keep {w w' : World} {gc n cap : Nat} {a : Option Addr} {zs : List Int} (h : Src w gc n cap a zs) (hb : Below w.heap.size w w') : Src w' gc n cap a zs :=
  ⟨h.len, h.small, h.cur.keep hb h.cur.lt, h.rd.keep hb, h.byt, h.ne⟩
theorem Byt.snoc {ys : List Int} {x : Nat} (h : Byt ys) (hx : x ≤ 255) : Byt (ys ++ [(x : Int)]) := by
  intro z hz
  simp only [List.mem_append, List.mem_cons, List.not_mem_nil, or_false] at hz
  rcases hz with hz | hz
  · exact h z hz
  · omega
theorem Src.alloc {w : World} {gc n cap : Nat} {a : Option Addr} {zs : List Int} (h : Src w gc n cap a zs) (o : Obj) : Src (w.alloc o) gc n cap a zs := h.keep ((Below.refl _ _).alloc (Nat.le_refl _) o)
theorem Src.other {w w' : World} {gc n cap g : Nat} {a : Option Addr} {zs : List Int} (h : Src w gc n cap a zs) (hg : w.grownBy w' (some g)) (h1 : gc < g) : Src w' gc n cap a zs :=
  ⟨h.len, h.small, h.cur.kept hg (Nat.ne_of_lt h1), h.rd.kept hg (fun hz b off e => Nat.ne_of_lt (Nat.lt_trans (h.ne hz b off e) h1)), h.byt, h.ne⟩
theorem Src.drew {w : World} {gc n cap : Nat} {a : Option Addr} {zs : List Int} (h : Src w gc n cap a zs) : Src w.drew gc n cap a zs := h.keep (Below.refl _ _).drew
theorem Rd.at {w : World} {a : Option Addr} {zs : List Int} (h : Rd w a zs) : zs ≠ [] → ∀ b off, a = some ⟨b, off, none⟩ → b < w.heap.size := by
  intro hz b off e
  obtain ⟨b', off', e', hlt, _⟩ := h.lt hz
  rw [e] at e'
  simp at e'
  omega
end

section
open Go.RowKit
theorem Src.own {w w' : World} {gc n cap : Nat} {a : Option Addr} {zs : List Int} {r : Option Nat} (h : Src w gc n cap a zs) (hg : w.grownBy w' r) (hr : ∀ g, r = some g → gc < g) : Src w' gc n cap a zs := by
  cases r with
  | none => exact h.keep ⟨hg.os, hg.tape, hg.output, hg.size, fun k hk => hg.block k hk (by simp)⟩
  | some g => exact h.other hg (hr g rfl)
section
variable {w W W' : World} {gc sn scap : Nat} {sa : Option Addr} {zs : List Int} {X N : Nat} {nm xs : Array Value} {v1 : Value} {dz : List Int} {v2 : Value} {es : List (ByteArray × Int)} {v3 : Value} {ats : List (ByteArray × ByteArray)}
end
/-! ### when what was drawn is right -/
end
end Go.Proofs.YtnhbhpbmnlojlaaGreatDoor
