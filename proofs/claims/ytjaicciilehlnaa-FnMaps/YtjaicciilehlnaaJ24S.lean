/-
  Joined: DrawI, NumsB.
-/
import Derived.Test.YtjaicciilehlnaaJ05S
import Derived.Test.YtjaicciilehlnaaJ23S
import Derived.Lib.ConvBytes
import Derived.Deep.RegionHeld3
import Derived.Deep.AppendLies
import Derived.Laws.StructEq
import Derived.Laws.BytesString
namespace Go.Proofs.Ytjaicciilehlnaa
section
open Go.RowKit
theorem Src.own {w w' : World} {gc n cap : Nat} {a : Option Addr} {zs : List Int} {r : Option Nat} (h : Src w gc n cap a zs) (hg : w.grownBy w' r) (hr : ∀ g, r = some g → gc < g) : Src w' gc n cap a zs := by
  cases r with
  | none => exact h.keep ⟨hg.os, hg.tape, hg.output, hg.size, fun k hk => hg.block k hk (by simp)⟩
  | some g => exact h.other hg (hr g rfl)
section
variable {w W W' : World} {gc sn scap : Nat} {sa : Option Addr} {zs : List Int} {X N : Nat} {nm xs : Array Value} {v1 : Value} {dz : List Int} {v2 : Value} {es : List (ByteArray × Int)} {v3 : Value} {ats : List (ByteArray × ByteArray)}
end
/-! ### when what was drawn is right -/
end

section
open Go.RowKit
theorem getD_app (zs l : List Int) (k : Nat) : (zs ++ l).getD (zs.length + k) 0 = l.getD k 0 := by
  simp [List.getElem?_append_right]
theorem enc1 {m : Nat} (h : m < 128) : encGo 3 m = [(m : Int)] := encGo_last (by omega)
theorem enc2 {m : Nat} (h : 128 ≤ m) (h2 : m < 16384) : encGo 3 m = [((m % 128 + 128 : Nat) : Int), ((m / 128 : Nat) : Int)] := by
  rw [encGo_more h, encGo_last (by omega)]
theorem enc3 {m : Nat} (h : 16384 ≤ m) (h2 : m ≤ 1000000) : encGo 3 m = [((m % 128 + 128 : Nat) : Int), ((m / 128 % 128 + 128 : Nat) : Int), ((m / 128 / 128 : Nat) : Int)] := by
  rw [encGo_more (by omega), encGo_more (by omega), encGo_last (by omega)]
theorem gn_at (L : List Int) (p : Nat) (h : p < L.length) : gn L (p : Int) = gnGo L p 3 0 0 := by
  unfold gn; rw [if_neg (by omega)]; simp
/-- What was put is got. -/
theorem gn_enc (zs rest : List Int) (x : Int) : gn (zs ++ enc x ++ rest) (zs.length : Int) = (clamp x, zs.length + (enc x).length, true) := by
  have hm := clamp_le x
  unfold enc
  generalize clamp x = m at *
  rw [List.append_assoc]
  rcases (show m < 128 ∨ (128 ≤ m ∧ m < 16384) ∨ 16384 ≤ m by omega) with h | ⟨h, h2⟩ | h
  · rw [enc1 h, gn_at _ _ (by simp)]
    rw [gnGo_good (Z := m) (by simp) (by rw [getD_app]; rfl) (by omega) (by omega)]
    simp; omega
  · rw [enc2 h h2, gn_at _ _ (by simp)]
    rw [gnGo_more (Z := m % 128 + 128) (by simp) (by rw [getD_app]; rfl) (by omega)]
    rw [gnGo_good (Z := m / 128) (by simp) (by rw [getD_app]; rfl) (by omega) (by omega)]
    simp; omega
  · rw [enc3 h hm, gn_at _ _ (by simp)]
    rw [gnGo_more (Z := m % 128 + 128) (by simp) (by rw [getD_app]; rfl) (by omega)]
    rw [gnGo_more (Z := m / 128 % 128 + 128) (by simp) (by rw [getD_app]; rfl) (by omega)]
    rw [gnGo_good (Z := m / 128 / 128) (by simp) (by rw [getD_app]; rfl) (by omega) (by omega)]
    simp; omega
end
end Go.Proofs.Ytjaicciilehlnaa
