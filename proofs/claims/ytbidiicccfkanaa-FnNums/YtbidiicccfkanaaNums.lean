/-
  The draws of numbers and texts, and the plain arithmetic behind the law FnNums: what is put comes back.
-/
import Derived.Test.YtbidiicccfkanaaDraw
import Derived.Test.YtbidiicccfkanaaText
import Derived.Test.YtbidiicccfkanaaPutText
namespace Go.Proofs.Ytbidiicccfkanaa
open Go.RowKit

theorem getD_app (zs l : List Int) (k : Nat) : (zs ++ l).getD (zs.length + k) 0 = l.getD k 0 := by
  simp [List.getElem?_append_right]

theorem enc1 {m : Nat} (h : m < 128) : encGo 3 m = [(m : Int)] := encGo_last (by omega)
theorem enc2 {m : Nat} (h : 128 ≤ m) (h2 : m < 16384) : encGo 3 m = [((m % 128 + 128 : Nat) : Int), ((m / 128 : Nat) : Int)] := by
  rw [encGo_more h, encGo_last (by omega)]
theorem enc3 {m : Nat} (h : 16384 ≤ m) (h2 : m ≤ 1000000) : encGo 3 m = [((m % 128 + 128 : Nat) : Int), ((m / 128 % 128 + 128 : Nat) : Int), ((m / 128 / 128 : Nat) : Int)] := by
  rw [encGo_more (by omega), encGo_more (by omega), encGo_last (by omega)]

theorem gn_at (L : List Int) (p : Nat) (h : p < L.length) : gn L (p : Int) = gnGo L p 3 0 0 := by
  unfold gn; rw [if_neg (by omega)]; simp

/-- What was put is got. -/
theorem gn_enc (zs rest : List Int) (x : Int) : gn (zs ++ enc x ++ rest) (zs.length : Int) = (clamp x, zs.length + (enc x).length, true) := by
  have hm := clamp_le x
  unfold enc
  generalize clamp x = m at *
  rw [List.append_assoc]
  rcases (show m < 128 ∨ (128 ≤ m ∧ m < 16384) ∨ 16384 ≤ m by omega) with h | ⟨h, h2⟩ | h
  · rw [enc1 h, gn_at _ _ (by simp)]
    rw [gnGo_good (Z := m) (by simp) (by rw [getD_app]; rfl) (by omega) (by omega)]
    simp; omega
  · rw [enc2 h h2, gn_at _ _ (by simp)]
    rw [gnGo_more (Z := m % 128 + 128) (by simp) (by rw [getD_app]; rfl) (by omega)]
    rw [gnGo_good (Z := m / 128) (by simp) (by rw [getD_app]; rfl) (by omega) (by omega)]
    simp; omega
  · rw [enc3 h hm, gn_at _ _ (by simp)]
    rw [gnGo_more (Z := m % 128 + 128) (by simp) (by rw [getD_app]; rfl) (by omega)]
    rw [gnGo_more (Z := m / 128 % 128 + 128) (by simp) (by rw [getD_app]; rfl) (by omega)]
    rw [gnGo_good (Z := m / 128 / 128) (by simp) (by rw [getD_app]; rfl) (by omega) (by omega)]
    simp; omega

/-- Cut by its last byte it is not. -/
theorem gn_cut (zs : List Int) (x : Int) : gn ((zs ++ enc x).take (zs.length + (enc x).length - 1)) (zs.length : Int) = (0, 0, false) := by
  have hm := clamp_le x
  unfold enc
  generalize clamp x = m at *
  rcases (show m < 128 ∨ (128 ≤ m ∧ m < 16384) ∨ 16384 ≤ m by omega) with h | ⟨h, h2⟩ | h
  · rw [enc1 h]
    have e : (zs ++ [(m : Int)]).take (zs.length + [(m : Int)].length - 1) = zs := by simp
    rw [e]; unfold gn; rw [if_pos (by omega)]
  · rw [enc2 h h2]
    generalize ha : ((m % 128 + 128 : Nat) : Int) = u
    have e : (zs ++ [u, ((m / 128 : Nat) : Int)]).take (zs.length + [u, ((m / 128 : Nat) : Int)].length - 1) = zs ++ [u] := by
      simp [List.take_append, List.take_of_length_le]
    rw [e, gn_at _ _ (by simp)]
    rw [gnGo_more (Z := m % 128 + 128) (by simp) (by rw [getD_app]; exact ha.symm) (by omega), gnGo_end (by simp)]
  · rw [enc3 h hm]
    generalize ha : ((m % 128 + 128 : Nat) : Int) = u
    generalize hb : ((m / 128 % 128 + 128 : Nat) : Int) = v
    have e : (zs ++ [u, v, ((m / 128 / 128 : Nat) : Int)]).take (zs.length + [u, v, ((m / 128 / 128 : Nat) : Int)].length - 1) = zs ++ [u, v] := by
      simp [List.take_append, List.take_of_length_le]
    rw [e, gn_at _ _ (by simp)]
    rw [gnGo_more (Z := m % 128 + 128) (by simp) (by rw [getD_app]; exact ha.symm) (by omega)]
    rw [gnGo_more (Z := m / 128 % 128 + 128) (by simp) (by rw [getD_app]; exact hb.symm) (by omega), gnGo_end (by simp)]

theorem str_eq (l : List Int) : str l = ⟨(l.map fun n => UInt8.ofNat n.toNat).toArray⟩ := by
  unfold str
  suffices H : ∀ (l : List Int) (b : ByteArray), l.foldl (fun r n => r.push (UInt8.ofNat n.toNat)) b = ⟨b.data ++ (l.map fun n => UInt8.ofNat n.toNat).toArray⟩ by
    rw [H]; simp
  intro l
  induction l with
  | nil => intro b; simp
  | cons c l ih =>
    intro b
    rw [List.foldl_cons, ih]
    congr 1
    apply Array.ext'
    simp [ByteArray.push]
theorem str_size (l : List Int) : (str l).size = l.length := by
  rw [str_eq]; simp [ByteArray.size]
theorem strZ_str (l : List Int) (h : Byt l) : strZ (str l) = l := by
  rw [str_eq]
  unfold strZ
  simp only [List.map_map]
  apply List.ext_getElem
  · simp
  · intro i h1 h2
    have hb := h (l[i]) (List.getElem_mem h2)
    simp only [List.getElem_map, Function.comp]
    have : (UInt8.ofNat l[i].toNat).toNat = l[i].toNat := by
      rw [UInt8.toNat_ofNat']; omega
    rw [this]; omega

/-- A text that was put is got. -/
theorem gt_put (ys l : List Int) (hl : Byt l) (h9 : l.length ≤ 9) : gtOf (ys ++ enc ((str l).size : Int) ++ strZ (str l)) (gn (ys ++ enc ((str l).size : Int) ++ strZ (str l)) (ys.length : Int)) =
    (str l, ys.length + (enc ((str l).size : Int)).length + (str l).size, true) := by
  rw [gn_enc]
  have hc : clamp ((str l).size : Int) = l.length := by rw [str_size]; unfold clamp; omega
  rw [hc, strZ_str l hl, str_size]
  unfold gtOf
  rw [if_neg (by simp; omega)]
  simp only [Prod.mk.injEq, and_true]
  congr 1
  rw [show ys.length + (enc (l.length : Int)).length = (ys ++ enc (l.length : Int)).length by simp, List.drop_left]
  simp
end Go.Proofs.Ytbidiicccfkanaa
