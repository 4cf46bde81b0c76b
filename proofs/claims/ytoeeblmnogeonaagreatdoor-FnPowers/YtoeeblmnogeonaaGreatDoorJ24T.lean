/-
  Joined: Reader, GetM, NumsB, EncDec.
-/
import Derived.Test.YtoeeblmnogeonaaGreatDoorJ21T
namespace Go.Proofs.YtoeeblmnogeonaaGreatDoor
section
open Go.RowKit
/-- A number read on; the place is none once something was not there whole. -/
def rdN (zs : List Int) : Option Nat → Nat × Option Nat
  | none => (0, none)
  | some p => if (gn zs (p : Int)).2.2 = true then ((gn zs (p : Int)).1, some (gn zs (p : Int)).2.1) else (0, none)
/-- A text read on. -/
def rdT (zs : List Int) : Option Nat → ByteArray × Option Nat
  | none => (ByteArray.empty, none)
  | some p => if (gtOf zs (gn zs (p : Int))).2.2 = true then ((gtOf zs (gn zs (p : Int))).1, some (gtOf zs (gn zs (p : Int))).2.1) else (ByteArray.empty, none)
theorem rdN_some {zs : List Int} {p x nx : Nat} (h : gn zs (p : Int) = (x, nx, true)) : rdN zs (some p) = (x, some nx) := by simp [rdN, h]
theorem rdN_bad {zs : List Int} {p : Nat} (h : (gn zs (p : Int)).2.2 = false) : rdN zs (some p) = (0, none) := by simp [rdN, h]
theorem rdT_some {zs : List Int} {p nx : Nat} {s : ByteArray} (h : gtOf zs (gn zs (p : Int)) = (s, nx, true)) : rdT zs (some p) = (s, some nx) := by simp [rdT, h]
theorem rdT_bad {zs : List Int} {p : Nat} (h : (gtOf zs (gn zs (p : Int))).2.2 = false) : rdT zs (some p) = (ByteArray.empty, none) := by simp [rdT, h]
end

section
open Go.RowKit
/-- k entries read on. -/
def rdE (zs : List Int) (st : Option Nat) : Nat → List (ByteArray × Int) × Option Nat
  | 0 => ([], st)
  | k + 1 => ((rdE zs st k).1 ++ [((rdT zs (rdE zs st k).2).1, ((rdN zs (rdT zs (rdE zs st k).2).2).1 : Int))], (rdN zs (rdT zs (rdE zs st k).2).2).2)
/-- k attributes read on. -/
def rdA (zs : List Int) (st : Option Nat) : Nat → List (ByteArray × ByteArray) × Option Nat
  | 0 => ([], st)
  | k + 1 => ((rdA zs st k).1 ++ [((rdT zs (rdA zs st k).2).1, (rdT zs (rdT zs (rdA zs st k).2).2).1)], (rdT zs (rdT zs (rdA zs st k).2).2).2)
def g1 (zs : List Int) := rdN zs (some 0)
def g2 (zs : List Int) := rdN zs (g1 zs).2
def g3 (zs : List Int) := rdN zs (g2 zs).2
def g4 (zs : List Int) := rdT zs (g3 zs).2
def g5 (zs : List Int) := rdN zs (g4 zs).2
def gE (zs : List Int) := rdE zs (g5 zs).2 (min (g5 zs).1 11)
def g6 (zs : List Int) := rdN zs (gE zs).2
def gA (zs : List Int) := rdA zs (g6 zs).2 (min (g6 zs).1 5)
theorem rdT_size (zs : List Int) (st : Option Nat) : (rdT zs st).1.size ≤ zs.length := by
  cases st with
  | none => simp [rdT]
  | some p =>
    unfold rdT
    simp only
    split
    · unfold gtOf
      split
      · simp
      · rw [show (str ((zs.drop (gn zs (p : Int)).2.1).take (gn zs (p : Int)).1), (gn zs (p : Int)).2.1 + (gn zs (p : Int)).1, true).1 = str ((zs.drop (gn zs (p : Int)).2.1).take (gn zs (p : Int)).1) from rfl, str_size]
        simp
        omega
    · simp
end

section
open Go.RowKit
theorem getD_app (zs l : List Int) (k : Nat) : (zs ++ l).getD (zs.length + k) 0 = l.getD k 0 := by
  simp [List.getElem?_append_right]
theorem enc1 {m : Nat} (h : m < 128) : encGo 3 m = [(m : Int)] := encGo_last (by omega)
theorem enc2 {m : Nat} (h : 128 ≤ m) (h2 : m < 16384) : encGo 3 m = [((m % 128 + 128 : Nat) : Int), ((m / 128 : Nat) : Int)] := by
  rw [encGo_more h, encGo_last (by omega)]
theorem enc3 {m : Nat} (h : 16384 ≤ m) (h2 : m ≤ 1000000) : encGo 3 m = [((m % 128 + 128 : Nat) : Int), ((m / 128 % 128 + 128 : Nat) : Int), ((m / 128 / 128 : Nat) : Int)] := by
  rw [encGo_more (by omega), encGo_more (by omega), encGo_last (by omega)]
theorem gn_at (L : List Int) (p : Nat) (h : p < L.length) : gn L (p : Int) = gnGo L p 3 0 0 := by
  unfold gn; rw [if_neg (by omega)]; simp
/-- What was put is got. -/
theorem gn_enc (zs rest : List Int) (x : Int) : gn (zs ++ enc x ++ rest) (zs.length : Int) = (clamp x, zs.length + (enc x).length, true) := by
  have hm := clamp_le x
  unfold enc
  generalize clamp x = m at *
  rw [List.append_assoc]
  rcases (show m < 128 ∨ (128 ≤ m ∧ m < 16384) ∨ 16384 ≤ m by omega) with h | ⟨h, h2⟩ | h
  · rw [enc1 h, gn_at _ _ (by simp)]
    rw [gnGo_good (Z := m) (by simp) (by rw [getD_app]; rfl) (by omega) (by omega)]
    simp; omega
  · rw [enc2 h h2, gn_at _ _ (by simp)]
    rw [gnGo_more (Z := m % 128 + 128) (by simp) (by rw [getD_app]; rfl) (by omega)]
    rw [gnGo_good (Z := m / 128) (by simp) (by rw [getD_app]; rfl) (by omega) (by omega)]
    simp; omega
  · rw [enc3 h hm, gn_at _ _ (by simp)]
    rw [gnGo_more (Z := m % 128 + 128) (by simp) (by rw [getD_app]; rfl) (by omega)]
    rw [gnGo_more (Z := m / 128 % 128 + 128) (by simp) (by rw [getD_app]; rfl) (by omega)]
    rw [gnGo_good (Z := m / 128 / 128) (by simp) (by rw [getD_app]; rfl) (by omega) (by omega)]
    simp; omega
/-- Cut by its last byte it is not. -/
theorem str_is (l : List Int) : str l = ⟨(l.map fun n => UInt8.ofNat n.toNat).toArray⟩ := by
  have h := str_data l
  rw [← Lib.mk_data (str l), h]
theorem strZ_str (l : List Int) (h : Byt l) : strZ (str l) = l := by
  rw [str_is]
  unfold strZ
  simp only [List.map_map]
  apply List.ext_getElem
  · simp
  · intro i h1 h2
    have hb := h (l[i]) (List.getElem_mem h2)
    simp only [List.getElem_map, Function.comp]
    have : (UInt8.ofNat l[i].toNat).toNat = l[i].toNat := by
      rw [UInt8.toNat_ofNat']; omega
    rw [this]; omega
end

section
open Go.RowKit
theorem str_strZ (s : ByteArray) : str (strZ s) = s := by
  rw [str_is]
  unfold strZ
  simp only [List.map_map]
  have e : s.data.toList.map ((fun n : Int => UInt8.ofNat n.toNat) ∘ fun b : UInt8 => (b.toNat : Int)) = s.data.toList := by
    conv => rhs; rw [← List.map_id s.data.toList]
    refine List.map_congr_left fun b _ => ?_
    simp
  rw [e]
theorem clamp_self {x : Int} (h0 : 0 ≤ x) (h1 : x ≤ 1000000) : ((clamp x : Nat) : Int) = x := by unfold clamp; omega
theorem clamp_nat {x : Nat} (h1 : x ≤ 1000000) : clamp (x : Int) = x := by unfold clamp; omega
theorem rdN_enc (ys rest : List Int) (x : Int) : rdN (ys ++ enc x ++ rest) (some ys.length) = (clamp x, some (ys ++ enc x).length) := by
  rw [rdN_some (gn_enc ys rest x), List.length_append]
theorem rdT_enc (ys rest : List Int) (s : ByteArray) (h : s.size ≤ 1000000) : rdT (ys ++ encT s ++ rest) (some ys.length) = (s, some (ys ++ encT s).length) := by
  have e : ys ++ encT s ++ rest = ys ++ enc (s.size : Int) ++ (strZ s ++ rest) := by unfold encT; simp
  have hl := strZ_len s
  refine rdT_some ?_
  rw [e, gn_enc, clamp_nat h]
  unfold gtOf
  rw [if_neg (by simp; omega)]
  have hd : (ys ++ enc (s.size : Int) ++ (strZ s ++ rest)).drop (ys.length + (enc (s.size : Int)).length) = strZ s ++ rest := by
    rw [show ys.length + (enc (s.size : Int)).length = (ys ++ enc (s.size : Int)).length by simp, List.drop_left]
  dsimp only
  have ht : (strZ s ++ rest).take s.size = strZ s := by rw [← hl, List.take_left]
  rw [hd, ht, str_strZ]
  unfold encT
  simp only [List.length_append, Nat.add_assoc, hl]
/-- Each number has one form. -/
theorem gn_form {zs : List Int} (hb : Byt zs) {p x nx : Nat} (h : gn zs (p : Int) = (x, nx, true)) : zs.drop p = enc (x : Int) ++ zs.drop nx ∧ nx ≤ zs.length ∧ x ≤ 1000000 := by
  have hp : p < zs.length := by
    unfold gn at h
    split at h
    · simp at h
    · omega
  rw [gn_at zs p hp] at h
  have hcell : ∀ k, p + k < zs.length → ∃ Z : Nat, zs.getD (p + k) 0 = (Z : Int) ∧ Z ≤ 255 := fun k hk => by
    obtain ⟨Z, h1, h2⟩ := byt_at hb (p + k)
    exact ⟨Z, h1, h2⟩
  have hdrop : ∀ k (hk : p + k < zs.length) (Z : Nat), zs.getD (p + k) 0 = (Z : Int) → zs.drop (p + k) = (Z : Int) :: zs.drop (p + k + 1) := fun k hk Z hZ => by
    rw [List.drop_eq_getElem_cons hk]
    congr 1
    rw [← hZ]
    simp [hk]
  obtain ⟨Z0, e0, l0⟩ := hcell 0 hp
  have d0 := hdrop 0 hp Z0 e0
  by_cases c0 : 128 ≤ Z0
  · rw [gnGo_more (by omega) e0 c0] at h
    by_cases h1 : p + 1 < zs.length
    · obtain ⟨Z1, e1, l1⟩ := hcell 1 h1
      have d1 := hdrop 1 h1 Z1 e1
      by_cases c1 : 128 ≤ Z1
      · rw [gnGo_more (by omega) e1 c1] at h
        by_cases h2 : p + 2 < zs.length
        · obtain ⟨Z2, e2, l2⟩ := hcell 2 h2
          have d2 := hdrop 2 h2 Z2 e2
          by_cases c2 : 128 ≤ Z2
          · rw [gnGo_more (by omega) e2 c2] at h
            simp [gnGo] at h
          · by_cases b2 : (0 < 2 ∧ Z2 = 0) ∨ 1000000 < 0 + Z0 % 128 * 128 ^ 0 + Z1 % 128 * 128 ^ 1 + Z2 % 128 * 128 ^ 2
            · rw [gnGo_bad (by omega) e2 c2 b2] at h
              simp at h
            · rw [gnGo_good (by omega) e2 c2 b2] at h
              simp only [Prod.mk.injEq, and_true] at h
              obtain ⟨hx, hn⟩ := h
              have hx' : x = Z0 % 128 + Z1 % 128 * 128 + Z2 % 128 * 16384 := by omega
              refine ⟨?_, by omega, by omega⟩
              rw [← hn, show zs.drop p = zs.drop (p + 0) from rfl, d0, show p + 0 + 1 = p + 1 from rfl, d1, show p + 1 + 1 = p + 2 from rfl, d2]
              unfold enc
              rw [clamp_nat (by omega), enc3 (by omega) (by omega)]
              simp only [List.cons_append, List.nil_append, List.cons.injEq, and_true]
              refine ⟨by congr 1; omega, by congr 1; omega, by congr 1; omega⟩
        · rw [gnGo_end (by omega)] at h
          simp at h
      · by_cases b1 : (0 < 1 ∧ Z1 = 0) ∨ 1000000 < 0 + Z0 % 128 * 128 ^ 0 + Z1 % 128 * 128 ^ 1
        · rw [gnGo_bad (by omega) e1 c1 b1] at h
          simp at h
        · rw [gnGo_good (by omega) e1 c1 b1] at h
          simp only [Prod.mk.injEq, and_true] at h
          obtain ⟨hx, hn⟩ := h
          have hx' : x = Z0 % 128 + Z1 % 128 * 128 := by omega
          refine ⟨?_, by omega, by omega⟩
          rw [← hn, show zs.drop p = zs.drop (p + 0) from rfl, d0, show p + 0 + 1 = p + 1 from rfl, d1]
          unfold enc
          rw [clamp_nat (by omega), enc2 (by omega) (by omega)]
          simp only [List.cons_append, List.nil_append, List.cons.injEq, and_true]
          refine ⟨by congr 1; omega, by congr 1; omega⟩
    · rw [gnGo_end (by omega)] at h
      simp at h
  · by_cases b0 : (0 < 0 ∧ Z0 = 0) ∨ 1000000 < 0 + Z0 % 128 * 128 ^ 0
    · rw [gnGo_bad (by omega) e0 c0 b0] at h
      simp at h
    · rw [gnGo_good (by omega) e0 c0 b0] at h
      simp only [Prod.mk.injEq, and_true] at h
      obtain ⟨hx, hn⟩ := h
      have hx' : x = Z0 := by omega
      refine ⟨?_, by omega, by omega⟩
      rw [← hn, show zs.drop p = zs.drop (p + 0) from rfl, d0]
      unfold enc
      rw [clamp_nat (by omega), enc1 (by omega), hx']
      simp
theorem rdN_form {zs : List Int} (hb : Byt zs) {p q : Nat} (h : (rdN zs (some p)).2 = some q) : zs.drop p = enc ((rdN zs (some p)).1 : Int) ++ zs.drop q := by
  obtain ⟨⟨x, nx, b⟩, hg⟩ : ∃ r, gn zs (p : Int) = r := ⟨_, rfl⟩
  cases b with
  | false => rw [rdN_bad (by rw [hg])] at h; simp at h
  | true =>
    rw [rdN_some hg] at h ⊢
    simp at h
    subst h
    exact (gn_form hb hg).1
theorem Byt.drop {zs : List Int} (h : Byt zs) (k : Nat) : Byt (zs.drop k) := fun z hz => h z (List.mem_of_mem_drop hz)
theorem rdT_form {zs : List Int} (hb : Byt zs) {p q : Nat} (h : (rdT zs (some p)).2 = some q) : zs.drop p = encT (rdT zs (some p)).1 ++ zs.drop q := by
  obtain ⟨⟨x, nx, b⟩, hg⟩ : ∃ r, gn zs (p : Int) = r := ⟨_, rfl⟩
  cases b with
  | false => rw [rdT_bad (by rw [hg]; simp [gtOf])] at h; simp at h
  | true =>
    obtain ⟨f1, f2, f3⟩ := gn_form hb hg
    by_cases hl : zs.length < nx + x
    · rw [rdT_bad (by rw [hg]; simp [gtOf, hl])] at h; simp at h
    · have e : gtOf zs (gn zs (p : Int)) = (str ((zs.drop nx).take x), nx + x, true) := by
        rw [hg]
        unfold gtOf
        rw [if_neg (by simp; omega)]
      rw [rdT_some e] at h ⊢
      simp at h
      subst h
      dsimp only
      have hby := (hb.drop nx).take x
      unfold encT
      rw [strZ_str _ hby, str_size, f1, List.length_take, List.length_drop, Nat.min_eq_left (by omega), List.append_assoc]
      congr 1
      rw [← List.drop_drop, List.take_append_drop]
end
end Go.Proofs.YtoeeblmnogeonaaGreatDoor
