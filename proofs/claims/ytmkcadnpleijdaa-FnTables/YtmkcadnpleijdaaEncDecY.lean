/-
  An inode's bytes, read: what was put is got; what is got has these bytes.
-/
import Derived.Test.YtmkcadnpleijdaaTbAV
import Derived.Test.YtmkcadnpleijdaaNumsBY
import Derived.WalkKit
import Derived.WalkSpells
import Derived.WalkLawsBesides
import Derived.Deep.QuietTactic
import Derived.BigQuiet
import Derived.OpenShut
import Derived.Laws.BitsAllLaws
import Derived.Maps.AppendAt
import Derived.Lib.SliceRun
import Derived.Lib.Strings
import Derived.Deep.RegionWith
import Derived.Laws.IdiomStrings
import Derived.Deep.Slices
import Derived.ProofKit
import Derived.ChangeOld
import Derived.Below
import Derived.Deep.DeepCutAuto
import Derived.Lib.AppendStr
import Derived.Lib.ConvBytes
import Derived.Deep.RegionHeld3
import Derived.Deep.AppendLies
import Derived.Laws.StructEq
import Derived.Laws.BytesString
namespace Go.Proofs.Ytmkcadnpleijdaa
open Go.RowKit
theorem str_strZ (s : ByteArray) : str (strZ s) = s := by
  rw [str_is]
  unfold strZ
  simp only [List.map_map]
  have e : s.data.toList.map ((fun n : Int => UInt8.ofNat n.toNat) ∘ fun b : UInt8 => (b.toNat : Int)) = s.data.toList := by
    conv => rhs; rw [← List.map_id s.data.toList]
    refine List.map_congr_left fun b _ => ?_
    simp
  rw [e]
theorem clamp_self {x : Int} (h0 : 0 ≤ x) (h1 : x ≤ 1000000) : ((clamp x : Nat) : Int) = x := by unfold clamp; omega
theorem clamp_nat {x : Nat} (h1 : x ≤ 1000000) : clamp (x : Int) = x := by unfold clamp; omega
theorem rdN_enc (ys rest : List Int) (x : Int) : rdN (ys ++ enc x ++ rest) (some ys.length) = (clamp x, some (ys ++ enc x).length) := by
  rw [rdN_some (gn_enc ys rest x), List.length_append]
theorem rdT_enc (ys rest : List Int) (s : ByteArray) (h : s.size ≤ 1000000) : rdT (ys ++ encT s ++ rest) (some ys.length) = (s, some (ys ++ encT s).length) := by
  have e : ys ++ encT s ++ rest = ys ++ enc (s.size : Int) ++ (strZ s ++ rest) := by unfold encT; simp
  have hl := strZ_len s
  refine rdT_some ?_
  rw [e, gn_enc, clamp_nat h]
  unfold gtOf
  rw [if_neg (by simp; omega)]
  have hd : (ys ++ enc (s.size : Int) ++ (strZ s ++ rest)).drop (ys.length + (enc (s.size : Int)).length) = strZ s ++ rest := by
    rw [show ys.length + (enc (s.size : Int)).length = (ys ++ enc (s.size : Int)).length by simp, List.drop_left]
  dsimp only
  have ht : (strZ s ++ rest).take s.size = strZ s := by rw [← hl, List.take_left]
  rw [hd, ht, str_strZ]
  unfold encT
  simp only [List.length_append, Nat.add_assoc, hl]
/-- Each number has one form. -/
theorem gn_form {zs : List Int} (hb : Byt zs) {p x nx : Nat} (h : gn zs (p : Int) = (x, nx, true)) : zs.drop p = enc (x : Int) ++ zs.drop nx ∧ nx ≤ zs.length ∧ x ≤ 1000000 := by
  have hp : p < zs.length := by
    unfold gn at h
    split at h
    · simp at h
    · omega
  rw [gn_at zs p hp] at h
  have hcell : ∀ k, p + k < zs.length → ∃ Z : Nat, zs.getD (p + k) 0 = (Z : Int) ∧ Z ≤ 255 := fun k hk => by
    obtain ⟨Z, h1, h2⟩ := byt_at hb (p + k)
    exact ⟨Z, h1, h2⟩
  have hdrop : ∀ k (hk : p + k < zs.length) (Z : Nat), zs.getD (p + k) 0 = (Z : Int) → zs.drop (p + k) = (Z : Int) :: zs.drop (p + k + 1) := fun k hk Z hZ => by
    rw [List.drop_eq_getElem_cons hk]
    congr 1
    rw [← hZ]
    simp [hk]
  obtain ⟨Z0, e0, l0⟩ := hcell 0 hp
  have d0 := hdrop 0 hp Z0 e0
  by_cases c0 : 128 ≤ Z0
  · rw [gnGo_more (by omega) e0 c0] at h
    by_cases h1 : p + 1 < zs.length
    · obtain ⟨Z1, e1, l1⟩ := hcell 1 h1
      have d1 := hdrop 1 h1 Z1 e1
      by_cases c1 : 128 ≤ Z1
      · rw [gnGo_more (by omega) e1 c1] at h
        by_cases h2 : p + 2 < zs.length
        · obtain ⟨Z2, e2, l2⟩ := hcell 2 h2
          have d2 := hdrop 2 h2 Z2 e2
          by_cases c2 : 128 ≤ Z2
          · rw [gnGo_more (by omega) e2 c2] at h
            simp [gnGo] at h
          · by_cases b2 : (0 < 2 ∧ Z2 = 0) ∨ 1000000 < 0 + Z0 % 128 * 128 ^ 0 + Z1 % 128 * 128 ^ 1 + Z2 % 128 * 128 ^ 2
            · rw [gnGo_bad (by omega) e2 c2 b2] at h
              simp at h
            · rw [gnGo_good (by omega) e2 c2 b2] at h
              simp only [Prod.mk.injEq, and_true] at h
              obtain ⟨hx, hn⟩ := h
              have hx' : x = Z0 % 128 + Z1 % 128 * 128 + Z2 % 128 * 16384 := by omega
              refine ⟨?_, by omega, by omega⟩
              rw [← hn, show zs.drop p = zs.drop (p + 0) from rfl, d0, show p + 0 + 1 = p + 1 from rfl, d1, show p + 1 + 1 = p + 2 from rfl, d2]
              unfold enc
              rw [clamp_nat (by omega), enc3 (by omega) (by omega)]
              simp only [List.cons_append, List.nil_append, List.cons.injEq, and_true]
              refine ⟨by congr 1; omega, by congr 1; omega, by congr 1; omega⟩
        · rw [gnGo_end (by omega)] at h
          simp at h
      · by_cases b1 : (0 < 1 ∧ Z1 = 0) ∨ 1000000 < 0 + Z0 % 128 * 128 ^ 0 + Z1 % 128 * 128 ^ 1
        · rw [gnGo_bad (by omega) e1 c1 b1] at h
          simp at h
        · rw [gnGo_good (by omega) e1 c1 b1] at h
          simp only [Prod.mk.injEq, and_true] at h
          obtain ⟨hx, hn⟩ := h
          have hx' : x = Z0 % 128 + Z1 % 128 * 128 := by omega
          refine ⟨?_, by omega, by omega⟩
          rw [← hn, show zs.drop p = zs.drop (p + 0) from rfl, d0, show p + 0 + 1 = p + 1 from rfl, d1]
          unfold enc
          rw [clamp_nat (by omega), enc2 (by omega) (by omega)]
          simp only [List.cons_append, List.nil_append, List.cons.injEq, and_true]
          refine ⟨by congr 1; omega, by congr 1; omega⟩
    · rw [gnGo_end (by omega)] at h
      simp at h
  · by_cases b0 : (0 < 0 ∧ Z0 = 0) ∨ 1000000 < 0 + Z0 % 128 * 128 ^ 0
    · rw [gnGo_bad (by omega) e0 c0 b0] at h
      simp at h
    · rw [gnGo_good (by omega) e0 c0 b0] at h
      simp only [Prod.mk.injEq, and_true] at h
      obtain ⟨hx, hn⟩ := h
      have hx' : x = Z0 := by omega
      refine ⟨?_, by omega, by omega⟩
      rw [← hn, show zs.drop p = zs.drop (p + 0) from rfl, d0]
      unfold enc
      rw [clamp_nat (by omega), enc1 (by omega), hx']
      simp
theorem rdN_form {zs : List Int} (hb : Byt zs) {p q : Nat} (h : (rdN zs (some p)).2 = some q) : zs.drop p = enc ((rdN zs (some p)).1 : Int) ++ zs.drop q := by
  obtain ⟨⟨x, nx, b⟩, hg⟩ : ∃ r, gn zs (p : Int) = r := ⟨_, rfl⟩
  cases b with
  | false => rw [rdN_bad (by rw [hg])] at h; simp at h
  | true =>
    rw [rdN_some hg] at h ⊢
    simp at h
    subst h
    exact (gn_form hb hg).1
theorem rdT_form {zs : List Int} (hb : Byt zs) {p q : Nat} (h : (rdT zs (some p)).2 = some q) : zs.drop p = encT (rdT zs (some p)).1 ++ zs.drop q := by
  obtain ⟨⟨x, nx, b⟩, hg⟩ : ∃ r, gn zs (p : Int) = r := ⟨_, rfl⟩
  cases b with
  | false => rw [rdT_bad (by rw [hg]; simp [gtOf])] at h; simp at h
  | true =>
    obtain ⟨f1, f2, f3⟩ := gn_form hb hg
    by_cases hl : zs.length < nx + x
    · rw [rdT_bad (by rw [hg]; simp [gtOf, hl])] at h; simp at h
    · have e : gtOf zs (gn zs (p : Int)) = (str ((zs.drop nx).take x), nx + x, true) := by
        rw [hg]
        unfold gtOf
        rw [if_neg (by simp; omega)]
      rw [rdT_some e] at h ⊢
      simp at h
      subst h
      dsimp only
      have hby := (hb.drop nx).take x
      unfold encT
      rw [strZ_str _ hby, str_size, f1, List.length_take, List.length_drop, Nat.min_eq_left (by omega), List.append_assoc]
      congr 1
      rw [← List.drop_drop, List.take_append_drop]
end Go.Proofs.Ytmkcadnpleijdaa


