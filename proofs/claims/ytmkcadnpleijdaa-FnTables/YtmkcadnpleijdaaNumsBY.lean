/-
  Numbers and texts: what is put comes back (plain arithmetic).
-/
import Derived.Test.YtmkcadnpleijdaaTbAV
import Derived.WalkKit
import Derived.WalkSpells
import Derived.WalkLawsBesides
import Derived.Deep.QuietTactic
import Derived.BigQuiet
import Derived.OpenShut
import Derived.Laws.BitsAllLaws
import Derived.Maps.AppendAt
import Derived.Lib.SliceRun
import Derived.Lib.Strings
import Derived.Deep.RegionWith
import Derived.Laws.IdiomStrings
import Derived.Deep.Slices
import Derived.ProofKit
import Derived.ChangeOld
import Derived.Below
import Derived.Deep.DeepCutAuto
import Derived.Lib.AppendStr
import Derived.Lib.ConvBytes
import Derived.Deep.RegionHeld3
import Derived.Deep.AppendLies
import Derived.Laws.StructEq
import Derived.Laws.BytesString
namespace Go.Proofs.Ytmkcadnpleijdaa
open Go.RowKit
theorem getD_app (zs l : List Int) (k : Nat) : (zs ++ l).getD (zs.length + k) 0 = l.getD k 0 := by
  simp [List.getElem?_append_right]
theorem enc1 {m : Nat} (h : m < 128) : encGo 3 m = [(m : Int)] := encGo_last (by omega)
theorem enc2 {m : Nat} (h : 128 ≤ m) (h2 : m < 16384) : encGo 3 m = [((m % 128 + 128 : Nat) : Int), ((m / 128 : Nat) : Int)] := by
  rw [encGo_more h, encGo_last (by omega)]
theorem enc3 {m : Nat} (h : 16384 ≤ m) (h2 : m ≤ 1000000) : encGo 3 m = [((m % 128 + 128 : Nat) : Int), ((m / 128 % 128 + 128 : Nat) : Int), ((m / 128 / 128 : Nat) : Int)] := by
  rw [encGo_more (by omega), encGo_more (by omega), encGo_last (by omega)]
theorem gn_at (L : List Int) (p : Nat) (h : p < L.length) : gn L (p : Int) = gnGo L p 3 0 0 := by
  unfold gn; rw [if_neg (by omega)]; simp
/-- What was put is got. -/
theorem gn_enc (zs rest : List Int) (x : Int) : gn (zs ++ enc x ++ rest) (zs.length : Int) = (clamp x, zs.length + (enc x).length, true) := by
  have hm := clamp_le x
  unfold enc
  generalize clamp x = m at *
  rw [List.append_assoc]
  rcases (show m < 128 ∨ (128 ≤ m ∧ m < 16384) ∨ 16384 ≤ m by omega) with h | ⟨h, h2⟩ | h
  · rw [enc1 h, gn_at _ _ (by simp)]
    rw [gnGo_good (Z := m) (by simp) (by rw [getD_app]; rfl) (by omega) (by omega)]
    simp; omega
  · rw [enc2 h h2, gn_at _ _ (by simp)]
    rw [gnGo_more (Z := m % 128 + 128) (by simp) (by rw [getD_app]; rfl) (by omega)]
    rw [gnGo_good (Z := m / 128) (by simp) (by rw [getD_app]; rfl) (by omega) (by omega)]
    simp; omega
  · rw [enc3 h hm, gn_at _ _ (by simp)]
    rw [gnGo_more (Z := m % 128 + 128) (by simp) (by rw [getD_app]; rfl) (by omega)]
    rw [gnGo_more (Z := m / 128 % 128 + 128) (by simp) (by rw [getD_app]; rfl) (by omega)]
    rw [gnGo_good (Z := m / 128 / 128) (by simp) (by rw [getD_app]; rfl) (by omega) (by omega)]
    simp; omega
/-- Cut by its last byte it is not. -/
theorem str_is (l : List Int) : str l = ⟨(l.map fun n => UInt8.ofNat n.toNat).toArray⟩ := by
  have h := str_data l
  rw [← Lib.mk_data (str l), h]
theorem strZ_str (l : List Int) (h : Byt l) : strZ (str l) = l := by
  rw [str_is]
  unfold strZ
  simp only [List.map_map]
  apply List.ext_getElem
  · simp
  · intro i h1 h2
    have hb := h (l[i]) (List.getElem_mem h2)
    simp only [List.getElem_map, Function.comp]
    have : (UInt8.ofNat l[i].toNat).toNat = l[i].toNat := by
      rw [UInt8.toNat_ofNat']; omega
    rw [this]; omega
end Go.Proofs.Ytmkcadnpleijdaa


