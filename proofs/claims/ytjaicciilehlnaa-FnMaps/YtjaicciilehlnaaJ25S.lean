/-
  Joined: EncDec, FnI.
-/
import Derived.Test.YtjaicciilehlnaaJ19S
import Derived.Test.YtjaicciilehlnaaJ24S
import Derived.Test.YtjaicciilehlnaaJ06S
import Derived.Deep.CutBlock
import Derived.Deep.RegionLaw
import Derived.Deep.OwnRows
namespace Go.Proofs.Ytjaicciilehlnaa
section
open Go.RowKit
theorem clamp_self {x : Int} (h0 : 0 ≤ x) (h1 : x ≤ 1000000) : ((clamp x : Nat) : Int) = x := by unfold clamp; omega
theorem clamp_nat {x : Nat} (h1 : x ≤ 1000000) : clamp (x : Int) = x := by unfold clamp; omega
theorem rdN_enc (ys rest : List Int) (x : Int) : rdN (ys ++ enc x ++ rest) (some ys.length) = (clamp x, some (ys ++ enc x).length) := by
  rw [rdN_some (gn_enc ys rest x), List.length_append]
/-- Each number has one form. -/
theorem gn_form {zs : List Int} (hb : Byt zs) {p x nx : Nat} (h : gn zs (p : Int) = (x, nx, true)) : zs.drop p = enc (x : Int) ++ zs.drop nx ∧ nx ≤ zs.length ∧ x ≤ 1000000 := by
  have hp : p < zs.length := by
    unfold gn at h
    split at h
    · simp at h
    · omega
  rw [gn_at zs p hp] at h
  have hcell : ∀ k, p + k < zs.length → ∃ Z : Nat, zs.getD (p + k) 0 = (Z : Int) ∧ Z ≤ 255 := fun k hk => by
    obtain ⟨Z, h1, h2⟩ := byt_at hb (p + k)
    exact ⟨Z, h1, h2⟩
  have hdrop : ∀ k (hk : p + k < zs.length) (Z : Nat), zs.getD (p + k) 0 = (Z : Int) → zs.drop (p + k) = (Z : Int) :: zs.drop (p + k + 1) := fun k hk Z hZ => by
    rw [List.drop_eq_getElem_cons hk]
    congr 1
    rw [← hZ]
    simp [hk]
  obtain ⟨Z0, e0, l0⟩ := hcell 0 hp
  have d0 := hdrop 0 hp Z0 e0
  by_cases c0 : 128 ≤ Z0
  · rw [gnGo_more (by omega) e0 c0] at h
    by_cases h1 : p + 1 < zs.length
    · obtain ⟨Z1, e1, l1⟩ := hcell 1 h1
      have d1 := hdrop 1 h1 Z1 e1
      by_cases c1 : 128 ≤ Z1
      · rw [gnGo_more (by omega) e1 c1] at h
        by_cases h2 : p + 2 < zs.length
        · obtain ⟨Z2, e2, l2⟩ := hcell 2 h2
          have d2 := hdrop 2 h2 Z2 e2
          by_cases c2 : 128 ≤ Z2
          · rw [gnGo_more (by omega) e2 c2] at h
            simp [gnGo] at h
          · by_cases b2 : (0 < 2 ∧ Z2 = 0) ∨ 1000000 < 0 + Z0 % 128 * 128 ^ 0 + Z1 % 128 * 128 ^ 1 + Z2 % 128 * 128 ^ 2
            · rw [gnGo_bad (by omega) e2 c2 b2] at h
              simp at h
            · rw [gnGo_good (by omega) e2 c2 b2] at h
              simp only [Prod.mk.injEq, and_true] at h
              obtain ⟨hx, hn⟩ := h
              have hx' : x = Z0 % 128 + Z1 % 128 * 128 + Z2 % 128 * 16384 := by omega
              refine ⟨?_, by omega, by omega⟩
              rw [← hn, show zs.drop p = zs.drop (p + 0) from rfl, d0, show p + 0 + 1 = p + 1 from rfl, d1, show p + 1 + 1 = p + 2 from rfl, d2]
              unfold enc
              rw [clamp_nat (by omega), enc3 (by omega) (by omega)]
              simp only [List.cons_append, List.nil_append, List.cons.injEq, and_true]
              refine ⟨by congr 1; omega, by congr 1; omega, by congr 1; omega⟩
        · rw [gnGo_end (by omega)] at h
          simp at h
      · by_cases b1 : (0 < 1 ∧ Z1 = 0) ∨ 1000000 < 0 + Z0 % 128 * 128 ^ 0 + Z1 % 128 * 128 ^ 1
        · rw [gnGo_bad (by omega) e1 c1 b1] at h
          simp at h
        · rw [gnGo_good (by omega) e1 c1 b1] at h
          simp only [Prod.mk.injEq, and_true] at h
          obtain ⟨hx, hn⟩ := h
          have hx' : x = Z0 % 128 + Z1 % 128 * 128 := by omega
          refine ⟨?_, by omega, by omega⟩
          rw [← hn, show zs.drop p = zs.drop (p + 0) from rfl, d0, show p + 0 + 1 = p + 1 from rfl, d1]
          unfold enc
          rw [clamp_nat (by omega), enc2 (by omega) (by omega)]
          simp only [List.cons_append, List.nil_append, List.cons.injEq, and_true]
          refine ⟨by congr 1; omega, by congr 1; omega⟩
    · rw [gnGo_end (by omega)] at h
      simp at h
  · by_cases b0 : (0 < 0 ∧ Z0 = 0) ∨ 1000000 < 0 + Z0 % 128 * 128 ^ 0
    · rw [gnGo_bad (by omega) e0 c0 b0] at h
      simp at h
    · rw [gnGo_good (by omega) e0 c0 b0] at h
      simp only [Prod.mk.injEq, and_true] at h
      obtain ⟨hx, hn⟩ := h
      have hx' : x = Z0 := by omega
      refine ⟨?_, by omega, by omega⟩
      rw [← hn, show zs.drop p = zs.drop (p + 0) from rfl, d0]
      unfold enc
      rw [clamp_nat (by omega), enc1 (by omega), hx']
      simp
theorem rdN_form {zs : List Int} (hb : Byt zs) {p q : Nat} (h : (rdN zs (some p)).2 = some q) : zs.drop p = enc ((rdN zs (some p)).1 : Int) ++ zs.drop q := by
  obtain ⟨⟨x, nx, b⟩, hg⟩ : ∃ r, gn zs (p : Int) = r := ⟨_, rfl⟩
  cases b with
  | false => rw [rdN_bad (by rw [hg])] at h; simp at h
  | true =>
    rw [rdN_some hg] at h ⊢
    simp at h
    subst h
    exact (gn_form hb hg).1
theorem Byt.drop {zs : List Int} (h : Byt zs) (k : Nat) : Byt (zs.drop k) := fun z hz => h z (List.mem_of_mem_drop hz)
end

section
open Go.RowKit
set_option maxHeartbeats 400000 in
theorem big_any (a : Option Addr) (n cap : Nat) (w : World) : Calls Try.prog 8 #[.slice a n cap] w fun e w' => e = .returned (.bool (decide ((1048576 : Int) < (n : Int)))) ∧ w' = w := by
  go_enter Try.func8, Try.ntmps8
  go_wp2
  go_ret
  exact ⟨rfl, rfl⟩
theorem Own.cap' {w : World} {g n c : Nat} {zs : List Int} (h : Own w g n c zs) : n ≤ c := by
  rcases h.2 with ⟨h', _⟩ | ⟨g', c', cur, h', _, _, h5, _⟩
  · simp at h'
  · simp at h'
    omega
theorem Own.rd' {w : World} {g n c : Nat} {zs : List Int} (h : Own w g n c zs) : Rd w (some ⟨g, 0, none⟩) zs := by
  obtain ⟨b, d, e, hr⟩ := (OwnV.rowB (B := 0) h).form
  simp at e
  rw [e.1]
  exact hr
theorem encGo_byt' (f m : Nat) (h : m < 128 ^ (f + 1)) : Byt (encGo f m) := by
  induction f generalizing m with
  | zero =>
    intro z hz
    simp [encGo] at hz
    simp at h
    omega
  | succ f ih =>
    intro z hz
    by_cases hm : 128 ≤ m
    · rw [encGo_more hm] at hz
      rcases List.mem_cons.1 hz with rfl | hz
      · omega
      · exact ih (m / 128) (by rw [Nat.pow_succ] at h; omega) z hz
    · rw [encGo_last hm] at hz
      simp at hz
      omega
theorem enc_byt' (x : Int) : Byt (enc x) := encGo_byt' 3 _ (by have := clamp_le x; omega)
end
end Go.Proofs.Ytjaicciilehlnaa
