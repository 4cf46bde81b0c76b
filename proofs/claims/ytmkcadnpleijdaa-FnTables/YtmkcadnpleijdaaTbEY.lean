/-
  Tables of volumes and their bytes, no program: what is put is got; what is got has these bytes.
-/
import Derived.Test.YtmkcadnpleijdaaTbAV
import Derived.Test.YtmkcadnpleijdaaEncDecY
import Derived.WalkKit
import Derived.WalkSpells
import Derived.WalkLawsBesides
import Derived.Deep.QuietTactic
import Derived.BigQuiet
import Derived.OpenShut
import Derived.Laws.BitsAllLaws
import Derived.Maps.AppendAt
import Derived.Lib.SliceRun
import Derived.Lib.Strings
import Derived.Deep.RegionWith
import Derived.Laws.IdiomStrings
import Derived.Deep.Slices
import Derived.ProofKit
import Derived.ChangeOld
import Derived.Below
import Derived.Deep.DeepCutAuto
import Derived.Lib.AppendStr
import Derived.Lib.ConvBytes
import Derived.Deep.RegionHeld3
import Derived.Deep.AppendLies
import Derived.Maps.OwnSet
import Derived.Maps.OwnOps
import Derived.Laws.StructEq
import Derived.Laws.BytesString
import Derived.Deep.CutBlock
import Derived.Deep.RegionLaw
import Derived.Deep.RegionHeld
import Derived.Laws.BitsLemmas
import Derived.Deep.OwnRows
namespace Go.Proofs.Ytmkcadnpleijdaa
open Go.RowKit
theorem tg_read {zs : List Int} {st s1 s2 s3 s4 s5 : Option Nat} {a c d e : Nat} {b : ByteArray} (h1 : rdN zs st = (a, s1)) (h2 : rdT zs s1 = (b, s2)) (h3 : rdN zs s2 = (c, s3)) (hc : c ≤ 1) (h4 : rdN zs s3 = (d, s4)) (h5 : rdN zs s4 = (e, s5)) :
    tgRow zs st = ⟨(a : Int), b, decide (c = 1), (d : Int), (e : Int)⟩ ∧ (tgE zs st).2 = s5 := by
  have eA : tgA zs st = (a, s1) := h1
  have eB : tgB zs st = (b, s2) := by unfold tgB; rw [eA]; exact h2
  have eC : tgC zs st = (c, s3) := by unfold tgC; rw [eB]; exact h3
  have eS : tgS zs st = s3 := by unfold tgS; rw [eC]; exact if_pos hc
  have eD : tgD zs st = (d, s4) := by unfold tgD; rw [eS]; exact h4
  have eE : tgE zs st = (e, s5) := by unfold tgE; rw [eD]; exact h5
  unfold tgRow
  rw [eA, eB, eC, eD, eE]
  exact ⟨rfl, rfl⟩
theorem rwEnc_eq (r : RwD) : rwEnc r = enc r.id ++ (encT r.name ++ (enc (roN r.ro) ++ (enc r.lim ++ enc r.mp))) := by simp [rwEnc, encs, encTs]
theorem roN_in (b : Bool) : 0 ≤ roN b ∧ roN b ≤ 1 := by cases b <;> simp [roN]
theorem roN_back (b : Bool) (c : Nat) (h : (c : Int) = roN b) : decide (c = 1) = b := by
  cases b
  · simp [roN] at h; subst h; rfl
  · simp [roN] at h
    have : c = 1 := by omega
    subst this; rfl
theorem tgRs_enc (ys rest : List Int) (ps : List RwD) (h : ∀ r ∈ ps, (0 ≤ r.id ∧ r.id ≤ 1000000) ∧ r.name.size ≤ 1000000 ∧ (0 ≤ r.lim ∧ r.lim ≤ 1000000) ∧ 0 ≤ r.mp ∧ r.mp ≤ 1000000) (k : Nat) (hk : k ≤ ps.length) :
    tgRs (ys ++ ps.flatMap rwEnc ++ rest) (some ys.length) k = (ps.take k, some (ys ++ (ps.take k).flatMap rwEnc).length) := by
  induction k with
  | zero => simp [tgRs]
  | succ k ih =>
    have hlt : k < ps.length := by omega
    obtain ⟨⟨i1, i2⟩, i3, ⟨i4, i5⟩, i6, i7⟩ := h ps[k] (List.getElem_mem hlt)
    obtain ⟨r, hr⟩ : ∃ r, ps[k] = r := ⟨_, rfl⟩
    obtain ⟨Z, hZ⟩ : ∃ Z, ys ++ ps.flatMap rwEnc ++ rest = Z := ⟨_, rfl⟩
    obtain ⟨A, hA⟩ : ∃ A, ys ++ (ps.take k).flatMap rwEnc = A := ⟨_, rfl⟩
    obtain ⟨T, hT⟩ : ∃ T, (ps.drop (k + 1)).flatMap rwEnc ++ rest = T := ⟨_, rfl⟩
    rw [hr] at i1 i2 i3 i4 i5 i6 i7
    have e0 : Z = A ++ enc r.id ++ (encT r.name ++ (enc (roN r.ro) ++ (enc r.lim ++ (enc r.mp ++ T)))) := by
      rw [← hZ, ← hA, ← hT]
      have e0 : ps.flatMap rwEnc = (ps.take k).flatMap rwEnc ++ (rwEnc ps[k] ++ (ps.drop (k + 1)).flatMap rwEnc) := by
        conv => lhs; rw [← List.take_append_drop k ps, List.drop_eq_getElem_cons hlt, List.flatMap_append, List.flatMap_cons]
      rw [e0, hr, rwEnc_eq]
      simp only [List.append_assoc]
    have ihk := ih (by omega)
    rw [hZ, hA] at ihk
    rw [hZ]
    have t1 := rdN_enc A (encT r.name ++ (enc (roN r.ro) ++ (enc r.lim ++ (enc r.mp ++ T)))) r.id
    rw [← e0] at t1
    have e1 : Z = (A ++ enc r.id) ++ encT r.name ++ (enc (roN r.ro) ++ (enc r.lim ++ (enc r.mp ++ T))) := by rw [e0]; simp
    have t2 := rdT_enc (A ++ enc r.id) (enc (roN r.ro) ++ (enc r.lim ++ (enc r.mp ++ T))) r.name i3
    rw [← e1] at t2
    have e2 : Z = (A ++ enc r.id ++ encT r.name) ++ enc (roN r.ro) ++ (enc r.lim ++ (enc r.mp ++ T)) := by rw [e0]; simp
    have t3 := rdN_enc (A ++ enc r.id ++ encT r.name) (enc r.lim ++ (enc r.mp ++ T)) (roN r.ro)
    rw [← e2] at t3
    have e3 : Z = (A ++ enc r.id ++ encT r.name ++ enc (roN r.ro)) ++ enc r.lim ++ (enc r.mp ++ T) := by rw [e0]; simp
    have t4 := rdN_enc (A ++ enc r.id ++ encT r.name ++ enc (roN r.ro)) (enc r.mp ++ T) r.lim
    rw [← e3] at t4
    have e4 : Z = (A ++ enc r.id ++ encT r.name ++ enc (roN r.ro) ++ enc r.lim) ++ enc r.mp ++ T := by rw [e0]; simp
    have t5 := rdN_enc (A ++ enc r.id ++ encT r.name ++ enc (roN r.ro) ++ enc r.lim) T r.mp
    rw [← e4] at t5
    have c3 := clamp_self (roN_in r.ro).1 (show roN r.ro ≤ 1000000 by have := (roN_in r.ro).2; omega)
    have hc : clamp (roN r.ro) ≤ 1 := by have := (roN_in r.ro).2; omega
    obtain ⟨u1, u2⟩ := tg_read t1 t2 t3 hc t4 t5
    rw [tgRs, ihk]
    dsimp only
    rw [u1, u2, clamp_self i1 i2, clamp_self i4 i5, clamp_self i6 i7, roN_back r.ro _ c3]
    have e5 : ps.take (k + 1) = ps.take k ++ [r] := by rw [← hr]; exact List.take_succ_eq_append_getElem hlt
    rw [e5, List.flatMap_append, ← List.append_assoc, hA]
    simp [rwEnc_eq]
theorem tgRs_form {zs : List Int} (hb : Byt zs) {p : Nat} (k : Nat) : ∀ {q : Nat}, (tgRs zs (some p) k).2 = some q → zs.drop p = (tgRs zs (some p) k).1.flatMap rwEnc ++ zs.drop q := by
  induction k with
  | zero => intro q h; simp [tgRs] at h ⊢; rw [h]
  | succ k ih =>
    intro q h
    rw [tgRs] at h ⊢
    dsimp only at h ⊢
    cases h1 : (tgRs zs (some p) k).2 with
    | none => rw [h1, tgE_none] at h; cases h
    | some m =>
      have i1 := ih h1
      rw [h1] at h
      by_cases hc : (tgC zs (some m)).1 ≤ 1
      rotate_left
      · rw [tgE_bad hc] at h; cases h
      cases h2 : (rdN zs (some m)).2 with
      | none =>
        have a1 : (tgA zs (some m)).2 = none := h2
        have a2 : (tgE zs (some m)).2 = none := by simp [tgE, tgD, tgS, tgC, tgB, a1, rdN, rdT]
        rw [a2] at h; cases h
      | some m2 =>
        have i2 := rdN_form hb h2
        cases h3 : (rdT zs (some m2)).2 with
        | none =>
          have a1 : (tgB zs (some m)).2 = none := by unfold tgB tgA; rw [h2]; exact h3
          have a2 : (tgE zs (some m)).2 = none := by simp [tgE, tgD, tgS, tgC, a1, rdN]
          rw [a2] at h; cases h
        | some m3 =>
          have i3 := rdT_form hb h3
          have b2 : (tgB zs (some m)).2 = some m3 := by unfold tgB tgA; rw [h2]; exact h3
          cases h4 : (rdN zs (some m3)).2 with
          | none =>
            have a1 : (tgC zs (some m)).2 = none := by unfold tgC; rw [b2]; exact h4
            have a2 : (tgE zs (some m)).2 = none := by unfold tgE tgD tgS; rw [if_pos hc, a1]; rfl
            rw [a2] at h; cases h
          | some m4 =>
            have i4 := rdN_form hb h4
            have b3 : tgC zs (some m) = rdN zs (some m3) := by unfold tgC; rw [b2]
            have b4 : tgS zs (some m) = some m4 := by unfold tgS; rw [if_pos hc, b3]; exact h4
            cases h5 : (rdN zs (some m4)).2 with
            | none =>
              have a2 : (tgE zs (some m)).2 = none := by unfold tgE tgD; rw [b4, h5]; rfl
              rw [a2] at h; cases h
            | some m5 =>
              have i5 := rdN_form hb h5
              have b5 : tgD zs (some m) = rdN zs (some m4) := by unfold tgD; rw [b4]
              have b6 : tgE zs (some m) = rdN zs (some m5) := by unfold tgE; rw [b5, h5]
              rw [b6] at h
              have i6 := rdN_form hb h
              have b1 : tgB zs (some m) = rdT zs (some m2) := by unfold tgB tgA; rw [h2]
              have hro : roN (decide ((rdN zs (some m3)).1 = 1)) = ((rdN zs (some m3)).1 : Int) := by
                rw [b3] at hc
                by_cases h9 : (rdN zs (some m3)).1 = 1
                · rw [h9]; rfl
                · have : (rdN zs (some m3)).1 = 0 := by omega
                  rw [this]; rfl
              rw [i1, List.flatMap_append, List.append_assoc]
              congr 1
              simp only [List.flatMap_cons, List.flatMap_nil, List.append_nil, rwEnc_eq, List.append_assoc]
              unfold tgRow
              dsimp only
              rw [b1, b3, b5, b6, hro]
              rw [i2, i3, i4, i5, i6]
              rfl
theorem t_enc {nx : Int} {ps : List RwD} (h : tbB nx ps = true) : tgOk (tbEnc nx ps) = true ∧ tgNx (tbEnc nx ps) = nx ∧ tgQs (tbEnc nx ps) = ps := by
  obtain ⟨h1, h2, h3, h4, _⟩ := tbB_self h
  have hE : tbEnc nx ps = enc nx ++ enc (ps.length : Int) ++ ps.flatMap rwEnc := by unfold tbEnc; simp only [encs, List.flatMap_cons, List.flatMap_nil, List.append_nil]
  have t1 : tgM (tbEnc nx ps) = (clamp nx, some (enc nx).length) := by
    have := rdN_enc [] (enc (ps.length : Int) ++ ps.flatMap rwEnc) nx
    unfold tgM
    rw [hE]
    simpa [List.append_assoc] using this
  have t2 : tgN (tbEnc nx ps) = (clamp (ps.length : Int), some (enc nx ++ enc (ps.length : Int)).length) := by
    have := rdN_enc (enc nx) (ps.flatMap rwEnc) (ps.length : Int)
    unfold tgN
    rw [t1, hE]
    exact this
  have hall : ∀ r ∈ ps, (0 ≤ r.id ∧ r.id ≤ 1000000) ∧ r.name.size ≤ 1000000 ∧ (0 ≤ r.lim ∧ r.lim ≤ 1000000) ∧ 0 ≤ r.mp ∧ r.mp ≤ 1000000 := fun r hr => by
    obtain ⟨k, hk⟩ := List.getElem?_of_mem hr
    have g := h4 k r hk
    unfold rwGood at g
    rw [Bool.and_eq_true] at g
    obtain ⟨g1, g2, g3, g4, g5, g6, g7⟩ := rwOk_self g.1
    have := name14 g3
    omega
  have t3 : tgP (tbEnc nx ps) = (ps, some (tbEnc nx ps).length) := by
    have := tgRs_enc (enc nx ++ enc (ps.length : Int)) [] ps hall ps.length (Nat.le_refl _)
    rw [List.append_nil, ← hE, List.take_length, ← hE] at this
    unfold tgP
    rw [t2]
    dsimp only
    rw [clamp_nat (by omega), show min ps.length 7 = ps.length by omega]
    exact this
  have hok : tgOk (tbEnc nx ps) = true := by
    unfold tgOk
    rw [t3, t1]
    dsimp only
    rw [clamp_self (by omega) (by omega), h]
    simp
  refine ⟨hok, ?_, ?_⟩
  · unfold tgNx
    rw [if_pos hok, t1]
    exact clamp_self (by omega) (by omega)
  · unfold tgQs
    rw [if_pos hok, t3]
theorem t_form {zs : List Int} (hb : Byt zs) (h : tgOk zs = true) : tbB (tgNx zs) (tgQs zs) = true ∧ tbPut (tgNx zs) (tgQs zs) = zs := by
  have h0 := h
  unfold tgOk at h0
  simp only [Bool.and_eq_true, decide_eq_true_eq] at h0
  obtain ⟨h1, h2⟩ := h0
  have hc := tgOk_count h2
  unfold tgNx tgQs
  rw [if_pos h, if_pos h]
  refine ⟨h2, ?_⟩
  unfold tbPut
  rw [if_pos h2]
  unfold tgP at h1
  cases hB : (tgN zs).2 with
  | none =>
    rw [hB] at h1
    have := tgRs_none (zs := zs) (st := none) (k := 0) (m := min (tgN zs).1 7) rfl (Nat.zero_le _)
    rw [this] at h1
    simp at h1
  | some q =>
    cases hA : (tgM zs).2 with
    | none => unfold tgN at hB; rw [hA] at hB; simp [rdN] at hB
    | some p =>
      have f1 := rdN_form hb (p := 0) (q := p) hA
      have hB' : (rdN zs (some p)).2 = some q := by unfold tgN at hB; rw [hA] at hB; exact hB
      have f2 := rdN_form hb hB'
      rw [hB] at h1
      have f3 := tgRs_form hb _ h1
      rw [List.drop_length, List.append_nil] at f3
      have hP : (tgRs zs (some q) (min (tgN zs).1 7)).1 = (tgP zs).1 := by unfold tgP; rw [hB]
      rw [hP] at f3
      have hN2 : (rdN zs (some p)).1 = (tgN zs).1 := by unfold tgN; rw [hA]
      rw [hN2, hc] at f2
      rw [List.drop_zero] at f1
      unfold tbEnc
      conv => rhs; rw [f1, f2, f3]
      simp only [encs, List.flatMap_cons, List.flatMap_nil, List.append_nil, List.append_assoc]
      rfl
end Go.Proofs.Ytmkcadnpleijdaa


