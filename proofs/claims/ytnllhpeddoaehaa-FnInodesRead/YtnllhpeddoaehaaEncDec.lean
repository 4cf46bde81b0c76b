/-
  An inode's bytes, read: what was put is got; what is got has these bytes.
-/
import Derived.Test.YtnllhpeddoaehaaNumsB
namespace Go.Proofs.Ytnllhpeddoaehaa
open Go.RowKit

theorem str_strZ (s : ByteArray) : str (strZ s) = s := by
  rw [str_is]
  unfold strZ
  simp only [List.map_map]
  have e : s.data.toList.map ((fun n : Int => UInt8.ofNat n.toNat) ∘ fun b : UInt8 => (b.toNat : Int)) = s.data.toList := by
    conv => rhs; rw [← List.map_id s.data.toList]
    refine List.map_congr_left fun b _ => ?_
    simp
  rw [e]
theorem clamp_self {x : Int} (h0 : 0 ≤ x) (h1 : x ≤ 1000000) : ((clamp x : Nat) : Int) = x := by unfold clamp; omega
theorem clamp_nat {x : Nat} (h1 : x ≤ 1000000) : clamp (x : Int) = x := by unfold clamp; omega
theorem rdN_enc (ys rest : List Int) (x : Int) : rdN (ys ++ enc x ++ rest) (some ys.length) = (clamp x, some (ys ++ enc x).length) := by
  rw [rdN_some (gn_enc ys rest x), List.length_append]
theorem rdT_enc (ys rest : List Int) (s : ByteArray) (h : s.size ≤ 1000000) : rdT (ys ++ encT s ++ rest) (some ys.length) = (s, some (ys ++ encT s).length) := by
  have e : ys ++ encT s ++ rest = ys ++ enc (s.size : Int) ++ (strZ s ++ rest) := by unfold encT; simp
  have hl := strZ_len s
  refine rdT_some ?_
  rw [e, gn_enc, clamp_nat h]
  unfold gtOf
  rw [if_neg (by simp; omega)]
  have hd : (ys ++ enc (s.size : Int) ++ (strZ s ++ rest)).drop (ys.length + (enc (s.size : Int)).length) = strZ s ++ rest := by
    rw [show ys.length + (enc (s.size : Int)).length = (ys ++ enc (s.size : Int)).length by simp, List.drop_left]
  dsimp only
  have ht : (strZ s ++ rest).take s.size = strZ s := by rw [← hl, List.take_left]
  rw [hd, ht, str_strZ]
  unfold encT
  simp only [List.length_append, Nat.add_assoc, hl]
theorem rdE_enc (ys rest : List Int) (es : List (ByteArray × Int)) (h : ∀ e ∈ es, e.1.size ≤ 1000000 ∧ 0 ≤ e.2 ∧ e.2 ≤ 1000000) (k : Nat) (hk : k ≤ es.length) :
    rdE (ys ++ es.flatMap entE ++ rest) (some ys.length) k = (es.take k, some (ys ++ (es.take k).flatMap entE).length) := by
  induction k with
  | zero => simp [rdE]
  | succ k ih =>
    have hlt : k < es.length := by omega
    have he := h es[k] (List.getElem_mem hlt)
    have e1 : ys ++ es.flatMap entE ++ rest = (ys ++ (es.take k).flatMap entE) ++ encT es[k].1 ++ (enc es[k].2 ++ ((es.drop (k + 1)).flatMap entE ++ rest)) := by
      have e0 : es.flatMap entE = (es.take k).flatMap entE ++ (entE es[k] ++ (es.drop (k + 1)).flatMap entE) := by
        conv => lhs; rw [← List.take_append_drop k es, List.drop_eq_getElem_cons hlt, List.flatMap_append, List.flatMap_cons]
      rw [e0]
      simp only [entE, List.append_assoc]
    have e2 : ys ++ es.flatMap entE ++ rest = (ys ++ (es.take k).flatMap entE ++ encT es[k].1) ++ enc es[k].2 ++ ((es.drop (k + 1)).flatMap entE ++ rest) := by rw [e1]; simp
    have t1 := rdT_enc (ys ++ (es.take k).flatMap entE) (enc es[k].2 ++ ((es.drop (k + 1)).flatMap entE ++ rest)) es[k].1 he.1
    rw [← e1] at t1
    have t2 := rdN_enc (ys ++ (es.take k).flatMap entE ++ encT es[k].1) ((es.drop (k + 1)).flatMap entE ++ rest) es[k].2
    rw [← e2] at t2
    rw [rdE, ih (by omega)]
    dsimp only
    rw [t1]
    dsimp only
    rw [t2]
    dsimp only
    rw [clamp_self he.2.1 he.2.2, fm_take entE es k hlt]
    have e3 : es.take (k + 1) = es.take k ++ [es[k]] := List.take_succ_eq_append_getElem hlt
    simp [entE]
    exact e3.symm
theorem rdA_enc (ys rest : List Int) (es : List (ByteArray × ByteArray)) (h : ∀ e ∈ es, e.1.size ≤ 1000000 ∧ e.2.size ≤ 1000000) (k : Nat) (hk : k ≤ es.length) :
    rdA (ys ++ es.flatMap attE ++ rest) (some ys.length) k = (es.take k, some (ys ++ (es.take k).flatMap attE).length) := by
  induction k with
  | zero => simp [rdA]
  | succ k ih =>
    have hlt : k < es.length := by omega
    have he := h es[k] (List.getElem_mem hlt)
    have e1 : ys ++ es.flatMap attE ++ rest = (ys ++ (es.take k).flatMap attE) ++ encT es[k].1 ++ (encT es[k].2 ++ ((es.drop (k + 1)).flatMap attE ++ rest)) := by
      have e0 : es.flatMap attE = (es.take k).flatMap attE ++ (attE es[k] ++ (es.drop (k + 1)).flatMap attE) := by
        conv => lhs; rw [← List.take_append_drop k es, List.drop_eq_getElem_cons hlt, List.flatMap_append, List.flatMap_cons]
      rw [e0]
      simp only [attE, List.append_assoc]
    have e2 : ys ++ es.flatMap attE ++ rest = (ys ++ (es.take k).flatMap attE ++ encT es[k].1) ++ encT es[k].2 ++ ((es.drop (k + 1)).flatMap attE ++ rest) := by rw [e1]; simp
    have t1 := rdT_enc (ys ++ (es.take k).flatMap attE) (encT es[k].2 ++ ((es.drop (k + 1)).flatMap attE ++ rest)) es[k].1 he.1
    rw [← e1] at t1
    have t2 := rdT_enc (ys ++ (es.take k).flatMap attE ++ encT es[k].1) ((es.drop (k + 1)).flatMap attE ++ rest) es[k].2 he.2
    rw [← e2] at t2
    rw [rdA, ih (by omega)]
    dsimp only
    rw [t1]
    dsimp only
    rw [t2]
    dsimp only
    rw [fm_take attE es k hlt]
    have e3 : es.take (k + 1) = es.take k ++ [es[k]] := List.take_succ_eq_append_getElem hlt
    simp [attE]
    exact e3.symm

/-- What an inode that is right has. -/
structure InoFit (D : InoD) : Prop where
  ino : 0 ≤ D.ino ∧ D.ino ≤ 1000
  kind : 0 ≤ D.kind ∧ D.kind ≤ 2
  links : 0 ≤ D.links ∧ D.links ≤ 1000
  data : D.data.length ≤ 100
  nEnts : D.ents.length ≤ 10
  nAttrs : D.attrs.length ≤ 4
  ents : ∀ q ∈ D.ents, nameOk q.1.data.toList = true ∧ 2 ≤ q.2 ∧ q.2 ≤ 1000
  attrs : ∀ q ∈ D.attrs, nameOk q.1.data.toList = true ∧ q.2.size ≤ 16
  either : D.ents.length = 0 ∨ D.data.length = 0
theorem inoOk_fit {D : InoD} (h : inoOk D = true) : InoFit D := by
  unfold inoOk kindR at h
  simp only [Bool.and_eq_true, Bool.or_eq_true, decide_eq_true_eq] at h
  obtain ⟨⟨⟨⟨⟨⟨h1, h2⟩, h3⟩, h4⟩, h5⟩, h6⟩, h7⟩ := h
  obtain ⟨e1, e2⟩ := entsOk_self h5
  obtain ⟨t1, t2⟩ := attsOk_self h6
  exact ⟨by omega, by omega, by omega, h4, e1, t1, e2, t2, by omega⟩
/-- What was put is got. -/
theorem g_enc {D : InoD} (h : InoFit D) (hb : Byt D.data) : gD (inoEnc D) = D ∧ (gA (inoEnc D)).2 = some (inoEnc D).length := by
  obtain ⟨zs, hz⟩ : ∃ zs, inoEnc D = zs := ⟨_, rfl⟩
  have hsd : (str D.data).size ≤ 1000000 := by rw [str_size]; have := h.data; omega
  have hes : ∀ e ∈ D.ents, e.1.size ≤ 1000000 ∧ 0 ≤ e.2 ∧ e.2 ≤ 1000000 := fun e he => by
    obtain ⟨q1, q2, q3⟩ := h.ents e he
    have := name14 q1
    omega
  have has : ∀ e ∈ D.attrs, e.1.size ≤ 1000000 ∧ e.2.size ≤ 1000000 := fun e he => by
    obtain ⟨q1, q2⟩ := h.attrs e he
    have := name14 q1
    omega
  have x0 : zs = [] ++ enc D.ino ++ (enc D.kind ++ (enc D.links ++ (encT (str D.data) ++ (enc (D.ents.length : Int) ++ (D.ents.flatMap entE ++ (enc (D.attrs.length : Int) ++ D.attrs.flatMap attE)))))) := by
    rw [← hz]; simp [inoEnc, encH, encs, encTs]
  have x1 : zs = enc D.ino ++ enc D.kind ++ (enc D.links ++ (encT (str D.data) ++ (enc (D.ents.length : Int) ++ (D.ents.flatMap entE ++ (enc (D.attrs.length : Int) ++ D.attrs.flatMap attE))))) := by rw [x0]; simp
  have x2 : zs = (enc D.ino ++ enc D.kind) ++ enc D.links ++ (encT (str D.data) ++ (enc (D.ents.length : Int) ++ (D.ents.flatMap entE ++ (enc (D.attrs.length : Int) ++ D.attrs.flatMap attE)))) := by rw [x0]; simp
  have x3 : zs = (enc D.ino ++ enc D.kind ++ enc D.links) ++ encT (str D.data) ++ (enc (D.ents.length : Int) ++ (D.ents.flatMap entE ++ (enc (D.attrs.length : Int) ++ D.attrs.flatMap attE))) := by rw [x0]; simp
  have x4 : zs = (enc D.ino ++ enc D.kind ++ enc D.links ++ encT (str D.data)) ++ enc (D.ents.length : Int) ++ (D.ents.flatMap entE ++ (enc (D.attrs.length : Int) ++ D.attrs.flatMap attE)) := by rw [x0]; simp
  have x5 : zs = (enc D.ino ++ enc D.kind ++ enc D.links ++ encT (str D.data) ++ enc (D.ents.length : Int)) ++ D.ents.flatMap entE ++ (enc (D.attrs.length : Int) ++ D.attrs.flatMap attE) := by rw [x0]; simp
  have x6 : zs = (enc D.ino ++ enc D.kind ++ enc D.links ++ encT (str D.data) ++ enc (D.ents.length : Int) ++ D.ents.flatMap entE) ++ enc (D.attrs.length : Int) ++ D.attrs.flatMap attE := by rw [x0]; simp
  have x7 : zs = (enc D.ino ++ enc D.kind ++ enc D.links ++ encT (str D.data) ++ enc (D.ents.length : Int) ++ D.ents.flatMap entE ++ enc (D.attrs.length : Int)) ++ D.attrs.flatMap attE ++ [] := by rw [x0]; simp
  have r1 := rdN_enc [] (enc D.kind ++ (enc D.links ++ (encT (str D.data) ++ (enc (D.ents.length : Int) ++ (D.ents.flatMap entE ++ (enc (D.attrs.length : Int) ++ D.attrs.flatMap attE)))))) D.ino
  rw [← x0, List.nil_append] at r1
  have r2 := rdN_enc (enc D.ino) (enc D.links ++ (encT (str D.data) ++ (enc (D.ents.length : Int) ++ (D.ents.flatMap entE ++ (enc (D.attrs.length : Int) ++ D.attrs.flatMap attE))))) D.kind
  rw [← x1] at r2
  have r3 := rdN_enc (enc D.ino ++ enc D.kind) (encT (str D.data) ++ (enc (D.ents.length : Int) ++ (D.ents.flatMap entE ++ (enc (D.attrs.length : Int) ++ D.attrs.flatMap attE)))) D.links
  rw [← x2] at r3
  have r4 := rdT_enc (enc D.ino ++ enc D.kind ++ enc D.links) (enc (D.ents.length : Int) ++ (D.ents.flatMap entE ++ (enc (D.attrs.length : Int) ++ D.attrs.flatMap attE))) (str D.data) hsd
  rw [← x3] at r4
  have r5 := rdN_enc (enc D.ino ++ enc D.kind ++ enc D.links ++ encT (str D.data)) (D.ents.flatMap entE ++ (enc (D.attrs.length : Int) ++ D.attrs.flatMap attE)) (D.ents.length : Int)
  rw [← x4] at r5
  have r6 := rdE_enc (enc D.ino ++ enc D.kind ++ enc D.links ++ encT (str D.data) ++ enc (D.ents.length : Int)) (enc (D.attrs.length : Int) ++ D.attrs.flatMap attE) D.ents hes D.ents.length (Nat.le_refl _)
  rw [← x5, List.take_length] at r6
  have r7 := rdN_enc (enc D.ino ++ enc D.kind ++ enc D.links ++ encT (str D.data) ++ enc (D.ents.length : Int) ++ D.ents.flatMap entE) (D.attrs.flatMap attE) (D.attrs.length : Int)
  rw [← x6] at r7
  have r8 := rdA_enc (enc D.ino ++ enc D.kind ++ enc D.links ++ encT (str D.data) ++ enc (D.ents.length : Int) ++ D.ents.flatMap entE ++ enc (D.attrs.length : Int)) [] D.attrs has D.attrs.length (Nat.le_refl _)
  rw [← x7, List.take_length] at r8
  have hne := h.nEnts
  have hna := h.nAttrs
  have y1 : g1 zs = (clamp D.ino, some (enc D.ino).length) := r1
  have y2 : g2 zs = (clamp D.kind, some (enc D.ino ++ enc D.kind).length) := by unfold g2; rw [y1]; exact r2
  have y3 : g3 zs = (clamp D.links, some (enc D.ino ++ enc D.kind ++ enc D.links).length) := by unfold g3; rw [y2]; exact r3
  have y4 : g4 zs = (str D.data, some (enc D.ino ++ enc D.kind ++ enc D.links ++ encT (str D.data)).length) := by unfold g4; rw [y3]; exact r4
  have y5 : g5 zs = (D.ents.length, some (enc D.ino ++ enc D.kind ++ enc D.links ++ encT (str D.data) ++ enc (D.ents.length : Int)).length) := by unfold g5; rw [y4]; rw [clamp_nat (by omega)] at r5; exact r5
  have y6 : gE zs = (D.ents, some (enc D.ino ++ enc D.kind ++ enc D.links ++ encT (str D.data) ++ enc (D.ents.length : Int) ++ D.ents.flatMap entE).length) := by unfold gE; rw [y5]; dsimp only; rw [Nat.min_eq_left (by omega)]; exact r6
  have y7 : g6 zs = (D.attrs.length, some (enc D.ino ++ enc D.kind ++ enc D.links ++ encT (str D.data) ++ enc (D.ents.length : Int) ++ D.ents.flatMap entE ++ enc (D.attrs.length : Int)).length) := by unfold g6; rw [y6]; rw [clamp_nat (by omega)] at r7; exact r7
  have y8 : gA zs = (D.attrs, some zs.length) := by
    unfold gA; rw [y7]; dsimp only; rw [Nat.min_eq_left (by omega), r8]
    congr 2
    rw [x7]
    simp
  rw [hz]
  refine ⟨?_, by rw [y8]⟩
  unfold gD
  rw [y1, y2, y3, y4, y6, y8]
  dsimp only
  have := h.ino
  have := h.kind
  have := h.links
  rw [clamp_self (by omega) (by omega), clamp_self (by omega) (by omega), clamp_self (by omega) (by omega), strZ_str _ hb]
theorem gOk_enc {D : InoD} (h : inoOk D = true) (hb : Byt D.data) : gOk (inoEnc D) = true ∧ gD (inoEnc D) = D := by
  obtain ⟨h1, h2⟩ := g_enc (inoOk_fit h) hb
  refine ⟨?_, h1⟩
  unfold gOk
  rw [h1, h2, h]
  simp

/-- Each number has one form. -/
theorem gn_form {zs : List Int} (hb : Byt zs) {p x nx : Nat} (h : gn zs (p : Int) = (x, nx, true)) : zs.drop p = enc (x : Int) ++ zs.drop nx ∧ nx ≤ zs.length ∧ x ≤ 1000000 := by
  have hp : p < zs.length := by
    unfold gn at h
    split at h
    · simp at h
    · omega
  rw [gn_at zs p hp] at h
  have hcell : ∀ k, p + k < zs.length → ∃ Z : Nat, zs.getD (p + k) 0 = (Z : Int) ∧ Z ≤ 255 := fun k hk => by
    obtain ⟨Z, h1, h2⟩ := byt_at hb (p + k)
    exact ⟨Z, h1, h2⟩
  have hdrop : ∀ k (hk : p + k < zs.length) (Z : Nat), zs.getD (p + k) 0 = (Z : Int) → zs.drop (p + k) = (Z : Int) :: zs.drop (p + k + 1) := fun k hk Z hZ => by
    rw [List.drop_eq_getElem_cons hk]
    congr 1
    rw [← hZ]
    simp [hk]
  obtain ⟨Z0, e0, l0⟩ := hcell 0 hp
  have d0 := hdrop 0 hp Z0 e0
  by_cases c0 : 128 ≤ Z0
  · rw [gnGo_more (by omega) e0 c0] at h
    by_cases h1 : p + 1 < zs.length
    · obtain ⟨Z1, e1, l1⟩ := hcell 1 h1
      have d1 := hdrop 1 h1 Z1 e1
      by_cases c1 : 128 ≤ Z1
      · rw [gnGo_more (by omega) e1 c1] at h
        by_cases h2 : p + 2 < zs.length
        · obtain ⟨Z2, e2, l2⟩ := hcell 2 h2
          have d2 := hdrop 2 h2 Z2 e2
          by_cases c2 : 128 ≤ Z2
          · rw [gnGo_more (by omega) e2 c2] at h
            simp [gnGo] at h
          · by_cases b2 : (0 < 2 ∧ Z2 = 0) ∨ 1000000 < 0 + Z0 % 128 * 128 ^ 0 + Z1 % 128 * 128 ^ 1 + Z2 % 128 * 128 ^ 2
            · rw [gnGo_bad (by omega) e2 c2 b2] at h
              simp at h
            · rw [gnGo_good (by omega) e2 c2 b2] at h
              simp only [Prod.mk.injEq, and_true] at h
              obtain ⟨hx, hn⟩ := h
              have hx' : x = Z0 % 128 + Z1 % 128 * 128 + Z2 % 128 * 16384 := by omega
              refine ⟨?_, by omega, by omega⟩
              rw [← hn, show zs.drop p = zs.drop (p + 0) from rfl, d0, show p + 0 + 1 = p + 1 from rfl, d1, show p + 1 + 1 = p + 2 from rfl, d2]
              unfold enc
              rw [clamp_nat (by omega), enc3 (by omega) (by omega)]
              simp only [List.cons_append, List.nil_append, List.cons.injEq, and_true]
              refine ⟨by congr 1; omega, by congr 1; omega, by congr 1; omega⟩
        · rw [gnGo_end (by omega)] at h
          simp at h
      · by_cases b1 : (0 < 1 ∧ Z1 = 0) ∨ 1000000 < 0 + Z0 % 128 * 128 ^ 0 + Z1 % 128 * 128 ^ 1
        · rw [gnGo_bad (by omega) e1 c1 b1] at h
          simp at h
        · rw [gnGo_good (by omega) e1 c1 b1] at h
          simp only [Prod.mk.injEq, and_true] at h
          obtain ⟨hx, hn⟩ := h
          have hx' : x = Z0 % 128 + Z1 % 128 * 128 := by omega
          refine ⟨?_, by omega, by omega⟩
          rw [← hn, show zs.drop p = zs.drop (p + 0) from rfl, d0, show p + 0 + 1 = p + 1 from rfl, d1]
          unfold enc
          rw [clamp_nat (by omega), enc2 (by omega) (by omega)]
          simp only [List.cons_append, List.nil_append, List.cons.injEq, and_true]
          refine ⟨by congr 1; omega, by congr 1; omega⟩
    · rw [gnGo_end (by omega)] at h
      simp at h
  · by_cases b0 : (0 < 0 ∧ Z0 = 0) ∨ 1000000 < 0 + Z0 % 128 * 128 ^ 0
    · rw [gnGo_bad (by omega) e0 c0 b0] at h
      simp at h
    · rw [gnGo_good (by omega) e0 c0 b0] at h
      simp only [Prod.mk.injEq, and_true] at h
      obtain ⟨hx, hn⟩ := h
      have hx' : x = Z0 := by omega
      refine ⟨?_, by omega, by omega⟩
      rw [← hn, show zs.drop p = zs.drop (p + 0) from rfl, d0]
      unfold enc
      rw [clamp_nat (by omega), enc1 (by omega), hx']
      simp
theorem rdN_form {zs : List Int} (hb : Byt zs) {p q : Nat} (h : (rdN zs (some p)).2 = some q) : zs.drop p = enc ((rdN zs (some p)).1 : Int) ++ zs.drop q := by
  obtain ⟨⟨x, nx, b⟩, hg⟩ : ∃ r, gn zs (p : Int) = r := ⟨_, rfl⟩
  cases b with
  | false => rw [rdN_bad (by rw [hg])] at h; simp at h
  | true =>
    rw [rdN_some hg] at h ⊢
    simp at h
    subst h
    exact (gn_form hb hg).1
theorem Byt.drop {zs : List Int} (h : Byt zs) (k : Nat) : Byt (zs.drop k) := fun z hz => h z (List.mem_of_mem_drop hz)
theorem rdT_form {zs : List Int} (hb : Byt zs) {p q : Nat} (h : (rdT zs (some p)).2 = some q) : zs.drop p = encT (rdT zs (some p)).1 ++ zs.drop q := by
  obtain ⟨⟨x, nx, b⟩, hg⟩ : ∃ r, gn zs (p : Int) = r := ⟨_, rfl⟩
  cases b with
  | false => rw [rdT_bad (by rw [hg]; simp [gtOf])] at h; simp at h
  | true =>
    obtain ⟨f1, f2, f3⟩ := gn_form hb hg
    by_cases hl : zs.length < nx + x
    · rw [rdT_bad (by rw [hg]; simp [gtOf, hl])] at h; simp at h
    · have e : gtOf zs (gn zs (p : Int)) = (str ((zs.drop nx).take x), nx + x, true) := by
        rw [hg]
        unfold gtOf
        rw [if_neg (by simp; omega)]
      rw [rdT_some e] at h ⊢
      simp at h
      subst h
      dsimp only
      have hby := (hb.drop nx).take x
      unfold encT
      rw [strZ_str _ hby, str_size, f1, List.length_take, List.length_drop, Nat.min_eq_left (by omega), List.append_assoc]
      congr 1
      rw [← List.drop_drop, List.take_append_drop]
theorem rdE_form {zs : List Int} (hb : Byt zs) {p : Nat} (k : Nat) : ∀ {q : Nat}, (rdE zs (some p) k).2 = some q → zs.drop p = (rdE zs (some p) k).1.flatMap entE ++ zs.drop q := by
  induction k with
  | zero => intro q h; simp [rdE] at h ⊢; rw [h]
  | succ k ih =>
    intro q h
    rw [rdE] at h ⊢
    dsimp only at h ⊢
    cases h1 : (rdE zs (some p) k).2 with
    | none => rw [h1] at h; simp [rdT, rdN] at h
    | some m =>
      have i1 := ih h1
      rw [h1] at h
      cases h2 : (rdT zs (some m)).2 with
      | none => rw [h2] at h; simp [rdN] at h
      | some m2 =>
        have i2 := rdT_form hb h2
        rw [h2] at h
        have i3 := rdN_form hb h
        rw [i1, i2, i3]
        simp [entE]
theorem rdA_form {zs : List Int} (hb : Byt zs) {p : Nat} (k : Nat) : ∀ {q : Nat}, (rdA zs (some p) k).2 = some q → zs.drop p = (rdA zs (some p) k).1.flatMap attE ++ zs.drop q := by
  induction k with
  | zero => intro q h; simp [rdA] at h ⊢; rw [h]
  | succ k ih =>
    intro q h
    rw [rdA] at h ⊢
    dsimp only at h ⊢
    cases h1 : (rdA zs (some p) k).2 with
    | none => rw [h1] at h; simp [rdT] at h
    | some m =>
      have i1 := ih h1
      rw [h1] at h
      cases h2 : (rdT zs (some m)).2 with
      | none => rw [h2] at h; simp [rdT] at h
      | some m2 =>
        have i2 := rdT_form hb h2
        rw [h2] at h
        have i3 := rdT_form hb h
        rw [i1, i2, i3]
        simp [attE]
/-- What is got has these bytes. -/
theorem enc_gD {zs : List Int} (hb : Byt zs) (h : gOk zs = true) : inoEnc (gD zs) = zs := by
  unfold gOk at h
  simp only [Bool.and_eq_true, decide_eq_true_eq] at h
  obtain ⟨hA, hok⟩ := h
  obtain ⟨n5, n6⟩ := gOk_counts hok
  cases h6 : (g6 zs).2 with
  | none => unfold gA at hA; rw [h6] at hA; rw [rdA_none (k := 0) (by rfl) (Nat.zero_le _)] at hA; simp at hA
  | some q6 =>
  cases hE : (gE zs).2 with
  | none => unfold g6 at h6; rw [hE] at h6; simp [rdN] at h6
  | some qE =>
  cases h5 : (g5 zs).2 with
  | none => unfold gE at hE; rw [h5] at hE; rw [rdE_none (k := 0) (by rfl) (Nat.zero_le _)] at hE; simp at hE
  | some q5 =>
  cases h4 : (g4 zs).2 with
  | none => unfold g5 at h5; rw [h4] at h5; simp [rdN] at h5
  | some q4 =>
  cases h3 : (g3 zs).2 with
  | none => unfold g4 at h4; rw [h3] at h4; simp [rdT] at h4
  | some q3 =>
  cases h2 : (g2 zs).2 with
  | none => unfold g3 at h3; rw [h2] at h3; simp [rdN] at h3
  | some q2 =>
  cases h1 : (g1 zs).2 with
  | none => unfold g2 at h2; rw [h1] at h2; simp [rdN] at h2
  | some q1 =>
  have f1 := rdN_form hb (p := 0) (q := q1) h1
  have f2 := rdN_form hb (p := q1) (q := q2) (by unfold g2 at h2; rw [h1] at h2; exact h2)
  have f3 := rdN_form hb (p := q2) (q := q3) (by unfold g3 at h3; rw [h2] at h3; exact h3)
  have f4 := rdT_form hb (p := q3) (q := q4) (by unfold g4 at h4; rw [h3] at h4; exact h4)
  have f5 := rdN_form hb (p := q4) (q := q5) (by unfold g5 at h5; rw [h4] at h5; exact h5)
  have fE := rdE_form hb (p := q5) (min (g5 zs).1 11) (q := qE) (by unfold gE at hE; rw [h5] at hE; exact hE)
  have f6 := rdN_form hb (p := qE) (q := q6) (by unfold g6 at h6; rw [hE] at h6; exact h6)
  have fA := rdA_form hb (p := q6) (min (g6 zs).1 5) (q := zs.length) (by unfold gA at hA; rw [h6] at hA; exact hA)
  have e1 : rdN zs (some 0) = g1 zs := rfl
  have e2 : rdN zs (some q1) = g2 zs := by unfold g2; rw [h1]
  have e3 : rdN zs (some q2) = g3 zs := by unfold g3; rw [h2]
  have e4 : rdT zs (some q3) = g4 zs := by unfold g4; rw [h3]
  have e5 : rdN zs (some q4) = g5 zs := by unfold g5; rw [h4]
  have eE : rdE zs (some q5) (min (g5 zs).1 11) = gE zs := by unfold gE; rw [h5]
  have e6 : rdN zs (some qE) = g6 zs := by unfold g6; rw [hE]
  have eA : rdA zs (some q6) (min (g6 zs).1 5) = gA zs := by unfold gA; rw [h6]
  rw [e1] at f1
  rw [e2] at f2
  rw [e3] at f3
  rw [e4] at f4
  rw [e5] at f5
  rw [eE] at fE
  rw [e6] at f6
  rw [eA] at fA
  have hz : zs = enc ((g1 zs).1 : Int) ++ (enc ((g2 zs).1 : Int) ++ (enc ((g3 zs).1 : Int) ++ (encT (g4 zs).1 ++ (enc ((g5 zs).1 : Int) ++ ((gE zs).1.flatMap entE ++ (enc ((g6 zs).1 : Int) ++ ((gA zs).1.flatMap attE ++ zs.drop zs.length))))))) := by
    rw [← fA, ← f6, ← fE, ← f5, ← f4, ← f3, ← f2, ← f1]
    rfl
  rw [List.drop_length] at hz
  conv => rhs; rw [hz]
  unfold inoEnc encH encs encTs gD
  dsimp only
  rw [str_strZ, n5, n6]
  simp

theorem enc_len3 (x : Int) : (enc x).length ≤ 3 := by
  unfold enc
  have := clamp_le x
  by_cases h1 : clamp x < 128
  · rw [enc1 h1]; simp
  · by_cases h2 : clamp x < 16384
    · rw [enc2 (by omega) h2]; simp
    · rw [enc3 (by omega) (by omega)]; simp
theorem encT_len3 (s : ByteArray) : (encT s).length ≤ s.size + 3 := by
  have := enc_len3 (s.size : Int)
  unfold encT
  rw [List.length_append, strZ_len]
  omega
theorem fm_len {α : Type} (f : α → List Int) (l : List α) (m : Nat) (h : ∀ q ∈ l, (f q).length ≤ m) : (l.flatMap f).length ≤ l.length * m := by
  induction l with
  | nil => simp
  | cons q l ih =>
    have h1 := h q (List.mem_cons_self)
    have h2 := ih (fun x hx => h x (List.mem_cons_of_mem _ hx))
    rw [List.flatMap_cons, List.length_append, List.length_cons, Nat.add_mul]
    omega
theorem inoEnc_len {D : InoD} (h : InoFit D) : (inoEnc D).length ≤ 380 := by
  have a1 := enc_len3 D.ino
  have a2 := enc_len3 D.kind
  have a3 := enc_len3 D.links
  have a4 := encT_len3 (str D.data)
  rw [str_size] at a4
  have a5 := enc_len3 (D.ents.length : Int)
  have a6 := enc_len3 (D.attrs.length : Int)
  have b1 := fm_len entE D.ents 20 (fun q hq => by
    obtain ⟨q1, _⟩ := h.ents q hq
    have := name14 q1
    have := encT_len3 q.1
    have := enc_len3 q.2
    unfold entE
    rw [List.length_append]
    omega)
  have b2 := fm_len attE D.attrs 36 (fun q hq => by
    obtain ⟨q1, q2⟩ := h.attrs q hq
    have := name14 q1
    have := encT_len3 q.1
    have := encT_len3 q.2
    unfold attE
    rw [List.length_append]
    omega)
  have := h.nEnts
  have := h.nAttrs
  have := h.data
  have := h.either
  unfold inoEnc encH encs encTs
  simp only [List.length_append, List.flatMap_cons, List.flatMap_nil, List.length_nil]
  omega
end Go.Proofs.Ytnllhpeddoaehaa
