/-
  Joined: UnlinkT, MakeT, WriteI, ChgWriteAt, WriteT, RenM.
-/
import Derived.Test.YtbjfihabkpianaaGreatDoorJ35E
namespace Go.Proofs.YtbjfihabkpianaaGreatDoor
section
open Go.RowKit
theorem good_dropLast {zs : List Str} (h : good zs = true) : good zs.dropLast = true := good_prefix h (List.dropLast_prefix zs)
theorem split_parent {s : Str} {zs : List Str} (h : splitOf s = some zs) (hne : zs ≠ []) : splitOf (joinOf zs.dropLast) = some zs.dropLast := by
  have hg : good zs = true := by
    rcases split_cases h with ⟨_, rfl⟩ | ⟨r, _, _, hg, rfl⟩
    · exact absurd rfl hne
    · exact hg
  refine split_join ?_
  unfold joinOf
  by_cases hd : zs.dropLast = []
  · rw [if_pos hd]
    simp
  · rw [if_neg hd, if_pos (good_dropLast hg)]
    cases hz : zs.dropLast with
    | nil => exact absurd hz hd
    | cons z l => simp
theorem walkD_app {ds : List InoD} {nm : ByteArray} : ∀ (l : List ByteArray) (x : Int), (walkD ds x (l ++ [nm])).2 = 0 → (walkD ds x l).2 = 0 ∧ ∃ E, look ds (walkD ds x l).1 = some E ∧ E.kind = 2
  | [], x, h => by
    refine ⟨rfl, ?_⟩
    rw [List.nil_append] at h
    unfold walkD at h
    cases hl : look ds x with
    | none => rw [hl] at h; simp at h
    | some D =>
      rw [hl] at h
      dsimp only at h
      by_cases hk : D.kind = 2
      · exact ⟨D, hl, hk⟩
      · rw [if_neg hk] at h
        simp at h
  | z :: l, x, h => by
    rw [List.cons_append] at h
    unfold walkD at h ⊢
    cases hl : look ds x with
    | none => rw [hl] at h; simp at h
    | some D =>
      rw [hl] at h
      dsimp only at h ⊢
      by_cases hk : D.kind = 2
      · rw [if_pos hk] at h ⊢
        by_cases he : entOf z D.ents = 0
        · rw [if_pos he] at h
          simp at h
        · rw [if_neg he] at h ⊢
          exact walkD_app l _ h
      · rw [if_neg hk] at h
        simp at h
theorem stat_walk {ds : List InoD} {s : ByteArray} (h : (statD ds s).2 = 0) : (walkP ds s).2 = 0 := by
  unfold statD at h
  split at h
  · assumption
  · exact h
/-- Where a path leads somewhere, a directory is above it. -/
theorem parent_stat {ds : List InoD} {s : ByteArray} (h : (walkP ds s).2 = 0) (hp : (parentOf s.data.toList).2.2 = true) : ∃ E, statD ds (strB (parentOf s.data.toList).1) = (E, 0) ∧ E.kind = 2 := by
  cases hs : splitOf s.data.toList with
  | none => rw [walkP_none hs] at h; simp at h
  | some zs =>
    have hne : zs ≠ [] := by
      rintro rfl
      unfold parentOf at hp
      rw [hs] at hp
      simp at hp
    have hpa : parentOf s.data.toList = (joinOf zs.dropLast, zs.getLastD [], true) := by
      unfold parentOf
      rw [hs]
      dsimp only
      rw [if_neg hne]
    rw [hpa]
    dsimp only
    have hw : walkP ds s = walkD ds 1 (zs.map strB) := by unfold walkP; rw [hs]
    rw [hw, show zs = zs.dropLast ++ [zs.getLast hne] from (List.dropLast_concat_getLast hne).symm, List.map_append, List.map_cons, List.map_nil] at h
    obtain ⟨h1, E, h2, h3⟩ := walkD_app _ _ h
    have hq : walkP ds (strB (joinOf zs.dropLast)) = walkD ds 1 (zs.dropLast.map strB) := by
      unfold walkP
      rw [show (strB (joinOf zs.dropLast)).data.toList = joinOf zs.dropLast from rfl, split_parent hs hne]
    refine ⟨E, ?_, h3⟩
    unfold statD
    rw [hq, if_pos h1, h2]
theorem parent_bad {ds : List InoD} {s : ByteArray} (h : (walkP ds s).2 = 0) (hp : (parentOf s.data.toList).2.2 = true) : badK 1 ds (strB (parentOf s.data.toList).1) = ((statD ds (strB (parentOf s.data.toList).1)).1, 0) := by
  obtain ⟨E, h1, h2⟩ := parent_stat h hp
  unfold badK
  rw [h1]
  dsimp only
  rw [if_neg (by omega)]
theorem parent_size (s : ByteArray) : (strB (parentOf s.data.toList).1).size ≤ s.size := by
  have e : ∀ l : Str, (strB l).size = l.length := fun l => by show (l.toArray).size = _; simp
  rw [e]
  have hl : s.size = s.data.toList.length := by show s.data.size = _; simp
  rw [hl]
  cases hs : splitOf s.data.toList with
  | none => unfold parentOf; rw [hs]; simp
  | some zs =>
    unfold parentOf
    rw [hs]
    dsimp only
    by_cases hne : zs = []
    · rw [if_pos hne]
      simp
    · rw [if_neg hne]
      dsimp only
      have hj := join_split hs
      rw [← hj]
      have hg : good zs = true := by
        rcases split_cases hs with ⟨_, rfl⟩ | ⟨r, _, _, hg, rfl⟩
        · exact absurd rfl hne
        · exact hg
      have e2 : zs = zs.dropLast ++ [zs.getLast hne] := (List.dropLast_concat_getLast hne).symm
      have e3 : joinOf zs = zs.flatMap (fun p => 47 :: p) := by unfold joinOf; rw [if_neg hne, if_pos hg]
      rw [e3]
      unfold joinOf
      by_cases hd : zs.dropLast = []
      · rw [if_pos hd]
        rw [e2, hd]
        simp
      · rw [if_neg hd, if_pos (good_dropLast hg)]
        conv => rhs; rw [e2, List.flatMap_append]
        simp
theorem tree_more {nx : Int} {ds : List InoD} (h : treeD nx ds = true) : (∀ D ∈ ds, D.ents.length ≤ 100) ∧ (∀ D ∈ ds, 0 ≤ D.links ∧ D.links ≤ 1000) ∧ ds.length ≤ 30 := by
  have h1 := tabD_ok (treeD_parts h).1
  refine ⟨fun D hD => ?_, fun D hD => ?_, h1.2.1⟩
  · have := (entsOk_at (ok_parts (h1.2.2.2.2.1 D hD).1).2.2.1).1
    omega
  · have h2 := (h1.2.2.2.2.1 D hD).1
    unfold inoOk at h2
    simp only [Bool.and_eq_true, decide_eq_true_eq] at h2
    exact h2.1.1.1.1.1.2
theorem file_stat {ds : List InoD} {s : ByteArray} (h : (fileD ds s).2 = 0) : fileD ds s = statD ds s := by
  unfold fileD at h ⊢
  split at h
  · simp at h
  · rename_i hc
    rw [if_neg hc]
theorem unlinkI (a : Option Addr) (n cap : Nat) (nx : Int) (rs : List InoR) (s : ByteArray) (w : World) (ht : TR w a n rs) (hwf : ∀ r ∈ rs, (Lit.int .i64 r.D.ino).wf = true) (het : EtCell w) (hs : s.size ≤ 4000000) :
    Calls Tryz.prog 36 #[.agg #[.slice a n cap, .int .i64 nx], .string s] w fun e w' => TabC w nx (unlinkD nx (rs.map InoR.D) s).1 (unlinkD nx (rs.map InoR.D) s).2 e w' := by
  refine wrap_Unlink a n cap nx s w nx _ _ (fun W hW => ?_)
  obtain ⟨E, hEE⟩ : ∃ E, (statD (rs.map InoR.D) (strB (parentOf s.data.toList).1)).1 = E := ⟨_, rfl⟩
  have hb : treeD nx (rs.map InoR.D) = true → badK 2 (rs.map InoR.D) s = fileD (rs.map InoR.D) s := fun h => badK_file (fun D hD => by obtain ⟨r, hr, rfl⟩ := List.mem_map.1 hD; exact (tree_facts h).1 r hr) s
  refine changed_unlink a n cap nx rs s ⟨#[]⟩ 0 none 0 0 ⟨#[]⟩ ⟨#[]⟩ W (ht.keep hW) hwf (het.keep hW) nx (unlinkT (rs.map InoR.D) s E) (unlinkC (rs.map InoR.D) s) nx _ _ ?_ ?_ ?_ ?_
  · intro h
    unfold unlinkD
    rw [if_pos (.inl h)]
    exact ⟨rfl, rfl, rfl⟩
  · intro h hc
    unfold unlinkC notR at hc
    unfold unlinkD unlinkC notR
    rw [hb h] at hc ⊢
    cases hp : (parentOf s.data.toList).2.2 with
    | false => rw [if_pos (.inr rfl), if_pos rfl]; exact ⟨rfl, rfl, rfl⟩
    | true =>
      rw [hp, if_neg (by decide)] at hc
      rw [if_neg (by simp [h]), if_pos hc, if_neg (by decide)]
      exact ⟨rfl, rfl, rfl⟩
  · intro h hc
    unfold unlinkC notR at hc
    unfold unlinkD unlinkT
    rw [hb h] at hc ⊢
    cases hp : (parentOf s.data.toList).2.2 with
    | false => rw [hp, if_pos rfl] at hc; exact absurd hc (by decide)
    | true =>
      rw [hp, if_neg (by decide)] at hc
      rw [if_neg (by simp [h]), if_neg (by simp [hc])]
      unfold dropP
      rw [hEE]
      by_cases hl : (fileD (rs.map InoR.D) s).1.links = 1
      · rw [if_pos hl, if_pos (by omega)]
        exact ⟨rfl, rfl, rfl⟩
      · rw [if_neg hl, if_neg (by omega)]
        exact ⟨rfl, rfl, rfl⟩
  · intro h W' hW'
    obtain ⟨f1, f2, f3⟩ := tree_facts h
    obtain ⟨f4, f5, f6⟩ := tree_more h
    have hn : n ≤ 100 := by rw [List.length_map, ht.len] at f6; omega
    refine unlinkM a n cap nx rs s ⟨#[]⟩ 0 none 0 0 ⟨#[]⟩ ⟨#[]⟩ W' ((ht.keep hW).keep hW') f1 f2 f3 (fun r hr => f4 r.D (List.mem_map_of_mem hr)) (fun r hr => f5 r.D (List.mem_map_of_mem hr)) hn hs (Nat.le_trans (parent_size s) hs) E (fun hnr hc0 => ?_)
    rw [hb h] at hc0
    have hw : (walkP (rs.map InoR.D) s).2 = 0 := stat_walk (by rw [← file_stat hc0]; exact hc0)
    rw [parent_bad hw hnr, hEE]
end

section
open Go.RowKit
theorem spot_dir {ds : List InoD} (hK : ∀ D ∈ ds, D.kind = 1 ∨ D.kind = 2) (hI : ∀ D ∈ ds, D.ino ≠ 0) (s : ByteArray) : spotD ds s 0 = if (dirFor ds s).2 ≠ 0 then (inoZ.D, ⟨#[]⟩, (dirFor ds s).2) else if 10 ≤ (dirFor ds s).1.ents.length then (inoZ.D, ⟨#[]⟩, 5) else ((dirFor ds s).1, strB (parentOf s.data.toList).2.1, 0) := by
  unfold spotD dirFor badK
  by_cases h1 : (parentOf s.data.toList).2.2 = false
  · simp [h1]
  · by_cases h2 : (statD ds (strB (parentOf s.data.toList).1)).2 = 0
    · have hm := stat_in h2
      have hi := hI _ hm
      rcases hK _ hm with h3 | h3
      · simp [h1, h2, h3]
      · by_cases h4 : entOf (strB (parentOf s.data.toList).2.1) (statD ds (strB (parentOf s.data.toList).1)).1.ents = 0
        · by_cases h5 : 10 ≤ (statD ds (strB (parentOf s.data.toList).1)).1.ents.length
          · simp [h1, h2, h3, h4, h5, hi]
          · simp [h1, h2, h3, h4, h5]
        · simp [h1, h2, h3, h4]
    · simp [h1, h2]
theorem make_no {nx : Int} {ds : List InoD} {s : ByteArray} {kd : Int} (h : treeD nx ds = true) (hK : ∀ D ∈ ds, D.kind = 1 ∨ D.kind = 2) (hI : ∀ D ∈ ds, D.ino ≠ 0) (hc : makeC nx ds s ≠ 0) : makeD nx ds s kd = (nx, ds, makeC nx ds s) := by
  unfold makeC at hc ⊢
  unfold makeD
  rw [spot_dir hK hI s]
  by_cases h0 : (dirFor ds s).2 = 0
  · by_cases h5 : 10 ≤ (dirFor ds s).1.ents.length
    · simp [h, h0, h5]
    · by_cases h6 : 30 ≤ ds.length ∨ 1000 ≤ nx
      · simp [h, h0, h5, h6]
      · exfalso
        apply hc
        simp only [not_or] at h6
        simp [h0, h5, h6.1, h6.2]
  · simp [h, h0]
theorem make_yes {nx : Int} {ds : List InoD} {s : ByteArray} {kd : Int} (h : treeD nx ds = true) (hK : ∀ D ∈ ds, D.kind = 1 ∨ D.kind = 2) (hI : ∀ D ∈ ds, D.ino ≠ 0) (hc : makeC nx ds s = 0) : makeD nx ds s kd = (nx + 1, makeT nx ds s kd, 0) := by
  unfold makeC at hc
  unfold makeD makeT
  rw [spot_dir hK hI s]
  by_cases h0 : (dirFor ds s).2 = 0
  · by_cases h5 : 10 ≤ (dirFor ds s).1.ents.length
    · simp [h0, h5] at hc
    · by_cases h6 : 30 ≤ ds.length ∨ 1000 ≤ nx
      · simp [h0, h5, h6] at hc
      · simp [h, h0, h5, h6]
  · simp [h0] at hc
theorem tree_ino {nx : Int} {ds : List InoD} (h : treeD nx ds = true) : ∀ D ∈ ds, D.ino ≠ 0 := fun D hD => by
  have h3 := ((tabD_ok (treeD_parts h).1).2.2.2.2.1 D hD).1
  unfold inoOk at h3
  simp only [Bool.and_eq_true, decide_eq_true_eq] at h3
  omega
theorem tree_kind {nx : Int} {rs : List InoR} (h : treeD nx (rs.map InoR.D) = true) : ∀ D ∈ rs.map InoR.D, D.kind = 1 ∨ D.kind = 2 := fun D hD => by
  obtain ⟨r, hr, rfl⟩ := List.mem_map.1 hD
  exact (tree_facts h).1 r hr
theorem makeDirI (a : Option Addr) (n cap : Nat) (nx : Int) (rs : List InoR) (s : ByteArray) (w : World) (ht : TR w a n rs) (hwf : ∀ r ∈ rs, (Lit.int .i64 r.D.ino).wf = true) (het : EtCell w) (hs : s.size ≤ 1048576) :
    Calls Tryz.prog 52 #[.agg #[.slice a n cap, .int .i64 nx], .string s] w fun e w' => TabC w (makeD nx (rs.map InoR.D) s 2).1 (makeD nx (rs.map InoR.D) s 2).2.1 (makeD nx (rs.map InoR.D) s 2).2.2 e w' := by
  refine wrap_MakeDir a n cap nx s w _ _ _ (fun W hW => ?_)
  refine changed_makeDir a n cap nx rs s ⟨#[]⟩ 0 none 0 0 ⟨#[]⟩ ⟨#[]⟩ W (ht.keep hW) hwf (het.keep hW) (nx + 1) (makeT nx (rs.map InoR.D) s 2) (makeC nx (rs.map InoR.D) s) _ _ _ ?_ ?_ ?_ ?_
  · intro h
    unfold makeD
    rw [h, if_pos rfl]
    exact ⟨rfl, rfl, rfl⟩
  · intro h hc
    rw [make_no h (tree_kind h) (tree_ino h) hc]
    exact ⟨rfl, rfl, rfl⟩
  · intro h hc
    rw [make_yes h (tree_kind h) (tree_ino h) hc]
    exact ⟨rfl, rfl, rfl⟩
  · intro h W' hW'
    exact makeDirM a n cap nx rs s ⟨#[]⟩ 0 none 0 0 ⟨#[]⟩ ⟨#[]⟩ W' ((ht.keep hW).keep hW') h hs (Nat.le_trans (parent_size s) hs) (by have := (parent_small s.data.toList).2; rw [strB_size]; omega)
theorem makeFileI (a : Option Addr) (n cap : Nat) (nx : Int) (rs : List InoR) (s : ByteArray) (w : World) (ht : TR w a n rs) (hwf : ∀ r ∈ rs, (Lit.int .i64 r.D.ino).wf = true) (het : EtCell w) (hs : s.size ≤ 1048576) :
    Calls Tryz.prog 38 #[.agg #[.slice a n cap, .int .i64 nx], .string s] w fun e w' => TabC w (makeD nx (rs.map InoR.D) s 1).1 (makeD nx (rs.map InoR.D) s 1).2.1 (makeD nx (rs.map InoR.D) s 1).2.2 e w' := by
  refine wrap_MakeFile a n cap nx s w _ _ _ (fun W hW => ?_)
  refine changed_makeFile a n cap nx rs s ⟨#[]⟩ 0 none 0 0 ⟨#[]⟩ ⟨#[]⟩ W (ht.keep hW) hwf (het.keep hW) (nx + 1) (makeT nx (rs.map InoR.D) s 1) (makeC nx (rs.map InoR.D) s) _ _ _ ?_ ?_ ?_ ?_
  · intro h
    unfold makeD
    rw [h, if_pos rfl]
    exact ⟨rfl, rfl, rfl⟩
  · intro h hc
    rw [make_no h (tree_kind h) (tree_ino h) hc]
    exact ⟨rfl, rfl, rfl⟩
  · intro h hc
    rw [make_yes h (tree_kind h) (tree_ino h) hc]
    exact ⟨rfl, rfl, rfl⟩
  · intro h W' hW'
    exact makeFileM a n cap nx rs s ⟨#[]⟩ 0 none 0 0 ⟨#[]⟩ ⟨#[]⟩ W' ((ht.keep hW).keep hW') h hs (Nat.le_trans (parent_size s) hs) (by have := (parent_small s.data.toList).2; rw [strB_size]; omega)
end

section
open Go.RowKit
theorem copy_none (W : World) (ty : TypeId) (a' da : Option Addr) (k c' dc : Nat) : (Builtin.copy_ #[42, 42] ty #[.slice a' k c', .slice da 0 dc]).run Tryz.prog W = .ok (goInt 0) W := by
  obtain ⟨i0, hi, hz0, hz1, hz2⟩ := info_parts Tryz.info5
  cases a' <;> cases da <;> simp [Builtin.copy_, run_underlying Tryz.underlying42, Builtin.lenOf, Builtin.firstCells, sizeOf, typeInfo, hi, loadCells, loadCellsFrom, storeCells]
theorem copy_some (W : World) (g o m cap dCap : Nat) (b off sLen sCap : Nat) (zs dz : List Int) (ho : OwnV 0 W (.slice (some ⟨g, 0, none⟩) m cap) m zs) (hr : ∀ i, i < dz.length → W.cell? ⟨b, off + i, none⟩ = some (.int .u8 (dz.getD i 0))) (hd : dz.length = sLen) (hfit : o + sLen ≤ m) :
    ∃ w', (∀ ty, (Builtin.copy_ #[42, 42] ty #[.slice (some ⟨g, o, none⟩) (m - o) dCap, .slice (some ⟨b, off, none⟩) sLen sCap]).run Tryz.prog W = .ok (goInt sLen) w') ∧ OwnV 0 w' (.slice (some ⟨g, 0, none⟩) m cap) m (stepB zs o dz dz.length) ∧ W.grownBy w' (some g) := by
  obtain ⟨i0, hi, hz0, hz1, hz2⟩ := info_parts Tryz.info5
  rcases ho.2 with ⟨h0, _⟩ | ⟨g', c', cur, h0, _, hh, hmc, hcm, hcs, htk⟩
  · cases h0
  cases h0
  have hzl := ho.len
  obtain ⟨R, hR⟩ : ∃ R, cur.toList = zs.map (Value.int .u8) ++ R := ⟨cur.toList.drop m, by rw [Nat.mul_one] at htk; rw [← htk, List.take_append_drop]⟩
  have hcl : (dz.map (Value.int .u8)).length = sLen := by rw [List.length_map, hd]
  have hl := run_loadCells_list (P := Tryz.prog) W ⟨b, off, none⟩ (dz.map (Value.int .u8)) (fun j v hj => by
    have hjl : j < dz.length := by have := (List.getElem?_eq_some_iff.1 hj).1; rw [List.length_map] at this; exact this
    rw [Addr.add_lit]
    have := hr j hjl
    rw [this]
    rw [List.getElem?_map, List.getElem?_eq_getElem hjl] at hj
    rw [List.getD_eq_getElem?_getD, List.getElem?_eq_getElem hjl]
    exact hj)
  have hst := run_storeCells_at Tryz.prog g o 5 (dz.map (Value.int .u8)) 0 cur W hh (by rw [hcl, hcs]; simp; omega) (fun v hv => by obtain ⟨z, _, rfl⟩ := List.mem_map.1 hv; rfl)
  rw [hcl] at hl
  have hmin : Nat.min sLen (m - o) = sLen := Nat.min_eq_left (by omega)
  refine ⟨W.setRow g (cur.toList.take o ++ dz.map (Value.int .u8) ++ cur.toList.drop (o + (dz.map (Value.int .u8)).length)).toArray, fun ty => ?_, ⟨?_, .inr ⟨g, cap, _, rfl, Nat.zero_le _, setRow_heap W g cur _ _ _ hh, hmc, hcm, ?_, ?_⟩⟩, gr_row W g _⟩
  · simp [Builtin.copy_, run_underlying Tryz.underlying42, Builtin.lenOf, Builtin.firstCells, sizeOf, typeInfo, hi, hz1, hmin, hl, hst]
  · rw [List.length_map, stepB_len _ _ _ _ (Nat.le_refl _) (by omega)]
    omega
  · rw [hcl]
    have h1 : cur.toList.length = cur.size := Array.length_toList
    simp
    omega
  · have e1 : cur.toList.take o = (zs.take o).map (Value.int .u8) := by rw [hR, List.take_append_of_le_length (by rw [List.length_map]; omega), List.map_take]
    have e2 : cur.toList.drop (o + sLen) = (zs.drop (o + sLen)).map (Value.int .u8) ++ R := by rw [hR, List.drop_append_of_le_length (by rw [List.length_map]; omega), List.map_drop]
    rw [hcl, e1, e2]
    have e3 : (stepB zs o dz dz.length).map (Value.int .u8) = (zs.take o).map (Value.int .u8) ++ dz.map (Value.int .u8) ++ (zs.drop (o + sLen)).map (Value.int .u8) := by
      unfold stepB
      rw [List.take_length, hd, List.map_append, List.map_append]
    rw [e3, ← List.append_assoc, Nat.mul_one]
    exact List.take_left' (by simp; omega)
theorem own_up {W : World} {B n : Nat} {v : Value} {zs : List Int} (ho : OwnV 0 W v n zs) (hlo : ∀ g, v.ownBlock = some g → B ≤ g) : OwnV B W v n zs := by
  refine ⟨ho.1, ?_⟩
  rcases ho.2 with hn | ⟨g, cap, cur, hv, _, rest⟩
  · exact .inl hn
  · exact .inr ⟨g, cap, cur, hv, hlo g (by rw [hv]; rfl), rest⟩
/-- What writeAt answers. -/
def writeC (ds : List InoD) (p : ByteArray) (k : Int) (dz : List Int) : Int := if ¬ (0 ≤ k ∧ k ≤ 100) then 1 else if (badK 2 ds p).2 ≠ 0 then (badK 2 ds p).2 else if k + (dz.length : Int) > 100 then 5 else 0
def writeT (ds : List InoD) (p : ByteArray) (k : Int) (dz : List Int) : List InoD := setD ds { (badK 2 ds p).1 with data := stepB (sizeTo (badK 2 ds p).1.data (max (k.toNat + dz.length) (badK 2 ds p).1.data.length)) k.toNat dz dz.length }
set_option maxRecDepth 100000 in
set_option maxHeartbeats 4000000 in
theorem writeM (a : Option Addr) (n cap : Nat) (nx : Int) (rs : List InoR) (p q : ByteArray) (k : Int) (da : Option Addr) (dn dc : Nat) (an av : ByteArray) (w : World) (ht : TR w a n rs) (hK : ∀ r ∈ rs, r.D.kind = 1 ∨ r.D.kind = 2) (hwf : ∀ r ∈ rs, (Lit.int .i64 r.D.ino).wf = true) (hwe : ∀ r ∈ rs, ∀ e ∈ r.D.ents, (Lit.int .i64 e.2).wf = true) (hs : p.size ≤ 4000000) (hD : ∀ r ∈ rs, r.D.data.length ≤ 100) (dz : List Int) (hdl : dz.length = dn) (hdn : dn ≤ 1048576) (hdr : Rd w da dz) (hdb : Byt dz) :
    Calls Tryz.prog 156 #[.agg #[.slice a n cap, .int .i64 nx], .agg #[.string p, .string q, .int .i64 k, .slice da dn dc, .string an, .string av]] w fun e w' => EMeth w nx (writeT (rs.map InoR.D) p k dz) (writeC (rs.map InoR.D) p k dz) e w' := by
  have B0 : Below w.heap.size w (((w.alloc (.cells #[.slice a n cap, .int .i64 nx] 47)).alloc (.cells #[.string p, .string q, .int .i64 k, .slice da dn dc, .string an, .string av] 108)).alloc (.cells #[.slice none 0 0, .int .i64 0] 47)) := (((Below.refl _ w).alloc (Nat.le_refl _) _).alloc (by simp) _).alloc (by simp; omega) _
  have zT := ((Blk.new w 47 #[.slice a n cap, .int .i64 nx]).alloc (.cells #[.string p, .string q, .int .i64 k, .slice da dn dc, .string an, .string av] 108)).alloc (.cells #[.slice none 0 0, .int .i64 0] 47)
  have zC := (Blk.new (w.alloc (.cells #[.slice a n cap, .int .i64 nx] 47)) 108 #[.string p, .string q, .int .i64 k, .slice da dn dc, .string an, .string av]).alloc (.cells #[.slice none 0 0, .int .i64 0] 47)
  have zR := Blk.new ((w.alloc (.cells #[.slice a n cap, .int .i64 nx] 47)).alloc (.cells #[.string p, .string q, .int .i64 k, .slice da dn dc, .string an, .string av] 108)) 47 #[.slice none 0 0, .int .i64 0]
  simp only [World.size_alloc] at zC zR
  obtain ⟨ds, hds⟩ : ∃ ds, rs.map InoR.D = ds := ⟨_, rfl⟩
  rw [hds]
  have HDS : Hid _ := hds
  obtain ⟨CO, hCO⟩ : ∃ c, writeC ds p k dz = c := ⟨_, rfl⟩
  obtain ⟨TT, hTT⟩ : ∃ c, writeT ds p k dz = c := ⟨_, rfl⟩
  rw [hCO, hTT]
  unfold writeC at hCO
  unfold writeT at hTT
  have c2 := zC.cell 2
  have r0 := zR.cell 0
  have r1 := zR.cell 1
  have f0 := zR.frozen 0
  have f1 := zR.frozen 1
  simp at c2 r0 r1
  by_cases hk : ¬ (0 ≤ k ∧ k ≤ 100)
  · rw [if_pos hk] at hCO
    subst hCO
    have dd0 := zR.cell 0
    have dd1 := zR.cell 1
    simp at dd0 dd1
    have hend : Hid (EMeth w nx TT 1 (.returned (.tuple #[.agg #[.slice none 0 0, .int .i64 0], .iface 139 (.int .i64 1)])) (((w.alloc (.cells #[.slice a n cap, .int .i64 nx] 47)).alloc (.cells #[.string p, .string q, .int .i64 k, .slice da dn dc, .string an, .string av] 108)).alloc (.cells #[.slice none 0 0, .int .i64 0] 47))) := eMeth_no (by decide) B0
    clear zT zC zR B0 hTT HDS hds ht hK hwf hwe hD
    go_enter Tryz.func156, Tryz.ntmps156
    by_cases hk0 : k < 0
    · go_wp2
      refine bodyPost_ret (v := .tuple #[.agg #[.slice none 0 0, .int .i64 0], .iface 139 (.int .i64 1)]) (by simp [results, Tryz.f156, go_sem, dd0, dd1]) rfl ?_
      exact hend.out
    · have hk1 : k > 100 := by omega
      go_wp2
      refine bodyPost_ret (v := .tuple #[.agg #[.slice none 0 0, .int .i64 0], .iface 139 (.int .i64 1)]) (by simp [results, Tryz.f156, go_sem, dd0, dd1]) rfl ?_
      exact hend.out
  rw [if_neg hk] at hCO
  obtain ⟨kn, rfl⟩ : ∃ kn : Nat, k = (kn : Int) := ⟨k.toNat, by omega⟩
  have hkn : kn ≤ 100 := by omega
  have hk0 : ¬ (kn : Int) < 0 := by omega
  have hk1 : ¬ (kn : Int) > 100 := by omega
  rw [Int.toNat_natCast] at hTT
  clear hk
  have hcF := fun (W : World) (hW : Below w.heap.size w W) => fileI a n cap nx rs p W (ht.keep hW) hK hwf hwe hs
  have HSM : Hid _ := ht.small
  have HLEN : Hid _ := ht.len
  have HNN : Hid _ := ht.n
  have HRD : Hid _ := ht.rd
  have HWF : Hid _ := hwf
  have HD1 : Hid _ := hD
  rw [hds] at hcF
  have HMEM : Hid _ := @badK_mem 2 ds p
  obtain ⟨D, c, hDc⟩ : ∃ D c, badK 2 ds p = (D, c) := ⟨_, _, rfl⟩
  rw [hDc] at hcF hCO hTT HMEM
  dsimp only at hcF hCO hTT HMEM
  have HTT : Hid _ := hTT
  have t0 := zT.cell 0
  have t1 := zT.cell 1
  have c0 := zC.cell 0
  simp at t0 t1 c0
  have HDR : Hid _ := hdr
  have HDL : Hid _ := hdl
  have HDB : Hid _ := hdb
  clear hDc hTT ht hK hwf hwe hds hD hdr hdl hdb
  go_enter Tryz.func156, Tryz.ntmps156
  go_wp2_with fail
  obtain ⟨Wz, hWz⟩ : ∃ W, (((w.alloc (.cells #[.slice a n cap, .int .i64 nx] 47)).alloc (.cells #[.string p, .string q, .int .i64 (kn : Int), .slice da dn dc, .string an, .string av] 108)).alloc (.cells #[.slice none 0 0, .int .i64 0] 47)) = W := ⟨_, rfl⟩
  rw [hWz] at B0 zT zC zR c0 c2 r0 r1 f0 f1 t0 t1 ⊢
  clear hWz
  (with_reducible refine (hcF Wz B0).mono ?_)
  rintro e w2 ⟨b1, d1, b2, d2, b3, d3, rfl, g2, bb2⟩
  have zt := (zT.keep bb2).alloc (.cells #[.int .i64 D.ino, .int .i64 D.kind, .int .i64 D.links, .slice b1 D.data.length d1, .slice b2 D.ents.length d2, .slice b3 D.attrs.length d3] 68)
  have zc := (zC.keep bb2).alloc (.cells #[.int .i64 D.ino, .int .i64 D.kind, .int .i64 D.links, .slice b1 D.data.length d1, .slice b2 D.ents.length d2, .slice b3 D.attrs.length d3] 68)
  have zr := (zR.keep bb2).alloc (.cells #[.int .i64 D.ino, .int .i64 D.kind, .int .i64 D.links, .slice b1 D.data.length d1, .slice b2 D.ents.length d2, .slice b3 D.attrs.length d3] 68)
  have hb2 := B0.trans (bb2.mono B0.size)
  have hb3 := hb2.alloc hb2.size (.cells #[.int .i64 D.ino, .int .i64 D.kind, .int .i64 D.links, .slice b1 D.data.length d1, .slice b2 D.ents.length d2, .slice b3 D.attrs.length d3] 68)
  have hbA : Below w2.heap.size w2 (w2.alloc (.cells #[.int .i64 D.ino, .int .i64 D.kind, .int .i64 D.links, .slice b1 D.data.length d1, .slice b2 D.ents.length d2, .slice b3 D.attrs.length d3] 68)) := (Below.refl _ w2).alloc (Nat.le_refl _) _
  have zX := Blk.new w2 68 #[.int .i64 D.ino, .int .i64 D.kind, .int .i64 D.links, .slice b1 D.data.length d1, .slice b2 D.ents.length d2, .slice b3 D.attrs.length d3]
  have g3 := g2.keep (Nat.le_refl _) hbA
  have hsR : w.heap.size + 1 + 1 < w2.heap.size := (zR.keep bb2).lt
  have HBZ : Hid (w.heap.size ≤ Wz.heap.size) := B0.size
  obtain ⟨X, hX⟩ : ∃ X, w2.heap.size = X := ⟨_, rfl⟩
  obtain ⟨W3, hW3⟩ : ∃ W, w2.alloc (.cells #[.int .i64 D.ino, .int .i64 D.kind, .int .i64 D.links, .slice b1 D.data.length d1, .slice b2 D.ents.length d2, .slice b3 D.attrs.length d3] 68) = W := ⟨_, rfl⟩
  rw [hW3] at zt zc zr hb3 zX g3
  rw [hX] at zX g3
  have hX0 := hX
  have HZT : Hid _ := zt
  have HZC : Hid _ := zc
  have HZR : Hid _ := zr
  have HB3 : Hid _ := hb3
  have HG3 : Hid _ := g3
  have HZX : Hid _ := zX
  have r0 := zr.cell 0
  have r1 := zr.cell 1
  have f0 := zr.frozen 0
  have f1 := zr.frozen 1
  have c2 := zc.cell 2
  have c3 := zc.cell 3
  obtain ⟨x0, x1, x2, x3, x4, x5⟩ := zX.six
  have fx := zX.frozen 3
  simp at r0 r1 c2 c3
  clear hcF zT zC zR g2 bb2 hb2 hbA B0 zt zc zr hb3 g3 zX
  by_cases hc0 : c = 0
  · subst hc0
    rw [if_neg (by simp)] at hCO
    rw [errV_zero]
    have HZCc := Blk.cell HZC.out 3
    simp at HZCc
    have hDm := HMEM.out rfl
    obtain ⟨rD, hrD, hrDD⟩ : ∃ r ∈ rs, r.D = D := by
      rw [← HDS.out] at hDm
      obtain ⟨r, hr, h⟩ := List.mem_map.1 hDm
      exact ⟨r, hr, h⟩
    have hsD : InoSmall D := hrDD ▸ HSM.out rD hrD
    have hwD : (Lit.int .i64 D.ino).wf = true := hrDD ▸ HWF.out rD hrD
    by_cases hfull : (kn : Int) + (dn : Int) > 100
    · rw [if_pos (by rw [HDL.out]; exact hfull)] at hCO
      subst hCO
      have hend : Hid (EMeth w nx TT 5 (.returned (.tuple #[.agg #[.slice none 0 0, .int .i64 0], .iface 139 (.int .i64 5)])) ((W3.setCell ⟨w.heap.size + 1 + 1, 0, none⟩ (.slice none 0 0)).setCell ⟨w.heap.size + 1 + 1, 1, none⟩ (.int .i64 0))) := eMeth_no (by decide) ((HB3.out.setCell (p := ⟨w.heap.size + 1 + 1, 0, none⟩) (by show _ ≤ w.heap.size + 1 + 1; omega) _).setCell (p := ⟨w.heap.size + 1 + 1, 1, none⟩) (by show _ ≤ w.heap.size + 1 + 1; omega) _)
      have zf := blk2 HZR.out (.slice none 0 0) (.int .i64 0)
      have dd0 := zf.cell 0
      have dd1 := zf.cell 1
      simp at dd0 dd1
      clear zf hDm hrD hrDD hsD hwD
      go_wp2
      refine bodyPost_ret (v := .tuple #[.agg #[.slice none 0 0, .int .i64 0], .iface 139 (.int .i64 5)]) (by simp [results, Tryz.f156, go_sem, dd0, dd1]) rfl ?_
      exact hend.out
    rw [if_neg (by rw [HDL.out]; exact hfull)] at hCO
    subst hCO
    have hdl1 : D.data.length ≤ 100 := by rw [← hrDD]; exact HD1.out rD hrD
    obtain ⟨mx, hmx⟩ : ∃ k, max (kn + dn) D.data.length = k := ⟨_, rfl⟩
    have hcZ := sizedI w.heap.size (.slice b1 D.data.length d1) D.data.length mx D.data W3 (own_up HG3.out.data (fun m hm => by have h1 := HG3.out.within m (.inl hm); have h2 := HBZ.out; omega)) (by omega) (by omega) HB3.out.size
    have HSD : Hid _ := hsD
    have HWD : Hid _ := hwD
    have hmi : max ((kn : Int) + (dn : Int)) (D.data.length : Int) = (mx : Int) := by omega
    have HMX : Hid _ := hmx
    have hmb : kn + dn ≤ mx ∧ mx ≤ 100 := by omega
    clear hmx
    clear hDm hrD hrDD hsD hwD
    go_wp2_with fail
    (with_reducible refine hcZ.mono ?_)
    rintro e w4 ⟨v4, rfl, oB, g4⟩
    have o4 : OwnV 0 w4 v4 mx (sizeTo D.data mx) := row_lower oB (Nat.zero_le _)
    obtain ⟨a4, c4, rfl⟩ := ownShape o4
    have zt4 := Blk.row HZT.out (by decide) HG3.out.data g4
    have zc4 := Blk.row HZC.out (by decide) HG3.out.data g4
    have zr4 := Blk.row HZR.out (by decide) HG3.out.data g4
    have zX4 := Blk.row HZX.out (by decide) HG3.out.data g4
    have hk4 : KpT W3 w4 [154, 106] := KpT.row g4 HG3.out.data (by decide)
    have hb4 : Below w.heap.size w w4 := HB3.out.grown g4 HB3.out.size (fun m hm => by have h1 := HG3.out.within m (.inl hm); have h2 := HBZ.out; omega)
    have fx4 := zX4.frozen 3
    have xx3 := zX4.cell 3
    simp at xx3
    have zX5 := zX4.set 3 (.slice a4 mx c4)
    have zt5 := zt4.other (B' := X) (by omega) 3 (.slice a4 mx c4)
    have zc5 := zc4.other (B' := X) (by omega) 3 (.slice a4 mx c4)
    have zr5 := zr4.other (B' := X) (by omega) 3 (.slice a4 mx c4)
    have hk5 : KpT w4 (w4.setCell ⟨X, 3, none⟩ (.slice a4 mx c4)) [154, 106, 5] := KpT.grown (gr_setC w4 X 3 _) zX4 (by decide)
    have o5 : OwnV 0 (w4.setCell ⟨X, 3, none⟩ (.slice a4 mx c4)) (.slice a4 mx c4) mx (sizeTo D.data mx) := row_kp o4 hk5 (by decide)
    have hkk : KpT W3 (w4.setCell ⟨X, 3, none⟩ (.slice a4 mx c4)) [154, 106] := hk4.tr (fun B cur t fr h1 h2 => hk5 B cur t fr h1 (List.mem_append_left [5] h2))
    have hb5 := hb4.setCell (p := ⟨X, 3, none⟩) (show w.heap.size ≤ X by omega) (.slice a4 mx c4)
    have hlo : ∀ g, (Value.slice a4 mx c4).ownBlock = some g → w.heap.size ≤ g := fun g hg => (World.ownsRow.lt oB g hg).1
    obtain ⟨W5, hW5⟩ : ∃ W, w4.setCell ⟨X, 3, none⟩ (.slice a4 mx c4) = W := ⟨_, rfl⟩
    rw [hW5] at zX5 zt5 zc5 zr5 o5 hkk hb5
    have HX5 : Hid _ := zX5
    have HT5 : Hid _ := zt5
    have HR5 : Hid _ := zr5
    have HK5 : Hid _ := hkk
    have HB5 : Hid _ := hb5
    have HO5 : Hid _ := o5
    have HLO : Hid _ := hlo
    have HDR5 : Hid (Rd W5 da dz) := Rd.keep HDR.out hb5
    obtain ⟨x0, x1, x2, x3, x4, x5⟩ := zX5.six
    have c2 := zc5.cell 2
    have c3 := zc5.cell 3
    simp at c2 c3
    have HCAP : Hid (mx ≤ c4 ∨ (a4 = none ∧ mx = 0 ∧ c4 = 0)) := by
      show _ ∨ _
      rcases o5.2 with ⟨h0, h1⟩ | ⟨g', c', cur, h0, _, _, h3, _⟩
      · simp at h0
        exact .inr ⟨h0.1, h1, h0.2.2⟩
      · simp at h0
        obtain ⟨_, rfl⟩ := h0
        exact .inl h3
    have hkn0 : (0 : Int) ≤ (kn : Int) := by omega
    have hknm : (kn : Int) ≤ (mx : Int) := by omega
    clear hcZ o4 g4 hk4 hk5 hb4 hb5 hkk zt4 zc4 zr4 zt5 zc5 zr5 zX5 zX4 r0 r1 f0 f1 o5 hlo oB
    go_upto_region 10 with fail
    go_cut [56] (fun _ wx => Hid (OwnV 0 wx (.slice a4 mx c4) mx (stepB (sizeTo D.data mx) kn dz dz.length) ∧ W5.grownBy wx (Value.slice a4 mx c4).ownBlock))
    case first =>
      by_cases hdz : dz = []
      · have hd0 : dn = 0 := by rw [← HDL.out, hdz]; rfl
        have HH : Hid (OwnV 0 W5.drew (.slice a4 mx c4) mx (stepB (sizeTo D.data mx) kn dz dz.length) ∧ W5.grownBy W5.drew (Value.slice a4 mx c4).ownBlock) := by
          refine ⟨?_, ⟨rfl, rfl, rfl, Nat.le_refl _, fun _ _ _ => rfl⟩⟩
          rw [hdz]
          show OwnV 0 W5 _ _ (stepB _ _ [] 0)
          rw [stepB_zero]
          exact HO5.out
        rcases HO5.out.2 with ⟨h0, h1⟩ | ⟨g, c', cur, h0, _, _, hmc, _⟩
        · simp at h0
          obtain ⟨rfl, -, rfl⟩ := h0
          subst h1
          have hk00 : kn = 0 := by omega
          subst hd0
          subst hk00
          clear hdz
          go_region_law (first
            | (refine step_copy_run rfl _ _ 42 42 rfl _ _ rfl rfl (copy_none _ _ _ _ _ _ _) ?_)
            | fail)
          all_goals (go_wp2_with fail; go_meet; exact HH)
        · simp at h0
          obtain ⟨rfl, rfl⟩ := h0
          subst hd0
          clear hdz
          rcases Nat.lt_or_ge kn c4 with hkc | hkc
          · have hkci : (kn : Int) < (c4 : Int) := by omega
            have hkcl : (kn : Int) ≤ (c4 : Int) := by omega
            clear hmc
            go_region_law (first
              | (refine step_copy_run rfl _ _ 42 42 rfl _ _ rfl rfl (copy_none _ _ _ _ _ _ _) ?_)
              | fail)
            all_goals (go_wp2_with fail; go_meet; exact HH)
          · obtain rfl : mx = c4 := by omega
            obtain rfl : kn = mx := by omega
            clear hmc hkc
            go_region_law (first
              | (refine step_copy_run rfl _ _ 42 42 rfl _ _ rfl rfl (copy_none _ _ _ _ _ _ _) ?_)
              | fail)
            all_goals (go_wp2_with fail; go_meet; exact HH)
      · obtain ⟨b, off, rfl, hlt, hc⟩ := Rd.lt HDR5.out hdz
        have hdp : 0 < dn := by rw [← HDL.out]; exact List.length_pos_iff.2 hdz
        rcases HO5.out.2 with ⟨h0, h1⟩ | ⟨g, c', cur, h0, _, _, hmc, _⟩
        · omega
        simp at h0
        obtain ⟨rfl, rfl⟩ := h0
        obtain ⟨w', hrun, oW, gW⟩ := copy_some W5.drew g kn mx c4 (c4 - kn) b off dn dc (sizeTo D.data mx) dz HO5.out hc HDL.out (by omega)
        have HH : Hid (OwnV 0 w' (.slice (some ⟨g, 0, none⟩) mx c4) mx (stepB (sizeTo D.data mx) kn dz dz.length) ∧ W5.grownBy w' (some g)) := ⟨oW, (show W5.grownBy W5.drew (some g) from ⟨rfl, rfl, rfl, Nat.le_refl _, fun _ _ _ => rfl⟩).trans gW⟩
        have hkci : (kn : Int) < (c4 : Int) := by omega
        have hkcl : (kn : Int) ≤ (c4 : Int) := by omega
        have hne : ¬ c4 = kn := by omega
        have hne' : ¬ kn = c4 := by omega
        clear hc hdz oW gW hmc
        go_region_law (first
          | (refine step_copy_run rfl _ _ 42 42 rfl (.slice (some ⟨g, kn, none⟩) (mx - kn) (c4 - kn)) (.slice (some ⟨b, off, none⟩) dn dc) (by first | rfl | simp [Act.eval, Act.put, hne, hne']) (by first | rfl | simp [Act.eval, Act.put, hne, hne']) (hrun _) ?_)
          | fail)
        all_goals (go_wp2_with fail; go_meet; exact HH)
    case rest =>
      obtain ⟨Wc, hwc⟩ : ∃ W, W = wc := ⟨_, rfl⟩
      subst hwc
      obtain ⟨oc, gc⟩ := hcut.out
      have hsl : (stepB (sizeTo D.data mx) kn dz dz.length).length = mx := oc.len
      have HBy : Hid (Byt (stepB (sizeTo D.data mx) kn dz dz.length)) := byt_step (byt_size HG3.out.byt mx) HDB.out _ _
      have zX6 := Blk.row HX5.out (by decide) HO5.out gc
      have zt6 := Blk.row HT5.out (by decide) HO5.out gc
      have zr6 := Blk.row HR5.out (by decide) HO5.out gc
      have hk6 : KpT W5 Wc [154, 106] := KpT.row gc HO5.out (by decide)
      have g6 := inoG_data HG3.out (KpT.tr HK5.out hk6) oc HBy.out
      have hb6 : Below w.heap.size w Wc := HB5.out.grown gc HB5.out.size (fun m hm => HLO.out m hm)
      have hTTd : stepB (sizeTo D.data (max (kn + dz.length) D.data.length)) kn dz dz.length = stepB (sizeTo D.data mx) kn dz dz.length := by rw [HDL.out, HMX.out]
      rw [hTTd] at HTT
      obtain ⟨dd, hdd⟩ : ∃ l, stepB (sizeTo D.data mx) kn dz dz.length = l := ⟨_, rfl⟩
      rw [hdd] at HTT g6 hsl
      have hrd6 : InoRd Wc { D with data := dd } a4 b2 b3 := InoG.rds (B := 0) (T := Wc.heap.size) (c1 := c4) (c2 := d2) (c3 := d3) (by show InoG Wc 0 Wc.heap.size _ (.slice a4 dd.length c4) (.slice b2 D.ents.length d2) (.slice b3 D.attrs.length d3); rw [hsl]; exact g6)
      have hsx : InoSmall { D with data := dd } := ⟨by show dd.length ≤ _; rw [hsl]; omega, HSD.out.ents, HSD.out.attrs, HSD.out.entsz, HSD.out.attrsz⟩
      have hcI := setI a n cap nx rs { D with data := dd } a4 b2 b3 c4 d2 d3 Wc HLEN.out HNN.out HWD.out HWF.out HSM.out hsx (RdI.keep HRD.out hb6) hrd6
      dsimp only at hcI
      rw [hsl] at hcI
      obtain ⟨x0, x1, x2, x3, x4, x5⟩ := zX6.six
      have t0 := zt6.cell 0
      have t1 := zt6.cell 1
      simp at t0 t1
      have HZR5 : Hid _ := zr6
      have HB6 : Hid _ := hb6
      clear oc gc hk6 g6 hb6 hrd6 hsx zt6 zr6 zX6 hsl hdd hTTd c2 c3 HCAP
      go_wp2_with fail
      (with_reducible refine hcI.mono ?_)
      intro e w6 hp6
      obtain ⟨v6, rfl, ht6⟩ := hp6.tab
      rw [setD_eq, HDS.out] at ht6
      dsimp only at ht6
      rw [HTT.out] at ht6
      have ht6' := ht6
      obtain ⟨ra, rc, js, rfl, _, b6⟩ := ht6'
      obtain ⟨rn, hrn⟩ : ∃ rn, js.length = rn := ⟨_, rfl⟩
      rw [hrn] at ht6 ⊢
      have HFIN : Hid (EMeth w nx TT 0 (.returned (.tuple #[.agg #[.slice ra rn rc, .int .i64 nx], .nilIface])) ((w6.setCell ⟨w.heap.size + 1 + 1, 0, none⟩ (.slice ra rn rc)).setCell ⟨w.heap.size + 1 + 1, 1, none⟩ (.int .i64 nx))) := eMeth_yes ht6 HB6.out (by omega) HZR5.out
      have zr7 := Blk.keep HZR5.out b6
      have r0 := zr7.cell 0
      have r1 := zr7.cell 1
      have f0 := zr7.frozen 0
      have f1 := zr7.frozen 1
      simp at r0 r1
      have zf := blk2 zr7 (.slice ra rn rc) (.int .i64 nx)
      have dd0 := zf.cell 0
      have dd1 := zf.cell 1
      simp at dd0 dd1
      clear hcI hp6 ht6 zf zr7 b6 x0 x1 x2 x3 x4 x5 t0 t1 hrn
      go_wp2
      refine bodyPost_ret (v := .tuple #[.agg #[.slice ra rn rc, .int .i64 nx], .nilIface]) (by simp [results, Tryz.f156, go_sem, dd0, dd1]) rfl ?_
      exact HFIN.out
  · rw [if_pos hc0] at hCO
    subst hCO
    have hend : Hid (∀ W : World, Below W3.heap.size W3 W → EMeth w nx TT c (.returned (.tuple #[.agg #[.slice none 0 0, .int .i64 0], .iface 139 (.int .i64 c)])) ((W.setCell ⟨w.heap.size + 1 + 1, 0, none⟩ (.slice none 0 0)).setCell ⟨w.heap.size + 1 + 1, 1, none⟩ (.int .i64 0))) := fun W hW => eMeth_no hc0 (((HB3.out.trans (hW.mono HB3.out.size)).setCell (p := ⟨w.heap.size + 1 + 1, 0, none⟩) (by show _ ≤ w.heap.size + 1 + 1; omega) _).setCell (p := ⟨w.heap.size + 1 + 1, 1, none⟩) (by show _ ≤ w.heap.size + 1 + 1; omega) _)
    rw [errV_some hc0]
    have zf := blk2 HZR.out (.slice none 0 0) (.int .i64 0)
    have dd0 := zf.cell 0
    have dd1 := zf.cell 1
    simp at dd0 dd1
    clear hc0 zf x0 x1 x2 x3 x4 x5 fx
    go_wp2
    refine bodyPost_ret (v := .tuple #[.agg #[.slice none 0 0, .int .i64 0], .iface 139 (.int .i64 c)]) (by simp [results, Tryz.f156, go_sem, dd0, dd1]) rfl ?_
    exact hend.out W3 (Below.refl _ _)
end

section
open Go.RowKit
theorem idx_writeAt (w : World) : (Instr.index 151 (.agg #[.func (.func 154) #[] #[], .func (.func 155) #[] #[], .func (.func 156) #[] #[], .func (.func 157) #[] #[], .func (.func 158) #[] #[], .func (.func 159) #[] #[], .func (.func 160) #[] #[], .func (.func 161) #[] #[], .func (.func 162) #[] #[]]) (.int .i64 2)).run Tryz.prog w = .ok (.func (.func 156) #[] #[]) w := by kernel_rfl
set_option maxRecDepth 100000 in
set_option maxHeartbeats 4000000 in
theorem changed_writeAt (a : Option Addr) (n cap : Nat) (nx : Int) (rs : List InoR) (p q : ByteArray) (k : Int) (da : Option Addr) (dn dc : Nat) (an av : ByteArray) (w : World) (ht : TR w a n rs) (hwf : ∀ r ∈ rs, (Lit.int .i64 r.D.ino).wf = true) (het : EtCell w) (nx' : Int) (ds' : List InoD) (c : Int) (N : Int) (D : List InoD) (C : Int)
    (h1 : treeD nx (rs.map InoR.D) = false → N = nx ∧ D = rs.map InoR.D ∧ C = 1) (h2 : treeD nx (rs.map InoR.D) = true → c ≠ 0 → N = nx ∧ D = rs.map InoR.D ∧ C = c) (h3 : treeD nx (rs.map InoR.D) = true → c = 0 → N = nx' ∧ D = ds' ∧ C = 0)
    (hm : treeD nx (rs.map InoR.D) = true → ∀ W : World, Below w.heap.size w W → Calls Tryz.prog 156 #[.agg #[.slice a n cap, .int .i64 nx], .agg #[.string p, .string q, .int .i64 k, .slice da dn dc, .string an, .string av]] W fun e w' => EMeth W nx' ds' c e w') :
    Calls Tryz.prog 76 #[.agg #[.slice a n cap, .int .i64 nx], .int .i64 2, .agg #[.string p, .string q, .int .i64 k, .slice da dn dc, .string an, .string av]] w fun e w' => TabC w N D C e w' := by
  have B0 : Below w.heap.size w (((w.alloc (.cells #[.slice a n cap, .int .i64 nx] 47)).alloc (.cells #[.string p, .string q, .int .i64 k, .slice da dn dc, .string an, .string av] 108)).alloc (.cells #[.slice none 0 0, .int .i64 0] 47)) := (((Below.refl _ w).alloc (Nat.le_refl _) _).alloc (by simp) _).alloc (by simp; omega) _
  have zT := ((Blk.new w 47 #[.slice a n cap, .int .i64 nx]).alloc (.cells #[.string p, .string q, .int .i64 k, .slice da dn dc, .string an, .string av] 108)).alloc (.cells #[.slice none 0 0, .int .i64 0] 47)
  have zC := (Blk.new (w.alloc (.cells #[.slice a n cap, .int .i64 nx] 47)) 108 #[.string p, .string q, .int .i64 k, .slice da dn dc, .string an, .string av]).alloc (.cells #[.slice none 0 0, .int .i64 0] 47)
  have zR := Blk.new ((w.alloc (.cells #[.slice a n cap, .int .i64 nx] 47)).alloc (.cells #[.string p, .string q, .int .i64 k, .slice da dn dc, .string an, .string av] 108)) 47 #[.slice none 0 0, .int .i64 0]
  simp only [World.size_alloc] at zC zR
  have hcT := treeI a n cap nx rs _ (ht.keep B0) hwf
  go_enter Tryz.func76, Tryz.ntmps76
  go_wp2_with fail
  obtain ⟨W0, hW0⟩ : ∃ W, (((w.alloc (.cells #[.slice a n cap, .int .i64 nx] 47)).alloc (.cells #[.string p, .string q, .int .i64 k, .slice da dn dc, .string an, .string av] 108)).alloc (.cells #[.slice none 0 0, .int .i64 0] 47)) = W := ⟨_, rfl⟩
  rw [hW0] at B0 zT zC zR hcT ⊢
  clear hW0
  (with_reducible refine hcT.mono ?_)
  rintro e w1 ⟨rfl, b1⟩
  clear hcT
  have hb1 := B0.trans (b1.mono B0.size)
  have zt := zT.keep b1
  have zc := zC.keep b1
  have zr := zR.keep b1
  have HT1 : Hid _ := ht.keep hb1
  have HE1 : Hid _ := het.keep hb1
  clear zT zC zR b1 ht het B0
  have t0 := zt.cell 0
  have t1 := zt.cell 1
  simp at t0 t1
  cases htr : treeD nx (rs.map InoR.D) with
  | false =>
    obtain ⟨rfl, rfl, rfl⟩ := h1 htr
    have hcC := copyTab_any a n cap N rs w1 HT1.out.len HT1.out.n HT1.out.small HT1.out.rd
    have HB1 : Hid _ := hb1
    have HZR : Hid _ := zr
    clear h1 h2 h3 hm htr hb1
    go_wp2_with fail
    (with_reducible refine hcC.mono ?_)
    intro e w2 hp2
    obtain ⟨g, rfl, b2, hfin⟩ := copyT hp2 HB1.out (by omega) HZR.out
    have zr2 := Blk.keep HZR.out b2
    have r0 := zr2.cell 0
    have r1 := zr2.cell 1
    have f0 := zr2.frozen 0
    have f1 := zr2.frozen 1
    simp at r0 r1
    have HFIN : Hid _ := hfin w2 (Below.refl _ _) 1
    have zf := blk2 zr2 (.slice (some ⟨g, 0, none⟩) n n) (.int .i64 N)
    have dd0 := zf.cell 0
    have dd1 := zf.cell 1
    simp at dd0 dd1
    clear hcC hp2 hfin zr2 zt zc zr t0 t1 zf
    go_wp2
    refine bodyPost_ret (v := .tuple #[.agg #[.slice (some ⟨g, 0, none⟩) n n, .int .i64 N], .int .i64 1]) (by simp [results, Tryz.f76, go_sem, dd0, dd1]) rfl ?_
    exact HFIN.out
  | true =>
    have hmm := hm htr
    have c0 := zc.cell 0
    have c1 := zc.cell 1
    have c2 := zc.cell 2
    have c3 := zc.cell 3
    have c4 := zc.cell 4
    have c5 := zc.cell 5
    simp at c0 c1 c2 c3 c4 c5
    have HB1 : Hid _ := hb1
    have HZR : Hid _ := zr
    have HZT : Hid _ := zt
    have HZC : Hid _ := zc
    have HMM : Hid _ := hmm
    have HH2 : Hid _ := h2 htr
    have HH3 : Hid _ := h3 htr
    have cC := changesI w1.drew
    have hsz : w.heap.size + 1 + 1 < w1.heap.size := zr.lt
    have hK : Hid (∀ W : World, Below w1.heap.size w1 W → W.cell? ⟨w.heap.size, 0, none⟩ = some (.slice a n cap) ∧ W.cell? ⟨w.heap.size, 1, none⟩ = some (.int .i64 nx) ∧ W.cell? ⟨w.heap.size + 1, 0, none⟩ = some (.string p) ∧ W.cell? ⟨w.heap.size + 1, 1, none⟩ = some (.string q) ∧ W.cell? ⟨w.heap.size + 1, 2, none⟩ = some (.int .i64 k) ∧ W.cell? ⟨w.heap.size + 1, 3, none⟩ = some (.slice da dn dc) ∧ W.cell? ⟨w.heap.size + 1, 4, none⟩ = some (.string an) ∧ W.cell? ⟨w.heap.size + 1, 5, none⟩ = some (.string av)) := fun W hW => by
      have z1 := Blk.keep HZT.out hW
      have z2 := Blk.keep HZC.out hW
      exact ⟨z1.cell 0, z1.cell 1, z2.cell 0, z2.cell 1, z2.cell 2, z2.cell 3, z2.cell 4, z2.cell 5⟩
    clear h1 h2 h3 hm htr hmm zt zc zr hb1
    go_upto_region 3 with fail
    have n0 : w1.heap.size ≠ w.heap.size := by omega
    have n1 : w1.heap.size ≠ w.heap.size + 1 := by omega
    have cC2 := changesI (w1.alloc (.cells #[.slice none 0 0, .int .i64 0] 47)).drew
    have zW1 := Blk.new w1 47 #[.slice none 0 0, .int .i64 0]
    have hix := idx_writeAt
    go_cut [8, 9] from 8 to 31 (fun bx er wx => ∃ (A : Nat) (ra : Option Addr) (rn rc : Nat) (rx : Int), bx = .pointer (some ⟨A, 0, none⟩) ∧ er = errV c ∧ Hid (CHR w1 nx' ds' c A (.slice ra rn rc) (.int .i64 rx) wx))
    case first =>
      go_region_held3 (fun W : World => W.cell? ⟨w.heap.size, 0, none⟩ = some (.slice a n cap) ∧ W.cell? ⟨w.heap.size, 1, none⟩ = some (.int .i64 nx) ∧ W.cell? ⟨w.heap.size + 1, 0, none⟩ = some (.string p) ∧ W.cell? ⟨w.heap.size + 1, 1, none⟩ = some (.string q) ∧ W.cell? ⟨w.heap.size + 1, 2, none⟩ = some (.int .i64 k) ∧ W.cell? ⟨w.heap.size + 1, 3, none⟩ = some (.slice da dn dc) ∧ W.cell? ⟨w.heap.size + 1, 4, none⟩ = some (.string an) ∧ W.cell? ⟨w.heap.size + 1, 5, none⟩ = some (.string av)) (go_keep) (first
        | (go_at_call 110; (with_reducible refine cC.mono ?_); rintro e w10 ⟨rfl, b10⟩; have B10 : Below w1.heap.size w1 w10 := (Below.refl _ w1).drew.trans b10; have K10 := hK.out w10 B10; obtain ⟨p0, p1, p2, p3, p4, p5, p6, p7⟩ := K10; have n2 : w10.heap.size ≠ w.heap.size := (by have := B10.size; omega); have n3 : w10.heap.size ≠ w.heap.size + 1 := (by have := B10.size; omega); have hm10 := HMM.out w10 (HB1.out.trans (B10.mono HB1.out.size)); have hm10a := HMM.out (w10.alloc (.cells #[.slice none 0 0, .int .i64 0] 47)) ((HB1.out.trans (B10.mono HB1.out.size)).alloc (by have := HB1.out.size; have := B10.size; omega) _))
        | (go_at_call 110; (with_reducible refine cC2.mono ?_); rintro e w11 ⟨rfl, b11⟩; have B11 : Below w1.heap.size w1 w11 := ((Below.refl _ w1).alloc (Nat.le_refl _) _).drew.trans (b11.mono (by show _ ≤ (w1.alloc _).heap.size; simp)); have K11 := hK.out w11 B11; obtain ⟨p0, p1, p2, p3, p4, p5, p6, p7⟩ := K11; have z11 : Blk w11 w1.heap.size 47 #[.slice none 0 0, .int .i64 0] := Blk.keep (Blk.drew zW1) b11; have hm11 := HMM.out w11 (HB1.out.trans (B11.mono HB1.out.size)))
        | (go_at_call 156; (with_reducible refine hm10.mono ?_); rintro e w12 ⟨ra, rn, rc, rx, rfl, b12, t12⟩; have B12 : Below w1.heap.size w1 w12 := B10.trans (b12.mono B10.size); have K12 := hK.out w12 B12; obtain ⟨q0, q1, q2, q3, q4, q5, q6, q7⟩ := K12)
        | (go_at_call 156; (with_reducible refine hm10a.mono ?_); rintro e w13 ⟨ra, rn, rc, rx, rfl, b13, t13⟩; have B13 : Below w1.heap.size w1 w13 := (B10.alloc B10.size _).trans (b13.mono (by have := B10.size; simp; omega)); have z13 := (Blk.new w10 47 #[.slice none 0 0, .int .i64 0]).keep b13; have u0 := z13.cell 0; have u1 := z13.cell 1; have x0 := z13.frozen 0; have x1 := z13.frozen 1; simp at u0 u1; have K13 := hK.out w13 B13; obtain ⟨q0, q1, q2, q3, q4, q5, q6, q7⟩ := K13)
        | (go_at_call 156; (with_reducible refine hm11.mono ?_); rintro e w14 ⟨ra, rn, rc, rx, rfl, b14, t14⟩; have B14 : Below w1.heap.size w1 w14 := B11.trans (b14.mono B11.size); have z14 := z11.keep b14; have u0 := z14.cell 0; have u1 := z14.cell 1; have x0 := z14.frozen 0; have x1 := z14.frozen 1; simp at u0 u1; have K14 := hK.out w14 B14; obtain ⟨q0, q1, q2, q3, q4, q5, q6, q7⟩ := K14))
      all_goals (go_wp2_with fail; go_meet)
      all_goals first
        | (have h := chr_new B12 b12 B10.size t12; exact ⟨_, _, _, _, _, rfl, rfl, h⟩)
        | (have h := chr_old B13 B10.size z13 (by simp) t13; exact ⟨_, _, _, _, _, rfl, rfl, h⟩)
        | (have h := chr_old B14 (Nat.le_refl _) z14 (Blk.lt z11) t14; exact ⟨_, _, _, _, _, rfl, rfl, h⟩)
        | fail
    case rest =>
      obtain ⟨A, ra, rn, rc, rx, rfl, rfl, hR⟩ := hcut
      obtain ⟨Wc, hwc⟩ : ∃ W, W = wc := ⟨_, rfl⟩
      subst hwc
      clear t0 t1 c0 c1 c2 c3 c4 c5 cC cC2 zW1 hK HMM n0 n1
      have zt := Blk.keep HZT.out hR.out.b
      have zr := Blk.keep HZR.out hR.out.b
      have hbc := HB1.out.trans (hR.out.b.mono HB1.out.size)
      have t0 := zt.cell 0
      have t1 := zt.cell 1
      simp at t0 t1
      by_cases hc0 : c = 0
      · obtain ⟨rfl, rfl, rfl⟩ := HH3.out hc0
        subst hc0
        rw [errV_zero]
        have HFIN : Hid _ := methT (hR.out.tab rfl) HB1.out (by omega) HZR.out Wc (Below.refl _ _)
        have a0 := hR.out.z.cell 0
        have a1 := hR.out.z.cell 1
        have r0 := zr.cell 0
        have r1 := zr.cell 1
        have f0 := zr.frozen 0
        have f1 := zr.frozen 1
        simp at a0 a1 r0 r1
        have zf := blk2 zr (.slice ra rn rc) (.int .i64 rx)
        have dd0 := zf.cell 0
        have dd1 := zf.cell 1
        simp at dd0 dd1
        clear zt zr zf hbc HH2 HH3 HT1 HE1 t0 t1
        go_wp2
        refine bodyPost_ret (v := .tuple #[.agg #[.slice ra rn rc, .int .i64 rx], .int .i64 0]) (by simp [results, Tryz.f76, go_sem, dd0, dd1]) rfl ?_
        exact HFIN.out
      · obtain ⟨rfl, rfl, rfl⟩ := HH2.out hc0
        rw [errV_some hc0]
        have hTc := HT1.out.keep hR.out.b
        have hEc := EtCell.keep HE1.out hR.out.b
        have hcC := copyTab_any a n cap N rs Wc hTc.len hTc.n hTc.small hTc.rd
        have HZ : Hid _ := zr
        have HBC : Hid _ := hbc
        have HEC : Hid _ := hEc
        have HC0 : Hid _ := hc0
        clear zt zr hbc HH2 HH3 HT1 HE1 hTc hEc hc0
        go_wp2_with fail
        (with_reducible refine hcC.mono ?_)
        intro e w2 hp2
        obtain ⟨g, rfl, b2, hfin⟩ := copyT hp2 HBC.out (by omega) HZ.out
        have hcO := codeOfI C w2 (EtCell.keep HEC.out b2)
        rw [errV_some HC0.out] at hcO
        clear hcC hp2 t0 t1
        go_wp2_with fail
        (with_reducible refine hcO.mono ?_)
        rintro e w3 ⟨rfl, b3⟩
        have zr3 := (Blk.keep HZ.out b2).keep b3
        have r0 := zr3.cell 0
        have r1 := zr3.cell 1
        have f0 := zr3.frozen 0
        have f1 := zr3.frozen 1
        simp at r0 r1
        have HFIN : Hid _ := hfin w3 b3 C
        have zf := blk2 zr3 (.slice (some ⟨g, 0, none⟩) n n) (.int .i64 N)
        have dd0 := zf.cell 0
        have dd1 := zf.cell 1
        simp at dd0 dd1
        clear hcO hfin zr3 zf
        go_wp2
        refine bodyPost_ret (v := .tuple #[.agg #[.slice (some ⟨g, 0, none⟩) n n, .int .i64 N], .int .i64 C]) (by simp [results, Tryz.f76, go_sem, dd0, dd1]) rfl ?_
        exact HFIN.out
end

section
open Go.RowKit
theorem size_grow (d : List Int) (m : Nat) : sizeTo d (max m d.length) = growB d m := by
  rw [sizeTo_gt (Nat.le_max_right _ _)]
  unfold growB
  have : max m d.length - d.length = m - d.length := by omega
  rw [this]
theorem write_data (d : List Int) (o : Nat) (dz : List Int) : stepB (sizeTo d (max (o + dz.length) d.length)) o dz dz.length = writeB d o dz := by
  rw [size_grow, stepB_end]
theorem writeAtI (a : Option Addr) (n cap : Nat) (nx : Int) (rs : List InoR) (s : ByteArray) (k : Int) (da : Option Addr) (dn dc : Nat) (dz : List Int) (w : World) (ht : TR w a n rs) (hwf : ∀ r ∈ rs, (Lit.int .i64 r.D.ino).wf = true) (het : EtCell w) (hs : s.size ≤ 4000000) (hdl : dz.length = dn) (hdn : dn ≤ 1048576) (hdr : Rd w da dz) (hdb : Byt dz) :
    Calls Tryz.prog 33 #[.agg #[.slice a n cap, .int .i64 nx], .string s, .int .i64 k, .slice da dn dc] w fun e w' => TabC w nx (writeD nx (rs.map InoR.D) s k dz).1 (writeD nx (rs.map InoR.D) s k dz).2 e w' := by
  refine wrap_WriteAt a n cap nx s k da dn dc w nx _ _ (fun W hW => ?_)
  refine changed_writeAt a n cap nx rs s ⟨#[]⟩ k da dn dc ⟨#[]⟩ ⟨#[]⟩ W (ht.keep hW) hwf (het.keep hW) nx (writeT (rs.map InoR.D) s k dz) (writeC (rs.map InoR.D) s k dz) nx _ _ ?_ ?_ ?_ ?_
  · intro h
    unfold writeD
    rw [h, if_pos (.inl rfl)]
    exact ⟨rfl, rfl, rfl⟩
  · intro h hc
    have hk := (tree_facts h).1
    have hb := badK_file (ds := rs.map InoR.D) (fun D hD => by obtain ⟨r, hr, rfl⟩ := List.mem_map.1 hD; exact hk r hr) s
    unfold writeC at hc
    unfold writeD writeC
    rw [hb] at hc ⊢
    by_cases hr : ¬ (0 ≤ k ∧ k ≤ 100)
    · rw [if_pos hr, if_pos (.inr (.inr hr))]
      exact ⟨rfl, rfl, rfl⟩
    · rw [if_neg hr] at hc ⊢
      cases hsp : (splitOf s.data.toList).isSome with
      | false =>
        rw [if_pos (.inr (.inl rfl)), file_form hsp]
        exact ⟨rfl, rfl, rfl⟩
      | true =>
        rw [if_neg (by simp [h]; omega)]
        by_cases h0 : (fileD (rs.map InoR.D) s).2 = 0
        · by_cases hf : k + (dz.length : Int) > 100
          · have hf' : 100 - k < (dz.length : Int) := by omega
            refine ⟨rfl, ?_, ?_⟩ <;> simp [h0, hf, hf']
          · rw [if_neg (by simp [h0]), if_neg hf] at hc
            exact absurd rfl hc
        · refine ⟨rfl, ?_, ?_⟩ <;> simp [h0]
  · intro h hc
    have hk := (tree_facts h).1
    have hb := badK_file (ds := rs.map InoR.D) (fun D hD => by obtain ⟨r, hr, rfl⟩ := List.mem_map.1 hD; exact hk r hr) s
    unfold writeC at hc
    unfold writeD writeT
    rw [hb] at hc ⊢
    by_cases hr : ¬ (0 ≤ k ∧ k ≤ 100)
    · rw [if_pos hr] at hc
      exact absurd hc (by decide)
    · rw [if_neg hr] at hc
      by_cases h0 : (fileD (rs.map InoR.D) s).2 = 0
      · rw [if_neg (by simp [h0])] at hc
        cases hsp : (splitOf s.data.toList).isSome with
        | false => rw [file_form hsp] at h0; exact absurd h0 (by decide)
        | true =>
          by_cases hf : k + (dz.length : Int) > 100
          · rw [if_pos hf] at hc
            exact absurd hc (by decide)
          · rw [if_neg (by simp [h]; omega), if_neg (by omega), if_neg (by simp [h0]), write_data]
            exact ⟨rfl, rfl, rfl⟩
      · rw [if_pos h0] at hc
        exact absurd hc h0
  · intro h W' hW'
    obtain ⟨f1, f2, f3⟩ := tree_facts h
    have hd := tree_data h
    exact writeM a n cap nx rs s ⟨#[]⟩ k da dn dc ⟨#[]⟩ ⟨#[]⟩ W' ((ht.keep hW).keep hW') f1 f2 f3 hs (fun r hr => hd r.D (List.mem_map_of_mem hr)) dz hdl hdn ((hdr.keep hW).keep hW') hdb
end

section
open Go.RowKit
/-- A file that is set anew, as a file: a walk does not see it. -/
theorem walkD_file {ds : List InoD} {N M : InoD} (hN : look ds N.ino = some M) (h1 : M.kind ≠ 2) (h2 : N.kind ≠ 2) : ∀ (l : List ByteArray) (x : Int), walkD (setD ds N) x l = walkD ds x l
  | [], x => rfl
  | nm :: l, x => by
    unfold walkD
    rw [look_setD]
    by_cases hx : x = N.ino
    · rw [if_pos hx, hx, hN]
      dsimp only
      rw [if_neg h1, if_neg h2]
    · rw [if_neg hx]
      cases hl : look ds x with
      | none => rfl
      | some D =>
        dsimp only
        rw [walkD_file hN h1 h2 l]
theorem badK_filed {ds : List InoD} {N M : InoD} (hN : look ds N.ino = some M) (h1 : M.kind = 1) (h2 : N.kind = 1) (s : ByteArray) : badK 1 (setD ds N) s = badK 1 ds s := by
  have hw : walkP (setD ds N) s = walkP ds s := by
    unfold walkP
    cases splitOf s.data.toList with
    | none => rfl
    | some l => exact walkD_file hN (by omega) (by omega) _ 1
  unfold badK statD
  rw [hw, look_setD]
  by_cases h0 : (walkP ds s).2 = 0
  · rw [if_pos h0, if_pos h0]
    by_cases hx : (walkP ds s).1 = N.ino
    · rw [if_pos hx, hx, hN]
      dsimp only
      rw [if_pos ⟨rfl, h2⟩, if_pos ⟨rfl, h1⟩]
    · rw [if_neg hx]
  · rw [if_neg h0, if_neg h0]
end
end Go.Proofs.YtbjfihabkpianaaGreatDoor
