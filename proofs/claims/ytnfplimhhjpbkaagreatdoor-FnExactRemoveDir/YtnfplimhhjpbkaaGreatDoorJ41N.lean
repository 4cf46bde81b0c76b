/-
  Joined: WrapI, TruncT, UnlinkT, FnExactUnlinkW.
-/
import Derived.Test.YtnfplimhhjpbkaaGreatDoorJ40N
namespace Go.Proofs.YtnfplimhhjpbkaaGreatDoor
section
open Go.RowKit
theorem tabC_box {w W V : World} {nx : Int} {ds : List InoD} {c : Int} {e : Ending} {R : Nat} {u0 u1 : Value} (h : TabC W nx ds c e V) (hb : Below w.heap.size w W) (hR : w.heap.size ≤ R) (hz : Blk W R 26 #[u0, u1]) : ∃ (a : Option Addr) (m cc : Nat), e = .returned (.tuple #[.agg #[.slice a m cc, .int .i64 nx], .int .i64 c]) ∧ Blk V R 26 #[u0, u1] ∧ TabC w nx ds c (.returned (.tuple #[.agg #[.slice a m cc, .int .i64 nx], .int .i64 c])) ((V.setCell ⟨R, 0, none⟩ (.slice a m cc)).setCell ⟨R, 1, none⟩ (.int .i64 nx)) := by
  obtain ⟨a, cc, js, rfl, hq, hbV⟩ := h
  have := hq.boxed (hb.trans (hbV.mono hb.size)) hR hz.lt (.slice a js.length cc) (.int .i64 nx)
  exact ⟨a, js.length, cc, rfl, hz.keep hbV, a, cc, js, rfl, this.1, this.2⟩
set_option maxRecDepth 100000 in
set_option maxHeartbeats 4000000 in
theorem wrap_Unlink (a : Option Addr) (n cap : Nat) (nx : Int) (s : ByteArray) (w : World) (N : Int) (D : List InoD) (C : Int)
    (hc : ∀ W : World, Below w.heap.size w W → Calls Tryz.prog 81 #[.agg #[.slice a n cap, .int .i64 nx], .int .i64 4, .agg #[.string s, .string ⟨#[]⟩, .int .i64 0, .slice none 0 0, .string ⟨#[]⟩, .string ⟨#[]⟩]] W fun e w' => TabC W N D C e w') :
    Calls Tryz.prog 37 #[.agg #[.slice a n cap, .int .i64 nx], .string s] w fun e w' => TabC w N D C e w' := by
  have B0 : Below w.heap.size w ((w.alloc (.cells #[.slice a n cap, .int .i64 nx] 26)).alloc (.cells #[.slice none 0 0, .int .i64 0] 26)) := ((Below.refl _ w).alloc (Nat.le_refl _) _).alloc (by simp) _
  have zR := Blk.new (w.alloc (.cells #[.slice a n cap, .int .i64 nx] 26)) 26 #[.slice none 0 0, .int .i64 0]
  simp only [World.size_alloc] at zR
  go_enter Tryz.func37, Tryz.ntmps37
  go_wp2_with fail
  obtain ⟨W0, hW0⟩ : ∃ W, ((w.alloc (.cells #[.slice a n cap, .int .i64 nx] 26)).alloc (.cells #[.slice none 0 0, .int .i64 0] 26)) = W := ⟨_, rfl⟩
  rw [hW0] at B0 zR ⊢
  clear hW0
  (with_reducible refine (hc W0 B0).mono ?_)
  intro e w2 hp
  obtain ⟨ra, rn, rc, rfl, zz, hfin⟩ := tabC_box hp B0 (by omega) zR
  have HFIN : Hid (TabC w N D C (.returned (.tuple #[.agg #[.slice ra rn rc, .int .i64 N], .int .i64 C])) ((w2.setCell ⟨w.heap.size + 1, 0, none⟩ (.slice ra rn rc)).setCell ⟨w.heap.size + 1, 1, none⟩ (.int .i64 N))) := hfin
  have r0 := zz.cell 0
  have r1 := zz.cell 1
  have f0 := zz.frozen 0
  have f1 := zz.frozen 1
  simp at r0 r1
  have zf := blk2 zz (.slice ra rn rc) (.int .i64 N)
  have dd0 := zf.cell 0
  have dd1 := zf.cell 1
  simp at dd0 dd1
  clear hp hfin zf zz zR B0 hc
  go_wp2
  refine bodyPost_ret (v := .tuple #[.agg #[.slice ra rn rc, .int .i64 N], .int .i64 C]) (by simp [results, Tryz.f37, go_sem, dd0, dd1]) rfl ?_
  exact HFIN.out
set_option maxRecDepth 100000 in
set_option maxHeartbeats 4000000 in
theorem wrap_RemoveDir (a : Option Addr) (n cap : Nat) (nx : Int) (s : ByteArray) (w : World) (N : Int) (D : List InoD) (C : Int)
    (hc : ∀ W : World, Below w.heap.size w W → Calls Tryz.prog 81 #[.agg #[.slice a n cap, .int .i64 nx], .int .i64 5, .agg #[.string s, .string ⟨#[]⟩, .int .i64 0, .slice none 0 0, .string ⟨#[]⟩, .string ⟨#[]⟩]] W fun e w' => TabC W N D C e w') :
    Calls Tryz.prog 38 #[.agg #[.slice a n cap, .int .i64 nx], .string s] w fun e w' => TabC w N D C e w' := by
  have B0 : Below w.heap.size w ((w.alloc (.cells #[.slice a n cap, .int .i64 nx] 26)).alloc (.cells #[.slice none 0 0, .int .i64 0] 26)) := ((Below.refl _ w).alloc (Nat.le_refl _) _).alloc (by simp) _
  have zR := Blk.new (w.alloc (.cells #[.slice a n cap, .int .i64 nx] 26)) 26 #[.slice none 0 0, .int .i64 0]
  simp only [World.size_alloc] at zR
  go_enter Tryz.func38, Tryz.ntmps38
  go_wp2_with fail
  obtain ⟨W0, hW0⟩ : ∃ W, ((w.alloc (.cells #[.slice a n cap, .int .i64 nx] 26)).alloc (.cells #[.slice none 0 0, .int .i64 0] 26)) = W := ⟨_, rfl⟩
  rw [hW0] at B0 zR ⊢
  clear hW0
  (with_reducible refine (hc W0 B0).mono ?_)
  intro e w2 hp
  obtain ⟨ra, rn, rc, rfl, zz, hfin⟩ := tabC_box hp B0 (by omega) zR
  have HFIN : Hid (TabC w N D C (.returned (.tuple #[.agg #[.slice ra rn rc, .int .i64 N], .int .i64 C])) ((w2.setCell ⟨w.heap.size + 1, 0, none⟩ (.slice ra rn rc)).setCell ⟨w.heap.size + 1, 1, none⟩ (.int .i64 N))) := hfin
  have r0 := zz.cell 0
  have r1 := zz.cell 1
  have f0 := zz.frozen 0
  have f1 := zz.frozen 1
  simp at r0 r1
  have zf := blk2 zz (.slice ra rn rc) (.int .i64 N)
  have dd0 := zf.cell 0
  have dd1 := zf.cell 1
  simp at dd0 dd1
  clear hp hfin zf zz zR B0 hc
  go_wp2
  refine bodyPost_ret (v := .tuple #[.agg #[.slice ra rn rc, .int .i64 N], .int .i64 C]) (by simp [results, Tryz.f38, go_sem, dd0, dd1]) rfl ?_
  exact HFIN.out
end

section
open Go.RowKit
theorem stat_in {ds : List InoD} {s : ByteArray} (h : (statD ds s).2 = 0) : (statD ds s).1 ∈ ds := by
  revert h
  unfold statD
  split
  · split
    · intro h; simp at h
    · rename_i D hD
      intro _
      exact (look_mem hD).1
  · rename_i hc
    intro h
    exact absurd h hc
theorem file_in {ds : List InoD} {s : ByteArray} (h : (fileD ds s).2 = 0) : (fileD ds s).1 ∈ ds := by
  unfold fileD at h ⊢
  split at h
  · simp at h
  · rename_i hc
    rw [if_neg hc]
    exact stat_in h
end

section
open Go.RowKit
theorem good_dropLast {zs : List Str} (h : good zs = true) : good zs.dropLast = true := good_prefix h (List.dropLast_prefix zs)
theorem split_parent {s : Str} {zs : List Str} (h : splitOf s = some zs) (hne : zs ≠ []) : splitOf (joinOf zs.dropLast) = some zs.dropLast := by
  have hg : good zs = true := by
    rcases split_cases h with ⟨_, rfl⟩ | ⟨r, _, _, hg, rfl⟩
    · exact absurd rfl hne
    · exact hg
  refine split_join ?_
  unfold joinOf
  by_cases hd : zs.dropLast = []
  · rw [if_pos hd]
    simp
  · rw [if_neg hd, if_pos (good_dropLast hg)]
    cases hz : zs.dropLast with
    | nil => exact absurd hz hd
    | cons z l => simp
theorem walkD_app {ds : List InoD} {nm : ByteArray} : ∀ (l : List ByteArray) (x : Int), (walkD ds x (l ++ [nm])).2 = 0 → (walkD ds x l).2 = 0 ∧ ∃ E, look ds (walkD ds x l).1 = some E ∧ E.kind = 2
  | [], x, h => by
    refine ⟨rfl, ?_⟩
    rw [List.nil_append] at h
    unfold walkD at h
    cases hl : look ds x with
    | none => rw [hl] at h; simp at h
    | some D =>
      rw [hl] at h
      dsimp only at h
      by_cases hk : D.kind = 2
      · exact ⟨D, hl, hk⟩
      · rw [if_neg hk] at h
        simp at h
  | z :: l, x, h => by
    rw [List.cons_append] at h
    unfold walkD at h ⊢
    cases hl : look ds x with
    | none => rw [hl] at h; simp at h
    | some D =>
      rw [hl] at h
      dsimp only at h ⊢
      by_cases hk : D.kind = 2
      · rw [if_pos hk] at h ⊢
        by_cases he : entOf z D.ents = 0
        · rw [if_pos he] at h
          simp at h
        · rw [if_neg he] at h ⊢
          exact walkD_app l _ h
      · rw [if_neg hk] at h
        simp at h
theorem stat_walk {ds : List InoD} {s : ByteArray} (h : (statD ds s).2 = 0) : (walkP ds s).2 = 0 := by
  unfold statD at h
  split at h
  · assumption
  · exact h
/-- Where a path leads somewhere, a directory is above it. -/
theorem parent_stat {ds : List InoD} {s : ByteArray} (h : (walkP ds s).2 = 0) (hp : (parentOf s.data.toList).2.2 = true) : ∃ E, statD ds (strB (parentOf s.data.toList).1) = (E, 0) ∧ E.kind = 2 := by
  cases hs : splitOf s.data.toList with
  | none => rw [walkP_none hs] at h; simp at h
  | some zs =>
    have hne : zs ≠ [] := by
      rintro rfl
      unfold parentOf at hp
      rw [hs] at hp
      simp at hp
    have hpa : parentOf s.data.toList = (joinOf zs.dropLast, zs.getLastD [], true) := by
      unfold parentOf
      rw [hs]
      dsimp only
      rw [if_neg hne]
    rw [hpa]
    dsimp only
    have hw : walkP ds s = walkD ds 1 (zs.map strB) := by unfold walkP; rw [hs]
    rw [hw, show zs = zs.dropLast ++ [zs.getLast hne] from (List.dropLast_concat_getLast hne).symm, List.map_append, List.map_cons, List.map_nil] at h
    obtain ⟨h1, E, h2, h3⟩ := walkD_app _ _ h
    have hq : walkP ds (strB (joinOf zs.dropLast)) = walkD ds 1 (zs.dropLast.map strB) := by
      unfold walkP
      rw [show (strB (joinOf zs.dropLast)).data.toList = joinOf zs.dropLast from rfl, split_parent hs hne]
    refine ⟨E, ?_, h3⟩
    unfold statD
    rw [hq, if_pos h1, h2]
theorem parent_bad {ds : List InoD} {s : ByteArray} (h : (walkP ds s).2 = 0) (hp : (parentOf s.data.toList).2.2 = true) : badK 1 ds (strB (parentOf s.data.toList).1) = ((statD ds (strB (parentOf s.data.toList).1)).1, 0) := by
  obtain ⟨E, h1, h2⟩ := parent_stat h hp
  unfold badK
  rw [h1]
  dsimp only
  rw [if_neg (by omega)]
theorem parent_size (s : ByteArray) : (strB (parentOf s.data.toList).1).size ≤ s.size := by
  have e : ∀ l : Str, (strB l).size = l.length := fun l => by show (l.toArray).size = _; simp
  rw [e]
  have hl : s.size = s.data.toList.length := by show s.data.size = _; simp
  rw [hl]
  cases hs : splitOf s.data.toList with
  | none => unfold parentOf; rw [hs]; simp
  | some zs =>
    unfold parentOf
    rw [hs]
    dsimp only
    by_cases hne : zs = []
    · rw [if_pos hne]
      simp
    · rw [if_neg hne]
      dsimp only
      have hj := join_split hs
      rw [← hj]
      have hg : good zs = true := by
        rcases split_cases hs with ⟨_, rfl⟩ | ⟨r, _, _, hg, rfl⟩
        · exact absurd rfl hne
        · exact hg
      have e2 : zs = zs.dropLast ++ [zs.getLast hne] := (List.dropLast_concat_getLast hne).symm
      have e3 : joinOf zs = zs.flatMap (fun p => 47 :: p) := by unfold joinOf; rw [if_neg hne, if_pos hg]
      rw [e3]
      unfold joinOf
      by_cases hd : zs.dropLast = []
      · rw [if_pos hd]
        rw [e2, hd]
        simp
      · rw [if_neg hd, if_pos (good_dropLast hg)]
        conv => rhs; rw [e2, List.flatMap_append]
        simp
theorem tree_more {nx : Int} {ds : List InoD} (h : treeD nx ds = true) : (∀ D ∈ ds, D.ents.length ≤ 100) ∧ (∀ D ∈ ds, 0 ≤ D.links ∧ D.links ≤ 1000) ∧ ds.length ≤ 30 := by
  have h1 := tabD_ok (treeD_parts h).1
  refine ⟨fun D hD => ?_, fun D hD => ?_, h1.2.1⟩
  · have := (entsOk_at (ok_parts (h1.2.2.2.2.1 D hD).1).2.2.1).1
    omega
  · have h2 := (h1.2.2.2.2.1 D hD).1
    unfold inoOk at h2
    simp only [Bool.and_eq_true, decide_eq_true_eq] at h2
    exact h2.1.1.1.1.1.2
theorem file_stat {ds : List InoD} {s : ByteArray} (h : (fileD ds s).2 = 0) : fileD ds s = statD ds s := by
  unfold fileD at h ⊢
  split at h
  · simp at h
  · rename_i hc
    rw [if_neg hc]
theorem unlinkI (a : Option Addr) (n cap : Nat) (nx : Int) (rs : List InoR) (s : ByteArray) (w : World) (ht : TR w a n rs) (hwf : ∀ r ∈ rs, (Lit.int .i64 r.D.ino).wf = true) (het : EtCell w) (hs : s.size ≤ 4000000) :
    Calls Tryz.prog 37 #[.agg #[.slice a n cap, .int .i64 nx], .string s] w fun e w' => TabC w nx (unlinkD nx (rs.map InoR.D) s).1 (unlinkD nx (rs.map InoR.D) s).2 e w' := by
  refine wrap_Unlink a n cap nx s w nx _ _ (fun W hW => ?_)
  obtain ⟨E, hEE⟩ : ∃ E, (statD (rs.map InoR.D) (strB (parentOf s.data.toList).1)).1 = E := ⟨_, rfl⟩
  have hb : treeD nx (rs.map InoR.D) = true → badK 2 (rs.map InoR.D) s = fileD (rs.map InoR.D) s := fun h => badK_file (fun D hD => by obtain ⟨r, hr, rfl⟩ := List.mem_map.1 hD; exact (tree_facts h).1 r hr) s
  refine changed_unlink a n cap nx rs s ⟨#[]⟩ 0 none 0 0 ⟨#[]⟩ ⟨#[]⟩ W (ht.keep hW) hwf (het.keep hW) nx (unlinkT (rs.map InoR.D) s E) (unlinkC (rs.map InoR.D) s) nx _ _ ?_ ?_ ?_ ?_
  · intro h
    unfold unlinkD
    rw [if_pos (.inl h)]
    exact ⟨rfl, rfl, rfl⟩
  · intro h hc
    unfold unlinkC notR at hc
    unfold unlinkD unlinkC notR
    rw [hb h] at hc ⊢
    cases hp : (parentOf s.data.toList).2.2 with
    | false => rw [if_pos (.inr rfl), if_pos rfl]; exact ⟨rfl, rfl, rfl⟩
    | true =>
      rw [hp, if_neg (by decide)] at hc
      rw [if_neg (by simp [h]), if_pos hc, if_neg (by decide)]
      exact ⟨rfl, rfl, rfl⟩
  · intro h hc
    unfold unlinkC notR at hc
    unfold unlinkD unlinkT
    rw [hb h] at hc ⊢
    cases hp : (parentOf s.data.toList).2.2 with
    | false => rw [hp, if_pos rfl] at hc; exact absurd hc (by decide)
    | true =>
      rw [hp, if_neg (by decide)] at hc
      rw [if_neg (by simp [h]), if_neg (by simp [hc])]
      unfold dropP
      rw [hEE]
      by_cases hl : (fileD (rs.map InoR.D) s).1.links = 1
      · rw [if_pos hl, if_pos (by omega)]
        exact ⟨rfl, rfl, rfl⟩
      · rw [if_neg hl, if_neg (by omega)]
        exact ⟨rfl, rfl, rfl⟩
  · intro h W' hW'
    obtain ⟨f1, f2, f3⟩ := tree_facts h
    obtain ⟨f4, f5, f6⟩ := tree_more h
    have hn : n ≤ 100 := by rw [List.length_map, ht.len] at f6; omega
    refine unlinkM a n cap nx rs s ⟨#[]⟩ 0 none 0 0 ⟨#[]⟩ ⟨#[]⟩ W' ((ht.keep hW).keep hW') f1 f2 f3 (fun r hr => f4 r.D (List.mem_map_of_mem hr)) (fun r hr => f5 r.D (List.mem_map_of_mem hr)) hn hs (Nat.le_trans (parent_size s) hs) E (fun hnr hc0 => ?_)
    rw [hb h] at hc0
    have hw : (walkP (rs.map InoR.D) s).2 = 0 := stat_walk (by rw [← file_stat hc0]; exact hc0)
    rw [parent_bad hw hnr, hEE]
theorem dropP_tiny {nx : Int} {ds : List InoD} {s : ByteArray} (h : treeD nx ds = true) (hs : ∀ D ∈ ds, InoSmall D) (hw : (walkP ds s).2 = 0) (hp : (parentOf s.data.toList).2.2 = true) : (∀ D ∈ dropP ds s, Tiny D) ∧ (dropP ds s).length ≤ 31 := by
  have ht := tree_tiny h hs
  obtain ⟨E, h1, _⟩ := parent_stat hw hp
  have hE : E ∈ ds := by have := stat_in (ds := ds) (s := strB (parentOf s.data.toList).1) (by rw [h1]); rw [h1] at this; exact this
  unfold dropP
  rw [h1]
  dsimp only
  refine ⟨fun D hD => ?_, ?_⟩
  · rcases setD_memC hD with rfl | hD
    · have := ht E hE
      exact ⟨cutE_small this.small _, this.data, Nat.le_trans (List.length_filter_le _ _) this.ents, this.attrs⟩
    · exact ht D hD
  · have := (tree_more h).2.2
    exact Nat.le_trans (setD_lenC _ _) (by omega)
theorem out_unlink (s : ByteArray) (nx : Int) (rs : List InoR) (h : ∀ r ∈ rs, InoSmall r.D) (hc : rs.length + cntI rs ≤ 1048576) (_ : s.size ≤ 4000000) : Fit (unlinkD nx (rs.map InoR.D) s).1 := by
  have hf := fit_same h hc
  unfold unlinkD
  split
  · exact hf
  · rename_i hn
    have htr : treeD nx (rs.map InoR.D) = true := by
      cases ht : treeD nx (rs.map InoR.D) with
      | true => rfl
      | false => exact absurd (.inl ht) hn
    have hp : (parentOf s.data.toList).2.2 = true := by
      cases ht : (parentOf s.data.toList).2.2 with
      | true => rfl
      | false => exact absurd (.inr ht) hn
    split
    · exact hf
    · rename_i hc0
      have h0 : (fileD (rs.map InoR.D) s).2 = 0 := Classical.byContradiction fun c => hc0 c
      have hw : (walkP (rs.map InoR.D) s).2 = 0 := stat_walk (by rw [← file_stat h0]; exact h0)
      obtain ⟨d1, d2⟩ := dropP_tiny htr hf.small hw hp
      split
      · refine fit_tiny (fun D hD => d1 D (List.mem_filter.1 hD).1) ?_
        exact Nat.le_trans (List.length_filter_le _ _) (by omega)
      · have hm := tree_tiny htr hf.small _ (file_in h0)
        refine fit_tiny (fun D hD => ?_) (Nat.le_trans (setD_lenC _ _) (by omega))
        rcases setD_memC hD with rfl | hD
        · exact ⟨⟨hm.small.data, hm.small.ents, hm.small.attrs, hm.small.entsz, hm.small.attrsz⟩, hm.data, hm.ents, hm.attrs⟩
        · exact d1 D hD
end

section
open Go.RowKit
set_option maxRecDepth 100000 in
set_option maxHeartbeats 16000000 in
theorem walkFnExactUnlink (a : Option Addr) (cap : Nat) (nx : Int) (rs : List InoR) (s : ByteArray) (w : World) (hm : rs.length ≤ maxLen) (hi : ∀ r ∈ rs, InoIn r.D) (hr : RdI w a rs) (_hz0 : s.size ≤ maxLen) (het : EtCell w) :
    Calls Tryz.prog 10 #[.agg #[.slice a rs.length cap, .int .i64 nx], .string s] w fun e w' => e = .returned (.bool true) ∧ Below w.heap.size w w' := by
  obtain ⟨n, hn⟩ : ∃ n, rs.length = n := ⟨_, rfl⟩
  rw [hn] at hm ⊢
  have zb0 : ZT w (w.alloc (.cells #[.slice a n cap, .int .i64 nx] 49)) #[.slice a n cap, .int .i64 nx] := ⟨(Below.refl _ w).alloc (Nat.le_refl _) _, Blk.new w _ _⟩
  by_cases hl0 : 1048576 < s.size
  · have hli : (s.size : Int) > 1048576 := by omega
    have HB : Hid _ := zb0.below
    clear zb0
    go_enter Tryz.func10, Tryz.ntmps10
    go_wp2
    go_ret
    exact ⟨rfl, HB.out⟩
  have hli0 : ¬ (s.size : Int) > 1048576 := by omega
  go_enter Tryz.func10, Tryz.ntmps10
  go_wp2_with fail
  obtain ⟨W0, hW0⟩ : ∃ W, w.alloc (.cells #[.slice a n cap, .int .i64 nx] 49) = W := ⟨_, rfl⟩
  rw [hW0] at zb0 ⊢
  clear hW0
  refine (szTab_w a n cap 1048576 nx rs W0 hn hm (by omega) hi (hr.keep zb0.below)).mono ?_
  rintro e w1 ⟨hsz, b1⟩
  have zb1 := zb0.keep b1
  clear zb0 b1
  rcases hsz with rfl | ⟨v, hv, rfl, hn1, hsm⟩
  · go_wp2
    go_ret
    exact ⟨rfl, zb1.below⟩
  have hx0 : ¬ (v : Int) < 0 := by omega
  have hwf : ∀ r ∈ rs, (Lit.int .i64 r.D.ino).wf = true := fun r h => (hi r h).ino
  have HS : Hid _ := hsm
  have hcn : n + cntI rs ≤ 1048576 := by omega
  have CA : Hid (∀ W : World, Below w.heap.size w W → _) := fun (W : World) (h : Below w.heap.size w W) => toTab_j a n cap nx rs W hn hn1 HS.out (hr.keep h)
  have hfit : Fit (unlinkD nx (rs.map InoR.D) s).1 := out_unlink s nx rs HS.out (by rw [hn]; exact hcn) (by omega)
  have HET : Hid _ := het
  have cS := fun (W : World) (B g : Nat) (ts : List InoR) (h : TabQ W B g n rs ts) => unlinkS (some ⟨g, 0, none⟩) n n nx ts s W ⟨h.tlen, hn1, h.cpd.small HS.out, h.rd⟩ (by omega)
  have cI := fun (W : World) (B g : Nat) (ts : List InoR) (h : TabQ W B g n rs ts) (hb : Below w.heap.size w W) => unlinkI (some ⟨g, 0, none⟩) n n nx ts s W ⟨h.tlen, hn1, h.cpd.small HS.out, h.rd⟩ (fun r hr => by
    have h1 : r.D ∈ ts.map InoR.D := List.mem_map_of_mem hr
    rw [h.cpd.1] at h1
    obtain ⟨q, hq, hqr⟩ := List.mem_map.1 h1
    rw [← hqr]
    exact hwf q hq) (EtCell.keep HET.out hb) (by omega)
  have cS' : ∀ (W : World) (B g : Nat) (ts : List InoR), TabQ W B g n rs ts → Calls Tryz.prog 55 #[.agg #[.slice (some ⟨g, 0, none⟩) n n, .int .i64 nx], .string s] W fun e w' => TabC W nx (unlinkD nx (rs.map InoR.D) s).1 (unlinkD nx (rs.map InoR.D) s).2 e w' := fun W B g ts h => by
    have := cS W B g ts h
    rw [h.cpd.1] at this
    exact this
  have cI' : ∀ (W : World) (B g : Nat) (ts : List InoR), TabQ W B g n rs ts → Below w.heap.size w W → Calls Tryz.prog 37 #[.agg #[.slice (some ⟨g, 0, none⟩) n n, .int .i64 nx], .string s] W fun e w' => TabC W nx (unlinkD nx (rs.map InoR.D) s).1 (unlinkD nx (rs.map InoR.D) s).2 e w' := fun W B g ts h hb => by
    have := cI W B g ts h hb
    rw [h.cpd.1] at this
    exact this
  clear cS cI
  obtain ⟨CO, hCO⟩ : ∃ x, (unlinkD nx (rs.map InoR.D) s).2 = x := ⟨_, rfl⟩
  rw [hCO] at cS' cI'
  obtain ⟨ds, hds⟩ : ∃ x, (unlinkD nx (rs.map InoR.D) s).1 = x := ⟨_, rfl⟩
  rw [hds] at cS' cI' hfit
  obtain ⟨m, hml⟩ : ∃ m, ds.length = m := ⟨_, rfl⟩
  have hfc := hfit.cnt
  rw [hml] at hfc
  have hmb : m ≤ 2000000 := by omega
  have hdsm : ∀ r ∈ ds.map lift, InoSmall r.D := fun r hr => by
    obtain ⟨D, hD, rfl⟩ := List.mem_map.1 hr
    exact hfit.small D hD
  have hjl : ∀ (B : Nat) (W : World) (v : Value) (js : List InoJ), DQA B W v (ds.map lift) js → js.length = m := fun B W v js h => by have := h.len; rw [List.length_map] at this; omega
  have cK := fun (W : World) (g Lo Hi : Nat) (js : List InoJ) (h1 : (js.map InoJ.r).map InoR.D = rs.map InoR.D) (hap : ApJ g Lo Hi js) (hH : Hi ≤ W.heap.size) (hown : OwnI W g n n (js.map InoJ.r)) (hG : ∀ (i : Nat) (j : InoJ), js[i]? = some j → j.G W) => markTab_any nx g n n Lo Hi 1 js W (by have := congrArg List.length h1; simp at this; omega) (Nat.le_refl _) (by omega) (by have := q_bound4 h1 hn (by omega); omega) hap hH hown hG
  have cE : ∀ (W : World) (B B' : Nat) (a a' : Option Addr) (c c' : Nat) (js js' : List InoJ), DQA B W (.slice a m c) (ds.map lift) js → DQA B' W (.slice a' m c') (ds.map lift) js' → js.length = m → js'.length = m → Calls Tryz.prog 44 #[.agg #[.slice a m c, .int .i64 nx], .agg #[.slice a' m c', .int .i64 nx]] W fun e w' => e = .returned (.bool true) ∧ Below W.heap.size W w' := fun W B B' a a' c c' js js' h h' h1 h2 => eqVA nx (by omega) hdsm h h' h1 h2
  have cQ : ∀ (js : List InoJ) (W : World) (B : Nat) (v : Value), DQA B W v (ds.map lift) js → qAt 1 js m ≤ 9999990 := fun js W B v h => by have := q_bound4 (n := m) h.ds (by rw [List.length_map]; exact hml) (by omega); omega
  have CS : Hid _ := cS'
  have CI : Hid _ := cI'
  have CE : Hid _ := cE
  have CQ : Hid _ := cQ
  have CK : Hid _ := cK
  have CJ : Hid _ := hjl
  have hcoe : (CO != CO) = false := by simp
  have hcof : (CO == CO) = true := by simp
  clear cS' cI' cE cQ cK hr hn hsm hwf hi hm hv hcn hdsm hml hfit hfc hCO hds hjl het
  have t0 := zb1.t.cell 0
  have t1 := zb1.t.cell 1
  simp at t0 t1
  go_wp2_with fail
  (with_reducible refine (CA.out w1 zb1.below).mono ?_)
  rintro e w2 ⟨gA, jA, rfl, qA, _, b2⟩
  have zb2 := zb1.keep b2
  clear zb1 b2 t0 t1
  go_wp2_with fail
  (with_reducible refine (CS.out w2 _ gA _ qA).mono ?_)
  rintro e w3 ⟨aS, eS, jS, rfl, gS, b3⟩
  have hjS := CJ.out _ _ _ _ gS
  rw [hjS] at gS ⊢
  have b3' : Below w3.heap.size w3 (w3.alloc (.cells #[.slice aS m eS, .int .i64 nx] 26)) := (Below.refl _ w3).alloc (Nat.le_refl _) _
  have qs3 : QS (w3.alloc (.cells #[.slice aS m eS, .int .i64 nx] 26)) w3.heap.size w2.heap.size w3.heap.size (w3.heap.size + 1) aS m eS nx (ds.map lift) jS := ⟨Blk.new w3 _ _, gS.keep b3', hjS, gS.apV, by omega, by omega, by simp⟩
  have zb3 := zb2.keep (below_tr b3 b3')
  have hz2 := zb2.t.lt
  have hs3 := b3.size
  clear zb2 b3 b3' qA gS
  have t0 := zb3.t.cell 0
  have t1 := zb3.t.cell 1
  simp at t0 t1
  go_wp2_with fail
  obtain ⟨W3, hW3⟩ : ∃ W, w3.alloc (.cells #[.slice aS m eS, .int .i64 nx] 26) = W := ⟨_, rfl⟩
  obtain ⟨TS, hTS⟩ : ∃ X, w3.heap.size = X := ⟨_, rfl⟩
  obtain ⟨BS, hBS⟩ : ∃ X, w2.heap.size = X := ⟨_, rfl⟩
  rw [hW3] at qs3 zb3 t0 t1 ⊢
  rw [hTS] at qs3 hs3 ⊢
  rw [hBS] at qs3 hs3 hz2
  clear hW3 hTS hBS
  have HZL : Hid (w.heap.size + 1 ≤ W3.heap.size) := by have := qs3.tT; show _ ≤ _; omega
  (with_reducible refine (CA.out W3 zb3.below).mono ?_)
  rintro e w4 ⟨gB, jB, rfl, qB, jsB, b4⟩
  have b4' : Below w4.heap.size w4 (w4.alloc (.cells #[.slice (some ⟨gB, 0, none⟩) n n, .int .i64 nx] 26)) := (Below.refl _ w4).alloc (Nat.le_refl _) _
  have bb4 := below_tr b4 b4'
  have hs4 := b4.size
  have qt4 : QT (w4.alloc (.cells #[.slice (some ⟨gB, 0, none⟩) n n, .int .i64 nx] 26)) w4.heap.size W3.heap.size gB n W3.heap.size w4.heap.size nx rs jB := ⟨Blk.new w4 _ _, qB.keep b4', jsB.keep b4', jsB.ap (Nat.lt_succ_self _) qB.at_ qB.own.lt, Nat.le_refl _⟩
  have zb4 := zb3.keep bb4
  have qs4 := qs3.keep bb4
  have hU := qs3.tT
  have hs4' : w4.heap.size + 1 ≤ (w4.alloc (.cells #[.slice (some ⟨gB, 0, none⟩) n n, .int .i64 nx] 26)).heap.size := by simp
  clear zb3 qs3 b4 b4' bb4 qB jsB t0 t1
  obtain ⟨u0, u1⟩ := qt4.two
  go_wp2_with fail
  obtain ⟨W4, hW4⟩ : ∃ W, w4.alloc (.cells #[.slice (some ⟨gB, 0, none⟩) n n, .int .i64 nx] 26) = W := ⟨_, rfl⟩
  obtain ⟨XB, hXB⟩ : ∃ X, w4.heap.size = X := ⟨_, rfl⟩
  obtain ⟨Lo, hLo⟩ : ∃ X, W3.heap.size = X := ⟨_, rfl⟩
  rw [hW4] at qt4 zb4 qs4 hs4' u0 u1 ⊢
  rw [hXB] at qt4 hs4 hs4' u0 u1 ⊢
  rw [hLo] at qt4 hs4 hU
  clear hW4 hXB
  (with_reducible refine (CI.out W4 _ gB _ qt4.tq zb4.below).mono ?_)
  rintro e w6 ⟨aI, eI, jI, rfl, gI, b6⟩
  have hjI := CJ.out _ _ _ _ gI
  rw [hjI] at gI ⊢
  have b6' : Below w6.heap.size w6 (w6.alloc (.cells #[.slice aI m eI, .int .i64 nx] 26)) := (Below.refl _ w6).alloc (Nat.le_refl _) _
  have bb6 := below_tr b6 b6'
  have hs6 := b6.size
  have qi6 : QS (w6.alloc (.cells #[.slice aI m eI, .int .i64 nx] 26)) w6.heap.size W4.heap.size w6.heap.size (w6.heap.size + 1) aI m eI nx (ds.map lift) jI := ⟨Blk.new w6 _ _, gI.keep b6', hjI, gI.apV, by omega, by omega, by simp⟩
  have zb6 := zb4.keep bb6
  have qs6 := qs4.keep bb6
  have qt6 := qt4.keep bb6
  clear zb4 qs4 qt4 b6 b6' bb6 gI u0 u1
  obtain ⟨u0, u1⟩ := qi6.two
  obtain ⟨v0, v1⟩ := qs6.two
  go_wp2_with fail
  obtain ⟨W6, hW6⟩ : ∃ W, w6.alloc (.cells #[.slice aI m eI, .int .i64 nx] 26) = W := ⟨_, rfl⟩
  obtain ⟨TI, hTI⟩ : ∃ X, w6.heap.size = X := ⟨_, rfl⟩
  obtain ⟨BI, hBI⟩ : ∃ X, W4.heap.size = X := ⟨_, rfl⟩
  rw [hW6] at qi6 zb6 qs6 qt6 u0 u1 v0 v1 ⊢
  rw [hTI] at qi6 hs6 u0 u1 ⊢
  rw [hBI] at qi6 hs6 hs4'
  clear hW6 hTI
  (with_reducible refine (CE.out W6 BI BS _ _ _ _ jI jS qi6.q qs6.q qi6.len qs6.len).mono ?_)
  rintro e w7 ⟨rfl, b7⟩
  have zb7 := zb6.keep b7
  have qs7 := qs6.keep b7
  have qt7 := qt6.keep b7
  have qi7 := qi6.keep b7
  clear zb6 qs6 qt6 qi6 b7 u0 u1 v0 v1
  have t0 := zb7.t.cell 0
  have t1 := zb7.t.cell 1
  simp at t0 t1
  obtain ⟨u0, u1⟩ := qt7.two
  have zb7d := zb7.keep (Below.refl w7.heap.size w7).drew
  have qt7d := qt7.keep (Below.refl w7.heap.size w7).drew
  go_upto_region 12 with fail
  go_region_held3 (fun W : World => W.cell? ⟨XB, 0, none⟩ = some (.slice (some ⟨gB, 0, none⟩) n n) ∧ W.cell? ⟨XB, 1, none⟩ = some (.int .i64 nx) ∧ W.cell? ⟨w.heap.size, 0, none⟩ = some (.slice a n cap) ∧ W.cell? ⟨w.heap.size, 1, none⟩ = some (.int .i64 nx)) (go_keep) (first
    | (go_at_call 43; (with_reducible refine (CA.out _ zb7d.below).mono ?_); rintro e wA ⟨gC, jC, rfl, qC, _, b9⟩; have qAA := (qt7d.keep b9).tq; obtain ⟨s0, s1⟩ := (qt7d.keep b9).two; have s2 := (zb7d.keep b9).t.cell 0; have s3 := (zb7d.keep b9).t.cell 1; (simp at s2 s3))
    | (go_at_call 44; (with_reducible refine (eqTabQ _ _ gB gC n n n nx rs _ _ _ hn1 HS.out qAA qC).mono ?_); rintro e wB ⟨rfl, b10⟩; obtain ⟨s4, s5⟩ := ((qt7d.keep b9).keep b10).two; have s6 := ((zb7d.keep b9).keep b10).t.cell 0; have s7 := ((zb7d.keep b9).keep b10).t.cell 1; (simp at s6 s7))
    | fail)
  have bR : Below w7.heap.size w7 wB := below_tr (below_tr (Below.refl w7.heap.size w7).drew b9) b10
  have zb8 := zb7.keep bR
  have qs8 := qs7.keep bR
  have qt8 := qt7.keep bR
  have qi8 := qi7.keep bR
  clear zb7 qs7 qt7 qi7 bR b9 b10 zb7d qt7d qC qAA s0 s1 s2 s3 s4 s5 s6 s7 u0 u1 t0 t1
  obtain ⟨u0, u1⟩ := qt8.two
  have hXBl := qt8.box.lt
  have hqi := qi8.tT
  have hcp := qt8.tq.cpd.1
  go_wp2_with fail
  refine (CK.out wB gB Lo XB jB hcp qt8.ap (by omega) qt8.tq.own qt8.jq.G).mono ?_
  rintro e w10 ⟨rfl, hTL⟩
  have hout := hTL.out
  have hs10 := hout.size
  have hbs : w.heap.size + 1 ≤ Lo := by rw [← hLo]; exact HZL.out
  have zb10 := zb8.outs hout hbs
  have qs10 := qs8.outs hout (by omega)
  have qi10 := qi8.outsHi hout (by omega) (by omega)
  obtain ⟨qk, hqk⟩ : ∃ q, qAt 1 jB n = q := ⟨_, rfl⟩
  have hqm0 : ¬ (qk : Int) < 0 := by omega
  rw [hqk]
  clear zb8 qs8 qt8 qi8 hTL hout u0 u1 hqk
  obtain ⟨u0, u1⟩ := qi10.two
  obtain ⟨v0, v1⟩ := qs10.two
  go_wp2_with fail
  (with_reducible refine (CE.out w10 BI BS _ _ _ _ jI jS qi10.q qs10.q qi10.len qs10.len).mono ?_)
  rintro e w11 ⟨rfl, b11⟩
  have zb11 := zb10.keep b11
  have qs11 := qs10.keep b11
  have qi11 := qi10.keep b11
  clear zb10 qs10 qi10 b11 u0 u1 v0 v1
  obtain ⟨u0, u1⟩ := qi11.two
  have hqI := CQ.out jI _ _ _ qi11.q
  have hIl := qi11.box.lt
  have hqi11 := qi11.tT
  go_wp2_with fail
  (with_reducible refine (markVA (T := TI) nx hmb hqI qi11.q qi11.len (by omega) qi11.ap).mono ?_)
  rintro e w11c ⟨rfl, mG, hout⟩
  have hs11c := hout.size
  have zb11c := zb11.outs hout (by omega)
  have qs11c := qs11.outs hout (by omega)
  have xI := qi11.box.outs hout (by omega)
  have cH : ∀ W : World, TI ≤ W.heap.size → TV W BI TI aI m eI jI → _ := fun W hT h => heldV nx hmb hqI qi11.len hT h
  obtain ⟨mm, hmm⟩ : ∃ q, qAt 1 jI m = q := ⟨_, rfl⟩
  rw [hmm] at cH ⊢
  have CH : Hid _ := cH
  clear zb11 qs11 qi11 hout u0 u1 cH hqI hmm
  have u0 := xI.cell 0
  have u1 := xI.cell 1
  simp at u0 u1
  go_wp2_with fail
  (with_reducible refine (CH.out w11c (by omega) mG).mono ?_)
  rintro e w12 ⟨rfl, b13⟩
  have zb12 := zb11c.keep b13
  have qs12 := qs11c.keep b13
  have mG12 := mG.keep (by omega) b13
  have xI12 := xI.keep b13
  have hs12 := b13.size
  have hmm0 : ¬ (mm : Int) < 0 := by omega
  have hmme : ((mm : Int) != (mm : Int)) = false := by simp
  have hmmf : ((mm : Int) == (mm : Int)) = true := by simp
  clear zb11c qs11c mG xI b13 u0 u1
  have t0 := zb12.t.cell 0
  have t1 := zb12.t.cell 1
  simp at t0 t1
  go_wp2_with fail
  (with_reducible refine (CA.out w12 zb12.below).mono ?_)
  rintro e w14 ⟨gD, jD, rfl, qD, _, b14⟩
  have zb14 := zb12.keep b14
  have qs14 := qs12.keep b14
  have mG14 := mG12.keep (by omega) b14
  have xI14 := xI12.keep b14
  have hs14 := b14.size
  clear zb12 qs12 mG12 xI12 b14 t0 t1
  go_wp2_with fail
  (with_reducible refine (CI.out w14 _ gD _ qD zb14.below).mono ?_)
  rintro e w15 ⟨aJ, eJ, jJ, rfl, gJ, b15⟩
  have hjJ := CJ.out _ _ _ _ gJ
  rw [hjJ] at gJ ⊢
  have b15' : Below w15.heap.size w15 (w15.alloc (.cells #[.slice aJ m eJ, .int .i64 nx] 26)) := (Below.refl _ w15).alloc (Nat.le_refl _) _
  have bb15 := below_tr b15 b15'
  have qj : QS (w15.alloc (.cells #[.slice aJ m eJ, .int .i64 nx] 26)) w15.heap.size w14.heap.size w15.heap.size (w15.heap.size + 1) aJ m eJ nx (ds.map lift) jJ := ⟨Blk.new w15 _ _, gJ.keep b15', hjJ, gJ.apV, by omega, by omega, by simp⟩
  have zb15 := zb14.keep bb15
  have qs15 := qs14.keep bb15
  have mG15 := mG14.keep (by omega) bb15
  have xI15 := xI14.keep bb15
  have hs15 := bb15.size
  clear zb14 qs14 mG14 xI14 b15 b15' bb15 gJ qD
  obtain ⟨u0, u1⟩ := qj.two
  obtain ⟨v0, v1⟩ := qs15.two
  go_wp2_with fail
  obtain ⟨W15, hW15⟩ : ∃ W, w15.alloc (.cells #[.slice aJ m eJ, .int .i64 nx] 26) = W := ⟨_, rfl⟩
  rw [hW15] at qj zb15 qs15 mG15 xI15 hs15 u0 u1 v0 v1 ⊢
  clear hW15
  (with_reducible refine (CE.out W15 _ BS _ _ _ _ jJ jS qj.q qs15.q qj.len qs15.len).mono ?_)
  rintro e w16 ⟨rfl, b16⟩
  have zb16 := zb15.keep b16
  have mG16 := mG15.keep (by omega) b16
  have xI16 := xI15.keep b16
  have hs16 := b16.size
  clear zb15 qs15 qj mG15 xI15 b16 u0 u1 v0 v1
  have u0 := xI16.cell 0
  have u1 := xI16.cell 1
  simp at u0 u1
  go_wp2_with fail
  (with_reducible refine (CH.out w16 (by omega) mG16).mono ?_)
  rintro e w17 ⟨rfl, b17⟩
  have zb17 := zb16.keep b17
  have HEND : Hid _ := zb17.below
  clear zb16 mG16 xI16 b17 u0 u1 zb17
  go_wp2
  go_ret
  exact ⟨rfl, HEND.out⟩
end
end Go.Proofs.YtnfplimhhjpbkaaGreatDoor
