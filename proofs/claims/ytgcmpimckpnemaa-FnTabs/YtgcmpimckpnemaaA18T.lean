/-
  Joined: PathsO, Good6, Path6.
-/
import Derived.Test.YtgcmpimckpnemaaAttr6T
import Derived.Test.YtgcmpimckpnemaaA17T
namespace Go.Proofs.Ytgcmpimckpnemaa
section
open Go.RowKit
set_option maxRecDepth 100000 in
set_option maxHeartbeats 4000000 in
theorem pathsS (a : Option Addr) (n cap : Nat) (nx : Int) (rs : List InoR) (w : World) (ht : TR w a n rs) :
    Calls Try.prog 143 #[.agg #[.slice a n cap, .int .i64 nx]] w fun e w' => ∃ g c, e = .returned (.slice (some ⟨g, 0, none⟩) (pathsD nx (rs.map InoR.D)).length c) ∧ w'.ownsRow w.heap.size 9 1 (.slice (some ⟨g, 0, none⟩) (pathsD nx (rs.map InoR.D)).length c) (pathsD nx (rs.map InoR.D)).length (sV (pathsD nx (rs.map InoR.D))) ∧ Below w.heap.size w w' := by
  obtain ⟨ds, hds⟩ : ∃ ds, rs.map InoR.D = ds := ⟨_, rfl⟩
  have B0 : Below w.heap.size w (((w.alloc (.cells #[.slice a n cap, .int .i64 nx] 26)).alloc (.cells #[] 9)).alloc (.cells #[.slice (some ⟨w.heap.size + 1, 0, none⟩) 0 0] 88)) := (((Below.refl _ w).alloc (Nat.le_refl _) _).alloc (by simp) _).alloc (by simp; omega) _
  have z0 := ((Blk.new w 26 #[.slice a n cap, .int .i64 nx]).alloc (.cells #[] 9)).alloc (.cells #[.slice (some ⟨w.heap.size + 1, 0, none⟩) 0 0] 88)
  have oE := empty_row (w.alloc (.cells #[.slice a n cap, .int .i64 nx] 26)) w.heap.size 9 1 (by simp)
  have zX := Blk.new ((w.alloc (.cells #[.slice a n cap, .int .i64 nx] 26)).alloc (.cells #[] 9)) 88 #[.slice (some ⟨w.heap.size + 1, 0, none⟩) 0 0]
  simp only [World.size_alloc] at oE zX
  have oE' := World.ownsRow.alloc oE (.cells #[.slice (some ⟨w.heap.size + 1, 0, none⟩) 0 0] 88)
  have px0 : PX w.heap.size (((w.alloc (.cells #[.slice a n cap, .int .i64 nx] 26)).alloc (.cells #[] 9)).alloc (.cells #[.slice (some ⟨w.heap.size + 1, 0, none⟩) 0 0] 88)) (w.heap.size + 1 + 1) (w.heap.size + 1) 0 [] := ⟨zX, oE'⟩
  obtain ⟨R, hR⟩ : ∃ R, pathsD nx ds = R := ⟨_, rfl⟩
  rw [hds, hR]
  have HR : Hid _ := hR
  have HT : Hid _ := ht
  have HDS : Hid _ := hds
  have hT0 := ht.keep B0
  have hcT := treeS a n cap nx rs (((w.alloc (.cells #[.slice a n cap, .int .i64 nx] 26)).alloc (.cells #[] 9)).alloc (.cells #[.slice (some ⟨w.heap.size + 1, 0, none⟩) 0 0] 88)) hT0
  rw [hds] at hcT
  clear oE oE' zX ht hT0 hds hR
  go_enter Try.func143, Try.ntmps143
  go_wp2_with fail
  obtain ⟨W0, hW0⟩ : ∃ W, ((w.alloc (.cells #[.slice a n cap, .int .i64 nx] 26)).alloc (.cells #[] 9)).alloc (.cells #[.slice (some ⟨w.heap.size + 1, 0, none⟩) 0 0] 88) = W := ⟨_, rfl⟩
  rw [hW0] at B0 z0 px0 hcT ⊢
  clear hW0
  (with_reducible refine hcT.mono ?_)
  rintro e w1 ⟨rfl, b1⟩
  clear hcT
  have hB1 : Below w.heap.size w w1 := B0.trans (b1.mono B0.size)
  have px1 := px0.keep b1
  have zb := z0.keep b1
  clear px0 z0 B0 b1
  cases htr : treeD nx ds with
  | false =>
    have hRe : sortS [] = R := by rw [← HR.out]; unfold pathsD; rw [htr]; rfl
    have x0 := px1.cell.cell 0
    simp at x0
    have hcS := l7SortS (some ⟨w.heap.size + 1, 0, none⟩) 0 0 [] w1 rfl (by omega) (.inl rfl)
    rw [hRe] at hcS
    have hR0 : R = [] := hRe.symm
    subst hR0
    clear hRe HR px1 htr
    go_wp2_with fail
    (with_reducible refine hcS.mono ?_)
    rintro e w2 ⟨g2, c2, rfl, o2, b2⟩
    have HD : Hid _ := And.intro (row_lower o2 hB1.size) (hB1.trans (b2.mono hB1.size))
    clear hcS x0 o2 b2
    go_wp2
    go_ret
    first | exact ⟨_, _, rfl, HD.out⟩ | exact ⟨_, ⟨_, rfl⟩, HD.out⟩
  | true =>
    have htt := treeD_tr htr
    have hend := htt.ends
    have hfew := htt.few 31 ⟨#[]⟩
    have hRe : sortS (pathsF ds 31 1 ⟨#[]⟩) = R := by rw [← HR.out]; unfold pathsD; rw [htr]; rfl
    have t0 := zb.cell 0
    have t1 := zb.cell 1
    simp at t0 t1
    have hcP := l7PathsS a n cap nx rs w HT.out 31 1 ⟨#[]⟩ w1 (w.heap.size + 1 + 1) (w.heap.size + 1) 0 [] (by rw [HDS.out]; exact hend) (by decide) px1 (by omega) hB1 (by rw [HDS.out]; simp; omega)
    rw [HDS.out, List.nil_append] at hcP
    obtain ⟨F, hF⟩ : ∃ F, pathsF ds 31 1 ⟨#[]⟩ = F := ⟨_, rfl⟩
    rw [hF] at hcP hfew hRe
    have hRl : F.length = R.length := by rw [← hRe, sortS_len]
    have HRE : Hid _ := hRe
    clear htr htt hend px1 hRe hF
    go_wp2_with fail
    (with_reducible refine hcP.mono ?_)
    rintro e w2 ⟨g2, c2, rfl, px2, fr2, hg2⟩
    have hB2 : Below w.heap.size w w2 := Below.fr hB1 fr2 hB1.size (by omega) (by omega)
    have x0 := px2.cell.cell 0
    simp at x0
    have hcS := l7SortS (some ⟨g2, 0, none⟩) F.length c2 F w2 rfl (by omega) (rowV_rd px2.row)
    rw [HRE.out, hRl] at hcS
    rw [hRl] at x0
    clear px2 fr2 hcP t0 t1 zb hfew hRl HRE
    go_wp2_with fail
    (with_reducible refine hcS.mono ?_)
    rintro e w3 ⟨g3, c3, rfl, o3, b3⟩
    have HD : Hid _ := And.intro (row_lower o3 hB2.size) (hB2.trans (b3.mono hB2.size))
    clear hcS x0 o3 b3
    go_wp2
    go_ret
    first | exact ⟨_, _, rfl, HD.out⟩ | exact ⟨_, ⟨_, rfl⟩, HD.out⟩
end

section
open Go.RowKit
structure Good (m : Nat) (ds : List InoD) : Prop where
  root : ∃ D ∈ ds, D.ino = 1
  len : ds.length ≤ m
  small : ∀ D ∈ ds, InoSmall D
  num : ∀ D ∈ ds, 0 ≤ D.ino ∧ D.ino ≤ 1000
theorem Good.le {m m' : Nat} {ds : List InoD} (h : Good m ds) (hm : m ≤ m') : Good m' ds := ⟨h.root, Nat.le_trans h.len hm, h.small, h.num⟩
theorem setD_root {ds : List InoD} {D : InoD} {k : Int} (h : ∃ E ∈ ds, E.ino = k) : ∃ E ∈ setD ds D, E.ino = k := by
  obtain ⟨E, hE, he⟩ := h
  unfold setD
  obtain ⟨i, hi⟩ := List.getElem?_of_mem hE
  suffices hh : ∃ r ∈ setR (ds.map lift) (lift D), r.D.ino = k by
    obtain ⟨r, hr, hk⟩ := hh
    exact ⟨r.D, List.mem_map_of_mem hr, hk⟩
  have hi2 : (ds.map lift)[i]? = some (lift E) := by rw [List.getElem?_map, hi]; rfl
  cases hf : firstAt (inos (ds.map lift)) (lift D).D.ino with
  | none =>
    rw [setR_none hf]
    refine ⟨lift E, ?_, he⟩
    generalize placeOf (ds.map lift) (lift D).D.ino = q
    unfold putAt
    have hm := List.mem_of_getElem? hi2
    generalize ds.map lift = l at hm ⊢
    have e := List.take_append_drop q l
    rw [← e] at hm
    rcases List.mem_append.1 hm with hm | hm
    · exact List.mem_append.2 (.inl hm)
    · exact List.mem_append.2 (.inr (List.mem_cons_of_mem _ hm))
  | some p =>
    rw [setR_some hf]
    by_cases hip : i = p
    · subst hip
      obtain ⟨hl, hp, _⟩ := List.findIdx?_eq_some_iff_getElem.1 hf
      have hl2 := (List.getElem?_eq_some_iff.1 hi2).1
      refine ⟨lift D, List.mem_of_getElem? (i := i) (by rw [List.getElem?_set_self hl2]), ?_⟩
      have e1 : (inos (ds.map lift))[i]? = some E.ino := by unfold inos; rw [List.getElem?_map, hi2]; rfl
      have e2 := (List.getElem?_eq_some_iff.1 e1).2
      rw [e2] at hp
      have e3 : E.ino = (lift D).D.ino := by simpa using hp
      exact e3.symm.trans he
    · exact ⟨lift E, List.mem_of_getElem? (i := i) (by rw [List.getElem?_set_ne (fun e => hip e.symm)]; exact hi2), he⟩
theorem Good.set {m : Nat} {ds : List InoD} (h : Good m ds) {D : InoD} (hD : InoSmall D) (hN : 0 ≤ D.ino ∧ D.ino ≤ 1000) : Good (m + 1) (setD ds D) :=
  ⟨setD_root h.root, by have := setD_len ds D; have := h.len; omega, setD_small h.small hD, fun E hE => by
    rcases setD_mem hE with hE | rfl
    · exact h.num E hE
    · exact hN⟩
theorem Good.drop {m : Nat} {ds : List InoD} (h : Good m ds) {x : Int} (hx : x ≠ 1) : Good m (dropD ds x) := by
  obtain ⟨D, hD, he⟩ := h.root
  refine ⟨⟨D, List.mem_filter.2 ⟨hD, by rw [he]; simpa using fun e => hx e.symm⟩, he⟩, ?_, fun E hE => h.small E (List.mem_filter.1 hE).1, fun E hE => h.num E (List.mem_filter.1 hE).1⟩
  exact Nat.le_trans (List.length_filter_le _ _) h.len
theorem Good.tree {m : Nat} {nx : Int} {ds : List InoD} (h : Good m ds) (ht : treeD nx ds = true) : Good 30 ds := ⟨h.root, (treeD_tr ht).n, h.small, h.num⟩
theorem tree_few {nx : Int} {ds : List InoD} (ht : treeD nx ds = true) : ∀ D ∈ ds, D.ents.length ≤ 10 ∧ D.data.length ≤ 100 := fun D hD =>
  ⟨(entsOk_at (ok_parts ((treeD_tr ht).ok D hD)).2.2.1).1, (ok_parts ((treeD_tr ht).ok D hD)).2.2.2.2.1⟩
/-- What has the number 1 is the directory. -/
theorem tree_root {nx : Int} {ds : List InoD} (ht : treeD nx ds = true) {D : InoD} (hD : D ∈ ds) (h1 : D.ino = 1) : D.kind = 2 ∧ look ds 1 = some D := by
  obtain ⟨h2, _, _⟩ := treeD_parts ht
  obtain ⟨_, _, _, _, _, R, hR, hR1, hR2⟩ := tabD_ok h2
  have e1 := look_self h2 D hD
  have e2 := look_self h2 R (List.mem_of_getElem? hR)
  rw [hR1] at e2
  rw [h1] at e1
  rw [e1] at e2
  simp at e2
  exact ⟨by rw [e2]; exact hR2, e1⟩
theorem putE_small {D : InoD} (h : InoSmall D) (nm : ByteArray) (x : Int) (gt : ByteArray × Int → Bool) (hn : nm.size ≤ 1048576) (hl : D.ents.length ≤ 1000) : InoSmall { D with ents := insBy gt D.ents (nm, x) } := by
  refine ⟨h.data, ?_, h.attrs, fun q hq => ?_, h.attrsz⟩
  · show (insBy _ _ _).length ≤ _
    rw [insBy_len]
    omega
  · rcases insBy_mem.1 hq with rfl | hq
    · exact hn
    · exact h.entsz q hq
theorem good_make {nx : Int} {ds : List InoD} (h : Good 33 ds) (s : ByteArray) (kd : Int) : Good 33 (makeD nx ds s kd).2.1 := by
  unfold makeD
  split
  · exact h
  · rename_i h1
    split
    · exact h
    · split
      · exact h
      · rename_i h3
        have ht : treeD nx ds = true := by simpa using h1
        have h0 : (spotD ds s 0).2.2 = 0 := by simpa using h3
        obtain ⟨hm, hn⟩ := spot_mem (ds := ds) (s := s) (fr := 0) (D := (spotD ds s 0).1) (nm := (spotD ds s 0).2.1) (Prod.ext rfl (Prod.ext rfl h0))
        have hx := tabD_ok (treeD_parts ht).1
        have hN := h.num _ hm
        refine (((h.tree ht).set (putE_small (h.small _ hm) _ _ _ (by omega) (by have := (tree_few ht _ hm).1; omega)) hN).set ?_ ⟨by dsimp only; omega, by dsimp only; omega⟩).le (by omega)
        exact ⟨by simp, by simp, by simp, by simp, by simp⟩
theorem stat_in {ds : List InoD} {s : ByteArray} (h : (statD ds s).2 = 0) : (statD ds s).1 ∈ ds := statD_mem (s := s) (Prod.ext rfl h)
theorem file_in {ds : List InoD} {s : ByteArray} (h : (fileD ds s).2 = 0) : (fileD ds s).1 ∈ ds ∧ (fileD ds s).1.kind = 1 := by
  have hm := (fileD_mem (ds := ds) (s := s) (D := (fileD ds s).1) (Prod.ext rfl h)).1
  refine ⟨hm, ?_⟩
  unfold fileD at h ⊢
  split
  · rename_i hc
    rw [if_pos hc] at h
    simp at h
  · rename_i hc
    rw [if_neg hc] at h
    by_cases hk : (statD ds s).1.kind = 1
    · exact hk
    · exact absurd ⟨h, hk⟩ hc
theorem statD_num {ds : List InoD} {s : ByteArray} (h : ∀ D ∈ ds, 0 ≤ D.ino ∧ D.ino ≤ 1000) : 0 ≤ (statD ds s).1.ino ∧ (statD ds s).1.ino ≤ 1000 := by
  have hz : 0 ≤ inoZ.D.ino ∧ inoZ.D.ino ≤ 1000 := by simp [inoZ]
  unfold statD
  split
  · split
    · exact hz
    · rename_i D hD
      exact h D (look_mem hD).1
  · exact hz
theorem Good.cutP {m : Nat} {ds : List InoD} (h : Good m ds) (s : ByteArray) : Good (m + 1) (dropP ds s) := h.set (cutE_small (statD_small h.small) _) (statD_num h.num)
theorem good_unlink {nx : Int} {ds : List InoD} (h : Good 33 ds) (s : ByteArray) : Good 33 (unlinkD nx ds s).1 := by
  unfold unlinkD
  split
  · exact h
  · rename_i h1
    split
    · exact h
    · rename_i h2
      have ht : treeD nx ds = true := by
        cases hc : treeD nx ds with
        | true => rfl
        | false => exact absurd (.inl hc) h1
      obtain ⟨hm, hk⟩ := file_in (ds := ds) (s := s) (by simpa using h2)
      split
      · refine (((h.tree ht).cutP s).drop ?_).le (by omega)
        intro e
        have := (tree_root ht hm e).1
        omega
      · have hN := h.num _ hm
        refine Good.le (m := 32) (((h.tree ht).cutP s).set ?_ hN) (by omega)
        have := h.small _ hm
        exact ⟨this.data, this.ents, this.attrs, this.entsz, this.attrsz⟩
theorem parent_split {l : Str} (h : (parentOf l).2.2 = true) : ∃ z zs, splitOf l = some (z :: zs) := by
  unfold parentOf at h
  split at h
  · rename_i zs hz
    cases zs with
    | nil => simp at h
    | cons z zs => exact ⟨z, zs, hz⟩
  · simp at h
theorem good_remove {nx : Int} {ds : List InoD} (h : Good 33 ds) (s : ByteArray) : Good 33 (removeD nx ds s).1 := by
  unfold removeD
  split
  · exact h
  · rename_i h1
    split
    · exact h
    · rename_i h2
      split
      · exact h
      · rename_i h3
        split
        · exact h
        · rename_i h4
          have ht : treeD nx ds = true := by
            cases hc : treeD nx ds with
            | true => rfl
            | false => exact absurd (.inl hc) h1
          have hp : (parentOf s.data.toList).2.2 = true := by
            cases hc : (parentOf s.data.toList).2.2 with
            | true => rfl
            | false => exact absurd (.inr hc) h1
          have h0 : (statD ds s).2 = 0 := by simpa using h2
          refine (((h.tree ht).cutP s).drop ?_).le (by omega)
          intro e
          obtain ⟨_, hl⟩ := tree_root ht (stat_in h0) e
          obtain ⟨z, zs, hz⟩ := parent_split hp
          have hw : (walkP ds s).2 = 0 := by
            by_cases hc : (walkP ds s).2 = 0
            · exact hc
            · unfold statD at h0
              rw [if_neg hc] at h0
              exact h0
          unfold walkP at hw
          rw [hz] at hw
          simp only [List.map_cons] at hw
          unfold walkD at hw
          rw [hl] at hw
          have he : (statD ds s).1.ents = [] := List.length_eq_zero_iff.1 (by omega)
          have hk : (statD ds s).1.kind = 2 := by simpa using h3
          simp [hk, he, entOf] at hw
theorem good_link {nx : Int} {ds : List InoD} (h : Good 33 ds) (s tp : ByteArray) : Good 33 (linkD nx ds s tp).1 := by
  unfold linkD
  split
  · exact h
  · rename_i h1
    split
    · exact h
    · rename_i h2
      split
      · exact h
      · rename_i h3
        have ht : treeD nx ds = true := by
          cases hc : treeD nx ds with
          | true => rfl
          | false => exact absurd (.inl hc) h1
        obtain ⟨hm, _⟩ := file_in (ds := ds) (s := s) (by simpa using h2)
        have h0 : (spotD ds tp 0).2.2 = 0 := by simpa using h3
        obtain ⟨hm2, hn⟩ := spot_mem (ds := ds) (s := tp) (fr := 0) (D := (spotD ds tp 0).1) (nm := (spotD ds tp 0).2.1) (Prod.ext rfl (Prod.ext rfl h0))
        have hs := h.small _ hm
        have hN := h.num _ hm
        have hN2 := h.num _ hm2
        refine Good.le (m := 32) ((Good.set (D := { (fileD ds s).1 with links := (fileD ds s).1.links + 1 }) (h.tree ht) ?_ hN).set (putE_small (h.small _ hm2) (spotD ds tp 0).2.1 _ _ (by omega) (by have := (tree_few ht _ hm2).1; omega)) hN2) (by omega)
        exact ⟨hs.data, hs.ents, hs.attrs, hs.entsz, hs.attrsz⟩
theorem good_rename {nx : Int} {ds : List InoD} (h : Good 33 ds) (s tp : ByteArray) : Good 33 (renameD nx ds s tp).1 := by
  unfold renameD
  split
  · exact h
  · rename_i h1
    split
    · exact h
    · split
      · exact h
      · split
        · exact h
        · rename_i h4
          have ht : treeD nx ds = true := by
            cases hc : treeD nx ds with
            | true => rfl
            | false => exact absurd (.inl hc) h1
          have h0 : (spotD ds tp (walkP ds (strB (parentOf s.data.toList).1)).1).2.2 = 0 := by simpa using h4
          obtain ⟨_, hn⟩ := spot_mem (ds := ds) (s := tp) (fr := (walkP ds (strB (parentOf s.data.toList).1)).1) (D := (spotD ds tp (walkP ds (strB (parentOf s.data.toList).1)).1).1) (nm := (spotD ds tp (walkP ds (strB (parentOf s.data.toList).1)).1).2.1) (Prod.ext rfl (Prod.ext rfl h0))
          have h5 := (h.tree ht).cutP s
          have h6 := statD_few (dropP_few (fun D hD => (tree_few ht D hD).1) s) (strB (parentOf tp.data.toList).1)
          have hN := statD_num (s := strB (parentOf tp.data.toList).1) h5.num
          exact (h5.set (putE_small (statD_small h5.small) _ _ _ (by omega) (by omega)) hN).le (by omega)
theorem good_attr {nx : Int} {ds : List InoD} (h : Good 33 ds) (s nm val : ByteArray) : Good 33 (attrD nx ds s nm val).1 := by
  unfold attrD
  split
  · exact h
  · rename_i h1
    split
    · exact h
    · rename_i h2
      have ht : treeD nx ds = true := by
        cases hc : treeD nx ds with
        | true => rfl
        | false => exact absurd (.inl hc) h1
      have hm := stat_in (ds := ds) (s := s) (by simpa using h2)
      split
      · have hN := h.num _ hm
        exact ((h.tree ht).set (cutA_small (h.small _ hm) _) hN).le (by omega)
      · split
        · exact h
        · rename_i h4
          have hn : nm.size ≤ 14 := by
            cases hc : nameOk nm.data.toList with
            | true => exact nameOk_len hc
            | false => exact absurd (.inr (.inr (.inl hc))) h1
          have hv : val.size ≤ 16 := by
            by_cases hc : 16 < val.size
            · exact absurd (.inr (.inr (.inr hc))) h1
            · omega
          have hN := h.num _ hm
          exact ((h.tree ht).set (putA_small (h.small _ hm) _ _ (by omega) (by omega) (by omega)) hN).le (by omega)
theorem good_trunc {nx : Int} {ds : List InoD} (h : Good 33 ds) (s : ByteArray) (k : Int) : Good 33 (truncD nx ds s k).1 := by
  unfold truncD
  split
  · exact h
  · rename_i h1
    split
    · exact h
    · rename_i h2
      have ht : treeD nx ds = true := by
        cases hc : treeD nx ds with
        | true => rfl
        | false => exact absurd (.inl hc) h1
      obtain ⟨hm, _⟩ := file_in (ds := ds) (s := s) (by simpa using h2)
      have hk : k ≤ 100 := by
        by_cases hc : 0 ≤ k ∧ k ≤ 100
        · exact hc.2
        · exact absurd (.inr (.inr hc)) h1
      have hs := h.small _ hm
      have hN := h.num _ hm
      refine Good.le (m := 31) ((h.tree ht).set ⟨?_, hs.ents, hs.attrs, hs.entsz, hs.attrsz⟩ hN) (by omega)
      show (cutD _ _).length ≤ _
      unfold cutD
      rw [List.length_take]
      omega
theorem good_write {nx : Int} {ds : List InoD} (h : Good 33 ds) (s : ByteArray) (off : Int) (dz : List Int) (hz : dz.length ≤ 1000) : Good 33 (writeD nx ds s off dz).1 := by
  unfold writeD
  split
  · exact h
  · rename_i h1
    split
    · exact h
    · split
      · exact h
      · rename_i h2
        have ht : treeD nx ds = true := by
          cases hc : treeD nx ds with
          | true => rfl
          | false => exact absurd (.inl hc) h1
        obtain ⟨hm, _⟩ := file_in (ds := ds) (s := s) (by simpa using h2)
        have hk : off ≤ 100 := by
          by_cases hc : 0 ≤ off ∧ off ≤ 100
          · exact hc.2
          · exact absurd (.inr (.inr hc)) h1
        have hs := h.small _ hm
        have hd := (tree_few ht _ hm).2
        have hN := h.num _ hm
        refine Good.le (m := 31) ((h.tree ht).set ⟨?_, hs.ents, hs.attrs, hs.entsz, hs.attrsz⟩ hN) (by omega)
        show (writeB _ _ _).length ≤ _
        unfold writeB growB
        simp only [List.length_append, List.length_take, List.length_drop, List.length_replicate]
        omega
theorem sub_size (p : ByteArray) (e : ByteArray × Int) : (sub p e).size = p.size + 1 + e.1.size := by
  unfold sub
  simp [ByteArray.size_append]
  rfl
theorem pathsF_size {ds : List InoD} (hn : ∀ (x : Int), ∀ e ∈ entsAt ds x, e.1.size ≤ 14) (f : Nat) : ∀ (x : Int) (p z : ByteArray), z ∈ pathsF ds f x p → z.size ≤ p.size + 15 * f := by
  induction f with
  | zero => intro x p z hz; simp [pathsF] at hz
  | succ f ih =>
    intro x p z hz
    rw [pathsF] at hz
    obtain ⟨e, he, hz⟩ := List.mem_flatMap.1 hz
    have h1 := hn x e he
    have h2 := sub_size p e
    rcases List.mem_cons.1 hz with rfl | hz
    · omega
    · have := ih e.2 (sub p e) z hz
      omega
/-- A tree's paths are few and short. -/
theorem pathsD_size {nx : Int} {ds : List InoD} : (pathsD nx ds).length ≤ 300 ∧ ∀ z ∈ pathsD nx ds, z.size ≤ 1000 := by
  unfold pathsD
  rw [sortS_len]
  cases ht : treeD nx ds with
  | false => exact ⟨by simp, fun z hz => by rw [sortS_mem] at hz; simp at hz⟩
  | true =>
    refine ⟨by simpa using (treeD_tr ht).few 31 ⟨#[]⟩, fun z hz => ?_⟩
    rw [sortS_mem] at hz
    have h1 := pathsF_size (ds := ds) (fun x e he => ?_) 31 1 ⟨#[]⟩ z (by simpa using hz)
    · have : (⟨#[]⟩ : ByteArray).size = 0 := rfl
      omega
    · unfold entsAt at he
      cases hl : look ds x with
      | none => rw [hl] at he; simp [inoZ] at he
      | some D =>
        rw [hl] at he
        have h2 := (entsOk_at (ok_parts ((treeD_tr ht).ok D (look_mem hl).1)).2.2.1).2 e he
        exact nameOk_len h2.1
end

section
open Go.RowKit
theorem DQA.gr {B : Nat} {W W' : World} {v : Value} {rs : List InoR} {js : List InoJ} (h : DQA B W v rs js) {X : Nat} (g : W.grownBy W' (some X)) (hX : X < B) : DQA B W' v rs js :=
  h.kept g.size (row_kept h.row g (fun m hm e => by have := (World.ownsRow.lt h.row m hm).1; simp at e; omega)) (fun k j e b h1 h2 => g.block b (by have := h.lo k j e; omega) (by have := h.lo k j e; simp; omega))
/-- A table in the drawing. -/
structure TQ (B : Nat) (W : World) (a : Option Addr) (n c : Nat) (ds : List InoD) : Prop where
  ex : ∃ js, js.length = n ∧ DQA B W (.slice a n c) (ds.map lift) js
  good : Good 33 ds
theorem TQ.tr {B : Nat} {W : World} {a : Option Addr} {n c : Nat} {ds : List InoD} (h : TQ B W a n c ds) : ∃ rs, TR W a n rs ∧ rs.map InoR.D = ds := by
  obtain ⟨js, hn, hq⟩ := h.ex
  have h1 : (js.map InoJ.r).map InoR.D = ds := by rw [hq.ds, lift_map]
  have h2 : js.length = ds.length := by rw [← h1]; simp
  refine ⟨js.map InoJ.r, ⟨by simpa using hn, by have := h.good.len; omega, fun r hr => ?_, hq.rd hn⟩, h1⟩
  exact h.good.small r.D (by rw [← h1]; exact List.mem_map_of_mem hr)
theorem TQ.keep {B : Nat} {W W' : World} {a : Option Addr} {n c : Nat} {ds : List InoD} (h : TQ B W a n c ds) (hb : Below W.heap.size W W') : TQ B W' a n c ds := by
  obtain ⟨js, hn, hq⟩ := h.ex
  exact ⟨⟨js, hn, hq.keep hb⟩, h.good⟩
theorem TQ.gr {B : Nat} {W W' : World} {a : Option Addr} {n c : Nat} {ds : List InoD} (h : TQ B W a n c ds) {X : Nat} (g : W.grownBy W' (some X)) (hX : X < B) : TQ B W' a n c ds := by
  obtain ⟨js, hn, hq⟩ := h.ex
  exact ⟨⟨js, hn, hq.gr g hX⟩, h.good⟩
theorem TQ.lower {B B' : Nat} {W : World} {a : Option Addr} {n c : Nat} {ds : List InoD} (h : TQ B W a n c ds) (hB : B' ≤ B) : TQ B' W a n c ds := by
  obtain ⟨js, hn, hq⟩ := h.ex
  exact ⟨⟨js, hn, hq.lower hB⟩, h.good⟩
theorem TabC.tq {w w' : World} {nx q : Int} {ds : List InoD} {e : Ending} (h : TabC w nx ds q e w') (hg : Good 33 ds) : ∃ a n c, e = .returned (.tuple #[.agg #[.slice a n c, .int .i64 nx], .int .i64 q]) ∧ TQ w.heap.size w' a n c ds ∧ Below w.heap.size w w' := by
  obtain ⟨a, c, js, rfl, hq, hb⟩ := h
  exact ⟨a, js.length, c, rfl, ⟨⟨js, rfl, hq⟩, hg⟩, hb⟩
set_option maxRecDepth 100000 in
set_option maxHeartbeats 2000000 in
theorem l6PathS (gc sn scap : Nat) (sa : Option Addr) (zs : List Int) (a : Option Addr) (n c : Nat) (nx : Int) (ds : List InoD) (rs : List InoR) (w : World) (h : Src w gc sn scap sa zs) (hT : TR w a n rs) (hds : rs.map InoR.D = ds) :
    Calls Try.prog 106 #[.pointer (some ⟨gc, 0, none⟩), .agg #[.slice a n c, .int .i64 nx]] w fun e w' => ∃ z : ByteArray, e = .returned (.string z) ∧ z.size ≤ 4000 ∧ Src w' gc sn scap sa zs ∧ w.grownBy w' (some gc) := by
  have hgc := h.cur.lt
  have B0 : Below w.heap.size w (w.alloc (.cells #[.slice a n c, .int .i64 nx] 26)) := (Below.refl _ w).alloc (Nat.le_refl _) _
  have hc := pathsS a n c nx rs _ (hT.keep B0)
  rw [hds] at hc
  obtain ⟨P, hP⟩ : ∃ P, pathsD nx ds = P := ⟨_, rfl⟩
  have hps := pathsD_size (nx := nx) (ds := ds)
  rw [hP] at hc hps
  obtain ⟨k, hk⟩ : ∃ k, P.length = k := ⟨_, rfl⟩
  rw [hk] at hc hps
  have HK : Hid _ := hk
  have HPS : Hid _ := hps.2
  have hk3 := hps.1
  clear hps hP hds hT hk
  simp only [World.size_alloc] at hc
  go_enter Try.func106, Try.ntmps106
  go_wp2_with fail
  obtain ⟨W0, hW0⟩ : ∃ W, w.alloc (.cells #[.slice a n c, .int .i64 nx] 26) = W := ⟨_, rfl⟩
  have hs0 : W0.heap.size = w.heap.size + 1 := by rw [← hW0]; simp
  rw [hW0] at B0 hc ⊢
  clear hW0
  (with_reducible refine hc.mono ?_)
  rintro e w1 ⟨g, cc, rfl, o1, b1⟩
  clear hc
  have hb1 : Below w.heap.size w w1 := B0.trans (b1.mono (by omega))
  have hs1 := h.keep hb1
  have hg1 : w.grownBy w1 (some gc) := gr_of_below hb1 _
  have hgg : gc < g := by have := (World.ownsRow.lt o1 g rfl).1; omega
  have hne : (some g : Option Nat) ≠ some gc := by simp; omega
  have HO : Hid _ := o1
  clear o1 b1 B0 hs0
  by_cases hk0 : k = 0
  · subst hk0
    go_wp2_with fail
    (with_reducible refine (any_step gc sn scap sa zs w1 hs1).mono ?_)
    rintro e w2 ⟨z, rfl, hz, hs2, hg2⟩
    go_wp2
    go_ret
    exact ⟨z, rfl, by omega, hs2, hg1.trans hg2⟩
  · have hk1 : (0 : Int) < (k : Int) := by omega
    go_wp2_with fail
    refine (once_step gc sn scap sa zs 4 w1 hs1 (by omega) (by omega)).mono ?_
    rintro e w2 ⟨Bb, rfl, hs2, hg2⟩
    cases Bb with
    | true =>
      go_wp2_with fail
      (with_reducible refine (any_step gc sn scap sa zs w2 hs2).mono ?_)
      rintro e w3 ⟨z, rfl, hz, hs3, hg3⟩
      go_wp2
      go_ret
      exact ⟨z, rfl, by omega, hs3, (hg1.trans hg2).trans hg3⟩
    | false =>
      go_wp2_with fail
      (with_reducible refine (below_step gc sn scap sa zs k w2 hs2 (by omega) (by omega)).mono ?_)
      rintro e w3 ⟨x, rfl, hx, hs3, hg3⟩
      have o3 := World.ownsRow.kept HO.out (hg2.trans hg3) (.inr hne)
      have hxl : x < P.length := by rw [HK.out]; exact hx
      have hcx : w3.cell? ⟨g, x, none⟩ = some (.string P[x]) := by
        rw [World.ownsRow.cellAt o3 x (by omega)]
        simp [sV, hxl]
      obtain ⟨z, hz⟩ : ∃ z, P[x] = z := ⟨_, rfl⟩
      have hzs : z.size ≤ 1000 := by rw [← hz]; exact HPS.out _ (List.getElem_mem hxl)
      rw [hz] at hcx
      have hx1 : (x : Int) < (k : Int) := by omega
      clear hz o3 hxl
      go_wp2
      go_ret
      exact ⟨z, rfl, by omega, hs3, (hg1.trans hg2).trans hg3⟩
end
end Go.Proofs.Ytgcmpimckpnemaa
