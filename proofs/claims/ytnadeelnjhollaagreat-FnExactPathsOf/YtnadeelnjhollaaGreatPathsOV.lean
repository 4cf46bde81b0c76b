/-
  What the specification's PathsOf answers.
-/
import Derived.Test.YtnadeelnjhollaaGreatDropSV
import Derived.Test.YtnadeelnjhollaaGreatTreeSV
import Derived.Test.YtnadeelnjhollaaGreatSortSV
namespace Go.Proofs.YtnadeelnjhollaaGreat
open Go.RowKit
set_option maxRecDepth 100000 in
set_option maxHeartbeats 4000000 in
theorem pathsS (a : Option Addr) (n cap : Nat) (nx : Int) (rs : List InoR) (w : World) (ht : TR w a n rs) :
    Calls Tryz.prog 6 #[.agg #[.slice a n cap, .int .i64 nx]] w fun e w' => ∃ g c, e = .returned (.slice (some ⟨g, 0, none⟩) (pathsD nx (rs.map InoR.D)).length c) ∧ w'.ownsRow w.heap.size 9 1 (.slice (some ⟨g, 0, none⟩) (pathsD nx (rs.map InoR.D)).length c) (pathsD nx (rs.map InoR.D)).length (sV (pathsD nx (rs.map InoR.D))) ∧ Below w.heap.size w w' := by
  obtain ⟨ds, hds⟩ : ∃ ds, rs.map InoR.D = ds := ⟨_, rfl⟩
  have B0 : Below w.heap.size w (((w.alloc (.cells #[.slice a n cap, .int .i64 nx] 30)).alloc (.cells #[] 9)).alloc (.cells #[.slice (some ⟨w.heap.size + 1, 0, none⟩) 0 0] 26)) := (((Below.refl _ w).alloc (Nat.le_refl _) _).alloc (by simp) _).alloc (by simp; omega) _
  have z0 := ((Blk.new w 30 #[.slice a n cap, .int .i64 nx]).alloc (.cells #[] 9)).alloc (.cells #[.slice (some ⟨w.heap.size + 1, 0, none⟩) 0 0] 26)
  have oE := empty_row (w.alloc (.cells #[.slice a n cap, .int .i64 nx] 30)) w.heap.size 9 1 (by simp)
  have zX := Blk.new ((w.alloc (.cells #[.slice a n cap, .int .i64 nx] 30)).alloc (.cells #[] 9)) 26 #[.slice (some ⟨w.heap.size + 1, 0, none⟩) 0 0]
  simp only [World.size_alloc] at oE zX
  have oE' := World.ownsRow.alloc oE (.cells #[.slice (some ⟨w.heap.size + 1, 0, none⟩) 0 0] 26)
  have px0 : PX w.heap.size (((w.alloc (.cells #[.slice a n cap, .int .i64 nx] 30)).alloc (.cells #[] 9)).alloc (.cells #[.slice (some ⟨w.heap.size + 1, 0, none⟩) 0 0] 26)) (w.heap.size + 1 + 1) (w.heap.size + 1) 0 [] := ⟨zX, oE'⟩
  obtain ⟨R, hR⟩ : ∃ R, pathsD nx ds = R := ⟨_, rfl⟩
  rw [hds, hR]
  have HR : Hid _ := hR
  have HT : Hid _ := ht
  have HDS : Hid _ := hds
  have hT0 := ht.keep B0
  have hcT := treeS a n cap nx rs (((w.alloc (.cells #[.slice a n cap, .int .i64 nx] 30)).alloc (.cells #[] 9)).alloc (.cells #[.slice (some ⟨w.heap.size + 1, 0, none⟩) 0 0] 26)) hT0
  rw [hds] at hcT
  clear oE oE' zX ht hT0 hds hR
  go_enter Tryz.func6, Tryz.ntmps6
  go_wp2_with fail
  obtain ⟨W0, hW0⟩ : ∃ W, ((w.alloc (.cells #[.slice a n cap, .int .i64 nx] 30)).alloc (.cells #[] 9)).alloc (.cells #[.slice (some ⟨w.heap.size + 1, 0, none⟩) 0 0] 26) = W := ⟨_, rfl⟩
  rw [hW0] at B0 z0 px0 hcT ⊢
  clear hW0
  (with_reducible refine hcT.mono ?_)
  rintro e w1 ⟨rfl, b1⟩
  clear hcT
  have hB1 : Below w.heap.size w w1 := B0.trans (b1.mono B0.size)
  have px1 := px0.keep b1
  have zb := z0.keep b1
  clear px0 z0 B0 b1
  cases htr : treeD nx ds with
  | false =>
    have hRe : sortS [] = R := by rw [← HR.out]; unfold pathsD; rw [htr]; rfl
    have x0 := px1.cell.cell 0
    simp at x0
    have hcS := l7SortS (some ⟨w.heap.size + 1, 0, none⟩) 0 0 [] w1 rfl (by omega) (.inl rfl)
    rw [hRe] at hcS
    have hR0 : R = [] := hRe.symm
    subst hR0
    clear hRe HR px1 htr
    go_wp2_with fail
    (with_reducible refine hcS.mono ?_)
    rintro e w2 ⟨g2, c2, rfl, o2, b2⟩
    have HD : Hid _ := And.intro (row_lower o2 hB1.size) (hB1.trans (b2.mono hB1.size))
    clear hcS x0 o2 b2
    go_wp2
    go_ret
    first | exact ⟨_, _, rfl, HD.out⟩ | exact ⟨_, ⟨_, rfl⟩, HD.out⟩
  | true =>
    have htt := treeD_tr htr
    have hend := htt.ends
    have hfew := htt.few 31 ⟨#[]⟩
    have hRe : sortS (pathsF ds 31 1 ⟨#[]⟩) = R := by rw [← HR.out]; unfold pathsD; rw [htr]; rfl
    have t0 := zb.cell 0
    have t1 := zb.cell 1
    simp at t0 t1
    have hcP := l7PathsS a n cap nx rs w HT.out 31 1 ⟨#[]⟩ w1 (w.heap.size + 1 + 1) (w.heap.size + 1) 0 [] (by rw [HDS.out]; exact hend) (by decide) px1 (by omega) hB1 (by rw [HDS.out]; simp; omega)
    rw [HDS.out, List.nil_append] at hcP
    obtain ⟨F, hF⟩ : ∃ F, pathsF ds 31 1 ⟨#[]⟩ = F := ⟨_, rfl⟩
    rw [hF] at hcP hfew hRe
    have hRl : F.length = R.length := by rw [← hRe, sortS_len]
    have HRE : Hid _ := hRe
    clear htr htt hend px1 hRe hF
    go_wp2_with fail
    (with_reducible refine hcP.mono ?_)
    rintro e w2 ⟨g2, c2, rfl, px2, fr2, hg2⟩
    have hB2 : Below w.heap.size w w2 := Below.fr hB1 fr2 hB1.size (by omega) (by omega)
    have x0 := px2.cell.cell 0
    simp at x0
    have hcS := l7SortS (some ⟨g2, 0, none⟩) F.length c2 F w2 rfl (by omega) (rowV_rd px2.row)
    rw [HRE.out, hRl] at hcS
    rw [hRl] at x0
    clear px2 fr2 hcP t0 t1 zb hfew hRl HRE
    go_wp2_with fail
    (with_reducible refine hcS.mono ?_)
    rintro e w3 ⟨g3, c3, rfl, o3, b3⟩
    have HD : Hid _ := And.intro (row_lower o3 hB2.size) (hB2.trans (b3.mono hB2.size))
    clear hcS x0 o3 b3
    go_wp2
    go_ret
    first | exact ⟨_, _, rfl, HD.out⟩ | exact ⟨_, ⟨_, rfl⟩, HD.out⟩
end Go.Proofs.YtnadeelnjhollaaGreat
