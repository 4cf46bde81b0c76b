/-
  The walk of FnHoles.
-/
import Derived.Test.YtbjfihabkpianaaGreatDoorGrownWE
namespace Go.Proofs.YtbjfihabkpianaaGreatDoor
open Go.RowKit
set_option maxRecDepth 100000 in
theorem gX_stat2 (K L M : List Int) : statD (gX K L M) pTwo = (⟨4, 1, 1, L, [], []⟩, 0) := by kernel_rfl
/-- The file behind what is written there. -/
def gapD (k : Nat) : List Int := List.replicate k 0 ++ [120]
theorem gap_len (k : Nat) : (gapD k).length = k + 1 := by simp [gapD]
theorem gap_last (k : Nat) : (gapD k).getD k 0 = 120 := by simp [gapD]
theorem gap_at {k i : Nat} (h : i < k) : (gapD k).getD i 0 = 0 := by
  unfold gapD
  rw [List.getD_eq_getElem?_getD, List.getElem?_append_left (by simpa using h), List.getElem?_replicate, if_pos h]
  rfl
theorem rd_mark (W : World) (x : Int) (fr : Nat × Nat) : Rd (W.alloc (.cells #[.int .u8 x] 5 fr)) (some ⟨W.heap.size, 0, none⟩) [x] := by
  refine .inr ⟨W.heap.size, 0, rfl, fun i hi => ?_⟩
  have : i = 0 := by simp at hi; omega
  subst this
  rw [cell_of_row (W.alloc (.cells #[.int .u8 x] 5 fr)) W.heap.size (0 + 0) #[.int .u8 x] 5 fr (heap_alloc_new W _)]
  rfl
set_option maxRecDepth 100000 in
set_option maxHeartbeats 8000000 in
theorem walkFnHoles (a : Option Addr) (n cap : Nat) (zs : List Int) (w : World) (hr : ByteRow w a n cap zs) (het : EtCell w) :
    Calls Tryz.prog 8 #[.slice a n cap] w fun e w' => e = .returned (.bool true) ∧ Below w.heap.size w w' := by
  by_cases hbig : (1048576 : Int) < (n : Int)
  · have hd : decide ((1048576 : Int) < (n : Int)) = true := decide_eq_true hbig
    have hc := big8_any a n cap w
    rw [hd] at hc
    go_enter Tryz.func8, Tryz.ntmps8
    go_wp2_with fail
    (with_reducible refine hc.mono ?_)
    rintro e w1 ⟨rfl, hw1⟩
    obtain rfl := hw1.symm
    go_wp2
    go_ret
    exact ⟨rfl, Below.refl _ _⟩
  have hd : decide ((1048576 : Int) < (n : Int)) = false := decide_eq_false hbig
  have hc := big8_any a n cap w
  rw [hd] at hc
  have HET : Hid _ := het
  have hn20 : n ≤ 1048576 := by omega
  obtain ⟨ys, hyl, hyr, hyb⟩ := rd_of_row hr
  have hG := grownI a n cap ys w hyl hn20 hyr hyb het
  obtain ⟨v, hv⟩ : ∃ v, atV8 ys n 2 = v := ⟨_, rfl⟩
  obtain ⟨p, hp⟩ : ∃ v, atV8 ys n 3 % 50 = v := ⟨_, rfl⟩
  have hv255 : v ≤ 255 := by rw [← hv]; exact atV8_le ys n 2 hyb
  have hA : Calls Tryz.prog 31 #[.slice a n cap, .int .i64 2] w fun e w' => e = .returned (.int .i64 (v : Int)) ∧ w' = w := by
    have h := at8_any a n cap ys 2 w hyl hn20 (by omega) hyr hyb
    rw [hv] at h
    exact h
  rw [hv, hp] at hG
  have hp50 : p < 50 := by omega
  obtain ⟨k, hk⟩ : ∃ k, v % 90 = k := ⟨_, rfl⟩
  have hk90 : k < 90 := by omega
  have hmod : (v : Int) % 90 = (k : Int) := by omega
  have hmod2 : Int.tmod (v : Int) 90 = (k : Int) := by rw [Int.tmod_eq_emod_of_nonneg (by omega)]; exact hmod
  clear hd hbig het hk hp hv hr hyl hyr hyb
  go_enter Tryz.func8, Tryz.ntmps8
  go_wp2_with fail
  (with_reducible refine hc.mono ?_)
  rintro e w1 ⟨rfl, hw1⟩
  obtain rfl := hw1.symm
  clear hc
  go_wp2_with fail
  (with_reducible refine hA.mono ?_)
  rintro e w1 ⟨rfl, hw1⟩
  obtain rfl := hw1.symm
  clear hA
  go_wp2_with fail
  (with_reducible refine hG.mono ?_)
  rintro e w2 ⟨b, m, c, rs, rfl, hTr, hRr, b2⟩
  have bT : Below w2.heap.size w2 (w2.alloc (.cells #[.slice b m c, .int .i64 6] 47)) := (Below.refl _ w2).alloc (Nat.le_refl _) _
  have zT := Blk.new w2 47 #[.slice b m c, .int .i64 6]
  have B2 := b2.trans (bT.mono b2.size)
  have hTr2 := hTr.keep bT
  go_upto_region 5 with fail
  obtain ⟨W2, hW2⟩ : ∃ W, w2.alloc (.cells #[.slice b m c, .int .i64 6] 47) = W := ⟨_, rfl⟩
  rw [hW2] at zT B2 hTr2 ⊢
  obtain ⟨T, hT⟩ : ∃ X, w2.heap.size = X := ⟨_, rfl⟩
  rw [hT] at zT ⊢
  have lK : ([(v : Int), 7] : List Int).length ≤ 100 := by simp
  have lL : ([] : List Int).length ≤ 100 := by simp
  have lM : (gTop p).length ≤ 100 := by rw [gTop_len]; omega
  have lH : (gapD k).length ≤ 100 := by rw [gap_len]; omega
  have htree := gX_tree lK lL lM
  have hwf := (tree_facts (nx := 6) (rs := rs) (by rw [hRr]; exact htree)).2.1
  have bM : Below W2.heap.size W2 (W2.alloc (.cells #[.int .u8 120] 5 (1, 2))) := (Below.refl _ W2).alloc (Nat.le_refl _) _
  have hcW := writeAtI b m c 6 rs pTwo (k : Int) (some ⟨W2.heap.size, 0, none⟩) 1 1 [120] (W2.alloc (.cells #[.int .u8 120] 5 (1, 2))) (hTr2.keep bM) hwf (EtCell.keep HET.out (B2.trans (bM.mono B2.size))) (by decide) rfl (by omega) (rd_mark W2 120 (1, 2)) (fun z hz => by simp at hz; omega)
  rw [hRr, gX_w4 lK lL lM (by simp; omega), writeB_nil] at hcW
  have hcW' : Calls Tryz.prog 33 #[.agg #[.slice b m c, .int .i64 6], .string pTwo, .int .i64 (k : Int), .slice (some ⟨W2.heap.size, 0, none⟩) 1 1] (W2.alloc (.cells #[.int .u8 120] 5 (1, 2))) fun e w' => TabC (W2.alloc (.cells #[.int .u8 120] 5 (1, 2))) 6 (gX [(v : Int), 7] (gapD k) (gTop p)) 0 e w' := hcW
  unfold pTwo at hcW'
  have hci : (convert 42 42 (.slice (some ⟨W2.heap.size, 0, none⟩) 1 1)).run Tryz.prog (W2.alloc (.cells #[.int .u8 120] 5)) = .ok (.slice (some ⟨W2.heap.size, 0, none⟩) 1 1) (W2.alloc (.cells #[.int .u8 120] 5 (1, 2))) := Lib.run_convert_bytes_const (P := Tryz.prog) W2 42 5 #[.int .u8 120] 1 1 Tryz.underlying42 Tryz.underlying5
  have z0 := zT.cell 0
  have z1 := zT.cell 1
  simp at z0 z1
  clear hcW hTr hTr2 hRr hwf htree hW2 hT bT b2 zT
  go_wp2_with fail
  (with_reducible refine hcW'.mono ?_)
  intro e w3 hp3
  obtain ⟨a3, n3, c3, rs3, rfl, hT3, hR3, b3⟩ := hp3.open (gX_small lK lH lM) (by show (5 : Nat) ≤ _; omega)
  have B3 := (B2.trans (bM.mono B2.size)).trans (b3.mono (Nat.le_trans B2.size bM.size))
  have bA : Below w3.heap.size w3 (w3.alloc (.cells #[.slice a3 n3 c3, .int .i64 6] 47)) := (Below.refl _ w3).alloc (Nat.le_refl _) _
  have B4 := B3.trans (bA.mono B3.size)
  obtain ⟨t1, t2, t3⟩ := tree_facts (nx := 6) (rs := rs3) (by rw [hR3]; exact gX_tree lK lH lM)
  have hst : statD (rs3.map InoR.D) pTwo = (⟨4, 1, 1, gapD k, [], []⟩, 0) := by rw [hR3]; exact gX_stat2 _ _ _
  have hcR := readI a3 n3 c3 6 rs3 pTwo 1000 _ (hT3 _ bA).1 t1 t2 t3 (EtCell.keep HET.out B4) (by decide) (by omega) (by rw [hst]; dsimp only; omega)
  have hrd : readD (rs3.map InoR.D) pTwo 1000 = (gapD k, 0) := by
    unfold readD
    rw [hst]
    simp only [ne_eq, not_true_eq_false, if_false]
    rw [if_neg (by decide), List.take_of_length_le (by rw [gap_len]; omega)]
  rw [hrd] at hcR
  dsimp only at hcR
  rw [show ((1000 : Nat) : Int) = 1000 from rfl] at hcR
  unfold EBytes at hcR
  rw [gap_len] at hcR
  unfold pTwo at hcR
  clear hrd hst t1 t2 t3 hT3 hR3 hp3 hcW' hci bM b3 z0 z1
  have zX := Blk.new w3 47 #[.slice a3 n3 c3, .int .i64 6]
  have z0 := zX.cell 0
  have z1 := zX.cell 1
  simp at z0 z1
  go_wp2_with fail
  (with_reducible refine hcR.mono ?_)
  rintro e w5 ⟨ar, cr, rfl, hrr, b5⟩
  have B5 : Hid (Below w.heap.size w w5) := B4.trans (b5.mono B4.size)
  obtain ⟨bb, off, rfl, hlt, hcell⟩ := hrr.lt (by intro h; have := congrArg List.length h; rw [gap_len] at this; simp at this)
  have x1 := hcell k (by rw [gap_len]; omega)
  rw [gap_last] at x1
  have HC : Hid (∀ i, i < k → w5.cell? ⟨bb, off + i, none⟩ = some (.int .u8 0)) := fun i hi => by rw [hcell i (by rw [gap_len]; omega), gap_at hi]
  clear hcR z0 z1 zX bA B3 B4 b5 hrr hcell lK lL lM lH
  have hkk : (k : Int) < ((k + 1 : Nat) : Int) := by omega
  have hk1 : ((k + 1 : Nat) : Int) = (k : Int) + 1 := by omega
  go_wp2
  go_loop [10] (fun i => ∃ j : Nat, j ≤ k ∧ i = .int .i64 j) (fun i => k - (intOf i).toNat)
  case atStart => exact ⟨0, Nat.zero_le _, rfl⟩
  case round =>
    obtain ⟨j, hj, rfl⟩ := hrel
    by_cases hjk : j < k
    · have hji : (j : Int) < (k : Int) := by omega
      have hjl : (j : Int) < (k : Int) + 1 := by omega
      have hjn : j < k + 1 := by omega
      have xj := HC.out j hjk
      go_wp2
      go_round
      case rel => exact ⟨j + 1, by omega, by go_num⟩
      case measure => simp [intOf]; omega
    · have hji : ¬ (j : Int) < (k : Int) := by omega
      go_wp2
      go_ret
      exact ⟨rfl, B5.out⟩
end Go.Proofs.YtbjfihabkpianaaGreatDoor

