/-
  What the specification's FsOk answers.
-/
import Derived.Test.YtfjlemnohjnkhaaGreatTreeSF
namespace Go.Proofs.YtfjlemnohjnkhaaGreat
open Go.RowKit
set_option maxRecDepth 100000 in
set_option maxHeartbeats 16000000 in
theorem fsOkS (a : Option Addr) (n cap : Nat) (nx : Int) (vs : List VolR) (w : World) (hn : vs.length = n) (hs : n ≤ 4000000) (hsm : ∀ r ∈ vs, VolSmall r) (_hwf : ∀ r ∈ vs, ∀ q ∈ r.rs, (Lit.int .i64 q.D.ino).wf = true) (hr : RdVo w a vs) :
    Calls Tryz.prog 6 #[.agg #[.slice a n cap, .int .i64 nx]] w fun e w' => e = .returned (.bool (fsOkD nx (vs.map VolR.D))) ∧ Below w.heap.size w w' := by
  have B0 : Below w.heap.size w (w.alloc (.cells #[.slice a n cap, .int .i64 nx] 29)) := (Below.refl _ w).alloc (Nat.le_refl _) _
  have z0 := Blk.new w 29 #[.slice a n cap, .int .i64 nx]
  have HF : Hid (¬ (n ≤ 6 ∧ 1 ≤ nx ∧ nx ≤ 99) → false = fsOkD nx (vs.map VolR.D)) := fun h => (fsOk_form (by rw [hn]; exact h)).symm
  have HA : Hid (n ≤ 6 → 1 ≤ nx → nx ≤ 99 → (∀ (k : Nat) (r : VolR), k < n → vs[k]? = some r → volGood nx (vs.map VolR.D) r.D k = true) → fsOkD nx (vs.map VolR.D) = ascN ((vs.map VolR.D).map VolD.id)) := fun h1 h2 h3 h => fsOk_all (by omega) h2 h3 (fun k r hk hr => h k r (by omega) hr)
  have HBD : Hid (∀ (k : Nat) (r : VolR), vs[k]? = some r → volGood nx (vs.map VolR.D) r.D k = false → false = fsOkD nx (vs.map VolR.D)) := fun k r hk h => (fsOk_bad hk h).symm
  have HAS : Hid (∀ (j : Nat) (r t : VolR), vs[j]? = some r → vs[j + 1]? = some t → t.id ≤ r.id → false = fsOkD nx (vs.map VolR.D)) := fun j r t h1 h2 h3 => (fsOk_asc h1 h2 h3).symm
  generalize fsOkD nx (vs.map VolR.D) = R at HF HA HBD HAS ⊢
  have HB : Hid _ := B0
  have cL := fun W => l1In_any nx 1 99 W
  by_cases h6 : n ≤ 6
  · have g6 : ¬ (n : Int) > 6 := by omega
    by_cases h199 : 1 ≤ nx ∧ nx ≤ 99
    · obtain ⟨h1, h99⟩ := h199
      rw [decide_eq_true h1, decide_eq_true h99, Bool.and_true] at cL
      have hr0 := hr.keep B0
      have HR0 : Hid _ := hr0
      have HS : Hid _ := hsm
      have hn' : Hid (vs.length = n) := hn
      have cN := fun (W : World) (x : ByteArray) (hW : Below (w.alloc (.cells #[.slice a n cap, .int .i64 nx] 29)).heap.size (w.alloc (.cells #[.slice a n cap, .int .i64 nx] 29)) W) => volNmS a n cap nx vs x W hn hs (RdVo.keep hr0 hW)
      have CN : Hid _ := cN
      have t0 := z0.cell 0
      have t1 := z0.cell 1
      simp at t0 t1
      clear hr hr0 hsm _hwf hn cN
      go_enter Tryz.func6, Tryz.ntmps6
      go_wp2_with (go_at_call 18; (with_reducible refine (cL _).mono ?_); rintro e w1 ⟨rfl, hw1⟩; subst hw1)
      obtain ⟨W0, hW0⟩ : ∃ W, w.alloc (.cells #[.slice a n cap, .int .i64 nx] 29) = W := ⟨_, rfl⟩
      rw [hW0] at B0 z0 CN HR0 ⊢
      clear HB hW0 t0 t1 cL
      have hws := B0.size
      go_loopw [3] (fun i wr => ∃ k : Nat, k ≤ n ∧ i = .int .i64 k ∧ Hid (∀ (j : Nat) (r : VolR), j < k → vs[j]? = some r → volGood nx (vs.map VolR.D) r.D j = true) ∧ Hid (∀ (j : Nat) (r t : VolR), j + 1 < k → vs[j]? = some r → vs[j + 1]? = some t → r.id < t.id) ∧ Below W0.heap.size W0 wr) (fun i _ => n - (intOf i).toNat)
      case atStart => exact ⟨0, Nat.zero_le _, rfl, fun j r hj => by omega, fun j r t hj => by omega, Below.refl _ _⟩
      case round =>
        obtain ⟨k, hk, rfl, hall, hord, hB⟩ := hrel
        have hbz := hB.size
        have u0 := (z0.keep hB).cell 0
        have u1 := (z0.keep hB).cell 1
        simp at u0 u1
        by_cases hkn : k < n
        · have hki : (k : Int) < (n : Int) := by omega
          obtain ⟨r, hrk⟩ : ∃ r, vs[k]? = some r := ⟨_, List.getElem?_eq_getElem (by rw [hn'.out]; exact hkn)⟩
          obtain ⟨b, off, rfl, hlt, hc⟩ := (RdVo.keep HR0.out hB).lt (by intro h; have := hn'.out; rw [h] at this; simp at this; omega)
          obtain ⟨⟨x0, x1, x2, x3, x4, x5⟩, xr⟩ := hc k r hrk
          have hmem := List.mem_of_getElem? hrk
          have hsr := HS.out r hmem
          have hbad : Hid (volGood nx (vs.map VolR.D) r.D k = false → false = R) := HBD.out k r hrk
          have hnext : Hid (volGood nx (vs.map VolR.D) r.D k = true → ∀ (j : Nat) (q : VolR), j < k + 1 → vs[j]? = some q → volGood nx (vs.map VolR.D) q.D j = true) := by
            intro h j q hj hq
            rcases (show j < k ∨ j = k by omega) with h1 | rfl
            · exact hall.out j q h1 hq
            · rw [hrk] at hq
              cases hq
              exact h
          have HRK : Hid (∀ (j : Nat) (q : VolR), j + 1 = k → vs[j]? = some q → (r.id ≤ q.id → false = R) ∧ (q.id < r.id → ∀ (i : Nat) (p t : VolR), i + 1 < k + 1 → vs[i]? = some p → vs[i + 1]? = some t → p.id < t.id)) := fun j q hj hq => ⟨fun h => by subst hj; exact HAS.out j q r hq hrk h, fun h i p t hi hp ht => by
            subst hj
            rcases (show i + 1 < j + 1 ∨ i = j by omega) with h1 | rfl
            · exact hord.out i p t h1 hp ht
            · rw [hq] at hp
              rw [hrk] at ht
              cases hp
              cases ht
              exact h⟩
          have hgd : volGood nx (vs.map VolR.D) r.D k = (((volRight r.D && decide (1 ≤ r.D.id)) && decide (r.D.id < nx)) && (volNm (vs.map VolR.D) r.D.name == (k : Int))) := rfl
          have HCC : Hid (∀ W : World, Below wr.heap.size wr W → ∀ (j : Nat) (q : VolR), vs[j]? = some q → W.cell? ⟨b, off + j * 6, none⟩ = some (.int .i64 q.id)) := fun W hW j q hq => ((hc j q hq).1.keep hW hlt).c0
          obtain ⟨id, name, ro, limit, ra, rc, rnx, rr⟩ := r
          have hgd2 : volGood nx (vs.map VolR.D) (VolR.D ⟨id, name, ro, limit, ra, rc, rnx, rr⟩) k = ((((((nameOk name.data.toList && (decide (32 ≤ limit) && decide (limit ≤ 4000))) && treeD rnx (rr.map InoR.D)) && decide ((usageD (rr.map InoR.D) : Int) ≤ limit)) && decide (1 ≤ id)) && decide (id < nx)) && (volNm (vs.map VolR.D) name == (k : Int))) := hgd
          have hsr1 := hsr.name
          have hsr2 := hsr.len
          have hsr3 := hsr.ino
          dsimp only at x0 x1 x2 x3 x4 x5 hsr1 hsr2 hsr3 HRK
          have hTR : ∀ W : World, Below wr.heap.size wr W → TR W ra rr.length rr := fun W hW => ⟨rfl, hsr2, hsr3, RdI.keep xr hW⟩
          have hcT := fun (W : World) (hW : Below wr.heap.size wr W) => treeS ra rr.length rc rnx rr W (hTR W hW)
          have hcU := fun (W : World) (hW : Below wr.heap.size wr W) => usageS ra rr.length rc rnx rr W (hTR W hW)
          have hcN := fun W => nameS name W (by omega)
          have hcL := fun W => l1In_any limit 32 4000 W
          have hcV := fun (W : World) (hW : Below W0.heap.size W0 W) => CN.out W name hW
          obtain ⟨n1, hn1⟩ : ∃ m, rr.length = m := ⟨_, rfl⟩
          rw [hn1] at x4 hcT hcU
          generalize volGood nx (vs.map VolR.D) (VolR.D ⟨id, name, ro, limit, ra, rc, rnx, rr⟩) k = gd at hbad hnext hgd2
          generalize nameOk name.data.toList = bn at hcN hgd2
          generalize (decide (32 ≤ limit) && decide (limit ≤ 4000)) = bl at hcL hgd2
          generalize treeD rnx (rr.map InoR.D) = bt at hcT hgd2
          generalize usageD (rr.map InoR.D) = us at hcU hgd2
          generalize volNm (vs.map VolR.D) name = vn at hcV hgd2
          have hbA : Below wr.heap.size wr (wr.alloc (.cells #[.int .i64 id, .string name, .bool ro, .int .i64 limit, .slice ra n1 rc, .int .i64 rnx] 49)) := (Below.refl _ wr).alloc (Nat.le_refl _) _
          have bx := Blk.new wr 49 #[.int .i64 id, .string name, .bool ro, .int .i64 limit, .slice ra n1 rc, .int .i64 rnx]
          have zk := (z0.keep hB).keep hbA
          have hB1 := hB.trans (hbA.mono hbz)
          have HBX : Hid _ := And.intro bx (And.intro zk hbA)
          have HB1 : Hid _ := hB1
          have HGD : Hid _ := hgd2
          have HN : Hid (∀ W : World, Calls Tryz.prog 19 #[.string name] W fun e w' => e = .returned (.bool bn) ∧ Below W.heap.size W w') := fun W => (hcN W).mono fun e w' h => ⟨h.1, by rw [h.2]; exact Below.refl _ _⟩
          have HL : Hid (∀ W : World, Calls Tryz.prog 18 #[.int .i64 limit, .int .i64 32, .int .i64 4000] W fun e w' => e = .returned (.bool bl) ∧ Below W.heap.size W w') := fun W => (hcL W).mono fun e w' h => ⟨h.1, by rw [h.2]; exact Below.refl _ _⟩
          have HT0 : Hid _ := hcT
          have HU0 : Hid _ := hcU
          have HV0 : Hid _ := hcV
          clear hc hrk hmem hsr hsr1 hsr2 hsr3 xr hgd hgd2 hTR hcT hcU hcN hcL hcV hn1 bx zk hB1 hall hord HBD HAS HF HA
          go_upto_region 7 with fail
          obtain ⟨W1, hW1⟩ : ∃ W, wr.alloc (.cells #[.int .i64 id, .string name, .bool ro, .int .i64 limit, .slice ra n1 rc, .int .i64 rnx] 49) = W := ⟨_, rfl⟩
          rw [hW1] at HBX hbA HB1 ⊢
          obtain ⟨X, hX⟩ : ∃ X, wr.heap.size = X := ⟨_, rfl⟩
          rw [hX] at HBX ⊢
          have HX : Hid _ := hX
          have HT : Hid (∀ W : World, Below W1.heap.size W1 W → _) := fun W hW => HT0.out W (hbA.trans (hW.mono hbA.size))
          have HU : Hid (∀ W : World, Below W1.heap.size W1 W → _) := fun W hW => HU0.out W (hbA.trans (hW.mono hbA.size))
          have HV : Hid (∀ W : World, Below W1.heap.size W1 W → _) := fun W hW => HV0.out W (HB1.out.trans (hW.mono HB1.out.size))
          have HCC1 : Hid (∀ W : World, Below W1.heap.size W1 W → ∀ (j : Nat) (q : VolR), vs[j]? = some q → W.cell? ⟨b, off + j * 6, none⟩ = some (.int .i64 q.id)) := fun W hW => HCC.out W (hbA.trans (hW.mono hbA.size))
          have HKF : Hid (∀ W : World, Below W1.heap.size W1 W → W.cell? ⟨w.heap.size, 0, none⟩ = some (.slice (some ⟨b, off, none⟩) n cap) ∧ W.cell? ⟨w.heap.size, 1, none⟩ = some (.int .i64 nx) ∧ W.cell? ⟨X, 0, none⟩ = some (.int .i64 id) ∧ W.cell? ⟨X, 1, none⟩ = some (.string name) ∧ W.cell? ⟨X, 2, none⟩ = some (.bool ro) ∧ W.cell? ⟨X, 3, none⟩ = some (.int .i64 limit) ∧ W.cell? ⟨X, 4, none⟩ = some (.slice ra n1 rc) ∧ W.cell? ⟨X, 5, none⟩ = some (.int .i64 rnx)) := fun W hW => ⟨(Blk.keep HBX.out.2.1 hW).cell 0, (Blk.keep HBX.out.2.1 hW).cell 1, (Blk.keep HBX.out.1 hW).cell 0, (Blk.keep HBX.out.1 hW).cell 1, (Blk.keep HBX.out.1 hW).cell 2, (Blk.keep HBX.out.1 hW).cell 3, (Blk.keep HBX.out.1 hW).cell 4, (Blk.keep HBX.out.1 hW).cell 5⟩
          obtain ⟨u0, u1, v0, v1, v2, v3, v4, v5⟩ := HKF.out W1 (Below.refl _ _)
          clear hW1 hX x0 x1 x2 x3 x4 x5 HT0 HU0 HV0 HCC hbA hlt HBX
          by_cases hi1 : 1 ≤ id
          · have hi1' : ¬ id < 1 := by omega
            by_cases hi2 : id < nx
            · have hi2' : ¬ id ≥ nx := by omega
              have hi2'' : ¬ nx ≤ id := by omega
              cases k with
              | zero =>
                have HK : Hid _ := HKF.out
                have hasc : Hid (∀ (i : Nat) (p t : VolR), i + 1 < 0 + 1 → vs[i]? = some p → vs[i + 1]? = some t → p.id < t.id) := fun i p t hi => by omega
                clear HKF HRK HCC1
                cases bn
                case false =>
                  have hend : Hid (false = R) := hbad.out (by rw [HGD.out]; simp)
                  refine wp_region_noPanic ?_
                  refine wp_region_held_drew (S := fun W : World => W.cell? ⟨w.heap.size, 0, none⟩ = some (.slice (some ⟨b, off, none⟩) n cap) ∧ W.cell? ⟨w.heap.size, 1, none⟩ = some (.int .i64 nx) ∧ W.cell? ⟨X, 0, none⟩ = some (.int .i64 id) ∧ W.cell? ⟨X, 1, none⟩ = some (.string name) ∧ W.cell? ⟨X, 2, none⟩ = some (.bool ro) ∧ W.cell? ⟨X, 3, none⟩ = some (.int .i64 limit) ∧ W.cell? ⟨X, 4, none⟩ = some (.slice ra n1 rc) ∧ W.cell? ⟨X, 5, none⟩ = some (.int .i64 rnx)) (by kernel_rfl) (by go_keep) (fun hS => ?_)
                  refine wpAnyH_take (i := 0) (v := ?gv1) rfl (by kernel_rfl) (by kernel_rfl) (by kernel_rfl) (fun _ _ _ h => h) (Or.inl ⟨by kernel_rfl, ?gy1⟩) ‹_› ?gr1
                  case gy1 => (intro w' hSw; (try dsimp only at hSw); go_simp; (try with_reducible rfl))
                  refine wpAnyH_take (i := 1) (v := ?gv2) rfl (by kernel_rfl) (by kernel_rfl) (by kernel_rfl) (fun _ _ _ h => h) (Or.inl ⟨by kernel_rfl, ?gy2⟩) ‹_› ?gr2
                  case gy2 => (intro w' hSw; (try dsimp only at hSw); go_simp; (try with_reducible rfl))
                  refine wpAnyH_take (i := 2) (v := ?gv3) rfl (by kernel_rfl) (by kernel_rfl) (by kernel_rfl) (fun _ _ _ h => h) (Or.inl ⟨by kernel_rfl, ?gy3⟩) ‹_› ?gr3
                  case gy3 => (intro w' hSw; (try dsimp only at hSw); go_simp; (try with_reducible rfl))
                  refine wpAnyH_take (i := 3) (v := ?gv4) rfl (by kernel_rfl) (by kernel_rfl) (by kernel_rfl) (fun _ _ _ h => h) (Or.inl ⟨by kernel_rfl, ?gy4⟩) ‹_› ?gr4
                  case gy4 => (intro w' hSw; (try dsimp only at hSw); go_simp; (try with_reducible rfl))
                  refine wpAnyH_take (i := 4) (v := ?gv5) rfl (by kernel_rfl) (by kernel_rfl) (by kernel_rfl) (fun _ _ _ h => h) (Or.inl ⟨by kernel_rfl, ?gy5⟩) ‹_› ?gr5
                  case gy5 => (intro w' hSw; (try dsimp only at hSw); go_simp; (try with_reducible rfl))
                  refine wpAnyH_take (i := 5) (v := ?gv6) rfl (by kernel_rfl) (by kernel_rfl) (by kernel_rfl) (fun _ _ _ h => h) (Or.inl ⟨by kernel_rfl, ?gy6⟩) ‹_› ?gr6
                  case gy6 => (intro w' hSw; (try dsimp only at hSw); go_simp; (try with_reducible rfl))
                  refine wpAnyH_take (i := 6) (v := ?gv7) rfl (by kernel_rfl) (by kernel_rfl) (by kernel_rfl) (fun _ _ _ h => h) (Or.inl ⟨by kernel_rfl, ?gy7⟩) ‹_› ?gr7
                  case gy7 => (intro w' hSw; (try dsimp only at hSw); go_simp; (try with_reducible rfl))
                  refine wpAnyH_take (i := 7) (v := ?gv8) rfl (by kernel_rfl) (by kernel_rfl) (by kernel_rfl) (fun _ _ _ h => h) (Or.inl ⟨by kernel_rfl, ?gy8⟩) ‹_› ?gr8
                  case gy8 => (intro w' hSw; (try dsimp only at hSw); go_simp; (try with_reducible rfl))
                  refine wpAnyH_take (i := 8) (v := ?gv9) rfl (by kernel_rfl) (by kernel_rfl) (by kernel_rfl) (fun _ _ _ h => h) (Or.inl ⟨by kernel_rfl, ?gy9⟩) ‹_› ?gr9
                  case gy9 => (intro w' hSw; (try dsimp only at hSw); go_simp; (try with_reducible rfl))
                  refine wpAnyH_take (i := 9) (v := ?gv10) rfl (by kernel_rfl) (by kernel_rfl) (by kernel_rfl) (fun _ _ _ h => h) (Or.inl ⟨by kernel_rfl, ?gy10⟩) ‹_› ?gr10
                  case gy10 => (intro w' hSw; (try dsimp only at hSw); go_simp; (try with_reducible rfl))
                  refine wpAnyH_take (i := 10) (v := ?gv11) rfl (by kernel_rfl) (by kernel_rfl) (by kernel_rfl) (fun _ _ _ h => h) (Or.inl ⟨by kernel_rfl, ?gy11⟩) ‹_› ?gr11
                  case gy11 => (intro w' hSw; (try dsimp only at hSw); go_simp; (try with_reducible rfl))
                  refine wpAnyH_take (i := 11) (v := ?gv12) rfl (by kernel_rfl) (by kernel_rfl) (by kernel_rfl) (fun _ _ _ h => h) (Or.inl ⟨by kernel_rfl, ?gy12⟩) ‹_› ?gr12
                  case gy12 => (intro w' hSw; (try dsimp only at hSw); go_simp; (try with_reducible rfl))
                  refine wpAnyH_take (i := 12) (v := ?gv13) rfl (by kernel_rfl) (by kernel_rfl) (by kernel_rfl) (fun _ _ _ h => h) (Or.inl ⟨by kernel_rfl, ?gy13⟩) ‹_› ?gr13
                  case gy13 => (intro w' hSw; (try dsimp only at hSw); go_simp; (try with_reducible rfl))
                  refine wpAnyH_take (i := 13) (v := ?gv14) rfl (by kernel_rfl) (by kernel_rfl) (by kernel_rfl) (fun _ _ _ h => h) (Or.inl ⟨by kernel_rfl, ?gy14⟩) ‹_› ?gr14
                  case gy14 => (intro w' hSw; (try dsimp only at hSw); go_simp; (try with_reducible rfl))
                  refine wpAnyH_take (i := 14) (v := undef) rfl (by kernel_rfl) (by kernel_rfl) (by kernel_rfl) (fun _ _ _ h => h) (Or.inr ⟨by kernel_rfl, rfl⟩) ‹_› ?_
                  refine wpAnyH_take (i := 15) (v := undef) rfl (by kernel_rfl) (by kernel_rfl) (by kernel_rfl) (fun _ _ _ h => h) (Or.inr ⟨by kernel_rfl, rfl⟩) ‹_› ?_
                  refine wpAnyH_take (i := 16) (v := undef) rfl (by kernel_rfl) (by kernel_rfl) (by kernel_rfl) (fun _ _ _ h => h) (Or.inr ⟨by kernel_rfl, rfl⟩) ‹_› ?_
                  refine wpAnyH_take (i := 17) (v := undef) rfl (by kernel_rfl) (by kernel_rfl) (by kernel_rfl) (fun _ _ _ h => h) (Or.inr ⟨by kernel_rfl, rfl⟩) ‹_› ?_
                  refine wpAnyH_take (i := 18) (v := undef) rfl (by kernel_rfl) (by kernel_rfl) (by kernel_rfl) (fun _ _ _ h => h) (Or.inr ⟨by kernel_rfl, rfl⟩) ‹_› ?_
                  refine wpAnyH_take (i := 19) (v := undef) rfl (by kernel_rfl) (by kernel_rfl) (by kernel_rfl) (fun _ _ _ h => h) (Or.inr ⟨by kernel_rfl, rfl⟩) ‹_› ?_
                  refine wpAnyH_take (i := 20) (v := undef) rfl (by kernel_rfl) (by kernel_rfl) (by kernel_rfl) (fun _ _ _ h => h) (Or.inr ⟨by kernel_rfl, rfl⟩) ‹_› ?_
                  refine wpAnyH_take (i := 21) (v := undef) rfl (by kernel_rfl) (by kernel_rfl) (by kernel_rfl) (fun _ _ _ h => h) (Or.inr ⟨by kernel_rfl, rfl⟩) ‹_› ?_
                  refine wpAnyH_take (i := 22) (v := undef) rfl (by kernel_rfl) (by kernel_rfl) (by kernel_rfl) (fun _ _ _ h => h) (Or.inr ⟨by kernel_rfl, rfl⟩) ‹_› ?_
                  refine wpAnyH_take (i := 23) (v := undef) rfl (by kernel_rfl) (by kernel_rfl) (by kernel_rfl) (fun _ _ _ h => h) (Or.inr ⟨by kernel_rfl, rfl⟩) ‹_› ?_
                  refine wpAnyH_take (i := 24) (v := ?gv15) rfl (by kernel_rfl) (by kernel_rfl) (by kernel_rfl) (fun _ _ _ h => h) (Or.inl ⟨by kernel_rfl, ?gy15⟩) ‹_› ?gr15
                  case gy15 => (intro w' hSw; (try dsimp only at hSw); go_simp; (try with_reducible rfl))
                  refine wpAnyH_take (i := 25) (v := ?gv16) rfl (by kernel_rfl) (by kernel_rfl) (by kernel_rfl) (fun _ _ _ h => h) (Or.inl ⟨by kernel_rfl, ?gy16⟩) ‹_› ?gr16
                  case gy16 => (intro w' hSw; (try dsimp only at hSw); go_simp; (try with_reducible rfl))
                  refine wpAnyH_take (i := 26) (v := ?gv17) rfl (by kernel_rfl) (by kernel_rfl) (by kernel_rfl) (fun _ _ _ h => h) (Or.inl ⟨by kernel_rfl, ?gy17⟩) ‹_› ?gr17
                  case gy17 => (intro w' hSw; (try dsimp only at hSw); go_simp; (try with_reducible rfl))
                  refine wpAnyH_take (i := 27) (v := ?gv18) rfl (by kernel_rfl) (by kernel_rfl) (by kernel_rfl) (fun _ _ _ h => h) (Or.inl ⟨by kernel_rfl, ?gy18⟩) ‹_› ?gr18
                  case gy18 => (intro w' hSw; (try dsimp only at hSw); go_simp; (try with_reducible rfl))
                  refine wpAnyH_take (i := 28) (v := ?gv19) rfl (by kernel_rfl) (by kernel_rfl) (by kernel_rfl) (fun _ _ _ h => h) (Or.inl ⟨by kernel_rfl, ?gy19⟩) ‹_› ?gr19
                  case gy19 => (intro w' hSw; (try dsimp only at hSw); go_simp; (try with_reducible rfl))
                  try simp only [Act.put, List.setIfInBounds_toArray, List.set_cons_zero, List.set_cons_succ, List.getElem_toArray, List.getElem_cons_succ, List.getElem_cons_zero]
                  refine wpAnyH_ready (rs := [29]) (by kernel_rfl) (by simp) ?_
                  refine AllReadyH.cons rfl (fun K hK => ?_) AllReadyH.nil
                  go_simp
                  go_at_call 19
                  (with_reducible refine (HN.out W1.drew).mono ?_)
                  rintro e u1 ⟨rfl, b1⟩
                  have C1 : Below W1.heap.size W1 u1 := (Below.refl _ W1).drew.trans b1
                  clear hS
                  dsimp only
                  refine Shut.out hK _ _ (HK.out u1 C1) (fun hS => ?_)
                  try simp only [Act.put, List.setIfInBounds_toArray, List.set_cons_zero, List.set_cons_succ, List.getElem_toArray, List.getElem_cons_succ, List.getElem_cons_zero]
                  refine wpAnyH_take (i := 30) (v := ?gv20) rfl (by kernel_rfl) (by kernel_rfl) (by kernel_rfl) (fun _ _ _ h => h) (Or.inl ⟨by kernel_rfl, ?gy20⟩) ‹_› ?gr20
                  case gy20 => (intro w' hSw; (try dsimp only at hSw); go_simp; (try with_reducible rfl))
                  refine wpAnyH_take (i := 31) (v := ?gv21) rfl (by kernel_rfl) (by kernel_rfl) (by kernel_rfl) (fun _ _ _ h => h) (Or.inl ⟨by kernel_rfl, ?gy21⟩) ‹_› ?gr21
                  case gy21 => (intro w' hSw; (try dsimp only at hSw); go_simp; (try with_reducible rfl))
                  refine wpAnyH_take (i := 32) (v := ?gv22) rfl (by kernel_rfl) (by kernel_rfl) (by kernel_rfl) (fun _ _ _ h => h) (Or.inl ⟨by kernel_rfl, ?gy22⟩) ‹_› ?gr22
                  case gy22 => (intro w' hSw; (try dsimp only at hSw); go_simp; (try with_reducible rfl))
                  refine wpAnyH_take (i := 33) (v := undef) rfl (by kernel_rfl) (by kernel_rfl) (by kernel_rfl) (fun _ _ _ h => h) (Or.inr ⟨by kernel_rfl, rfl⟩) ‹_› ?_
                  refine wpAnyH_take (i := 34) (v := undef) rfl (by kernel_rfl) (by kernel_rfl) (by kernel_rfl) (fun _ _ _ h => h) (Or.inr ⟨by kernel_rfl, rfl⟩) ‹_› ?_
                  refine wpAnyH_take (i := 35) (v := undef) rfl (by kernel_rfl) (by kernel_rfl) (by kernel_rfl) (fun _ _ _ h => h) (Or.inr ⟨by kernel_rfl, rfl⟩) ‹_› ?_
                  refine wpAnyH_take (i := 36) (v := undef) rfl (by kernel_rfl) (by kernel_rfl) (by kernel_rfl) (fun _ _ _ h => h) (Or.inr ⟨by kernel_rfl, rfl⟩) ‹_› ?_
                  refine wpAnyH_take (i := 37) (v := undef) rfl (by kernel_rfl) (by kernel_rfl) (by kernel_rfl) (fun _ _ _ h => h) (Or.inr ⟨by kernel_rfl, rfl⟩) ‹_› ?_
                  refine wpAnyH_take (i := 38) (v := undef) rfl (by kernel_rfl) (by kernel_rfl) (by kernel_rfl) (fun _ _ _ h => h) (Or.inr ⟨by kernel_rfl, rfl⟩) ‹_› ?_
                  refine wpAnyH_take (i := 39) (v := ?gv23) rfl (by kernel_rfl) (by kernel_rfl) (by kernel_rfl) (fun _ _ _ h => h) (Or.inl ⟨by kernel_rfl, ?gy23⟩) ‹_› ?gr23
                  case gy23 => (intro w' hSw; (try dsimp only at hSw); go_simp; (try with_reducible rfl))
                  refine wpAnyH_take (i := 40) (v := ?gv24) rfl (by kernel_rfl) (by kernel_rfl) (by kernel_rfl) (fun _ _ _ h => h) (Or.inl ⟨by kernel_rfl, ?gy24⟩) ‹_› ?gr24
                  case gy24 => (intro w' hSw; (try dsimp only at hSw); go_simp; (try with_reducible rfl))
                  refine wpAnyH_take (i := 41) (v := undef) rfl (by kernel_rfl) (by kernel_rfl) (by kernel_rfl) (fun _ _ _ h => h) (Or.inr ⟨by kernel_rfl, rfl⟩) ‹_› ?_
                  refine wpAnyH_take (i := 42) (v := undef) rfl (by kernel_rfl) (by kernel_rfl) (by kernel_rfl) (fun _ _ _ h => h) (Or.inr ⟨by kernel_rfl, rfl⟩) ‹_› ?_
                  refine wpAnyH_take (i := 43) (v := undef) rfl (by kernel_rfl) (by kernel_rfl) (by kernel_rfl) (fun _ _ _ h => h) (Or.inr ⟨by kernel_rfl, rfl⟩) ‹_› ?_
                  refine wpAnyH_take (i := 44) (v := undef) rfl (by kernel_rfl) (by kernel_rfl) (by kernel_rfl) (fun _ _ _ h => h) (Or.inr ⟨by kernel_rfl, rfl⟩) ‹_› ?_
                  refine wpAnyH_take (i := 45) (v := ?gv25) rfl (by kernel_rfl) (by kernel_rfl) (by kernel_rfl) (fun _ _ _ h => h) (Or.inl ⟨by kernel_rfl, ?gy25⟩) ‹_› ?gr25
                  case gy25 => (intro w' hSw; (try dsimp only at hSw); go_simp; (try with_reducible rfl))
                  refine wpAnyH_take (i := 46) (v := ?gv26) rfl (by kernel_rfl) (by kernel_rfl) (by kernel_rfl) (fun _ _ _ h => h) (Or.inl ⟨by kernel_rfl, ?gy26⟩) ‹_› ?gr26
                  case gy26 => (intro w' hSw; (try dsimp only at hSw); go_simp; (try with_reducible rfl))
                  refine wpAnyH_take (i := 47) (v := undef) rfl (by kernel_rfl) (by kernel_rfl) (by kernel_rfl) (fun _ _ _ h => h) (Or.inr ⟨by kernel_rfl, rfl⟩) ‹_› ?_
                  refine wpAnyH_take (i := 48) (v := undef) rfl (by kernel_rfl) (by kernel_rfl) (by kernel_rfl) (fun _ _ _ h => h) (Or.inr ⟨by kernel_rfl, rfl⟩) ‹_› ?_
                  refine wpAnyH_take (i := 49) (v := undef) rfl (by kernel_rfl) (by kernel_rfl) (by kernel_rfl) (fun _ _ _ h => h) (Or.inr ⟨by kernel_rfl, rfl⟩) ‹_› ?_
                  refine wpAnyH_take (i := 50) (v := undef) rfl (by kernel_rfl) (by kernel_rfl) (by kernel_rfl) (fun _ _ _ h => h) (Or.inr ⟨by kernel_rfl, rfl⟩) ‹_› ?_
                  refine wpAnyH_take (i := 51) (v := ?gv27) rfl (by kernel_rfl) (by kernel_rfl) (by kernel_rfl) (fun _ _ _ h => h) (Or.inl ⟨by kernel_rfl, ?gy27⟩) ‹_› ?gr27
                  case gy27 => (intro w' hSw; (try dsimp only at hSw); go_simp; (try with_reducible rfl))
                  refine wpAnyH_take (i := 52) (v := ?gv28) rfl (by kernel_rfl) (by kernel_rfl) (by kernel_rfl) (fun _ _ _ h => h) (Or.inl ⟨by kernel_rfl, ?gy28⟩) ‹_› ?gr28
                  case gy28 => (intro w' hSw; (try dsimp only at hSw); go_simp; (try with_reducible rfl))
                  refine wpAnyH_take (i := 53) (v := undef) rfl (by kernel_rfl) (by kernel_rfl) (by kernel_rfl) (fun _ _ _ h => h) (Or.inr ⟨by kernel_rfl, rfl⟩) ‹_› ?_
                  refine wpAnyH_take (i := 54) (v := undef) rfl (by kernel_rfl) (by kernel_rfl) (by kernel_rfl) (fun _ _ _ h => h) (Or.inr ⟨by kernel_rfl, rfl⟩) ‹_› ?_
                  refine wpAnyH_take (i := 55) (v := undef) rfl (by kernel_rfl) (by kernel_rfl) (by kernel_rfl) (fun _ _ _ h => h) (Or.inr ⟨by kernel_rfl, rfl⟩) ‹_› ?_
                  refine wpAnyH_take (i := 56) (v := undef) rfl (by kernel_rfl) (by kernel_rfl) (by kernel_rfl) (fun _ _ _ h => h) (Or.inr ⟨by kernel_rfl, rfl⟩) ‹_› ?_
                  refine wpAnyH_take (i := 57) (v := undef) rfl (by kernel_rfl) (by kernel_rfl) (by kernel_rfl) (fun _ _ _ h => h) (Or.inr ⟨by kernel_rfl, rfl⟩) ‹_› ?_
                  refine wpAnyH_take (i := 58) (v := undef) rfl (by kernel_rfl) (by kernel_rfl) (by kernel_rfl) (fun _ _ _ h => h) (Or.inr ⟨by kernel_rfl, rfl⟩) ‹_› ?_
                  refine wpAnyH_take (i := 59) (v := ?gv29) rfl (by kernel_rfl) (by kernel_rfl) (by kernel_rfl) (fun _ _ _ h => h) (Or.inl ⟨by kernel_rfl, ?gy29⟩) ‹_› ?gr29
                  case gy29 => (intro w' hSw; (try dsimp only at hSw); go_simp; (try with_reducible rfl))
                  try simp only [Act.put, List.setIfInBounds_toArray, List.set_cons_zero, List.set_cons_succ, List.getElem_toArray, List.getElem_cons_succ, List.getElem_cons_zero]
                  refine wpAnyH_done (by kernel_rfl) (NoPanic.normal ?_) _
                  have hfb : Hid _ := HB1.out.trans (C1.mono HB1.out.size)
                  go_wp2
                  go_ret
                  exact ⟨ret_bool hend.out, B0.trans (hfb.out.mono hws)⟩
                by_cases hvk : vn = 0
                rotate_left
                · have hv1 : (vn == ((0 : Nat) : Int)) = false := by simpa using hvk
                  have hv2 : (vn != 0) = true := by simpa using hvk
                  have hv3 : (vn == 0) = false := by simpa using hvk
                  have hend : Hid (false = R) := hbad.out (by rw [HGD.out, hv1]; simp)
                  refine wp_region_noPanic ?_
                  refine wp_region_held_drew (S := fun W : World => W.cell? ⟨w.heap.size, 0, none⟩ = some (.slice (some ⟨b, off, none⟩) n cap) ∧ W.cell? ⟨w.heap.size, 1, none⟩ = some (.int .i64 nx) ∧ W.cell? ⟨X, 0, none⟩ = some (.int .i64 id) ∧ W.cell? ⟨X, 1, none⟩ = some (.string name) ∧ W.cell? ⟨X, 2, none⟩ = some (.bool ro) ∧ W.cell? ⟨X, 3, none⟩ = some (.int .i64 limit) ∧ W.cell? ⟨X, 4, none⟩ = some (.slice ra n1 rc) ∧ W.cell? ⟨X, 5, none⟩ = some (.int .i64 rnx)) (by kernel_rfl) (by go_keep) (fun hS => ?_)
                  refine wpAnyH_take (i := 0) (v := ?gv30) rfl (by kernel_rfl) (by kernel_rfl) (by kernel_rfl) (fun _ _ _ h => h) (Or.inl ⟨by kernel_rfl, ?gy30⟩) ‹_› ?gr30
                  case gy30 => (intro w' hSw; (try dsimp only at hSw); go_simp; (try with_reducible rfl))
                  refine wpAnyH_take (i := 1) (v := ?gv31) rfl (by kernel_rfl) (by kernel_rfl) (by kernel_rfl) (fun _ _ _ h => h) (Or.inl ⟨by kernel_rfl, ?gy31⟩) ‹_› ?gr31
                  case gy31 => (intro w' hSw; (try dsimp only at hSw); go_simp; (try with_reducible rfl))
                  refine wpAnyH_take (i := 2) (v := ?gv32) rfl (by kernel_rfl) (by kernel_rfl) (by kernel_rfl) (fun _ _ _ h => h) (Or.inl ⟨by kernel_rfl, ?gy32⟩) ‹_› ?gr32
                  case gy32 => (intro w' hSw; (try dsimp only at hSw); go_simp; (try with_reducible rfl))
                  refine wpAnyH_take (i := 3) (v := ?gv33) rfl (by kernel_rfl) (by kernel_rfl) (by kernel_rfl) (fun _ _ _ h => h) (Or.inl ⟨by kernel_rfl, ?gy33⟩) ‹_› ?gr33
                  case gy33 => (intro w' hSw; (try dsimp only at hSw); go_simp; (try with_reducible rfl))
                  refine wpAnyH_take (i := 4) (v := ?gv34) rfl (by kernel_rfl) (by kernel_rfl) (by kernel_rfl) (fun _ _ _ h => h) (Or.inl ⟨by kernel_rfl, ?gy34⟩) ‹_› ?gr34
                  case gy34 => (intro w' hSw; (try dsimp only at hSw); go_simp; (try with_reducible rfl))
                  refine wpAnyH_take (i := 5) (v := ?gv35) rfl (by kernel_rfl) (by kernel_rfl) (by kernel_rfl) (fun _ _ _ h => h) (Or.inl ⟨by kernel_rfl, ?gy35⟩) ‹_› ?gr35
                  case gy35 => (intro w' hSw; (try dsimp only at hSw); go_simp; (try with_reducible rfl))
                  refine wpAnyH_take (i := 6) (v := ?gv36) rfl (by kernel_rfl) (by kernel_rfl) (by kernel_rfl) (fun _ _ _ h => h) (Or.inl ⟨by kernel_rfl, ?gy36⟩) ‹_› ?gr36
                  case gy36 => (intro w' hSw; (try dsimp only at hSw); go_simp; (try with_reducible rfl))
                  refine wpAnyH_take (i := 7) (v := ?gv37) rfl (by kernel_rfl) (by kernel_rfl) (by kernel_rfl) (fun _ _ _ h => h) (Or.inl ⟨by kernel_rfl, ?gy37⟩) ‹_› ?gr37
                  case gy37 => (intro w' hSw; (try dsimp only at hSw); go_simp; (try with_reducible rfl))
                  refine wpAnyH_take (i := 8) (v := ?gv38) rfl (by kernel_rfl) (by kernel_rfl) (by kernel_rfl) (fun _ _ _ h => h) (Or.inl ⟨by kernel_rfl, ?gy38⟩) ‹_› ?gr38
                  case gy38 => (intro w' hSw; (try dsimp only at hSw); go_simp; (try with_reducible rfl))
                  refine wpAnyH_take (i := 9) (v := ?gv39) rfl (by kernel_rfl) (by kernel_rfl) (by kernel_rfl) (fun _ _ _ h => h) (Or.inl ⟨by kernel_rfl, ?gy39⟩) ‹_› ?gr39
                  case gy39 => (intro w' hSw; (try dsimp only at hSw); go_simp; (try with_reducible rfl))
                  refine wpAnyH_take (i := 10) (v := ?gv40) rfl (by kernel_rfl) (by kernel_rfl) (by kernel_rfl) (fun _ _ _ h => h) (Or.inl ⟨by kernel_rfl, ?gy40⟩) ‹_› ?gr40
                  case gy40 => (intro w' hSw; (try dsimp only at hSw); go_simp; (try with_reducible rfl))
                  refine wpAnyH_take (i := 11) (v := ?gv41) rfl (by kernel_rfl) (by kernel_rfl) (by kernel_rfl) (fun _ _ _ h => h) (Or.inl ⟨by kernel_rfl, ?gy41⟩) ‹_› ?gr41
                  case gy41 => (intro w' hSw; (try dsimp only at hSw); go_simp; (try with_reducible rfl))
                  refine wpAnyH_take (i := 12) (v := ?gv42) rfl (by kernel_rfl) (by kernel_rfl) (by kernel_rfl) (fun _ _ _ h => h) (Or.inl ⟨by kernel_rfl, ?gy42⟩) ‹_› ?gr42
                  case gy42 => (intro w' hSw; (try dsimp only at hSw); go_simp; (try with_reducible rfl))
                  refine wpAnyH_take (i := 13) (v := ?gv43) rfl (by kernel_rfl) (by kernel_rfl) (by kernel_rfl) (fun _ _ _ h => h) (Or.inl ⟨by kernel_rfl, ?gy43⟩) ‹_› ?gr43
                  case gy43 => (intro w' hSw; (try dsimp only at hSw); go_simp; (try with_reducible rfl))
                  refine wpAnyH_take (i := 14) (v := undef) rfl (by kernel_rfl) (by kernel_rfl) (by kernel_rfl) (fun _ _ _ h => h) (Or.inr ⟨by kernel_rfl, rfl⟩) ‹_› ?_
                  refine wpAnyH_take (i := 15) (v := undef) rfl (by kernel_rfl) (by kernel_rfl) (by kernel_rfl) (fun _ _ _ h => h) (Or.inr ⟨by kernel_rfl, rfl⟩) ‹_› ?_
                  refine wpAnyH_take (i := 16) (v := undef) rfl (by kernel_rfl) (by kernel_rfl) (by kernel_rfl) (fun _ _ _ h => h) (Or.inr ⟨by kernel_rfl, rfl⟩) ‹_› ?_
                  refine wpAnyH_take (i := 17) (v := undef) rfl (by kernel_rfl) (by kernel_rfl) (by kernel_rfl) (fun _ _ _ h => h) (Or.inr ⟨by kernel_rfl, rfl⟩) ‹_› ?_
                  refine wpAnyH_take (i := 18) (v := undef) rfl (by kernel_rfl) (by kernel_rfl) (by kernel_rfl) (fun _ _ _ h => h) (Or.inr ⟨by kernel_rfl, rfl⟩) ‹_› ?_
                  refine wpAnyH_take (i := 19) (v := undef) rfl (by kernel_rfl) (by kernel_rfl) (by kernel_rfl) (fun _ _ _ h => h) (Or.inr ⟨by kernel_rfl, rfl⟩) ‹_› ?_
                  refine wpAnyH_take (i := 20) (v := undef) rfl (by kernel_rfl) (by kernel_rfl) (by kernel_rfl) (fun _ _ _ h => h) (Or.inr ⟨by kernel_rfl, rfl⟩) ‹_› ?_
                  refine wpAnyH_take (i := 21) (v := undef) rfl (by kernel_rfl) (by kernel_rfl) (by kernel_rfl) (fun _ _ _ h => h) (Or.inr ⟨by kernel_rfl, rfl⟩) ‹_› ?_
                  refine wpAnyH_take (i := 22) (v := undef) rfl (by kernel_rfl) (by kernel_rfl) (by kernel_rfl) (fun _ _ _ h => h) (Or.inr ⟨by kernel_rfl, rfl⟩) ‹_› ?_
                  refine wpAnyH_take (i := 23) (v := undef) rfl (by kernel_rfl) (by kernel_rfl) (by kernel_rfl) (fun _ _ _ h => h) (Or.inr ⟨by kernel_rfl, rfl⟩) ‹_› ?_
                  refine wpAnyH_take (i := 24) (v := ?gv44) rfl (by kernel_rfl) (by kernel_rfl) (by kernel_rfl) (fun _ _ _ h => h) (Or.inl ⟨by kernel_rfl, ?gy44⟩) ‹_› ?gr44
                  case gy44 => (intro w' hSw; (try dsimp only at hSw); go_simp; (try with_reducible rfl))
                  refine wpAnyH_take (i := 25) (v := ?gv45) rfl (by kernel_rfl) (by kernel_rfl) (by kernel_rfl) (fun _ _ _ h => h) (Or.inl ⟨by kernel_rfl, ?gy45⟩) ‹_› ?gr45
                  case gy45 => (intro w' hSw; (try dsimp only at hSw); go_simp; (try with_reducible rfl))
                  refine wpAnyH_take (i := 26) (v := ?gv46) rfl (by kernel_rfl) (by kernel_rfl) (by kernel_rfl) (fun _ _ _ h => h) (Or.inl ⟨by kernel_rfl, ?gy46⟩) ‹_› ?gr46
                  case gy46 => (intro w' hSw; (try dsimp only at hSw); go_simp; (try with_reducible rfl))
                  refine wpAnyH_take (i := 27) (v := ?gv47) rfl (by kernel_rfl) (by kernel_rfl) (by kernel_rfl) (fun _ _ _ h => h) (Or.inl ⟨by kernel_rfl, ?gy47⟩) ‹_› ?gr47
                  case gy47 => (intro w' hSw; (try dsimp only at hSw); go_simp; (try with_reducible rfl))
                  refine wpAnyH_take (i := 28) (v := ?gv48) rfl (by kernel_rfl) (by kernel_rfl) (by kernel_rfl) (fun _ _ _ h => h) (Or.inl ⟨by kernel_rfl, ?gy48⟩) ‹_› ?gr48
                  case gy48 => (intro w' hSw; (try dsimp only at hSw); go_simp; (try with_reducible rfl))
                  try simp only [Act.put, List.setIfInBounds_toArray, List.set_cons_zero, List.set_cons_succ, List.getElem_toArray, List.getElem_cons_succ, List.getElem_cons_zero]
                  refine wpAnyH_ready (rs := [29]) (by kernel_rfl) (by simp) ?_
                  refine AllReadyH.cons rfl (fun K hK => ?_) AllReadyH.nil
                  go_simp
                  go_at_call 19
                  (with_reducible refine (HN.out W1.drew).mono ?_)
                  rintro e u1 ⟨rfl, b1⟩
                  have C1 : Below W1.heap.size W1 u1 := (Below.refl _ W1).drew.trans b1
                  clear hS
                  dsimp only
                  refine Shut.out hK _ _ (HK.out u1 C1) (fun hS => ?_)
                  try simp only [Act.put, List.setIfInBounds_toArray, List.set_cons_zero, List.set_cons_succ, List.getElem_toArray, List.getElem_cons_succ, List.getElem_cons_zero]
                  refine wpAnyH_take (i := 30) (v := ?gv49) rfl (by kernel_rfl) (by kernel_rfl) (by kernel_rfl) (fun _ _ _ h => h) (Or.inl ⟨by kernel_rfl, ?gy49⟩) ‹_› ?gr49
                  case gy49 => (intro w' hSw; (try dsimp only at hSw); go_simp; (try with_reducible rfl))
                  refine wpAnyH_take (i := 31) (v := ?gv50) rfl (by kernel_rfl) (by kernel_rfl) (by kernel_rfl) (fun _ _ _ h => h) (Or.inl ⟨by kernel_rfl, ?gy50⟩) ‹_› ?gr50
                  case gy50 => (intro w' hSw; (try dsimp only at hSw); go_simp; (try with_reducible rfl))
                  refine wpAnyH_take (i := 32) (v := ?gv51) rfl (by kernel_rfl) (by kernel_rfl) (by kernel_rfl) (fun _ _ _ h => h) (Or.inl ⟨by kernel_rfl, ?gy51⟩) ‹_› ?gr51
                  case gy51 => (intro w' hSw; (try dsimp only at hSw); go_simp; (try with_reducible rfl))
                  refine wpAnyH_take (i := 33) (v := ?gv52) rfl (by kernel_rfl) (by kernel_rfl) (by kernel_rfl) (fun _ _ _ h => h) (Or.inl ⟨by kernel_rfl, ?gy52⟩) ‹_› ?gr52
                  case gy52 => (intro w' hSw; (try dsimp only at hSw); go_simp; (try with_reducible rfl))
                  refine wpAnyH_take (i := 34) (v := ?gv53) rfl (by kernel_rfl) (by kernel_rfl) (by kernel_rfl) (fun _ _ _ h => h) (Or.inl ⟨by kernel_rfl, ?gy53⟩) ‹_› ?gr53
                  case gy53 => (intro w' hSw; (try dsimp only at hSw); go_simp; (try with_reducible rfl))
                  refine wpAnyH_take (i := 35) (v := ?gv54) rfl (by kernel_rfl) (by kernel_rfl) (by kernel_rfl) (fun _ _ _ h => h) (Or.inl ⟨by kernel_rfl, ?gy54⟩) ‹_› ?gr54
                  case gy54 => (intro w' hSw; (try dsimp only at hSw); go_simp; (try with_reducible rfl))
                  refine wpAnyH_take (i := 37) (v := ?gv55) rfl (by kernel_rfl) (by kernel_rfl) (by kernel_rfl) (fun _ _ _ h => h) (Or.inl ⟨by kernel_rfl, ?gy55⟩) ‹_› ?gr55
                  case gy55 => (intro w' hSw; (try dsimp only at hSw); go_simp; (try with_reducible rfl))
                  try simp only [Act.put, List.setIfInBounds_toArray, List.set_cons_zero, List.set_cons_succ, List.getElem_toArray, List.getElem_cons_succ, List.getElem_cons_zero]
                  refine wpAnyH_ready (rs := [36]) (by kernel_rfl) (by simp) ?_
                  refine AllReadyH.cons rfl (fun K hK => ?_) AllReadyH.nil
                  go_simp
                  go_at_call 20
                  (with_reducible refine (HV.out u1 C1).mono ?_)
                  rintro e u2 ⟨rfl, b2⟩
                  have C2 : Below W1.heap.size W1 u2 := C1.trans (b2.mono C1.size)
                  clear hS
                  dsimp only
                  refine Shut.out hK _ _ (HK.out u2 C2) (fun hS => ?_)
                  try simp only [Act.put, List.setIfInBounds_toArray, List.set_cons_zero, List.set_cons_succ, List.getElem_toArray, List.getElem_cons_succ, List.getElem_cons_zero]
                  refine wpAnyH_take (i := 38) (v := ?gv56) rfl (by kernel_rfl) (by kernel_rfl) (by kernel_rfl) (fun _ _ _ h => h) (Or.inl ⟨by kernel_rfl, ?gy56⟩) ‹_› ?gr56
                  case gy56 => (intro w' hSw; (try dsimp only at hSw); go_simp; (try with_reducible rfl))
                  refine wpAnyH_take (i := 39) (v := ?gv57) rfl (by kernel_rfl) (by kernel_rfl) (by kernel_rfl) (fun _ _ _ h => h) (Or.inl ⟨by kernel_rfl, ?gy57⟩) ‹_› ?gr57
                  case gy57 => (intro w' hSw; (try dsimp only at hSw); go_simp; (try with_reducible rfl))
                  refine wpAnyH_take (i := 40) (v := ?gv58) rfl (by kernel_rfl) (by kernel_rfl) (by kernel_rfl) (fun _ _ _ h => h) (Or.inl ⟨by kernel_rfl, ?gy58⟩) ‹_› ?gr58
                  case gy58 => (intro w' hSw; (try dsimp only at hSw); go_simp; (try with_reducible rfl))
                  refine wpAnyH_take (i := 41) (v := undef) rfl (by kernel_rfl) (by kernel_rfl) (by kernel_rfl) (fun _ _ _ h => h) (Or.inr ⟨by kernel_rfl, rfl⟩) ‹_› ?_
                  refine wpAnyH_take (i := 42) (v := undef) rfl (by kernel_rfl) (by kernel_rfl) (by kernel_rfl) (fun _ _ _ h => h) (Or.inr ⟨by kernel_rfl, rfl⟩) ‹_› ?_
                  refine wpAnyH_take (i := 43) (v := undef) rfl (by kernel_rfl) (by kernel_rfl) (by kernel_rfl) (fun _ _ _ h => h) (Or.inr ⟨by kernel_rfl, rfl⟩) ‹_› ?_
                  refine wpAnyH_take (i := 44) (v := undef) rfl (by kernel_rfl) (by kernel_rfl) (by kernel_rfl) (fun _ _ _ h => h) (Or.inr ⟨by kernel_rfl, rfl⟩) ‹_› ?_
                  refine wpAnyH_take (i := 45) (v := ?gv59) rfl (by kernel_rfl) (by kernel_rfl) (by kernel_rfl) (fun _ _ _ h => h) (Or.inl ⟨by kernel_rfl, ?gy59⟩) ‹_› ?gr59
                  case gy59 => (intro w' hSw; (try dsimp only at hSw); go_simp; (try with_reducible rfl))
                  refine wpAnyH_take (i := 46) (v := ?gv60) rfl (by kernel_rfl) (by kernel_rfl) (by kernel_rfl) (fun _ _ _ h => h) (Or.inl ⟨by kernel_rfl, ?gy60⟩) ‹_› ?gr60
                  case gy60 => (intro w' hSw; (try dsimp only at hSw); go_simp; (try with_reducible rfl))
                  refine wpAnyH_take (i := 47) (v := undef) rfl (by kernel_rfl) (by kernel_rfl) (by kernel_rfl) (fun _ _ _ h => h) (Or.inr ⟨by kernel_rfl, rfl⟩) ‹_› ?_
                  refine wpAnyH_take (i := 48) (v := undef) rfl (by kernel_rfl) (by kernel_rfl) (by kernel_rfl) (fun _ _ _ h => h) (Or.inr ⟨by kernel_rfl, rfl⟩) ‹_› ?_
                  refine wpAnyH_take (i := 49) (v := undef) rfl (by kernel_rfl) (by kernel_rfl) (by kernel_rfl) (fun _ _ _ h => h) (Or.inr ⟨by kernel_rfl, rfl⟩) ‹_› ?_
                  refine wpAnyH_take (i := 50) (v := undef) rfl (by kernel_rfl) (by kernel_rfl) (by kernel_rfl) (fun _ _ _ h => h) (Or.inr ⟨by kernel_rfl, rfl⟩) ‹_› ?_
                  refine wpAnyH_take (i := 51) (v := ?gv61) rfl (by kernel_rfl) (by kernel_rfl) (by kernel_rfl) (fun _ _ _ h => h) (Or.inl ⟨by kernel_rfl, ?gy61⟩) ‹_› ?gr61
                  case gy61 => (intro w' hSw; (try dsimp only at hSw); go_simp; (try with_reducible rfl))
                  refine wpAnyH_take (i := 52) (v := ?gv62) rfl (by kernel_rfl) (by kernel_rfl) (by kernel_rfl) (fun _ _ _ h => h) (Or.inl ⟨by kernel_rfl, ?gy62⟩) ‹_› ?gr62
                  case gy62 => (intro w' hSw; (try dsimp only at hSw); go_simp; (try with_reducible rfl))
                  refine wpAnyH_take (i := 53) (v := undef) rfl (by kernel_rfl) (by kernel_rfl) (by kernel_rfl) (fun _ _ _ h => h) (Or.inr ⟨by kernel_rfl, rfl⟩) ‹_› ?_
                  refine wpAnyH_take (i := 54) (v := undef) rfl (by kernel_rfl) (by kernel_rfl) (by kernel_rfl) (fun _ _ _ h => h) (Or.inr ⟨by kernel_rfl, rfl⟩) ‹_› ?_
                  refine wpAnyH_take (i := 55) (v := undef) rfl (by kernel_rfl) (by kernel_rfl) (by kernel_rfl) (fun _ _ _ h => h) (Or.inr ⟨by kernel_rfl, rfl⟩) ‹_› ?_
                  refine wpAnyH_take (i := 56) (v := undef) rfl (by kernel_rfl) (by kernel_rfl) (by kernel_rfl) (fun _ _ _ h => h) (Or.inr ⟨by kernel_rfl, rfl⟩) ‹_› ?_
                  refine wpAnyH_take (i := 57) (v := undef) rfl (by kernel_rfl) (by kernel_rfl) (by kernel_rfl) (fun _ _ _ h => h) (Or.inr ⟨by kernel_rfl, rfl⟩) ‹_› ?_
                  refine wpAnyH_take (i := 58) (v := undef) rfl (by kernel_rfl) (by kernel_rfl) (by kernel_rfl) (fun _ _ _ h => h) (Or.inr ⟨by kernel_rfl, rfl⟩) ‹_› ?_
                  refine wpAnyH_take (i := 59) (v := ?gv63) rfl (by kernel_rfl) (by kernel_rfl) (by kernel_rfl) (fun _ _ _ h => h) (Or.inl ⟨by kernel_rfl, ?gy63⟩) ‹_› ?gr63
                  case gy63 => (intro w' hSw; (try dsimp only at hSw); go_simp; (try with_reducible rfl))
                  try simp only [Act.put, List.setIfInBounds_toArray, List.set_cons_zero, List.set_cons_succ, List.getElem_toArray, List.getElem_cons_succ, List.getElem_cons_zero]
                  refine wpAnyH_done (by kernel_rfl) (NoPanic.normal ?_) _
                  have hfb : Hid _ := HB1.out.trans (C2.mono HB1.out.size)
                  go_wp2
                  go_ret
                  exact ⟨ret_bool hend.out, B0.trans (hfb.out.mono hws)⟩
                subst hvk
                cases bl
                case false =>
                  have hend : Hid (false = R) := hbad.out (by rw [HGD.out]; simp)
                  refine wp_region_noPanic ?_
                  refine wp_region_held_drew (S := fun W : World => W.cell? ⟨w.heap.size, 0, none⟩ = some (.slice (some ⟨b, off, none⟩) n cap) ∧ W.cell? ⟨w.heap.size, 1, none⟩ = some (.int .i64 nx) ∧ W.cell? ⟨X, 0, none⟩ = some (.int .i64 id) ∧ W.cell? ⟨X, 1, none⟩ = some (.string name) ∧ W.cell? ⟨X, 2, none⟩ = some (.bool ro) ∧ W.cell? ⟨X, 3, none⟩ = some (.int .i64 limit) ∧ W.cell? ⟨X, 4, none⟩ = some (.slice ra n1 rc) ∧ W.cell? ⟨X, 5, none⟩ = some (.int .i64 rnx)) (by kernel_rfl) (by go_keep) (fun hS => ?_)
                  refine wpAnyH_take (i := 0) (v := ?gv64) rfl (by kernel_rfl) (by kernel_rfl) (by kernel_rfl) (fun _ _ _ h => h) (Or.inl ⟨by kernel_rfl, ?gy64⟩) ‹_› ?gr64
                  case gy64 => (intro w' hSw; (try dsimp only at hSw); go_simp; (try with_reducible rfl))
                  refine wpAnyH_take (i := 1) (v := ?gv65) rfl (by kernel_rfl) (by kernel_rfl) (by kernel_rfl) (fun _ _ _ h => h) (Or.inl ⟨by kernel_rfl, ?gy65⟩) ‹_› ?gr65
                  case gy65 => (intro w' hSw; (try dsimp only at hSw); go_simp; (try with_reducible rfl))
                  refine wpAnyH_take (i := 2) (v := ?gv66) rfl (by kernel_rfl) (by kernel_rfl) (by kernel_rfl) (fun _ _ _ h => h) (Or.inl ⟨by kernel_rfl, ?gy66⟩) ‹_› ?gr66
                  case gy66 => (intro w' hSw; (try dsimp only at hSw); go_simp; (try with_reducible rfl))
                  refine wpAnyH_take (i := 3) (v := ?gv67) rfl (by kernel_rfl) (by kernel_rfl) (by kernel_rfl) (fun _ _ _ h => h) (Or.inl ⟨by kernel_rfl, ?gy67⟩) ‹_› ?gr67
                  case gy67 => (intro w' hSw; (try dsimp only at hSw); go_simp; (try with_reducible rfl))
                  refine wpAnyH_take (i := 4) (v := ?gv68) rfl (by kernel_rfl) (by kernel_rfl) (by kernel_rfl) (fun _ _ _ h => h) (Or.inl ⟨by kernel_rfl, ?gy68⟩) ‹_› ?gr68
                  case gy68 => (intro w' hSw; (try dsimp only at hSw); go_simp; (try with_reducible rfl))
                  refine wpAnyH_take (i := 5) (v := ?gv69) rfl (by kernel_rfl) (by kernel_rfl) (by kernel_rfl) (fun _ _ _ h => h) (Or.inl ⟨by kernel_rfl, ?gy69⟩) ‹_› ?gr69
                  case gy69 => (intro w' hSw; (try dsimp only at hSw); go_simp; (try with_reducible rfl))
                  refine wpAnyH_take (i := 6) (v := ?gv70) rfl (by kernel_rfl) (by kernel_rfl) (by kernel_rfl) (fun _ _ _ h => h) (Or.inl ⟨by kernel_rfl, ?gy70⟩) ‹_› ?gr70
                  case gy70 => (intro w' hSw; (try dsimp only at hSw); go_simp; (try with_reducible rfl))
                  refine wpAnyH_take (i := 7) (v := ?gv71) rfl (by kernel_rfl) (by kernel_rfl) (by kernel_rfl) (fun _ _ _ h => h) (Or.inl ⟨by kernel_rfl, ?gy71⟩) ‹_› ?gr71
                  case gy71 => (intro w' hSw; (try dsimp only at hSw); go_simp; (try with_reducible rfl))
                  refine wpAnyH_take (i := 8) (v := ?gv72) rfl (by kernel_rfl) (by kernel_rfl) (by kernel_rfl) (fun _ _ _ h => h) (Or.inl ⟨by kernel_rfl, ?gy72⟩) ‹_› ?gr72
                  case gy72 => (intro w' hSw; (try dsimp only at hSw); go_simp; (try with_reducible rfl))
                  refine wpAnyH_take (i := 9) (v := ?gv73) rfl (by kernel_rfl) (by kernel_rfl) (by kernel_rfl) (fun _ _ _ h => h) (Or.inl ⟨by kernel_rfl, ?gy73⟩) ‹_› ?gr73
                  case gy73 => (intro w' hSw; (try dsimp only at hSw); go_simp; (try with_reducible rfl))
                  refine wpAnyH_take (i := 10) (v := ?gv74) rfl (by kernel_rfl) (by kernel_rfl) (by kernel_rfl) (fun _ _ _ h => h) (Or.inl ⟨by kernel_rfl, ?gy74⟩) ‹_› ?gr74
                  case gy74 => (intro w' hSw; (try dsimp only at hSw); go_simp; (try with_reducible rfl))
                  refine wpAnyH_take (i := 11) (v := ?gv75) rfl (by kernel_rfl) (by kernel_rfl) (by kernel_rfl) (fun _ _ _ h => h) (Or.inl ⟨by kernel_rfl, ?gy75⟩) ‹_› ?gr75
                  case gy75 => (intro w' hSw; (try dsimp only at hSw); go_simp; (try with_reducible rfl))
                  refine wpAnyH_take (i := 12) (v := ?gv76) rfl (by kernel_rfl) (by kernel_rfl) (by kernel_rfl) (fun _ _ _ h => h) (Or.inl ⟨by kernel_rfl, ?gy76⟩) ‹_› ?gr76
                  case gy76 => (intro w' hSw; (try dsimp only at hSw); go_simp; (try with_reducible rfl))
                  refine wpAnyH_take (i := 13) (v := ?gv77) rfl (by kernel_rfl) (by kernel_rfl) (by kernel_rfl) (fun _ _ _ h => h) (Or.inl ⟨by kernel_rfl, ?gy77⟩) ‹_› ?gr77
                  case gy77 => (intro w' hSw; (try dsimp only at hSw); go_simp; (try with_reducible rfl))
                  refine wpAnyH_take (i := 14) (v := undef) rfl (by kernel_rfl) (by kernel_rfl) (by kernel_rfl) (fun _ _ _ h => h) (Or.inr ⟨by kernel_rfl, rfl⟩) ‹_› ?_
                  refine wpAnyH_take (i := 15) (v := undef) rfl (by kernel_rfl) (by kernel_rfl) (by kernel_rfl) (fun _ _ _ h => h) (Or.inr ⟨by kernel_rfl, rfl⟩) ‹_› ?_
                  refine wpAnyH_take (i := 16) (v := undef) rfl (by kernel_rfl) (by kernel_rfl) (by kernel_rfl) (fun _ _ _ h => h) (Or.inr ⟨by kernel_rfl, rfl⟩) ‹_› ?_
                  refine wpAnyH_take (i := 17) (v := undef) rfl (by kernel_rfl) (by kernel_rfl) (by kernel_rfl) (fun _ _ _ h => h) (Or.inr ⟨by kernel_rfl, rfl⟩) ‹_› ?_
                  refine wpAnyH_take (i := 18) (v := undef) rfl (by kernel_rfl) (by kernel_rfl) (by kernel_rfl) (fun _ _ _ h => h) (Or.inr ⟨by kernel_rfl, rfl⟩) ‹_› ?_
                  refine wpAnyH_take (i := 19) (v := undef) rfl (by kernel_rfl) (by kernel_rfl) (by kernel_rfl) (fun _ _ _ h => h) (Or.inr ⟨by kernel_rfl, rfl⟩) ‹_› ?_
                  refine wpAnyH_take (i := 20) (v := undef) rfl (by kernel_rfl) (by kernel_rfl) (by kernel_rfl) (fun _ _ _ h => h) (Or.inr ⟨by kernel_rfl, rfl⟩) ‹_› ?_
                  refine wpAnyH_take (i := 21) (v := undef) rfl (by kernel_rfl) (by kernel_rfl) (by kernel_rfl) (fun _ _ _ h => h) (Or.inr ⟨by kernel_rfl, rfl⟩) ‹_› ?_
                  refine wpAnyH_take (i := 22) (v := undef) rfl (by kernel_rfl) (by kernel_rfl) (by kernel_rfl) (fun _ _ _ h => h) (Or.inr ⟨by kernel_rfl, rfl⟩) ‹_› ?_
                  refine wpAnyH_take (i := 23) (v := undef) rfl (by kernel_rfl) (by kernel_rfl) (by kernel_rfl) (fun _ _ _ h => h) (Or.inr ⟨by kernel_rfl, rfl⟩) ‹_› ?_
                  refine wpAnyH_take (i := 24) (v := ?gv78) rfl (by kernel_rfl) (by kernel_rfl) (by kernel_rfl) (fun _ _ _ h => h) (Or.inl ⟨by kernel_rfl, ?gy78⟩) ‹_› ?gr78
                  case gy78 => (intro w' hSw; (try dsimp only at hSw); go_simp; (try with_reducible rfl))
                  refine wpAnyH_take (i := 25) (v := ?gv79) rfl (by kernel_rfl) (by kernel_rfl) (by kernel_rfl) (fun _ _ _ h => h) (Or.inl ⟨by kernel_rfl, ?gy79⟩) ‹_› ?gr79
                  case gy79 => (intro w' hSw; (try dsimp only at hSw); go_simp; (try with_reducible rfl))
                  refine wpAnyH_take (i := 26) (v := ?gv80) rfl (by kernel_rfl) (by kernel_rfl) (by kernel_rfl) (fun _ _ _ h => h) (Or.inl ⟨by kernel_rfl, ?gy80⟩) ‹_› ?gr80
                  case gy80 => (intro w' hSw; (try dsimp only at hSw); go_simp; (try with_reducible rfl))
                  refine wpAnyH_take (i := 27) (v := ?gv81) rfl (by kernel_rfl) (by kernel_rfl) (by kernel_rfl) (fun _ _ _ h => h) (Or.inl ⟨by kernel_rfl, ?gy81⟩) ‹_› ?gr81
                  case gy81 => (intro w' hSw; (try dsimp only at hSw); go_simp; (try with_reducible rfl))
                  refine wpAnyH_take (i := 28) (v := ?gv82) rfl (by kernel_rfl) (by kernel_rfl) (by kernel_rfl) (fun _ _ _ h => h) (Or.inl ⟨by kernel_rfl, ?gy82⟩) ‹_› ?gr82
                  case gy82 => (intro w' hSw; (try dsimp only at hSw); go_simp; (try with_reducible rfl))
                  try simp only [Act.put, List.setIfInBounds_toArray, List.set_cons_zero, List.set_cons_succ, List.getElem_toArray, List.getElem_cons_succ, List.getElem_cons_zero]
                  refine wpAnyH_ready (rs := [29]) (by kernel_rfl) (by simp) ?_
                  refine AllReadyH.cons rfl (fun K hK => ?_) AllReadyH.nil
                  go_simp
                  go_at_call 19
                  (with_reducible refine (HN.out W1.drew).mono ?_)
                  rintro e u1 ⟨rfl, b1⟩
                  have C1 : Below W1.heap.size W1 u1 := (Below.refl _ W1).drew.trans b1
                  clear hS
                  dsimp only
                  refine Shut.out hK _ _ (HK.out u1 C1) (fun hS => ?_)
                  try simp only [Act.put, List.setIfInBounds_toArray, List.set_cons_zero, List.set_cons_succ, List.getElem_toArray, List.getElem_cons_succ, List.getElem_cons_zero]
                  refine wpAnyH_take (i := 30) (v := ?gv83) rfl (by kernel_rfl) (by kernel_rfl) (by kernel_rfl) (fun _ _ _ h => h) (Or.inl ⟨by kernel_rfl, ?gy83⟩) ‹_› ?gr83
                  case gy83 => (intro w' hSw; (try dsimp only at hSw); go_simp; (try with_reducible rfl))
                  refine wpAnyH_take (i := 31) (v := ?gv84) rfl (by kernel_rfl) (by kernel_rfl) (by kernel_rfl) (fun _ _ _ h => h) (Or.inl ⟨by kernel_rfl, ?gy84⟩) ‹_› ?gr84
                  case gy84 => (intro w' hSw; (try dsimp only at hSw); go_simp; (try with_reducible rfl))
                  refine wpAnyH_take (i := 32) (v := ?gv85) rfl (by kernel_rfl) (by kernel_rfl) (by kernel_rfl) (fun _ _ _ h => h) (Or.inl ⟨by kernel_rfl, ?gy85⟩) ‹_› ?gr85
                  case gy85 => (intro w' hSw; (try dsimp only at hSw); go_simp; (try with_reducible rfl))
                  refine wpAnyH_take (i := 33) (v := ?gv86) rfl (by kernel_rfl) (by kernel_rfl) (by kernel_rfl) (fun _ _ _ h => h) (Or.inl ⟨by kernel_rfl, ?gy86⟩) ‹_› ?gr86
                  case gy86 => (intro w' hSw; (try dsimp only at hSw); go_simp; (try with_reducible rfl))
                  refine wpAnyH_take (i := 34) (v := ?gv87) rfl (by kernel_rfl) (by kernel_rfl) (by kernel_rfl) (fun _ _ _ h => h) (Or.inl ⟨by kernel_rfl, ?gy87⟩) ‹_› ?gr87
                  case gy87 => (intro w' hSw; (try dsimp only at hSw); go_simp; (try with_reducible rfl))
                  refine wpAnyH_take (i := 35) (v := ?gv88) rfl (by kernel_rfl) (by kernel_rfl) (by kernel_rfl) (fun _ _ _ h => h) (Or.inl ⟨by kernel_rfl, ?gy88⟩) ‹_› ?gr88
                  case gy88 => (intro w' hSw; (try dsimp only at hSw); go_simp; (try with_reducible rfl))
                  refine wpAnyH_take (i := 37) (v := ?gv89) rfl (by kernel_rfl) (by kernel_rfl) (by kernel_rfl) (fun _ _ _ h => h) (Or.inl ⟨by kernel_rfl, ?gy89⟩) ‹_› ?gr89
                  case gy89 => (intro w' hSw; (try dsimp only at hSw); go_simp; (try with_reducible rfl))
                  try simp only [Act.put, List.setIfInBounds_toArray, List.set_cons_zero, List.set_cons_succ, List.getElem_toArray, List.getElem_cons_succ, List.getElem_cons_zero]
                  refine wpAnyH_ready (rs := [36]) (by kernel_rfl) (by simp) ?_
                  refine AllReadyH.cons rfl (fun K hK => ?_) AllReadyH.nil
                  go_simp
                  go_at_call 20
                  (with_reducible refine (HV.out u1 C1).mono ?_)
                  rintro e u2 ⟨rfl, b2⟩
                  have C2 : Below W1.heap.size W1 u2 := C1.trans (b2.mono C1.size)
                  clear hS
                  dsimp only
                  refine Shut.out hK _ _ (HK.out u2 C2) (fun hS => ?_)
                  try simp only [Act.put, List.setIfInBounds_toArray, List.set_cons_zero, List.set_cons_succ, List.getElem_toArray, List.getElem_cons_succ, List.getElem_cons_zero]
                  refine wpAnyH_take (i := 38) (v := ?gv90) rfl (by kernel_rfl) (by kernel_rfl) (by kernel_rfl) (fun _ _ _ h => h) (Or.inl ⟨by kernel_rfl, ?gy90⟩) ‹_› ?gr90
                  case gy90 => (intro w' hSw; (try dsimp only at hSw); go_simp; (try with_reducible rfl))
                  refine wpAnyH_take (i := 39) (v := ?gv91) rfl (by kernel_rfl) (by kernel_rfl) (by kernel_rfl) (fun _ _ _ h => h) (Or.inl ⟨by kernel_rfl, ?gy91⟩) ‹_› ?gr91
                  case gy91 => (intro w' hSw; (try dsimp only at hSw); go_simp; (try with_reducible rfl))
                  refine wpAnyH_take (i := 40) (v := ?gv92) rfl (by kernel_rfl) (by kernel_rfl) (by kernel_rfl) (fun _ _ _ h => h) (Or.inl ⟨by kernel_rfl, ?gy92⟩) ‹_› ?gr92
                  case gy92 => (intro w' hSw; (try dsimp only at hSw); go_simp; (try with_reducible rfl))
                  refine wpAnyH_take (i := 41) (v := ?gv93) rfl (by kernel_rfl) (by kernel_rfl) (by kernel_rfl) (fun _ _ _ h => h) (Or.inl ⟨by kernel_rfl, ?gy93⟩) ‹_› ?gr93
                  case gy93 => (intro w' hSw; (try dsimp only at hSw); go_simp; (try with_reducible rfl))
                  refine wpAnyH_take (i := 42) (v := ?gv94) rfl (by kernel_rfl) (by kernel_rfl) (by kernel_rfl) (fun _ _ _ h => h) (Or.inl ⟨by kernel_rfl, ?gy94⟩) ‹_› ?gr94
                  case gy94 => (intro w' hSw; (try dsimp only at hSw); go_simp; (try with_reducible rfl))
                  try simp only [Act.put, List.setIfInBounds_toArray, List.set_cons_zero, List.set_cons_succ, List.getElem_toArray, List.getElem_cons_succ, List.getElem_cons_zero]
                  refine wpAnyH_ready (rs := [43]) (by kernel_rfl) (by simp) ?_
                  refine AllReadyH.cons rfl (fun K hK => ?_) AllReadyH.nil
                  go_simp
                  go_at_call 18
                  (with_reducible refine (HL.out u2).mono ?_)
                  rintro e u3 ⟨rfl, b3⟩
                  have C3 : Below W1.heap.size W1 u3 := C2.trans (b3.mono C2.size)
                  clear hS
                  dsimp only
                  refine Shut.out hK _ _ (HK.out u3 C3) (fun hS => ?_)
                  try simp only [Act.put, List.setIfInBounds_toArray, List.set_cons_zero, List.set_cons_succ, List.getElem_toArray, List.getElem_cons_succ, List.getElem_cons_zero]
                  refine wpAnyH_take (i := 44) (v := ?gv95) rfl (by kernel_rfl) (by kernel_rfl) (by kernel_rfl) (fun _ _ _ h => h) (Or.inl ⟨by kernel_rfl, ?gy95⟩) ‹_› ?gr95
                  case gy95 => (intro w' hSw; (try dsimp only at hSw); go_simp; (try with_reducible rfl))
                  refine wpAnyH_take (i := 45) (v := ?gv96) rfl (by kernel_rfl) (by kernel_rfl) (by kernel_rfl) (fun _ _ _ h => h) (Or.inl ⟨by kernel_rfl, ?gy96⟩) ‹_› ?gr96
                  case gy96 => (intro w' hSw; (try dsimp only at hSw); go_simp; (try with_reducible rfl))
                  refine wpAnyH_take (i := 46) (v := ?gv97) rfl (by kernel_rfl) (by kernel_rfl) (by kernel_rfl) (fun _ _ _ h => h) (Or.inl ⟨by kernel_rfl, ?gy97⟩) ‹_› ?gr97
                  case gy97 => (intro w' hSw; (try dsimp only at hSw); go_simp; (try with_reducible rfl))
                  refine wpAnyH_take (i := 47) (v := undef) rfl (by kernel_rfl) (by kernel_rfl) (by kernel_rfl) (fun _ _ _ h => h) (Or.inr ⟨by kernel_rfl, rfl⟩) ‹_› ?_
                  refine wpAnyH_take (i := 48) (v := undef) rfl (by kernel_rfl) (by kernel_rfl) (by kernel_rfl) (fun _ _ _ h => h) (Or.inr ⟨by kernel_rfl, rfl⟩) ‹_› ?_
                  refine wpAnyH_take (i := 49) (v := undef) rfl (by kernel_rfl) (by kernel_rfl) (by kernel_rfl) (fun _ _ _ h => h) (Or.inr ⟨by kernel_rfl, rfl⟩) ‹_› ?_
                  refine wpAnyH_take (i := 50) (v := undef) rfl (by kernel_rfl) (by kernel_rfl) (by kernel_rfl) (fun _ _ _ h => h) (Or.inr ⟨by kernel_rfl, rfl⟩) ‹_› ?_
                  refine wpAnyH_take (i := 51) (v := ?gv98) rfl (by kernel_rfl) (by kernel_rfl) (by kernel_rfl) (fun _ _ _ h => h) (Or.inl ⟨by kernel_rfl, ?gy98⟩) ‹_› ?gr98
                  case gy98 => (intro w' hSw; (try dsimp only at hSw); go_simp; (try with_reducible rfl))
                  refine wpAnyH_take (i := 52) (v := ?gv99) rfl (by kernel_rfl) (by kernel_rfl) (by kernel_rfl) (fun _ _ _ h => h) (Or.inl ⟨by kernel_rfl, ?gy99⟩) ‹_› ?gr99
                  case gy99 => (intro w' hSw; (try dsimp only at hSw); go_simp; (try with_reducible rfl))
                  refine wpAnyH_take (i := 53) (v := undef) rfl (by kernel_rfl) (by kernel_rfl) (by kernel_rfl) (fun _ _ _ h => h) (Or.inr ⟨by kernel_rfl, rfl⟩) ‹_› ?_
                  refine wpAnyH_take (i := 54) (v := undef) rfl (by kernel_rfl) (by kernel_rfl) (by kernel_rfl) (fun _ _ _ h => h) (Or.inr ⟨by kernel_rfl, rfl⟩) ‹_› ?_
                  refine wpAnyH_take (i := 55) (v := undef) rfl (by kernel_rfl) (by kernel_rfl) (by kernel_rfl) (fun _ _ _ h => h) (Or.inr ⟨by kernel_rfl, rfl⟩) ‹_› ?_
                  refine wpAnyH_take (i := 56) (v := undef) rfl (by kernel_rfl) (by kernel_rfl) (by kernel_rfl) (fun _ _ _ h => h) (Or.inr ⟨by kernel_rfl, rfl⟩) ‹_› ?_
                  refine wpAnyH_take (i := 57) (v := undef) rfl (by kernel_rfl) (by kernel_rfl) (by kernel_rfl) (fun _ _ _ h => h) (Or.inr ⟨by kernel_rfl, rfl⟩) ‹_› ?_
                  refine wpAnyH_take (i := 58) (v := undef) rfl (by kernel_rfl) (by kernel_rfl) (by kernel_rfl) (fun _ _ _ h => h) (Or.inr ⟨by kernel_rfl, rfl⟩) ‹_› ?_
                  refine wpAnyH_take (i := 59) (v := ?gv100) rfl (by kernel_rfl) (by kernel_rfl) (by kernel_rfl) (fun _ _ _ h => h) (Or.inl ⟨by kernel_rfl, ?gy100⟩) ‹_› ?gr100
                  case gy100 => (intro w' hSw; (try dsimp only at hSw); go_simp; (try with_reducible rfl))
                  try simp only [Act.put, List.setIfInBounds_toArray, List.set_cons_zero, List.set_cons_succ, List.getElem_toArray, List.getElem_cons_succ, List.getElem_cons_zero]
                  refine wpAnyH_done (by kernel_rfl) (NoPanic.normal ?_) _
                  have hfb : Hid _ := HB1.out.trans (C3.mono HB1.out.size)
                  go_wp2
                  go_ret
                  exact ⟨ret_bool hend.out, B0.trans (hfb.out.mono hws)⟩
                cases bt
                case false =>
                  have hend : Hid (false = R) := hbad.out (by rw [HGD.out]; simp)
                  refine wp_region_noPanic ?_
                  refine wp_region_held_drew (S := fun W : World => W.cell? ⟨w.heap.size, 0, none⟩ = some (.slice (some ⟨b, off, none⟩) n cap) ∧ W.cell? ⟨w.heap.size, 1, none⟩ = some (.int .i64 nx) ∧ W.cell? ⟨X, 0, none⟩ = some (.int .i64 id) ∧ W.cell? ⟨X, 1, none⟩ = some (.string name) ∧ W.cell? ⟨X, 2, none⟩ = some (.bool ro) ∧ W.cell? ⟨X, 3, none⟩ = some (.int .i64 limit) ∧ W.cell? ⟨X, 4, none⟩ = some (.slice ra n1 rc) ∧ W.cell? ⟨X, 5, none⟩ = some (.int .i64 rnx)) (by kernel_rfl) (by go_keep) (fun hS => ?_)
                  refine wpAnyH_take (i := 0) (v := ?gv101) rfl (by kernel_rfl) (by kernel_rfl) (by kernel_rfl) (fun _ _ _ h => h) (Or.inl ⟨by kernel_rfl, ?gy101⟩) ‹_› ?gr101
                  case gy101 => (intro w' hSw; (try dsimp only at hSw); go_simp; (try with_reducible rfl))
                  refine wpAnyH_take (i := 1) (v := ?gv102) rfl (by kernel_rfl) (by kernel_rfl) (by kernel_rfl) (fun _ _ _ h => h) (Or.inl ⟨by kernel_rfl, ?gy102⟩) ‹_› ?gr102
                  case gy102 => (intro w' hSw; (try dsimp only at hSw); go_simp; (try with_reducible rfl))
                  refine wpAnyH_take (i := 2) (v := ?gv103) rfl (by kernel_rfl) (by kernel_rfl) (by kernel_rfl) (fun _ _ _ h => h) (Or.inl ⟨by kernel_rfl, ?gy103⟩) ‹_› ?gr103
                  case gy103 => (intro w' hSw; (try dsimp only at hSw); go_simp; (try with_reducible rfl))
                  refine wpAnyH_take (i := 3) (v := ?gv104) rfl (by kernel_rfl) (by kernel_rfl) (by kernel_rfl) (fun _ _ _ h => h) (Or.inl ⟨by kernel_rfl, ?gy104⟩) ‹_› ?gr104
                  case gy104 => (intro w' hSw; (try dsimp only at hSw); go_simp; (try with_reducible rfl))
                  refine wpAnyH_take (i := 4) (v := ?gv105) rfl (by kernel_rfl) (by kernel_rfl) (by kernel_rfl) (fun _ _ _ h => h) (Or.inl ⟨by kernel_rfl, ?gy105⟩) ‹_› ?gr105
                  case gy105 => (intro w' hSw; (try dsimp only at hSw); go_simp; (try with_reducible rfl))
                  refine wpAnyH_take (i := 5) (v := ?gv106) rfl (by kernel_rfl) (by kernel_rfl) (by kernel_rfl) (fun _ _ _ h => h) (Or.inl ⟨by kernel_rfl, ?gy106⟩) ‹_› ?gr106
                  case gy106 => (intro w' hSw; (try dsimp only at hSw); go_simp; (try with_reducible rfl))
                  refine wpAnyH_take (i := 6) (v := ?gv107) rfl (by kernel_rfl) (by kernel_rfl) (by kernel_rfl) (fun _ _ _ h => h) (Or.inl ⟨by kernel_rfl, ?gy107⟩) ‹_› ?gr107
                  case gy107 => (intro w' hSw; (try dsimp only at hSw); go_simp; (try with_reducible rfl))
                  refine wpAnyH_take (i := 7) (v := ?gv108) rfl (by kernel_rfl) (by kernel_rfl) (by kernel_rfl) (fun _ _ _ h => h) (Or.inl ⟨by kernel_rfl, ?gy108⟩) ‹_› ?gr108
                  case gy108 => (intro w' hSw; (try dsimp only at hSw); go_simp; (try with_reducible rfl))
                  refine wpAnyH_take (i := 8) (v := ?gv109) rfl (by kernel_rfl) (by kernel_rfl) (by kernel_rfl) (fun _ _ _ h => h) (Or.inl ⟨by kernel_rfl, ?gy109⟩) ‹_› ?gr109
                  case gy109 => (intro w' hSw; (try dsimp only at hSw); go_simp; (try with_reducible rfl))
                  refine wpAnyH_take (i := 9) (v := ?gv110) rfl (by kernel_rfl) (by kernel_rfl) (by kernel_rfl) (fun _ _ _ h => h) (Or.inl ⟨by kernel_rfl, ?gy110⟩) ‹_› ?gr110
                  case gy110 => (intro w' hSw; (try dsimp only at hSw); go_simp; (try with_reducible rfl))
                  refine wpAnyH_take (i := 10) (v := ?gv111) rfl (by kernel_rfl) (by kernel_rfl) (by kernel_rfl) (fun _ _ _ h => h) (Or.inl ⟨by kernel_rfl, ?gy111⟩) ‹_› ?gr111
                  case gy111 => (intro w' hSw; (try dsimp only at hSw); go_simp; (try with_reducible rfl))
                  refine wpAnyH_take (i := 11) (v := ?gv112) rfl (by kernel_rfl) (by kernel_rfl) (by kernel_rfl) (fun _ _ _ h => h) (Or.inl ⟨by kernel_rfl, ?gy112⟩) ‹_› ?gr112
                  case gy112 => (intro w' hSw; (try dsimp only at hSw); go_simp; (try with_reducible rfl))
                  refine wpAnyH_take (i := 12) (v := ?gv113) rfl (by kernel_rfl) (by kernel_rfl) (by kernel_rfl) (fun _ _ _ h => h) (Or.inl ⟨by kernel_rfl, ?gy113⟩) ‹_› ?gr113
                  case gy113 => (intro w' hSw; (try dsimp only at hSw); go_simp; (try with_reducible rfl))
                  refine wpAnyH_take (i := 13) (v := ?gv114) rfl (by kernel_rfl) (by kernel_rfl) (by kernel_rfl) (fun _ _ _ h => h) (Or.inl ⟨by kernel_rfl, ?gy114⟩) ‹_› ?gr114
                  case gy114 => (intro w' hSw; (try dsimp only at hSw); go_simp; (try with_reducible rfl))
                  refine wpAnyH_take (i := 14) (v := undef) rfl (by kernel_rfl) (by kernel_rfl) (by kernel_rfl) (fun _ _ _ h => h) (Or.inr ⟨by kernel_rfl, rfl⟩) ‹_› ?_
                  refine wpAnyH_take (i := 15) (v := undef) rfl (by kernel_rfl) (by kernel_rfl) (by kernel_rfl) (fun _ _ _ h => h) (Or.inr ⟨by kernel_rfl, rfl⟩) ‹_› ?_
                  refine wpAnyH_take (i := 16) (v := undef) rfl (by kernel_rfl) (by kernel_rfl) (by kernel_rfl) (fun _ _ _ h => h) (Or.inr ⟨by kernel_rfl, rfl⟩) ‹_› ?_
                  refine wpAnyH_take (i := 17) (v := undef) rfl (by kernel_rfl) (by kernel_rfl) (by kernel_rfl) (fun _ _ _ h => h) (Or.inr ⟨by kernel_rfl, rfl⟩) ‹_› ?_
                  refine wpAnyH_take (i := 18) (v := undef) rfl (by kernel_rfl) (by kernel_rfl) (by kernel_rfl) (fun _ _ _ h => h) (Or.inr ⟨by kernel_rfl, rfl⟩) ‹_› ?_
                  refine wpAnyH_take (i := 19) (v := undef) rfl (by kernel_rfl) (by kernel_rfl) (by kernel_rfl) (fun _ _ _ h => h) (Or.inr ⟨by kernel_rfl, rfl⟩) ‹_› ?_
                  refine wpAnyH_take (i := 20) (v := undef) rfl (by kernel_rfl) (by kernel_rfl) (by kernel_rfl) (fun _ _ _ h => h) (Or.inr ⟨by kernel_rfl, rfl⟩) ‹_› ?_
                  refine wpAnyH_take (i := 21) (v := undef) rfl (by kernel_rfl) (by kernel_rfl) (by kernel_rfl) (fun _ _ _ h => h) (Or.inr ⟨by kernel_rfl, rfl⟩) ‹_› ?_
                  refine wpAnyH_take (i := 22) (v := undef) rfl (by kernel_rfl) (by kernel_rfl) (by kernel_rfl) (fun _ _ _ h => h) (Or.inr ⟨by kernel_rfl, rfl⟩) ‹_› ?_
                  refine wpAnyH_take (i := 23) (v := undef) rfl (by kernel_rfl) (by kernel_rfl) (by kernel_rfl) (fun _ _ _ h => h) (Or.inr ⟨by kernel_rfl, rfl⟩) ‹_› ?_
                  refine wpAnyH_take (i := 24) (v := ?gv115) rfl (by kernel_rfl) (by kernel_rfl) (by kernel_rfl) (fun _ _ _ h => h) (Or.inl ⟨by kernel_rfl, ?gy115⟩) ‹_› ?gr115
                  case gy115 => (intro w' hSw; (try dsimp only at hSw); go_simp; (try with_reducible rfl))
                  refine wpAnyH_take (i := 25) (v := ?gv116) rfl (by kernel_rfl) (by kernel_rfl) (by kernel_rfl) (fun _ _ _ h => h) (Or.inl ⟨by kernel_rfl, ?gy116⟩) ‹_› ?gr116
                  case gy116 => (intro w' hSw; (try dsimp only at hSw); go_simp; (try with_reducible rfl))
                  refine wpAnyH_take (i := 26) (v := ?gv117) rfl (by kernel_rfl) (by kernel_rfl) (by kernel_rfl) (fun _ _ _ h => h) (Or.inl ⟨by kernel_rfl, ?gy117⟩) ‹_› ?gr117
                  case gy117 => (intro w' hSw; (try dsimp only at hSw); go_simp; (try with_reducible rfl))
                  refine wpAnyH_take (i := 27) (v := ?gv118) rfl (by kernel_rfl) (by kernel_rfl) (by kernel_rfl) (fun _ _ _ h => h) (Or.inl ⟨by kernel_rfl, ?gy118⟩) ‹_› ?gr118
                  case gy118 => (intro w' hSw; (try dsimp only at hSw); go_simp; (try with_reducible rfl))
                  refine wpAnyH_take (i := 28) (v := ?gv119) rfl (by kernel_rfl) (by kernel_rfl) (by kernel_rfl) (fun _ _ _ h => h) (Or.inl ⟨by kernel_rfl, ?gy119⟩) ‹_› ?gr119
                  case gy119 => (intro w' hSw; (try dsimp only at hSw); go_simp; (try with_reducible rfl))
                  try simp only [Act.put, List.setIfInBounds_toArray, List.set_cons_zero, List.set_cons_succ, List.getElem_toArray, List.getElem_cons_succ, List.getElem_cons_zero]
                  refine wpAnyH_ready (rs := [29]) (by kernel_rfl) (by simp) ?_
                  refine AllReadyH.cons rfl (fun K hK => ?_) AllReadyH.nil
                  go_simp
                  go_at_call 19
                  (with_reducible refine (HN.out W1.drew).mono ?_)
                  rintro e u1 ⟨rfl, b1⟩
                  have C1 : Below W1.heap.size W1 u1 := (Below.refl _ W1).drew.trans b1
                  clear hS
                  dsimp only
                  refine Shut.out hK _ _ (HK.out u1 C1) (fun hS => ?_)
                  try simp only [Act.put, List.setIfInBounds_toArray, List.set_cons_zero, List.set_cons_succ, List.getElem_toArray, List.getElem_cons_succ, List.getElem_cons_zero]
                  refine wpAnyH_take (i := 30) (v := ?gv120) rfl (by kernel_rfl) (by kernel_rfl) (by kernel_rfl) (fun _ _ _ h => h) (Or.inl ⟨by kernel_rfl, ?gy120⟩) ‹_› ?gr120
                  case gy120 => (intro w' hSw; (try dsimp only at hSw); go_simp; (try with_reducible rfl))
                  refine wpAnyH_take (i := 31) (v := ?gv121) rfl (by kernel_rfl) (by kernel_rfl) (by kernel_rfl) (fun _ _ _ h => h) (Or.inl ⟨by kernel_rfl, ?gy121⟩) ‹_› ?gr121
                  case gy121 => (intro w' hSw; (try dsimp only at hSw); go_simp; (try with_reducible rfl))
                  refine wpAnyH_take (i := 32) (v := ?gv122) rfl (by kernel_rfl) (by kernel_rfl) (by kernel_rfl) (fun _ _ _ h => h) (Or.inl ⟨by kernel_rfl, ?gy122⟩) ‹_› ?gr122
                  case gy122 => (intro w' hSw; (try dsimp only at hSw); go_simp; (try with_reducible rfl))
                  refine wpAnyH_take (i := 33) (v := ?gv123) rfl (by kernel_rfl) (by kernel_rfl) (by kernel_rfl) (fun _ _ _ h => h) (Or.inl ⟨by kernel_rfl, ?gy123⟩) ‹_› ?gr123
                  case gy123 => (intro w' hSw; (try dsimp only at hSw); go_simp; (try with_reducible rfl))
                  refine wpAnyH_take (i := 34) (v := ?gv124) rfl (by kernel_rfl) (by kernel_rfl) (by kernel_rfl) (fun _ _ _ h => h) (Or.inl ⟨by kernel_rfl, ?gy124⟩) ‹_› ?gr124
                  case gy124 => (intro w' hSw; (try dsimp only at hSw); go_simp; (try with_reducible rfl))
                  refine wpAnyH_take (i := 35) (v := ?gv125) rfl (by kernel_rfl) (by kernel_rfl) (by kernel_rfl) (fun _ _ _ h => h) (Or.inl ⟨by kernel_rfl, ?gy125⟩) ‹_› ?gr125
                  case gy125 => (intro w' hSw; (try dsimp only at hSw); go_simp; (try with_reducible rfl))
                  refine wpAnyH_take (i := 37) (v := ?gv126) rfl (by kernel_rfl) (by kernel_rfl) (by kernel_rfl) (fun _ _ _ h => h) (Or.inl ⟨by kernel_rfl, ?gy126⟩) ‹_› ?gr126
                  case gy126 => (intro w' hSw; (try dsimp only at hSw); go_simp; (try with_reducible rfl))
                  try simp only [Act.put, List.setIfInBounds_toArray, List.set_cons_zero, List.set_cons_succ, List.getElem_toArray, List.getElem_cons_succ, List.getElem_cons_zero]
                  refine wpAnyH_ready (rs := [36]) (by kernel_rfl) (by simp) ?_
                  refine AllReadyH.cons rfl (fun K hK => ?_) AllReadyH.nil
                  go_simp
                  go_at_call 20
                  (with_reducible refine (HV.out u1 C1).mono ?_)
                  rintro e u2 ⟨rfl, b2⟩
                  have C2 : Below W1.heap.size W1 u2 := C1.trans (b2.mono C1.size)
                  clear hS
                  dsimp only
                  refine Shut.out hK _ _ (HK.out u2 C2) (fun hS => ?_)
                  try simp only [Act.put, List.setIfInBounds_toArray, List.set_cons_zero, List.set_cons_succ, List.getElem_toArray, List.getElem_cons_succ, List.getElem_cons_zero]
                  refine wpAnyH_take (i := 38) (v := ?gv127) rfl (by kernel_rfl) (by kernel_rfl) (by kernel_rfl) (fun _ _ _ h => h) (Or.inl ⟨by kernel_rfl, ?gy127⟩) ‹_› ?gr127
                  case gy127 => (intro w' hSw; (try dsimp only at hSw); go_simp; (try with_reducible rfl))
                  refine wpAnyH_take (i := 39) (v := ?gv128) rfl (by kernel_rfl) (by kernel_rfl) (by kernel_rfl) (fun _ _ _ h => h) (Or.inl ⟨by kernel_rfl, ?gy128⟩) ‹_› ?gr128
                  case gy128 => (intro w' hSw; (try dsimp only at hSw); go_simp; (try with_reducible rfl))
                  refine wpAnyH_take (i := 40) (v := ?gv129) rfl (by kernel_rfl) (by kernel_rfl) (by kernel_rfl) (fun _ _ _ h => h) (Or.inl ⟨by kernel_rfl, ?gy129⟩) ‹_› ?gr129
                  case gy129 => (intro w' hSw; (try dsimp only at hSw); go_simp; (try with_reducible rfl))
                  refine wpAnyH_take (i := 41) (v := ?gv130) rfl (by kernel_rfl) (by kernel_rfl) (by kernel_rfl) (fun _ _ _ h => h) (Or.inl ⟨by kernel_rfl, ?gy130⟩) ‹_› ?gr130
                  case gy130 => (intro w' hSw; (try dsimp only at hSw); go_simp; (try with_reducible rfl))
                  refine wpAnyH_take (i := 42) (v := ?gv131) rfl (by kernel_rfl) (by kernel_rfl) (by kernel_rfl) (fun _ _ _ h => h) (Or.inl ⟨by kernel_rfl, ?gy131⟩) ‹_› ?gr131
                  case gy131 => (intro w' hSw; (try dsimp only at hSw); go_simp; (try with_reducible rfl))
                  try simp only [Act.put, List.setIfInBounds_toArray, List.set_cons_zero, List.set_cons_succ, List.getElem_toArray, List.getElem_cons_succ, List.getElem_cons_zero]
                  refine wpAnyH_ready (rs := [43]) (by kernel_rfl) (by simp) ?_
                  refine AllReadyH.cons rfl (fun K hK => ?_) AllReadyH.nil
                  go_simp
                  go_at_call 18
                  (with_reducible refine (HL.out u2).mono ?_)
                  rintro e u3 ⟨rfl, b3⟩
                  have C3 : Below W1.heap.size W1 u3 := C2.trans (b3.mono C2.size)
                  clear hS
                  dsimp only
                  refine Shut.out hK _ _ (HK.out u3 C3) (fun hS => ?_)
                  try simp only [Act.put, List.setIfInBounds_toArray, List.set_cons_zero, List.set_cons_succ, List.getElem_toArray, List.getElem_cons_succ, List.getElem_cons_zero]
                  refine wpAnyH_take (i := 44) (v := ?gv132) rfl (by kernel_rfl) (by kernel_rfl) (by kernel_rfl) (fun _ _ _ h => h) (Or.inl ⟨by kernel_rfl, ?gy132⟩) ‹_› ?gr132
                  case gy132 => (intro w' hSw; (try dsimp only at hSw); go_simp; (try with_reducible rfl))
                  refine wpAnyH_take (i := 45) (v := ?gv133) rfl (by kernel_rfl) (by kernel_rfl) (by kernel_rfl) (fun _ _ _ h => h) (Or.inl ⟨by kernel_rfl, ?gy133⟩) ‹_› ?gr133
                  case gy133 => (intro w' hSw; (try dsimp only at hSw); go_simp; (try with_reducible rfl))
                  refine wpAnyH_take (i := 46) (v := ?gv134) rfl (by kernel_rfl) (by kernel_rfl) (by kernel_rfl) (fun _ _ _ h => h) (Or.inl ⟨by kernel_rfl, ?gy134⟩) ‹_› ?gr134
                  case gy134 => (intro w' hSw; (try dsimp only at hSw); go_simp; (try with_reducible rfl))
                  refine wpAnyH_take (i := 47) (v := ?gv135) rfl (by kernel_rfl) (by kernel_rfl) (by kernel_rfl) (fun _ _ _ h => h) (Or.inl ⟨by kernel_rfl, ?gy135⟩) ‹_› ?gr135
                  case gy135 => (intro w' hSw; (try dsimp only at hSw); go_simp; (try with_reducible rfl))
                  refine wpAnyH_take (i := 48) (v := ?gv136) rfl (by kernel_rfl) (by kernel_rfl) (by kernel_rfl) (fun _ _ _ h => h) (Or.inl ⟨by kernel_rfl, ?gy136⟩) ‹_› ?gr136
                  case gy136 => (intro w' hSw; (try dsimp only at hSw); go_simp; (try with_reducible rfl))
                  try simp only [Act.put, List.setIfInBounds_toArray, List.set_cons_zero, List.set_cons_succ, List.getElem_toArray, List.getElem_cons_succ, List.getElem_cons_zero]
                  refine wpAnyH_ready (rs := [49]) (by kernel_rfl) (by simp) ?_
                  refine AllReadyH.cons rfl (fun K hK => ?_) AllReadyH.nil
                  go_simp
                  go_at_call 21
                  (with_reducible refine (HT.out u3 C3).mono ?_)
                  rintro e u4 ⟨rfl, b4⟩
                  have C4 : Below W1.heap.size W1 u4 := C3.trans (b4.mono C3.size)
                  clear hS
                  dsimp only
                  refine Shut.out hK _ _ (HK.out u4 C4) (fun hS => ?_)
                  try simp only [Act.put, List.setIfInBounds_toArray, List.set_cons_zero, List.set_cons_succ, List.getElem_toArray, List.getElem_cons_succ, List.getElem_cons_zero]
                  refine wpAnyH_take (i := 50) (v := ?gv137) rfl (by kernel_rfl) (by kernel_rfl) (by kernel_rfl) (fun _ _ _ h => h) (Or.inl ⟨by kernel_rfl, ?gy137⟩) ‹_› ?gr137
                  case gy137 => (intro w' hSw; (try dsimp only at hSw); go_simp; (try with_reducible rfl))
                  refine wpAnyH_take (i := 51) (v := ?gv138) rfl (by kernel_rfl) (by kernel_rfl) (by kernel_rfl) (fun _ _ _ h => h) (Or.inl ⟨by kernel_rfl, ?gy138⟩) ‹_› ?gr138
                  case gy138 => (intro w' hSw; (try dsimp only at hSw); go_simp; (try with_reducible rfl))
                  refine wpAnyH_take (i := 52) (v := ?gv139) rfl (by kernel_rfl) (by kernel_rfl) (by kernel_rfl) (fun _ _ _ h => h) (Or.inl ⟨by kernel_rfl, ?gy139⟩) ‹_› ?gr139
                  case gy139 => (intro w' hSw; (try dsimp only at hSw); go_simp; (try with_reducible rfl))
                  refine wpAnyH_take (i := 53) (v := undef) rfl (by kernel_rfl) (by kernel_rfl) (by kernel_rfl) (fun _ _ _ h => h) (Or.inr ⟨by kernel_rfl, rfl⟩) ‹_› ?_
                  refine wpAnyH_take (i := 54) (v := undef) rfl (by kernel_rfl) (by kernel_rfl) (by kernel_rfl) (fun _ _ _ h => h) (Or.inr ⟨by kernel_rfl, rfl⟩) ‹_› ?_
                  refine wpAnyH_take (i := 55) (v := undef) rfl (by kernel_rfl) (by kernel_rfl) (by kernel_rfl) (fun _ _ _ h => h) (Or.inr ⟨by kernel_rfl, rfl⟩) ‹_› ?_
                  refine wpAnyH_take (i := 56) (v := undef) rfl (by kernel_rfl) (by kernel_rfl) (by kernel_rfl) (fun _ _ _ h => h) (Or.inr ⟨by kernel_rfl, rfl⟩) ‹_› ?_
                  refine wpAnyH_take (i := 57) (v := undef) rfl (by kernel_rfl) (by kernel_rfl) (by kernel_rfl) (fun _ _ _ h => h) (Or.inr ⟨by kernel_rfl, rfl⟩) ‹_› ?_
                  refine wpAnyH_take (i := 58) (v := undef) rfl (by kernel_rfl) (by kernel_rfl) (by kernel_rfl) (fun _ _ _ h => h) (Or.inr ⟨by kernel_rfl, rfl⟩) ‹_› ?_
                  refine wpAnyH_take (i := 59) (v := ?gv140) rfl (by kernel_rfl) (by kernel_rfl) (by kernel_rfl) (fun _ _ _ h => h) (Or.inl ⟨by kernel_rfl, ?gy140⟩) ‹_› ?gr140
                  case gy140 => (intro w' hSw; (try dsimp only at hSw); go_simp; (try with_reducible rfl))
                  try simp only [Act.put, List.setIfInBounds_toArray, List.set_cons_zero, List.set_cons_succ, List.getElem_toArray, List.getElem_cons_succ, List.getElem_cons_zero]
                  refine wpAnyH_done (by kernel_rfl) (NoPanic.normal ?_) _
                  have hfb : Hid _ := HB1.out.trans (C4.mono HB1.out.size)
                  go_wp2
                  go_ret
                  exact ⟨ret_bool hend.out, B0.trans (hfb.out.mono hws)⟩
                by_cases hul : (us : Int) ≤ limit
                rotate_left
                · have hud : decide ((us : Int) ≤ limit) = false := decide_eq_false hul
                  have hud2 : (us : Int) > limit := by omega
                  have hend : Hid (false = R) := hbad.out (by rw [HGD.out, hud]; simp)
                  refine wp_region_noPanic ?_
                  refine wp_region_held_drew (S := fun W : World => W.cell? ⟨w.heap.size, 0, none⟩ = some (.slice (some ⟨b, off, none⟩) n cap) ∧ W.cell? ⟨w.heap.size, 1, none⟩ = some (.int .i64 nx) ∧ W.cell? ⟨X, 0, none⟩ = some (.int .i64 id) ∧ W.cell? ⟨X, 1, none⟩ = some (.string name) ∧ W.cell? ⟨X, 2, none⟩ = some (.bool ro) ∧ W.cell? ⟨X, 3, none⟩ = some (.int .i64 limit) ∧ W.cell? ⟨X, 4, none⟩ = some (.slice ra n1 rc) ∧ W.cell? ⟨X, 5, none⟩ = some (.int .i64 rnx)) (by kernel_rfl) (by go_keep) (fun hS => ?_)
                  refine wpAnyH_take (i := 0) (v := ?gv141) rfl (by kernel_rfl) (by kernel_rfl) (by kernel_rfl) (fun _ _ _ h => h) (Or.inl ⟨by kernel_rfl, ?gy141⟩) ‹_› ?gr141
                  case gy141 => (intro w' hSw; (try dsimp only at hSw); go_simp; (try with_reducible rfl))
                  refine wpAnyH_take (i := 1) (v := ?gv142) rfl (by kernel_rfl) (by kernel_rfl) (by kernel_rfl) (fun _ _ _ h => h) (Or.inl ⟨by kernel_rfl, ?gy142⟩) ‹_› ?gr142
                  case gy142 => (intro w' hSw; (try dsimp only at hSw); go_simp; (try with_reducible rfl))
                  refine wpAnyH_take (i := 2) (v := ?gv143) rfl (by kernel_rfl) (by kernel_rfl) (by kernel_rfl) (fun _ _ _ h => h) (Or.inl ⟨by kernel_rfl, ?gy143⟩) ‹_› ?gr143
                  case gy143 => (intro w' hSw; (try dsimp only at hSw); go_simp; (try with_reducible rfl))
                  refine wpAnyH_take (i := 3) (v := ?gv144) rfl (by kernel_rfl) (by kernel_rfl) (by kernel_rfl) (fun _ _ _ h => h) (Or.inl ⟨by kernel_rfl, ?gy144⟩) ‹_› ?gr144
                  case gy144 => (intro w' hSw; (try dsimp only at hSw); go_simp; (try with_reducible rfl))
                  refine wpAnyH_take (i := 4) (v := ?gv145) rfl (by kernel_rfl) (by kernel_rfl) (by kernel_rfl) (fun _ _ _ h => h) (Or.inl ⟨by kernel_rfl, ?gy145⟩) ‹_› ?gr145
                  case gy145 => (intro w' hSw; (try dsimp only at hSw); go_simp; (try with_reducible rfl))
                  refine wpAnyH_take (i := 5) (v := ?gv146) rfl (by kernel_rfl) (by kernel_rfl) (by kernel_rfl) (fun _ _ _ h => h) (Or.inl ⟨by kernel_rfl, ?gy146⟩) ‹_› ?gr146
                  case gy146 => (intro w' hSw; (try dsimp only at hSw); go_simp; (try with_reducible rfl))
                  refine wpAnyH_take (i := 6) (v := ?gv147) rfl (by kernel_rfl) (by kernel_rfl) (by kernel_rfl) (fun _ _ _ h => h) (Or.inl ⟨by kernel_rfl, ?gy147⟩) ‹_› ?gr147
                  case gy147 => (intro w' hSw; (try dsimp only at hSw); go_simp; (try with_reducible rfl))
                  refine wpAnyH_take (i := 7) (v := ?gv148) rfl (by kernel_rfl) (by kernel_rfl) (by kernel_rfl) (fun _ _ _ h => h) (Or.inl ⟨by kernel_rfl, ?gy148⟩) ‹_› ?gr148
                  case gy148 => (intro w' hSw; (try dsimp only at hSw); go_simp; (try with_reducible rfl))
                  refine wpAnyH_take (i := 8) (v := ?gv149) rfl (by kernel_rfl) (by kernel_rfl) (by kernel_rfl) (fun _ _ _ h => h) (Or.inl ⟨by kernel_rfl, ?gy149⟩) ‹_› ?gr149
                  case gy149 => (intro w' hSw; (try dsimp only at hSw); go_simp; (try with_reducible rfl))
                  refine wpAnyH_take (i := 9) (v := ?gv150) rfl (by kernel_rfl) (by kernel_rfl) (by kernel_rfl) (fun _ _ _ h => h) (Or.inl ⟨by kernel_rfl, ?gy150⟩) ‹_› ?gr150
                  case gy150 => (intro w' hSw; (try dsimp only at hSw); go_simp; (try with_reducible rfl))
                  refine wpAnyH_take (i := 10) (v := ?gv151) rfl (by kernel_rfl) (by kernel_rfl) (by kernel_rfl) (fun _ _ _ h => h) (Or.inl ⟨by kernel_rfl, ?gy151⟩) ‹_› ?gr151
                  case gy151 => (intro w' hSw; (try dsimp only at hSw); go_simp; (try with_reducible rfl))
                  refine wpAnyH_take (i := 11) (v := ?gv152) rfl (by kernel_rfl) (by kernel_rfl) (by kernel_rfl) (fun _ _ _ h => h) (Or.inl ⟨by kernel_rfl, ?gy152⟩) ‹_› ?gr152
                  case gy152 => (intro w' hSw; (try dsimp only at hSw); go_simp; (try with_reducible rfl))
                  refine wpAnyH_take (i := 12) (v := ?gv153) rfl (by kernel_rfl) (by kernel_rfl) (by kernel_rfl) (fun _ _ _ h => h) (Or.inl ⟨by kernel_rfl, ?gy153⟩) ‹_› ?gr153
                  case gy153 => (intro w' hSw; (try dsimp only at hSw); go_simp; (try with_reducible rfl))
                  refine wpAnyH_take (i := 13) (v := ?gv154) rfl (by kernel_rfl) (by kernel_rfl) (by kernel_rfl) (fun _ _ _ h => h) (Or.inl ⟨by kernel_rfl, ?gy154⟩) ‹_› ?gr154
                  case gy154 => (intro w' hSw; (try dsimp only at hSw); go_simp; (try with_reducible rfl))
                  refine wpAnyH_take (i := 14) (v := undef) rfl (by kernel_rfl) (by kernel_rfl) (by kernel_rfl) (fun _ _ _ h => h) (Or.inr ⟨by kernel_rfl, rfl⟩) ‹_› ?_
                  refine wpAnyH_take (i := 15) (v := undef) rfl (by kernel_rfl) (by kernel_rfl) (by kernel_rfl) (fun _ _ _ h => h) (Or.inr ⟨by kernel_rfl, rfl⟩) ‹_› ?_
                  refine wpAnyH_take (i := 16) (v := undef) rfl (by kernel_rfl) (by kernel_rfl) (by kernel_rfl) (fun _ _ _ h => h) (Or.inr ⟨by kernel_rfl, rfl⟩) ‹_› ?_
                  refine wpAnyH_take (i := 17) (v := undef) rfl (by kernel_rfl) (by kernel_rfl) (by kernel_rfl) (fun _ _ _ h => h) (Or.inr ⟨by kernel_rfl, rfl⟩) ‹_› ?_
                  refine wpAnyH_take (i := 18) (v := undef) rfl (by kernel_rfl) (by kernel_rfl) (by kernel_rfl) (fun _ _ _ h => h) (Or.inr ⟨by kernel_rfl, rfl⟩) ‹_› ?_
                  refine wpAnyH_take (i := 19) (v := undef) rfl (by kernel_rfl) (by kernel_rfl) (by kernel_rfl) (fun _ _ _ h => h) (Or.inr ⟨by kernel_rfl, rfl⟩) ‹_› ?_
                  refine wpAnyH_take (i := 20) (v := undef) rfl (by kernel_rfl) (by kernel_rfl) (by kernel_rfl) (fun _ _ _ h => h) (Or.inr ⟨by kernel_rfl, rfl⟩) ‹_› ?_
                  refine wpAnyH_take (i := 21) (v := undef) rfl (by kernel_rfl) (by kernel_rfl) (by kernel_rfl) (fun _ _ _ h => h) (Or.inr ⟨by kernel_rfl, rfl⟩) ‹_› ?_
                  refine wpAnyH_take (i := 22) (v := undef) rfl (by kernel_rfl) (by kernel_rfl) (by kernel_rfl) (fun _ _ _ h => h) (Or.inr ⟨by kernel_rfl, rfl⟩) ‹_› ?_
                  refine wpAnyH_take (i := 23) (v := undef) rfl (by kernel_rfl) (by kernel_rfl) (by kernel_rfl) (fun _ _ _ h => h) (Or.inr ⟨by kernel_rfl, rfl⟩) ‹_› ?_
                  refine wpAnyH_take (i := 24) (v := ?gv155) rfl (by kernel_rfl) (by kernel_rfl) (by kernel_rfl) (fun _ _ _ h => h) (Or.inl ⟨by kernel_rfl, ?gy155⟩) ‹_› ?gr155
                  case gy155 => (intro w' hSw; (try dsimp only at hSw); go_simp; (try with_reducible rfl))
                  refine wpAnyH_take (i := 25) (v := ?gv156) rfl (by kernel_rfl) (by kernel_rfl) (by kernel_rfl) (fun _ _ _ h => h) (Or.inl ⟨by kernel_rfl, ?gy156⟩) ‹_› ?gr156
                  case gy156 => (intro w' hSw; (try dsimp only at hSw); go_simp; (try with_reducible rfl))
                  refine wpAnyH_take (i := 26) (v := ?gv157) rfl (by kernel_rfl) (by kernel_rfl) (by kernel_rfl) (fun _ _ _ h => h) (Or.inl ⟨by kernel_rfl, ?gy157⟩) ‹_› ?gr157
                  case gy157 => (intro w' hSw; (try dsimp only at hSw); go_simp; (try with_reducible rfl))
                  refine wpAnyH_take (i := 27) (v := ?gv158) rfl (by kernel_rfl) (by kernel_rfl) (by kernel_rfl) (fun _ _ _ h => h) (Or.inl ⟨by kernel_rfl, ?gy158⟩) ‹_› ?gr158
                  case gy158 => (intro w' hSw; (try dsimp only at hSw); go_simp; (try with_reducible rfl))
                  refine wpAnyH_take (i := 28) (v := ?gv159) rfl (by kernel_rfl) (by kernel_rfl) (by kernel_rfl) (fun _ _ _ h => h) (Or.inl ⟨by kernel_rfl, ?gy159⟩) ‹_› ?gr159
                  case gy159 => (intro w' hSw; (try dsimp only at hSw); go_simp; (try with_reducible rfl))
                  try simp only [Act.put, List.setIfInBounds_toArray, List.set_cons_zero, List.set_cons_succ, List.getElem_toArray, List.getElem_cons_succ, List.getElem_cons_zero]
                  refine wpAnyH_ready (rs := [29]) (by kernel_rfl) (by simp) ?_
                  refine AllReadyH.cons rfl (fun K hK => ?_) AllReadyH.nil
                  go_simp
                  go_at_call 19
                  (with_reducible refine (HN.out W1.drew).mono ?_)
                  rintro e u1 ⟨rfl, b1⟩
                  have C1 : Below W1.heap.size W1 u1 := (Below.refl _ W1).drew.trans b1
                  clear hS
                  dsimp only
                  refine Shut.out hK _ _ (HK.out u1 C1) (fun hS => ?_)
                  try simp only [Act.put, List.setIfInBounds_toArray, List.set_cons_zero, List.set_cons_succ, List.getElem_toArray, List.getElem_cons_succ, List.getElem_cons_zero]
                  refine wpAnyH_take (i := 30) (v := ?gv160) rfl (by kernel_rfl) (by kernel_rfl) (by kernel_rfl) (fun _ _ _ h => h) (Or.inl ⟨by kernel_rfl, ?gy160⟩) ‹_› ?gr160
                  case gy160 => (intro w' hSw; (try dsimp only at hSw); go_simp; (try with_reducible rfl))
                  refine wpAnyH_take (i := 31) (v := ?gv161) rfl (by kernel_rfl) (by kernel_rfl) (by kernel_rfl) (fun _ _ _ h => h) (Or.inl ⟨by kernel_rfl, ?gy161⟩) ‹_› ?gr161
                  case gy161 => (intro w' hSw; (try dsimp only at hSw); go_simp; (try with_reducible rfl))
                  refine wpAnyH_take (i := 32) (v := ?gv162) rfl (by kernel_rfl) (by kernel_rfl) (by kernel_rfl) (fun _ _ _ h => h) (Or.inl ⟨by kernel_rfl, ?gy162⟩) ‹_› ?gr162
                  case gy162 => (intro w' hSw; (try dsimp only at hSw); go_simp; (try with_reducible rfl))
                  refine wpAnyH_take (i := 33) (v := ?gv163) rfl (by kernel_rfl) (by kernel_rfl) (by kernel_rfl) (fun _ _ _ h => h) (Or.inl ⟨by kernel_rfl, ?gy163⟩) ‹_› ?gr163
                  case gy163 => (intro w' hSw; (try dsimp only at hSw); go_simp; (try with_reducible rfl))
                  refine wpAnyH_take (i := 34) (v := ?gv164) rfl (by kernel_rfl) (by kernel_rfl) (by kernel_rfl) (fun _ _ _ h => h) (Or.inl ⟨by kernel_rfl, ?gy164⟩) ‹_› ?gr164
                  case gy164 => (intro w' hSw; (try dsimp only at hSw); go_simp; (try with_reducible rfl))
                  refine wpAnyH_take (i := 35) (v := ?gv165) rfl (by kernel_rfl) (by kernel_rfl) (by kernel_rfl) (fun _ _ _ h => h) (Or.inl ⟨by kernel_rfl, ?gy165⟩) ‹_› ?gr165
                  case gy165 => (intro w' hSw; (try dsimp only at hSw); go_simp; (try with_reducible rfl))
                  refine wpAnyH_take (i := 37) (v := ?gv166) rfl (by kernel_rfl) (by kernel_rfl) (by kernel_rfl) (fun _ _ _ h => h) (Or.inl ⟨by kernel_rfl, ?gy166⟩) ‹_› ?gr166
                  case gy166 => (intro w' hSw; (try dsimp only at hSw); go_simp; (try with_reducible rfl))
                  try simp only [Act.put, List.setIfInBounds_toArray, List.set_cons_zero, List.set_cons_succ, List.getElem_toArray, List.getElem_cons_succ, List.getElem_cons_zero]
                  refine wpAnyH_ready (rs := [36]) (by kernel_rfl) (by simp) ?_
                  refine AllReadyH.cons rfl (fun K hK => ?_) AllReadyH.nil
                  go_simp
                  go_at_call 20
                  (with_reducible refine (HV.out u1 C1).mono ?_)
                  rintro e u2 ⟨rfl, b2⟩
                  have C2 : Below W1.heap.size W1 u2 := C1.trans (b2.mono C1.size)
                  clear hS
                  dsimp only
                  refine Shut.out hK _ _ (HK.out u2 C2) (fun hS => ?_)
                  try simp only [Act.put, List.setIfInBounds_toArray, List.set_cons_zero, List.set_cons_succ, List.getElem_toArray, List.getElem_cons_succ, List.getElem_cons_zero]
                  refine wpAnyH_take (i := 38) (v := ?gv167) rfl (by kernel_rfl) (by kernel_rfl) (by kernel_rfl) (fun _ _ _ h => h) (Or.inl ⟨by kernel_rfl, ?gy167⟩) ‹_› ?gr167
                  case gy167 => (intro w' hSw; (try dsimp only at hSw); go_simp; (try with_reducible rfl))
                  refine wpAnyH_take (i := 39) (v := ?gv168) rfl (by kernel_rfl) (by kernel_rfl) (by kernel_rfl) (fun _ _ _ h => h) (Or.inl ⟨by kernel_rfl, ?gy168⟩) ‹_› ?gr168
                  case gy168 => (intro w' hSw; (try dsimp only at hSw); go_simp; (try with_reducible rfl))
                  refine wpAnyH_take (i := 40) (v := ?gv169) rfl (by kernel_rfl) (by kernel_rfl) (by kernel_rfl) (fun _ _ _ h => h) (Or.inl ⟨by kernel_rfl, ?gy169⟩) ‹_› ?gr169
                  case gy169 => (intro w' hSw; (try dsimp only at hSw); go_simp; (try with_reducible rfl))
                  refine wpAnyH_take (i := 41) (v := ?gv170) rfl (by kernel_rfl) (by kernel_rfl) (by kernel_rfl) (fun _ _ _ h => h) (Or.inl ⟨by kernel_rfl, ?gy170⟩) ‹_› ?gr170
                  case gy170 => (intro w' hSw; (try dsimp only at hSw); go_simp; (try with_reducible rfl))
                  refine wpAnyH_take (i := 42) (v := ?gv171) rfl (by kernel_rfl) (by kernel_rfl) (by kernel_rfl) (fun _ _ _ h => h) (Or.inl ⟨by kernel_rfl, ?gy171⟩) ‹_› ?gr171
                  case gy171 => (intro w' hSw; (try dsimp only at hSw); go_simp; (try with_reducible rfl))
                  try simp only [Act.put, List.setIfInBounds_toArray, List.set_cons_zero, List.set_cons_succ, List.getElem_toArray, List.getElem_cons_succ, List.getElem_cons_zero]
                  refine wpAnyH_ready (rs := [43]) (by kernel_rfl) (by simp) ?_
                  refine AllReadyH.cons rfl (fun K hK => ?_) AllReadyH.nil
                  go_simp
                  go_at_call 18
                  (with_reducible refine (HL.out u2).mono ?_)
                  rintro e u3 ⟨rfl, b3⟩
                  have C3 : Below W1.heap.size W1 u3 := C2.trans (b3.mono C2.size)
                  clear hS
                  dsimp only
                  refine Shut.out hK _ _ (HK.out u3 C3) (fun hS => ?_)
                  try simp only [Act.put, List.setIfInBounds_toArray, List.set_cons_zero, List.set_cons_succ, List.getElem_toArray, List.getElem_cons_succ, List.getElem_cons_zero]
                  refine wpAnyH_take (i := 44) (v := ?gv172) rfl (by kernel_rfl) (by kernel_rfl) (by kernel_rfl) (fun _ _ _ h => h) (Or.inl ⟨by kernel_rfl, ?gy172⟩) ‹_› ?gr172
                  case gy172 => (intro w' hSw; (try dsimp only at hSw); go_simp; (try with_reducible rfl))
                  refine wpAnyH_take (i := 45) (v := ?gv173) rfl (by kernel_rfl) (by kernel_rfl) (by kernel_rfl) (fun _ _ _ h => h) (Or.inl ⟨by kernel_rfl, ?gy173⟩) ‹_› ?gr173
                  case gy173 => (intro w' hSw; (try dsimp only at hSw); go_simp; (try with_reducible rfl))
                  refine wpAnyH_take (i := 46) (v := ?gv174) rfl (by kernel_rfl) (by kernel_rfl) (by kernel_rfl) (fun _ _ _ h => h) (Or.inl ⟨by kernel_rfl, ?gy174⟩) ‹_› ?gr174
                  case gy174 => (intro w' hSw; (try dsimp only at hSw); go_simp; (try with_reducible rfl))
                  refine wpAnyH_take (i := 47) (v := ?gv175) rfl (by kernel_rfl) (by kernel_rfl) (by kernel_rfl) (fun _ _ _ h => h) (Or.inl ⟨by kernel_rfl, ?gy175⟩) ‹_› ?gr175
                  case gy175 => (intro w' hSw; (try dsimp only at hSw); go_simp; (try with_reducible rfl))
                  refine wpAnyH_take (i := 48) (v := ?gv176) rfl (by kernel_rfl) (by kernel_rfl) (by kernel_rfl) (fun _ _ _ h => h) (Or.inl ⟨by kernel_rfl, ?gy176⟩) ‹_› ?gr176
                  case gy176 => (intro w' hSw; (try dsimp only at hSw); go_simp; (try with_reducible rfl))
                  try simp only [Act.put, List.setIfInBounds_toArray, List.set_cons_zero, List.set_cons_succ, List.getElem_toArray, List.getElem_cons_succ, List.getElem_cons_zero]
                  refine wpAnyH_ready (rs := [49]) (by kernel_rfl) (by simp) ?_
                  refine AllReadyH.cons rfl (fun K hK => ?_) AllReadyH.nil
                  go_simp
                  go_at_call 21
                  (with_reducible refine (HT.out u3 C3).mono ?_)
                  rintro e u4 ⟨rfl, b4⟩
                  have C4 : Below W1.heap.size W1 u4 := C3.trans (b4.mono C3.size)
                  clear hS
                  dsimp only
                  refine Shut.out hK _ _ (HK.out u4 C4) (fun hS => ?_)
                  try simp only [Act.put, List.setIfInBounds_toArray, List.set_cons_zero, List.set_cons_succ, List.getElem_toArray, List.getElem_cons_succ, List.getElem_cons_zero]
                  refine wpAnyH_take (i := 50) (v := ?gv177) rfl (by kernel_rfl) (by kernel_rfl) (by kernel_rfl) (fun _ _ _ h => h) (Or.inl ⟨by kernel_rfl, ?gy177⟩) ‹_› ?gr177
                  case gy177 => (intro w' hSw; (try dsimp only at hSw); go_simp; (try with_reducible rfl))
                  refine wpAnyH_take (i := 51) (v := ?gv178) rfl (by kernel_rfl) (by kernel_rfl) (by kernel_rfl) (fun _ _ _ h => h) (Or.inl ⟨by kernel_rfl, ?gy178⟩) ‹_› ?gr178
                  case gy178 => (intro w' hSw; (try dsimp only at hSw); go_simp; (try with_reducible rfl))
                  refine wpAnyH_take (i := 52) (v := ?gv179) rfl (by kernel_rfl) (by kernel_rfl) (by kernel_rfl) (fun _ _ _ h => h) (Or.inl ⟨by kernel_rfl, ?gy179⟩) ‹_› ?gr179
                  case gy179 => (intro w' hSw; (try dsimp only at hSw); go_simp; (try with_reducible rfl))
                  refine wpAnyH_take (i := 53) (v := ?gv180) rfl (by kernel_rfl) (by kernel_rfl) (by kernel_rfl) (fun _ _ _ h => h) (Or.inl ⟨by kernel_rfl, ?gy180⟩) ‹_› ?gr180
                  case gy180 => (intro w' hSw; (try dsimp only at hSw); go_simp; (try with_reducible rfl))
                  refine wpAnyH_take (i := 54) (v := ?gv181) rfl (by kernel_rfl) (by kernel_rfl) (by kernel_rfl) (fun _ _ _ h => h) (Or.inl ⟨by kernel_rfl, ?gy181⟩) ‹_› ?gr181
                  case gy181 => (intro w' hSw; (try dsimp only at hSw); go_simp; (try with_reducible rfl))
                  refine wpAnyH_take (i := 56) (v := ?gv182) rfl (by kernel_rfl) (by kernel_rfl) (by kernel_rfl) (fun _ _ _ h => h) (Or.inl ⟨by kernel_rfl, ?gy182⟩) ‹_› ?gr182
                  case gy182 => (intro w' hSw; (try dsimp only at hSw); go_simp; (try with_reducible rfl))
                  refine wpAnyH_take (i := 57) (v := ?gv183) rfl (by kernel_rfl) (by kernel_rfl) (by kernel_rfl) (fun _ _ _ h => h) (Or.inl ⟨by kernel_rfl, ?gy183⟩) ‹_› ?gr183
                  case gy183 => (intro w' hSw; (try dsimp only at hSw); go_simp; (try with_reducible rfl))
                  try simp only [Act.put, List.setIfInBounds_toArray, List.set_cons_zero, List.set_cons_succ, List.getElem_toArray, List.getElem_cons_succ, List.getElem_cons_zero]
                  refine wpAnyH_ready (rs := [55]) (by kernel_rfl) (by simp) ?_
                  refine AllReadyH.cons rfl (fun K hK => ?_) AllReadyH.nil
                  go_simp
                  go_at_call 22
                  (with_reducible refine (HU.out u4 C4).mono ?_)
                  rintro e u5 ⟨rfl, b5⟩
                  have C5 : Below W1.heap.size W1 u5 := C4.trans (b5.mono C4.size)
                  clear hS
                  dsimp only
                  refine Shut.out hK _ _ (HK.out u5 C5) (fun hS => ?_)
                  try simp only [Act.put, List.setIfInBounds_toArray, List.set_cons_zero, List.set_cons_succ, List.getElem_toArray, List.getElem_cons_succ, List.getElem_cons_zero]
                  refine wpAnyH_take (i := 58) (v := ?gv184) rfl (by kernel_rfl) (by kernel_rfl) (by kernel_rfl) (fun _ _ _ h => h) (Or.inl ⟨by kernel_rfl, ?gy184⟩) ‹_› ?gr184
                  case gy184 => (intro w' hSw; (try dsimp only at hSw); go_simp; (try with_reducible rfl))
                  refine wpAnyH_take (i := 59) (v := ?gv185) rfl (by kernel_rfl) (by kernel_rfl) (by kernel_rfl) (fun _ _ _ h => h) (Or.inl ⟨by kernel_rfl, ?gy185⟩) ‹_› ?gr185
                  case gy185 => (intro w' hSw; (try dsimp only at hSw); go_simp; (try with_reducible rfl))
                  try simp only [Act.put, List.setIfInBounds_toArray, List.set_cons_zero, List.set_cons_succ, List.getElem_toArray, List.getElem_cons_succ, List.getElem_cons_zero]
                  refine wpAnyH_done (by kernel_rfl) (NoPanic.normal ?_) _
                  have hfb : Hid _ := HB1.out.trans (C5.mono HB1.out.size)
                  go_wp2
                  go_ret
                  exact ⟨ret_bool hend.out, B0.trans (hfb.out.mono hws)⟩
                have hud : decide ((us : Int) ≤ limit) = true := decide_eq_true hul
                have hud2 : ¬ (us : Int) > limit := by omega
                have hnx : Hid _ := hnext.out (by rw [HGD.out, hud]; simp [hi1, hi2])
                refine wp_region_noPanic ?_
                refine wp_region_held_drew (S := fun W : World => W.cell? ⟨w.heap.size, 0, none⟩ = some (.slice (some ⟨b, off, none⟩) n cap) ∧ W.cell? ⟨w.heap.size, 1, none⟩ = some (.int .i64 nx) ∧ W.cell? ⟨X, 0, none⟩ = some (.int .i64 id) ∧ W.cell? ⟨X, 1, none⟩ = some (.string name) ∧ W.cell? ⟨X, 2, none⟩ = some (.bool ro) ∧ W.cell? ⟨X, 3, none⟩ = some (.int .i64 limit) ∧ W.cell? ⟨X, 4, none⟩ = some (.slice ra n1 rc) ∧ W.cell? ⟨X, 5, none⟩ = some (.int .i64 rnx)) (by kernel_rfl) (by go_keep) (fun hS => ?_)
                refine wpAnyH_take (i := 0) (v := ?gv186) rfl (by kernel_rfl) (by kernel_rfl) (by kernel_rfl) (fun _ _ _ h => h) (Or.inl ⟨by kernel_rfl, ?gy186⟩) ‹_› ?gr186
                case gy186 => (intro w' hSw; (try dsimp only at hSw); go_simp; (try with_reducible rfl))
                refine wpAnyH_take (i := 1) (v := ?gv187) rfl (by kernel_rfl) (by kernel_rfl) (by kernel_rfl) (fun _ _ _ h => h) (Or.inl ⟨by kernel_rfl, ?gy187⟩) ‹_› ?gr187
                case gy187 => (intro w' hSw; (try dsimp only at hSw); go_simp; (try with_reducible rfl))
                refine wpAnyH_take (i := 2) (v := ?gv188) rfl (by kernel_rfl) (by kernel_rfl) (by kernel_rfl) (fun _ _ _ h => h) (Or.inl ⟨by kernel_rfl, ?gy188⟩) ‹_› ?gr188
                case gy188 => (intro w' hSw; (try dsimp only at hSw); go_simp; (try with_reducible rfl))
                refine wpAnyH_take (i := 3) (v := ?gv189) rfl (by kernel_rfl) (by kernel_rfl) (by kernel_rfl) (fun _ _ _ h => h) (Or.inl ⟨by kernel_rfl, ?gy189⟩) ‹_› ?gr189
                case gy189 => (intro w' hSw; (try dsimp only at hSw); go_simp; (try with_reducible rfl))
                refine wpAnyH_take (i := 4) (v := ?gv190) rfl (by kernel_rfl) (by kernel_rfl) (by kernel_rfl) (fun _ _ _ h => h) (Or.inl ⟨by kernel_rfl, ?gy190⟩) ‹_› ?gr190
                case gy190 => (intro w' hSw; (try dsimp only at hSw); go_simp; (try with_reducible rfl))
                refine wpAnyH_take (i := 5) (v := ?gv191) rfl (by kernel_rfl) (by kernel_rfl) (by kernel_rfl) (fun _ _ _ h => h) (Or.inl ⟨by kernel_rfl, ?gy191⟩) ‹_› ?gr191
                case gy191 => (intro w' hSw; (try dsimp only at hSw); go_simp; (try with_reducible rfl))
                refine wpAnyH_take (i := 6) (v := ?gv192) rfl (by kernel_rfl) (by kernel_rfl) (by kernel_rfl) (fun _ _ _ h => h) (Or.inl ⟨by kernel_rfl, ?gy192⟩) ‹_› ?gr192
                case gy192 => (intro w' hSw; (try dsimp only at hSw); go_simp; (try with_reducible rfl))
                refine wpAnyH_take (i := 7) (v := ?gv193) rfl (by kernel_rfl) (by kernel_rfl) (by kernel_rfl) (fun _ _ _ h => h) (Or.inl ⟨by kernel_rfl, ?gy193⟩) ‹_› ?gr193
                case gy193 => (intro w' hSw; (try dsimp only at hSw); go_simp; (try with_reducible rfl))
                refine wpAnyH_take (i := 8) (v := ?gv194) rfl (by kernel_rfl) (by kernel_rfl) (by kernel_rfl) (fun _ _ _ h => h) (Or.inl ⟨by kernel_rfl, ?gy194⟩) ‹_› ?gr194
                case gy194 => (intro w' hSw; (try dsimp only at hSw); go_simp; (try with_reducible rfl))
                refine wpAnyH_take (i := 9) (v := ?gv195) rfl (by kernel_rfl) (by kernel_rfl) (by kernel_rfl) (fun _ _ _ h => h) (Or.inl ⟨by kernel_rfl, ?gy195⟩) ‹_› ?gr195
                case gy195 => (intro w' hSw; (try dsimp only at hSw); go_simp; (try with_reducible rfl))
                refine wpAnyH_take (i := 10) (v := ?gv196) rfl (by kernel_rfl) (by kernel_rfl) (by kernel_rfl) (fun _ _ _ h => h) (Or.inl ⟨by kernel_rfl, ?gy196⟩) ‹_› ?gr196
                case gy196 => (intro w' hSw; (try dsimp only at hSw); go_simp; (try with_reducible rfl))
                refine wpAnyH_take (i := 11) (v := ?gv197) rfl (by kernel_rfl) (by kernel_rfl) (by kernel_rfl) (fun _ _ _ h => h) (Or.inl ⟨by kernel_rfl, ?gy197⟩) ‹_› ?gr197
                case gy197 => (intro w' hSw; (try dsimp only at hSw); go_simp; (try with_reducible rfl))
                refine wpAnyH_take (i := 12) (v := ?gv198) rfl (by kernel_rfl) (by kernel_rfl) (by kernel_rfl) (fun _ _ _ h => h) (Or.inl ⟨by kernel_rfl, ?gy198⟩) ‹_› ?gr198
                case gy198 => (intro w' hSw; (try dsimp only at hSw); go_simp; (try with_reducible rfl))
                refine wpAnyH_take (i := 13) (v := ?gv199) rfl (by kernel_rfl) (by kernel_rfl) (by kernel_rfl) (fun _ _ _ h => h) (Or.inl ⟨by kernel_rfl, ?gy199⟩) ‹_› ?gr199
                case gy199 => (intro w' hSw; (try dsimp only at hSw); go_simp; (try with_reducible rfl))
                refine wpAnyH_take (i := 14) (v := undef) rfl (by kernel_rfl) (by kernel_rfl) (by kernel_rfl) (fun _ _ _ h => h) (Or.inr ⟨by kernel_rfl, rfl⟩) ‹_› ?_
                refine wpAnyH_take (i := 15) (v := undef) rfl (by kernel_rfl) (by kernel_rfl) (by kernel_rfl) (fun _ _ _ h => h) (Or.inr ⟨by kernel_rfl, rfl⟩) ‹_› ?_
                refine wpAnyH_take (i := 16) (v := undef) rfl (by kernel_rfl) (by kernel_rfl) (by kernel_rfl) (fun _ _ _ h => h) (Or.inr ⟨by kernel_rfl, rfl⟩) ‹_› ?_
                refine wpAnyH_take (i := 17) (v := undef) rfl (by kernel_rfl) (by kernel_rfl) (by kernel_rfl) (fun _ _ _ h => h) (Or.inr ⟨by kernel_rfl, rfl⟩) ‹_› ?_
                refine wpAnyH_take (i := 18) (v := undef) rfl (by kernel_rfl) (by kernel_rfl) (by kernel_rfl) (fun _ _ _ h => h) (Or.inr ⟨by kernel_rfl, rfl⟩) ‹_› ?_
                refine wpAnyH_take (i := 19) (v := undef) rfl (by kernel_rfl) (by kernel_rfl) (by kernel_rfl) (fun _ _ _ h => h) (Or.inr ⟨by kernel_rfl, rfl⟩) ‹_› ?_
                refine wpAnyH_take (i := 20) (v := undef) rfl (by kernel_rfl) (by kernel_rfl) (by kernel_rfl) (fun _ _ _ h => h) (Or.inr ⟨by kernel_rfl, rfl⟩) ‹_› ?_
                refine wpAnyH_take (i := 21) (v := undef) rfl (by kernel_rfl) (by kernel_rfl) (by kernel_rfl) (fun _ _ _ h => h) (Or.inr ⟨by kernel_rfl, rfl⟩) ‹_› ?_
                refine wpAnyH_take (i := 22) (v := undef) rfl (by kernel_rfl) (by kernel_rfl) (by kernel_rfl) (fun _ _ _ h => h) (Or.inr ⟨by kernel_rfl, rfl⟩) ‹_› ?_
                refine wpAnyH_take (i := 23) (v := undef) rfl (by kernel_rfl) (by kernel_rfl) (by kernel_rfl) (fun _ _ _ h => h) (Or.inr ⟨by kernel_rfl, rfl⟩) ‹_› ?_
                refine wpAnyH_take (i := 24) (v := ?gv200) rfl (by kernel_rfl) (by kernel_rfl) (by kernel_rfl) (fun _ _ _ h => h) (Or.inl ⟨by kernel_rfl, ?gy200⟩) ‹_› ?gr200
                case gy200 => (intro w' hSw; (try dsimp only at hSw); go_simp; (try with_reducible rfl))
                refine wpAnyH_take (i := 25) (v := ?gv201) rfl (by kernel_rfl) (by kernel_rfl) (by kernel_rfl) (fun _ _ _ h => h) (Or.inl ⟨by kernel_rfl, ?gy201⟩) ‹_› ?gr201
                case gy201 => (intro w' hSw; (try dsimp only at hSw); go_simp; (try with_reducible rfl))
                refine wpAnyH_take (i := 26) (v := ?gv202) rfl (by kernel_rfl) (by kernel_rfl) (by kernel_rfl) (fun _ _ _ h => h) (Or.inl ⟨by kernel_rfl, ?gy202⟩) ‹_› ?gr202
                case gy202 => (intro w' hSw; (try dsimp only at hSw); go_simp; (try with_reducible rfl))
                refine wpAnyH_take (i := 27) (v := ?gv203) rfl (by kernel_rfl) (by kernel_rfl) (by kernel_rfl) (fun _ _ _ h => h) (Or.inl ⟨by kernel_rfl, ?gy203⟩) ‹_› ?gr203
                case gy203 => (intro w' hSw; (try dsimp only at hSw); go_simp; (try with_reducible rfl))
                refine wpAnyH_take (i := 28) (v := ?gv204) rfl (by kernel_rfl) (by kernel_rfl) (by kernel_rfl) (fun _ _ _ h => h) (Or.inl ⟨by kernel_rfl, ?gy204⟩) ‹_› ?gr204
                case gy204 => (intro w' hSw; (try dsimp only at hSw); go_simp; (try with_reducible rfl))
                try simp only [Act.put, List.setIfInBounds_toArray, List.set_cons_zero, List.set_cons_succ, List.getElem_toArray, List.getElem_cons_succ, List.getElem_cons_zero]
                refine wpAnyH_ready (rs := [29]) (by kernel_rfl) (by simp) ?_
                refine AllReadyH.cons rfl (fun K hK => ?_) AllReadyH.nil
                go_simp
                go_at_call 19
                (with_reducible refine (HN.out W1.drew).mono ?_)
                rintro e u1 ⟨rfl, b1⟩
                have C1 : Below W1.heap.size W1 u1 := (Below.refl _ W1).drew.trans b1
                clear hS
                dsimp only
                refine Shut.out hK _ _ (HK.out u1 C1) (fun hS => ?_)
                try simp only [Act.put, List.setIfInBounds_toArray, List.set_cons_zero, List.set_cons_succ, List.getElem_toArray, List.getElem_cons_succ, List.getElem_cons_zero]
                refine wpAnyH_take (i := 30) (v := ?gv205) rfl (by kernel_rfl) (by kernel_rfl) (by kernel_rfl) (fun _ _ _ h => h) (Or.inl ⟨by kernel_rfl, ?gy205⟩) ‹_› ?gr205
                case gy205 => (intro w' hSw; (try dsimp only at hSw); go_simp; (try with_reducible rfl))
                refine wpAnyH_take (i := 31) (v := ?gv206) rfl (by kernel_rfl) (by kernel_rfl) (by kernel_rfl) (fun _ _ _ h => h) (Or.inl ⟨by kernel_rfl, ?gy206⟩) ‹_› ?gr206
                case gy206 => (intro w' hSw; (try dsimp only at hSw); go_simp; (try with_reducible rfl))
                refine wpAnyH_take (i := 32) (v := ?gv207) rfl (by kernel_rfl) (by kernel_rfl) (by kernel_rfl) (fun _ _ _ h => h) (Or.inl ⟨by kernel_rfl, ?gy207⟩) ‹_› ?gr207
                case gy207 => (intro w' hSw; (try dsimp only at hSw); go_simp; (try with_reducible rfl))
                refine wpAnyH_take (i := 33) (v := ?gv208) rfl (by kernel_rfl) (by kernel_rfl) (by kernel_rfl) (fun _ _ _ h => h) (Or.inl ⟨by kernel_rfl, ?gy208⟩) ‹_› ?gr208
                case gy208 => (intro w' hSw; (try dsimp only at hSw); go_simp; (try with_reducible rfl))
                refine wpAnyH_take (i := 34) (v := ?gv209) rfl (by kernel_rfl) (by kernel_rfl) (by kernel_rfl) (fun _ _ _ h => h) (Or.inl ⟨by kernel_rfl, ?gy209⟩) ‹_› ?gr209
                case gy209 => (intro w' hSw; (try dsimp only at hSw); go_simp; (try with_reducible rfl))
                refine wpAnyH_take (i := 35) (v := ?gv210) rfl (by kernel_rfl) (by kernel_rfl) (by kernel_rfl) (fun _ _ _ h => h) (Or.inl ⟨by kernel_rfl, ?gy210⟩) ‹_› ?gr210
                case gy210 => (intro w' hSw; (try dsimp only at hSw); go_simp; (try with_reducible rfl))
                refine wpAnyH_take (i := 37) (v := ?gv211) rfl (by kernel_rfl) (by kernel_rfl) (by kernel_rfl) (fun _ _ _ h => h) (Or.inl ⟨by kernel_rfl, ?gy211⟩) ‹_› ?gr211
                case gy211 => (intro w' hSw; (try dsimp only at hSw); go_simp; (try with_reducible rfl))
                try simp only [Act.put, List.setIfInBounds_toArray, List.set_cons_zero, List.set_cons_succ, List.getElem_toArray, List.getElem_cons_succ, List.getElem_cons_zero]
                refine wpAnyH_ready (rs := [36]) (by kernel_rfl) (by simp) ?_
                refine AllReadyH.cons rfl (fun K hK => ?_) AllReadyH.nil
                go_simp
                go_at_call 20
                (with_reducible refine (HV.out u1 C1).mono ?_)
                rintro e u2 ⟨rfl, b2⟩
                have C2 : Below W1.heap.size W1 u2 := C1.trans (b2.mono C1.size)
                clear hS
                dsimp only
                refine Shut.out hK _ _ (HK.out u2 C2) (fun hS => ?_)
                try simp only [Act.put, List.setIfInBounds_toArray, List.set_cons_zero, List.set_cons_succ, List.getElem_toArray, List.getElem_cons_succ, List.getElem_cons_zero]
                refine wpAnyH_take (i := 38) (v := ?gv212) rfl (by kernel_rfl) (by kernel_rfl) (by kernel_rfl) (fun _ _ _ h => h) (Or.inl ⟨by kernel_rfl, ?gy212⟩) ‹_› ?gr212
                case gy212 => (intro w' hSw; (try dsimp only at hSw); go_simp; (try with_reducible rfl))
                refine wpAnyH_take (i := 39) (v := ?gv213) rfl (by kernel_rfl) (by kernel_rfl) (by kernel_rfl) (fun _ _ _ h => h) (Or.inl ⟨by kernel_rfl, ?gy213⟩) ‹_› ?gr213
                case gy213 => (intro w' hSw; (try dsimp only at hSw); go_simp; (try with_reducible rfl))
                refine wpAnyH_take (i := 40) (v := ?gv214) rfl (by kernel_rfl) (by kernel_rfl) (by kernel_rfl) (fun _ _ _ h => h) (Or.inl ⟨by kernel_rfl, ?gy214⟩) ‹_› ?gr214
                case gy214 => (intro w' hSw; (try dsimp only at hSw); go_simp; (try with_reducible rfl))
                refine wpAnyH_take (i := 41) (v := ?gv215) rfl (by kernel_rfl) (by kernel_rfl) (by kernel_rfl) (fun _ _ _ h => h) (Or.inl ⟨by kernel_rfl, ?gy215⟩) ‹_› ?gr215
                case gy215 => (intro w' hSw; (try dsimp only at hSw); go_simp; (try with_reducible rfl))
                refine wpAnyH_take (i := 42) (v := ?gv216) rfl (by kernel_rfl) (by kernel_rfl) (by kernel_rfl) (fun _ _ _ h => h) (Or.inl ⟨by kernel_rfl, ?gy216⟩) ‹_› ?gr216
                case gy216 => (intro w' hSw; (try dsimp only at hSw); go_simp; (try with_reducible rfl))
                try simp only [Act.put, List.setIfInBounds_toArray, List.set_cons_zero, List.set_cons_succ, List.getElem_toArray, List.getElem_cons_succ, List.getElem_cons_zero]
                refine wpAnyH_ready (rs := [43]) (by kernel_rfl) (by simp) ?_
                refine AllReadyH.cons rfl (fun K hK => ?_) AllReadyH.nil
                go_simp
                go_at_call 18
                (with_reducible refine (HL.out u2).mono ?_)
                rintro e u3 ⟨rfl, b3⟩
                have C3 : Below W1.heap.size W1 u3 := C2.trans (b3.mono C2.size)
                clear hS
                dsimp only
                refine Shut.out hK _ _ (HK.out u3 C3) (fun hS => ?_)
                try simp only [Act.put, List.setIfInBounds_toArray, List.set_cons_zero, List.set_cons_succ, List.getElem_toArray, List.getElem_cons_succ, List.getElem_cons_zero]
                refine wpAnyH_take (i := 44) (v := ?gv217) rfl (by kernel_rfl) (by kernel_rfl) (by kernel_rfl) (fun _ _ _ h => h) (Or.inl ⟨by kernel_rfl, ?gy217⟩) ‹_› ?gr217
                case gy217 => (intro w' hSw; (try dsimp only at hSw); go_simp; (try with_reducible rfl))
                refine wpAnyH_take (i := 45) (v := ?gv218) rfl (by kernel_rfl) (by kernel_rfl) (by kernel_rfl) (fun _ _ _ h => h) (Or.inl ⟨by kernel_rfl, ?gy218⟩) ‹_› ?gr218
                case gy218 => (intro w' hSw; (try dsimp only at hSw); go_simp; (try with_reducible rfl))
                refine wpAnyH_take (i := 46) (v := ?gv219) rfl (by kernel_rfl) (by kernel_rfl) (by kernel_rfl) (fun _ _ _ h => h) (Or.inl ⟨by kernel_rfl, ?gy219⟩) ‹_› ?gr219
                case gy219 => (intro w' hSw; (try dsimp only at hSw); go_simp; (try with_reducible rfl))
                refine wpAnyH_take (i := 47) (v := ?gv220) rfl (by kernel_rfl) (by kernel_rfl) (by kernel_rfl) (fun _ _ _ h => h) (Or.inl ⟨by kernel_rfl, ?gy220⟩) ‹_› ?gr220
                case gy220 => (intro w' hSw; (try dsimp only at hSw); go_simp; (try with_reducible rfl))
                refine wpAnyH_take (i := 48) (v := ?gv221) rfl (by kernel_rfl) (by kernel_rfl) (by kernel_rfl) (fun _ _ _ h => h) (Or.inl ⟨by kernel_rfl, ?gy221⟩) ‹_› ?gr221
                case gy221 => (intro w' hSw; (try dsimp only at hSw); go_simp; (try with_reducible rfl))
                try simp only [Act.put, List.setIfInBounds_toArray, List.set_cons_zero, List.set_cons_succ, List.getElem_toArray, List.getElem_cons_succ, List.getElem_cons_zero]
                refine wpAnyH_ready (rs := [49]) (by kernel_rfl) (by simp) ?_
                refine AllReadyH.cons rfl (fun K hK => ?_) AllReadyH.nil
                go_simp
                go_at_call 21
                (with_reducible refine (HT.out u3 C3).mono ?_)
                rintro e u4 ⟨rfl, b4⟩
                have C4 : Below W1.heap.size W1 u4 := C3.trans (b4.mono C3.size)
                clear hS
                dsimp only
                refine Shut.out hK _ _ (HK.out u4 C4) (fun hS => ?_)
                try simp only [Act.put, List.setIfInBounds_toArray, List.set_cons_zero, List.set_cons_succ, List.getElem_toArray, List.getElem_cons_succ, List.getElem_cons_zero]
                refine wpAnyH_take (i := 50) (v := ?gv222) rfl (by kernel_rfl) (by kernel_rfl) (by kernel_rfl) (fun _ _ _ h => h) (Or.inl ⟨by kernel_rfl, ?gy222⟩) ‹_› ?gr222
                case gy222 => (intro w' hSw; (try dsimp only at hSw); go_simp; (try with_reducible rfl))
                refine wpAnyH_take (i := 51) (v := ?gv223) rfl (by kernel_rfl) (by kernel_rfl) (by kernel_rfl) (fun _ _ _ h => h) (Or.inl ⟨by kernel_rfl, ?gy223⟩) ‹_› ?gr223
                case gy223 => (intro w' hSw; (try dsimp only at hSw); go_simp; (try with_reducible rfl))
                refine wpAnyH_take (i := 52) (v := ?gv224) rfl (by kernel_rfl) (by kernel_rfl) (by kernel_rfl) (fun _ _ _ h => h) (Or.inl ⟨by kernel_rfl, ?gy224⟩) ‹_› ?gr224
                case gy224 => (intro w' hSw; (try dsimp only at hSw); go_simp; (try with_reducible rfl))
                refine wpAnyH_take (i := 53) (v := ?gv225) rfl (by kernel_rfl) (by kernel_rfl) (by kernel_rfl) (fun _ _ _ h => h) (Or.inl ⟨by kernel_rfl, ?gy225⟩) ‹_› ?gr225
                case gy225 => (intro w' hSw; (try dsimp only at hSw); go_simp; (try with_reducible rfl))
                refine wpAnyH_take (i := 54) (v := ?gv226) rfl (by kernel_rfl) (by kernel_rfl) (by kernel_rfl) (fun _ _ _ h => h) (Or.inl ⟨by kernel_rfl, ?gy226⟩) ‹_› ?gr226
                case gy226 => (intro w' hSw; (try dsimp only at hSw); go_simp; (try with_reducible rfl))
                refine wpAnyH_take (i := 56) (v := ?gv227) rfl (by kernel_rfl) (by kernel_rfl) (by kernel_rfl) (fun _ _ _ h => h) (Or.inl ⟨by kernel_rfl, ?gy227⟩) ‹_› ?gr227
                case gy227 => (intro w' hSw; (try dsimp only at hSw); go_simp; (try with_reducible rfl))
                refine wpAnyH_take (i := 57) (v := ?gv228) rfl (by kernel_rfl) (by kernel_rfl) (by kernel_rfl) (fun _ _ _ h => h) (Or.inl ⟨by kernel_rfl, ?gy228⟩) ‹_› ?gr228
                case gy228 => (intro w' hSw; (try dsimp only at hSw); go_simp; (try with_reducible rfl))
                try simp only [Act.put, List.setIfInBounds_toArray, List.set_cons_zero, List.set_cons_succ, List.getElem_toArray, List.getElem_cons_succ, List.getElem_cons_zero]
                refine wpAnyH_ready (rs := [55]) (by kernel_rfl) (by simp) ?_
                refine AllReadyH.cons rfl (fun K hK => ?_) AllReadyH.nil
                go_simp
                go_at_call 22
                (with_reducible refine (HU.out u4 C4).mono ?_)
                rintro e u5 ⟨rfl, b5⟩
                have C5 : Below W1.heap.size W1 u5 := C4.trans (b5.mono C4.size)
                clear hS
                dsimp only
                refine Shut.out hK _ _ (HK.out u5 C5) (fun hS => ?_)
                try simp only [Act.put, List.setIfInBounds_toArray, List.set_cons_zero, List.set_cons_succ, List.getElem_toArray, List.getElem_cons_succ, List.getElem_cons_zero]
                refine wpAnyH_take (i := 58) (v := ?gv229) rfl (by kernel_rfl) (by kernel_rfl) (by kernel_rfl) (fun _ _ _ h => h) (Or.inl ⟨by kernel_rfl, ?gy229⟩) ‹_› ?gr229
                case gy229 => (intro w' hSw; (try dsimp only at hSw); go_simp; (try with_reducible rfl))
                refine wpAnyH_take (i := 59) (v := ?gv230) rfl (by kernel_rfl) (by kernel_rfl) (by kernel_rfl) (fun _ _ _ h => h) (Or.inl ⟨by kernel_rfl, ?gy230⟩) ‹_› ?gr230
                case gy230 => (intro w' hSw; (try dsimp only at hSw); go_simp; (try with_reducible rfl))
                try simp only [Act.put, List.setIfInBounds_toArray, List.set_cons_zero, List.set_cons_succ, List.getElem_toArray, List.getElem_cons_succ, List.getElem_cons_zero]
                refine wpAnyH_done (by kernel_rfl) (NoPanic.normal ?_) _
                have hfb : Below W0.heap.size W0 u5 := HB1.out.trans (C5.mono HB1.out.size)
                go_wp2
                go_roundw
                case rel => exact ⟨(0 : Nat) + 1, by omega, by go_num, hnx, hasc, hfb⟩
                case measure => simp [intOf]; omega
              | succ j =>
                obtain ⟨q, hq⟩ : ∃ q, vs[j]? = some q := ⟨_, List.getElem?_eq_getElem (by rw [hn'.out]; omega)⟩
                have hord2 := HRK.out j q rfl hq
                have hpc := fun (W : World) (hW : Below W1.heap.size W1 W) => HCC1.out W hW j q hq
                obtain ⟨pid, hpid⟩ : ∃ p, q.id = p := ⟨_, rfl⟩
                rw [hpid] at hord2 hpc
                have HORD : Hid _ := hord2
                have HPC : Hid _ := hpc
                have HK : Hid (∀ W : World, Below W1.heap.size W1 W → W.cell? ⟨w.heap.size, 0, none⟩ = some (.slice (some ⟨b, off, none⟩) n cap) ∧ W.cell? ⟨w.heap.size, 1, none⟩ = some (.int .i64 nx) ∧ W.cell? ⟨X, 0, none⟩ = some (.int .i64 id) ∧ W.cell? ⟨X, 1, none⟩ = some (.string name) ∧ W.cell? ⟨X, 2, none⟩ = some (.bool ro) ∧ W.cell? ⟨X, 3, none⟩ = some (.int .i64 limit) ∧ W.cell? ⟨X, 4, none⟩ = some (.slice ra n1 rc) ∧ W.cell? ⟨X, 5, none⟩ = some (.int .i64 rnx) ∧ W.cell? ⟨b, off + j * 6, none⟩ = some (.int .i64 pid)) := fun W hW => by
                  obtain ⟨a0, a1, a2, a3, a4, a5, a6, a7⟩ := HKF.out W hW
                  exact ⟨a0, a1, a2, a3, a4, a5, a6, a7, HPC.out W hW⟩
                have pc := HPC.out W1 (Below.refl _ _)
                have hj0 : (0 : Int) ≤ (j : Int) := by omega
                have hjn : (j : Int) < (n : Int) := by omega
                have hj1 : ((j : Int) + 1 - 1) = (j : Int) := by omega
                have hwk : IntKind.i64.wrap (j : Int) = (j : Int) := wrap_small _ hj0 (by omega)
                have hgt : ((j + 1 : Nat) : Int) > 0 := by omega
                have hgt2 : (j : Int) + 1 > 0 := by omega
                clear HKF HRK HCC1 hq hpid hord2 hpc
                by_cases hpo : pid < id
                · have hpo' : ¬ pid ≥ id := by omega
                  have hpo'' : ¬ id ≤ pid := by omega
                  have hasc : Hid _ := HORD.out.2 hpo
                  clear HORD
                  cases bn
                  case false =>
                    have hend : Hid (false = R) := hbad.out (by rw [HGD.out]; simp)
                    refine wp_region_noPanic ?_
                    refine wp_region_held_drew (S := fun W : World => W.cell? ⟨w.heap.size, 0, none⟩ = some (.slice (some ⟨b, off, none⟩) n cap) ∧ W.cell? ⟨w.heap.size, 1, none⟩ = some (.int .i64 nx) ∧ W.cell? ⟨X, 0, none⟩ = some (.int .i64 id) ∧ W.cell? ⟨X, 1, none⟩ = some (.string name) ∧ W.cell? ⟨X, 2, none⟩ = some (.bool ro) ∧ W.cell? ⟨X, 3, none⟩ = some (.int .i64 limit) ∧ W.cell? ⟨X, 4, none⟩ = some (.slice ra n1 rc) ∧ W.cell? ⟨X, 5, none⟩ = some (.int .i64 rnx) ∧ W.cell? ⟨b, off + j * 6, none⟩ = some (.int .i64 pid)) (by kernel_rfl) (by go_keep) (fun hS => ?_)
                    refine wpAnyH_take (i := 0) (v := ?gv231) rfl (by kernel_rfl) (by kernel_rfl) (by kernel_rfl) (fun _ _ _ h => h) (Or.inl ⟨by kernel_rfl, ?gy231⟩) ‹_› ?gr231
                    case gy231 => (intro w' hSw; (try dsimp only at hSw); go_simp; (try with_reducible rfl))
                    refine wpAnyH_take (i := 1) (v := ?gv232) rfl (by kernel_rfl) (by kernel_rfl) (by kernel_rfl) (fun _ _ _ h => h) (Or.inl ⟨by kernel_rfl, ?gy232⟩) ‹_› ?gr232
                    case gy232 => (intro w' hSw; (try dsimp only at hSw); go_simp; (try with_reducible rfl))
                    refine wpAnyH_take (i := 2) (v := ?gv233) rfl (by kernel_rfl) (by kernel_rfl) (by kernel_rfl) (fun _ _ _ h => h) (Or.inl ⟨by kernel_rfl, ?gy233⟩) ‹_› ?gr233
                    case gy233 => (intro w' hSw; (try dsimp only at hSw); go_simp; (try with_reducible rfl))
                    refine wpAnyH_take (i := 3) (v := ?gv234) rfl (by kernel_rfl) (by kernel_rfl) (by kernel_rfl) (fun _ _ _ h => h) (Or.inl ⟨by kernel_rfl, ?gy234⟩) ‹_› ?gr234
                    case gy234 => (intro w' hSw; (try dsimp only at hSw); go_simp; (try with_reducible rfl))
                    refine wpAnyH_take (i := 4) (v := ?gv235) rfl (by kernel_rfl) (by kernel_rfl) (by kernel_rfl) (fun _ _ _ h => h) (Or.inl ⟨by kernel_rfl, ?gy235⟩) ‹_› ?gr235
                    case gy235 => (intro w' hSw; (try dsimp only at hSw); go_simp; (try with_reducible rfl))
                    refine wpAnyH_take (i := 5) (v := ?gv236) rfl (by kernel_rfl) (by kernel_rfl) (by kernel_rfl) (fun _ _ _ h => h) (Or.inl ⟨by kernel_rfl, ?gy236⟩) ‹_› ?gr236
                    case gy236 => (intro w' hSw; (try dsimp only at hSw); go_simp; (try with_reducible rfl))
                    refine wpAnyH_take (i := 6) (v := ?gv237) rfl (by kernel_rfl) (by kernel_rfl) (by kernel_rfl) (fun _ _ _ h => h) (Or.inl ⟨by kernel_rfl, ?gy237⟩) ‹_› ?gr237
                    case gy237 => (intro w' hSw; (try dsimp only at hSw); go_simp; (try with_reducible rfl))
                    refine wpAnyH_take (i := 7) (v := ?gv238) rfl (by kernel_rfl) (by kernel_rfl) (by kernel_rfl) (fun _ _ _ h => h) (Or.inl ⟨by kernel_rfl, ?gy238⟩) ‹_› ?gr238
                    case gy238 => (intro w' hSw; (try dsimp only at hSw); go_simp; (try with_reducible rfl))
                    refine wpAnyH_take (i := 8) (v := ?gv239) rfl (by kernel_rfl) (by kernel_rfl) (by kernel_rfl) (fun _ _ _ h => h) (Or.inl ⟨by kernel_rfl, ?gy239⟩) ‹_› ?gr239
                    case gy239 => (intro w' hSw; (try dsimp only at hSw); go_simp; (try with_reducible rfl))
                    refine wpAnyH_take (i := 9) (v := ?gv240) rfl (by kernel_rfl) (by kernel_rfl) (by kernel_rfl) (fun _ _ _ h => h) (Or.inl ⟨by kernel_rfl, ?gy240⟩) ‹_› ?gr240
                    case gy240 => (intro w' hSw; (try dsimp only at hSw); go_simp; (try with_reducible rfl))
                    refine wpAnyH_take (i := 10) (v := ?gv241) rfl (by kernel_rfl) (by kernel_rfl) (by kernel_rfl) (fun _ _ _ h => h) (Or.inl ⟨by kernel_rfl, ?gy241⟩) ‹_› ?gr241
                    case gy241 => (intro w' hSw; (try dsimp only at hSw); go_simp; (try with_reducible rfl))
                    refine wpAnyH_take (i := 11) (v := ?gv242) rfl (by kernel_rfl) (by kernel_rfl) (by kernel_rfl) (fun _ _ _ h => h) (Or.inl ⟨by kernel_rfl, ?gy242⟩) ‹_› ?gr242
                    case gy242 => (intro w' hSw; (try dsimp only at hSw); go_simp; (try with_reducible rfl))
                    refine wpAnyH_take (i := 12) (v := ?gv243) rfl (by kernel_rfl) (by kernel_rfl) (by kernel_rfl) (fun _ _ _ h => h) (Or.inl ⟨by kernel_rfl, ?gy243⟩) ‹_› ?gr243
                    case gy243 => (intro w' hSw; (try dsimp only at hSw); go_simp; (try with_reducible rfl))
                    refine wpAnyH_take (i := 13) (v := ?gv244) rfl (by kernel_rfl) (by kernel_rfl) (by kernel_rfl) (fun _ _ _ h => h) (Or.inl ⟨by kernel_rfl, ?gy244⟩) ‹_› ?gr244
                    case gy244 => (intro w' hSw; (try dsimp only at hSw); go_simp; (try with_reducible rfl))
                    refine wpAnyH_take (i := 14) (v := ?gv245) rfl (by kernel_rfl) (by kernel_rfl) (by kernel_rfl) (fun _ _ _ h => h) (Or.inl ⟨by kernel_rfl, ?gy245⟩) ‹_› ?gr245
                    case gy245 => (intro w' hSw; (try dsimp only at hSw); go_simp; (try with_reducible rfl))
                    refine wpAnyH_take (i := 15) (v := ?gv246) rfl (by kernel_rfl) (by kernel_rfl) (by kernel_rfl) (fun _ _ _ h => h) (Or.inl ⟨by kernel_rfl, ?gy246⟩) ‹_› ?gr246
                    case gy246 => (intro w' hSw; (try dsimp only at hSw); go_simp; (try with_reducible rfl))
                    refine wpAnyH_take (i := 16) (v := ?gv247) rfl (by kernel_rfl) (by kernel_rfl) (by kernel_rfl) (fun _ _ _ h => h) (Or.inl ⟨by kernel_rfl, ?gy247⟩) ‹_› ?gr247
                    case gy247 => (intro w' hSw; (try dsimp only at hSw); go_simp; (try with_reducible rfl))
                    refine wpAnyH_take (i := 17) (v := ?gv248) rfl (by kernel_rfl) (by kernel_rfl) (by kernel_rfl) (fun _ _ _ h => h) (Or.inl ⟨by kernel_rfl, ?gy248⟩) ‹_› ?gr248
                    case gy248 => (intro w' hSw; (try dsimp only at hSw); go_simp; (try with_reducible rfl))
                    refine wpAnyH_take (i := 18) (v := ?gv249) rfl (by kernel_rfl) (by kernel_rfl) (by kernel_rfl) (fun _ _ _ h => h) (Or.inl ⟨by kernel_rfl, ?gy249⟩) ‹_› ?gr249
                    case gy249 => (intro w' hSw; (try dsimp only at hSw); go_simp; (try with_reducible rfl))
                    refine wpAnyH_take (i := 19) (v := ?gv250) rfl (by kernel_rfl) (by kernel_rfl) (by kernel_rfl) (fun _ _ _ h => h) (Or.inl ⟨by kernel_rfl, ?gy250⟩) ‹_› ?gr250
                    case gy250 => (intro w' hSw; (try dsimp only at hSw); go_simp; (try with_reducible rfl))
                    refine wpAnyH_take (i := 20) (v := ?gv251) rfl (by kernel_rfl) (by kernel_rfl) (by kernel_rfl) (fun _ _ _ h => h) (Or.inl ⟨by kernel_rfl, ?gy251⟩) ‹_› ?gr251
                    case gy251 => (intro w' hSw; (try dsimp only at hSw); go_simp; (try with_reducible rfl))
                    refine wpAnyH_take (i := 21) (v := ?gv252) rfl (by kernel_rfl) (by kernel_rfl) (by kernel_rfl) (fun _ _ _ h => h) (Or.inl ⟨by kernel_rfl, ?gy252⟩) ‹_› ?gr252
                    case gy252 => (intro w' hSw; (try dsimp only at hSw); go_simp; (try with_reducible rfl))
                    refine wpAnyH_take (i := 22) (v := ?gv253) rfl (by kernel_rfl) (by kernel_rfl) (by kernel_rfl) (fun _ _ _ h => h) (Or.inl ⟨by kernel_rfl, ?gy253⟩) ‹_› ?gr253
                    case gy253 => (intro w' hSw; (try dsimp only at hSw); go_simp; (try with_reducible rfl))
                    refine wpAnyH_take (i := 23) (v := ?gv254) rfl (by kernel_rfl) (by kernel_rfl) (by kernel_rfl) (fun _ _ _ h => h) (Or.inl ⟨by kernel_rfl, ?gy254⟩) ‹_› ?gr254
                    case gy254 => (intro w' hSw; (try dsimp only at hSw); go_simp; (try with_reducible rfl))
                    refine wpAnyH_take (i := 24) (v := ?gv255) rfl (by kernel_rfl) (by kernel_rfl) (by kernel_rfl) (fun _ _ _ h => h) (Or.inl ⟨by kernel_rfl, ?gy255⟩) ‹_› ?gr255
                    case gy255 => (intro w' hSw; (try dsimp only at hSw); go_simp; (try with_reducible rfl))
                    refine wpAnyH_take (i := 25) (v := ?gv256) rfl (by kernel_rfl) (by kernel_rfl) (by kernel_rfl) (fun _ _ _ h => h) (Or.inl ⟨by kernel_rfl, ?gy256⟩) ‹_› ?gr256
                    case gy256 => (intro w' hSw; (try dsimp only at hSw); go_simp; (try with_reducible rfl))
                    refine wpAnyH_take (i := 26) (v := ?gv257) rfl (by kernel_rfl) (by kernel_rfl) (by kernel_rfl) (fun _ _ _ h => h) (Or.inl ⟨by kernel_rfl, ?gy257⟩) ‹_› ?gr257
                    case gy257 => (intro w' hSw; (try dsimp only at hSw); go_simp; (try with_reducible rfl))
                    refine wpAnyH_take (i := 27) (v := ?gv258) rfl (by kernel_rfl) (by kernel_rfl) (by kernel_rfl) (fun _ _ _ h => h) (Or.inl ⟨by kernel_rfl, ?gy258⟩) ‹_› ?gr258
                    case gy258 => (intro w' hSw; (try dsimp only at hSw); go_simp; (try with_reducible rfl))
                    refine wpAnyH_take (i := 28) (v := ?gv259) rfl (by kernel_rfl) (by kernel_rfl) (by kernel_rfl) (fun _ _ _ h => h) (Or.inl ⟨by kernel_rfl, ?gy259⟩) ‹_› ?gr259
                    case gy259 => (intro w' hSw; (try dsimp only at hSw); go_simp; (try with_reducible rfl))
                    try simp only [Act.put, List.setIfInBounds_toArray, List.set_cons_zero, List.set_cons_succ, List.getElem_toArray, List.getElem_cons_succ, List.getElem_cons_zero]
                    refine wpAnyH_ready (rs := [29]) (by kernel_rfl) (by simp) ?_
                    refine AllReadyH.cons rfl (fun K hK => ?_) AllReadyH.nil
                    go_simp
                    go_at_call 19
                    (with_reducible refine (HN.out W1.drew).mono ?_)
                    rintro e u1 ⟨rfl, b1⟩
                    have C1 : Below W1.heap.size W1 u1 := (Below.refl _ W1).drew.trans b1
                    clear hS
                    dsimp only
                    refine Shut.out hK _ _ (HK.out u1 C1) (fun hS => ?_)
                    try simp only [Act.put, List.setIfInBounds_toArray, List.set_cons_zero, List.set_cons_succ, List.getElem_toArray, List.getElem_cons_succ, List.getElem_cons_zero]
                    refine wpAnyH_take (i := 30) (v := ?gv260) rfl (by kernel_rfl) (by kernel_rfl) (by kernel_rfl) (fun _ _ _ h => h) (Or.inl ⟨by kernel_rfl, ?gy260⟩) ‹_› ?gr260
                    case gy260 => (intro w' hSw; (try dsimp only at hSw); go_simp; (try with_reducible rfl))
                    refine wpAnyH_take (i := 31) (v := ?gv261) rfl (by kernel_rfl) (by kernel_rfl) (by kernel_rfl) (fun _ _ _ h => h) (Or.inl ⟨by kernel_rfl, ?gy261⟩) ‹_› ?gr261
                    case gy261 => (intro w' hSw; (try dsimp only at hSw); go_simp; (try with_reducible rfl))
                    refine wpAnyH_take (i := 32) (v := ?gv262) rfl (by kernel_rfl) (by kernel_rfl) (by kernel_rfl) (fun _ _ _ h => h) (Or.inl ⟨by kernel_rfl, ?gy262⟩) ‹_› ?gr262
                    case gy262 => (intro w' hSw; (try dsimp only at hSw); go_simp; (try with_reducible rfl))
                    refine wpAnyH_take (i := 33) (v := undef) rfl (by kernel_rfl) (by kernel_rfl) (by kernel_rfl) (fun _ _ _ h => h) (Or.inr ⟨by kernel_rfl, rfl⟩) ‹_› ?_
                    refine wpAnyH_take (i := 34) (v := undef) rfl (by kernel_rfl) (by kernel_rfl) (by kernel_rfl) (fun _ _ _ h => h) (Or.inr ⟨by kernel_rfl, rfl⟩) ‹_› ?_
                    refine wpAnyH_take (i := 35) (v := undef) rfl (by kernel_rfl) (by kernel_rfl) (by kernel_rfl) (fun _ _ _ h => h) (Or.inr ⟨by kernel_rfl, rfl⟩) ‹_› ?_
                    refine wpAnyH_take (i := 36) (v := undef) rfl (by kernel_rfl) (by kernel_rfl) (by kernel_rfl) (fun _ _ _ h => h) (Or.inr ⟨by kernel_rfl, rfl⟩) ‹_› ?_
                    refine wpAnyH_take (i := 37) (v := undef) rfl (by kernel_rfl) (by kernel_rfl) (by kernel_rfl) (fun _ _ _ h => h) (Or.inr ⟨by kernel_rfl, rfl⟩) ‹_› ?_
                    refine wpAnyH_take (i := 38) (v := undef) rfl (by kernel_rfl) (by kernel_rfl) (by kernel_rfl) (fun _ _ _ h => h) (Or.inr ⟨by kernel_rfl, rfl⟩) ‹_› ?_
                    refine wpAnyH_take (i := 39) (v := ?gv263) rfl (by kernel_rfl) (by kernel_rfl) (by kernel_rfl) (fun _ _ _ h => h) (Or.inl ⟨by kernel_rfl, ?gy263⟩) ‹_› ?gr263
                    case gy263 => (intro w' hSw; (try dsimp only at hSw); go_simp; (try with_reducible rfl))
                    refine wpAnyH_take (i := 40) (v := ?gv264) rfl (by kernel_rfl) (by kernel_rfl) (by kernel_rfl) (fun _ _ _ h => h) (Or.inl ⟨by kernel_rfl, ?gy264⟩) ‹_› ?gr264
                    case gy264 => (intro w' hSw; (try dsimp only at hSw); go_simp; (try with_reducible rfl))
                    refine wpAnyH_take (i := 41) (v := undef) rfl (by kernel_rfl) (by kernel_rfl) (by kernel_rfl) (fun _ _ _ h => h) (Or.inr ⟨by kernel_rfl, rfl⟩) ‹_› ?_
                    refine wpAnyH_take (i := 42) (v := undef) rfl (by kernel_rfl) (by kernel_rfl) (by kernel_rfl) (fun _ _ _ h => h) (Or.inr ⟨by kernel_rfl, rfl⟩) ‹_› ?_
                    refine wpAnyH_take (i := 43) (v := undef) rfl (by kernel_rfl) (by kernel_rfl) (by kernel_rfl) (fun _ _ _ h => h) (Or.inr ⟨by kernel_rfl, rfl⟩) ‹_› ?_
                    refine wpAnyH_take (i := 44) (v := undef) rfl (by kernel_rfl) (by kernel_rfl) (by kernel_rfl) (fun _ _ _ h => h) (Or.inr ⟨by kernel_rfl, rfl⟩) ‹_› ?_
                    refine wpAnyH_take (i := 45) (v := ?gv265) rfl (by kernel_rfl) (by kernel_rfl) (by kernel_rfl) (fun _ _ _ h => h) (Or.inl ⟨by kernel_rfl, ?gy265⟩) ‹_› ?gr265
                    case gy265 => (intro w' hSw; (try dsimp only at hSw); go_simp; (try with_reducible rfl))
                    refine wpAnyH_take (i := 46) (v := ?gv266) rfl (by kernel_rfl) (by kernel_rfl) (by kernel_rfl) (fun _ _ _ h => h) (Or.inl ⟨by kernel_rfl, ?gy266⟩) ‹_› ?gr266
                    case gy266 => (intro w' hSw; (try dsimp only at hSw); go_simp; (try with_reducible rfl))
                    refine wpAnyH_take (i := 47) (v := undef) rfl (by kernel_rfl) (by kernel_rfl) (by kernel_rfl) (fun _ _ _ h => h) (Or.inr ⟨by kernel_rfl, rfl⟩) ‹_› ?_
                    refine wpAnyH_take (i := 48) (v := undef) rfl (by kernel_rfl) (by kernel_rfl) (by kernel_rfl) (fun _ _ _ h => h) (Or.inr ⟨by kernel_rfl, rfl⟩) ‹_› ?_
                    refine wpAnyH_take (i := 49) (v := undef) rfl (by kernel_rfl) (by kernel_rfl) (by kernel_rfl) (fun _ _ _ h => h) (Or.inr ⟨by kernel_rfl, rfl⟩) ‹_› ?_
                    refine wpAnyH_take (i := 50) (v := undef) rfl (by kernel_rfl) (by kernel_rfl) (by kernel_rfl) (fun _ _ _ h => h) (Or.inr ⟨by kernel_rfl, rfl⟩) ‹_› ?_
                    refine wpAnyH_take (i := 51) (v := ?gv267) rfl (by kernel_rfl) (by kernel_rfl) (by kernel_rfl) (fun _ _ _ h => h) (Or.inl ⟨by kernel_rfl, ?gy267⟩) ‹_› ?gr267
                    case gy267 => (intro w' hSw; (try dsimp only at hSw); go_simp; (try with_reducible rfl))
                    refine wpAnyH_take (i := 52) (v := ?gv268) rfl (by kernel_rfl) (by kernel_rfl) (by kernel_rfl) (fun _ _ _ h => h) (Or.inl ⟨by kernel_rfl, ?gy268⟩) ‹_› ?gr268
                    case gy268 => (intro w' hSw; (try dsimp only at hSw); go_simp; (try with_reducible rfl))
                    refine wpAnyH_take (i := 53) (v := undef) rfl (by kernel_rfl) (by kernel_rfl) (by kernel_rfl) (fun _ _ _ h => h) (Or.inr ⟨by kernel_rfl, rfl⟩) ‹_› ?_
                    refine wpAnyH_take (i := 54) (v := undef) rfl (by kernel_rfl) (by kernel_rfl) (by kernel_rfl) (fun _ _ _ h => h) (Or.inr ⟨by kernel_rfl, rfl⟩) ‹_› ?_
                    refine wpAnyH_take (i := 55) (v := undef) rfl (by kernel_rfl) (by kernel_rfl) (by kernel_rfl) (fun _ _ _ h => h) (Or.inr ⟨by kernel_rfl, rfl⟩) ‹_› ?_
                    refine wpAnyH_take (i := 56) (v := undef) rfl (by kernel_rfl) (by kernel_rfl) (by kernel_rfl) (fun _ _ _ h => h) (Or.inr ⟨by kernel_rfl, rfl⟩) ‹_› ?_
                    refine wpAnyH_take (i := 57) (v := undef) rfl (by kernel_rfl) (by kernel_rfl) (by kernel_rfl) (fun _ _ _ h => h) (Or.inr ⟨by kernel_rfl, rfl⟩) ‹_› ?_
                    refine wpAnyH_take (i := 58) (v := undef) rfl (by kernel_rfl) (by kernel_rfl) (by kernel_rfl) (fun _ _ _ h => h) (Or.inr ⟨by kernel_rfl, rfl⟩) ‹_› ?_
                    refine wpAnyH_take (i := 59) (v := ?gv269) rfl (by kernel_rfl) (by kernel_rfl) (by kernel_rfl) (fun _ _ _ h => h) (Or.inl ⟨by kernel_rfl, ?gy269⟩) ‹_› ?gr269
                    case gy269 => (intro w' hSw; (try dsimp only at hSw); go_simp; (try with_reducible rfl))
                    try simp only [Act.put, List.setIfInBounds_toArray, List.set_cons_zero, List.set_cons_succ, List.getElem_toArray, List.getElem_cons_succ, List.getElem_cons_zero]
                    refine wpAnyH_done (by kernel_rfl) (NoPanic.normal ?_) _
                    have hfb : Hid _ := HB1.out.trans (C1.mono HB1.out.size)
                    go_wp2
                    go_ret
                    exact ⟨ret_bool hend.out, B0.trans (hfb.out.mono hws)⟩
                  by_cases hvk : vn = (j : Int) + 1
                  rotate_left
                  · have hv1 : (vn == ((j + 1 : Nat) : Int)) = false := by simpa using hvk
                    have hv2 : (vn != (j : Int) + 1) = true := by simpa using hvk
                    have hv3 : (vn == (j : Int) + 1) = false := by simpa using hvk
                    have hend : Hid (false = R) := hbad.out (by rw [HGD.out, hv1]; simp)
                    refine wp_region_noPanic ?_
                    refine wp_region_held_drew (S := fun W : World => W.cell? ⟨w.heap.size, 0, none⟩ = some (.slice (some ⟨b, off, none⟩) n cap) ∧ W.cell? ⟨w.heap.size, 1, none⟩ = some (.int .i64 nx) ∧ W.cell? ⟨X, 0, none⟩ = some (.int .i64 id) ∧ W.cell? ⟨X, 1, none⟩ = some (.string name) ∧ W.cell? ⟨X, 2, none⟩ = some (.bool ro) ∧ W.cell? ⟨X, 3, none⟩ = some (.int .i64 limit) ∧ W.cell? ⟨X, 4, none⟩ = some (.slice ra n1 rc) ∧ W.cell? ⟨X, 5, none⟩ = some (.int .i64 rnx) ∧ W.cell? ⟨b, off + j * 6, none⟩ = some (.int .i64 pid)) (by kernel_rfl) (by go_keep) (fun hS => ?_)
                    refine wpAnyH_take (i := 0) (v := ?gv270) rfl (by kernel_rfl) (by kernel_rfl) (by kernel_rfl) (fun _ _ _ h => h) (Or.inl ⟨by kernel_rfl, ?gy270⟩) ‹_› ?gr270
                    case gy270 => (intro w' hSw; (try dsimp only at hSw); go_simp; (try with_reducible rfl))
                    refine wpAnyH_take (i := 1) (v := ?gv271) rfl (by kernel_rfl) (by kernel_rfl) (by kernel_rfl) (fun _ _ _ h => h) (Or.inl ⟨by kernel_rfl, ?gy271⟩) ‹_› ?gr271
                    case gy271 => (intro w' hSw; (try dsimp only at hSw); go_simp; (try with_reducible rfl))
                    refine wpAnyH_take (i := 2) (v := ?gv272) rfl (by kernel_rfl) (by kernel_rfl) (by kernel_rfl) (fun _ _ _ h => h) (Or.inl ⟨by kernel_rfl, ?gy272⟩) ‹_› ?gr272
                    case gy272 => (intro w' hSw; (try dsimp only at hSw); go_simp; (try with_reducible rfl))
                    refine wpAnyH_take (i := 3) (v := ?gv273) rfl (by kernel_rfl) (by kernel_rfl) (by kernel_rfl) (fun _ _ _ h => h) (Or.inl ⟨by kernel_rfl, ?gy273⟩) ‹_› ?gr273
                    case gy273 => (intro w' hSw; (try dsimp only at hSw); go_simp; (try with_reducible rfl))
                    refine wpAnyH_take (i := 4) (v := ?gv274) rfl (by kernel_rfl) (by kernel_rfl) (by kernel_rfl) (fun _ _ _ h => h) (Or.inl ⟨by kernel_rfl, ?gy274⟩) ‹_› ?gr274
                    case gy274 => (intro w' hSw; (try dsimp only at hSw); go_simp; (try with_reducible rfl))
                    refine wpAnyH_take (i := 5) (v := ?gv275) rfl (by kernel_rfl) (by kernel_rfl) (by kernel_rfl) (fun _ _ _ h => h) (Or.inl ⟨by kernel_rfl, ?gy275⟩) ‹_› ?gr275
                    case gy275 => (intro w' hSw; (try dsimp only at hSw); go_simp; (try with_reducible rfl))
                    refine wpAnyH_take (i := 6) (v := ?gv276) rfl (by kernel_rfl) (by kernel_rfl) (by kernel_rfl) (fun _ _ _ h => h) (Or.inl ⟨by kernel_rfl, ?gy276⟩) ‹_› ?gr276
                    case gy276 => (intro w' hSw; (try dsimp only at hSw); go_simp; (try with_reducible rfl))
                    refine wpAnyH_take (i := 7) (v := ?gv277) rfl (by kernel_rfl) (by kernel_rfl) (by kernel_rfl) (fun _ _ _ h => h) (Or.inl ⟨by kernel_rfl, ?gy277⟩) ‹_› ?gr277
                    case gy277 => (intro w' hSw; (try dsimp only at hSw); go_simp; (try with_reducible rfl))
                    refine wpAnyH_take (i := 8) (v := ?gv278) rfl (by kernel_rfl) (by kernel_rfl) (by kernel_rfl) (fun _ _ _ h => h) (Or.inl ⟨by kernel_rfl, ?gy278⟩) ‹_› ?gr278
                    case gy278 => (intro w' hSw; (try dsimp only at hSw); go_simp; (try with_reducible rfl))
                    refine wpAnyH_take (i := 9) (v := ?gv279) rfl (by kernel_rfl) (by kernel_rfl) (by kernel_rfl) (fun _ _ _ h => h) (Or.inl ⟨by kernel_rfl, ?gy279⟩) ‹_› ?gr279
                    case gy279 => (intro w' hSw; (try dsimp only at hSw); go_simp; (try with_reducible rfl))
                    refine wpAnyH_take (i := 10) (v := ?gv280) rfl (by kernel_rfl) (by kernel_rfl) (by kernel_rfl) (fun _ _ _ h => h) (Or.inl ⟨by kernel_rfl, ?gy280⟩) ‹_› ?gr280
                    case gy280 => (intro w' hSw; (try dsimp only at hSw); go_simp; (try with_reducible rfl))
                    refine wpAnyH_take (i := 11) (v := ?gv281) rfl (by kernel_rfl) (by kernel_rfl) (by kernel_rfl) (fun _ _ _ h => h) (Or.inl ⟨by kernel_rfl, ?gy281⟩) ‹_› ?gr281
                    case gy281 => (intro w' hSw; (try dsimp only at hSw); go_simp; (try with_reducible rfl))
                    refine wpAnyH_take (i := 12) (v := ?gv282) rfl (by kernel_rfl) (by kernel_rfl) (by kernel_rfl) (fun _ _ _ h => h) (Or.inl ⟨by kernel_rfl, ?gy282⟩) ‹_› ?gr282
                    case gy282 => (intro w' hSw; (try dsimp only at hSw); go_simp; (try with_reducible rfl))
                    refine wpAnyH_take (i := 13) (v := ?gv283) rfl (by kernel_rfl) (by kernel_rfl) (by kernel_rfl) (fun _ _ _ h => h) (Or.inl ⟨by kernel_rfl, ?gy283⟩) ‹_› ?gr283
                    case gy283 => (intro w' hSw; (try dsimp only at hSw); go_simp; (try with_reducible rfl))
                    refine wpAnyH_take (i := 14) (v := ?gv284) rfl (by kernel_rfl) (by kernel_rfl) (by kernel_rfl) (fun _ _ _ h => h) (Or.inl ⟨by kernel_rfl, ?gy284⟩) ‹_› ?gr284
                    case gy284 => (intro w' hSw; (try dsimp only at hSw); go_simp; (try with_reducible rfl))
                    refine wpAnyH_take (i := 15) (v := ?gv285) rfl (by kernel_rfl) (by kernel_rfl) (by kernel_rfl) (fun _ _ _ h => h) (Or.inl ⟨by kernel_rfl, ?gy285⟩) ‹_› ?gr285
                    case gy285 => (intro w' hSw; (try dsimp only at hSw); go_simp; (try with_reducible rfl))
                    refine wpAnyH_take (i := 16) (v := ?gv286) rfl (by kernel_rfl) (by kernel_rfl) (by kernel_rfl) (fun _ _ _ h => h) (Or.inl ⟨by kernel_rfl, ?gy286⟩) ‹_› ?gr286
                    case gy286 => (intro w' hSw; (try dsimp only at hSw); go_simp; (try with_reducible rfl))
                    refine wpAnyH_take (i := 17) (v := ?gv287) rfl (by kernel_rfl) (by kernel_rfl) (by kernel_rfl) (fun _ _ _ h => h) (Or.inl ⟨by kernel_rfl, ?gy287⟩) ‹_› ?gr287
                    case gy287 => (intro w' hSw; (try dsimp only at hSw); go_simp; (try with_reducible rfl))
                    refine wpAnyH_take (i := 18) (v := ?gv288) rfl (by kernel_rfl) (by kernel_rfl) (by kernel_rfl) (fun _ _ _ h => h) (Or.inl ⟨by kernel_rfl, ?gy288⟩) ‹_› ?gr288
                    case gy288 => (intro w' hSw; (try dsimp only at hSw); go_simp; (try with_reducible rfl))
                    refine wpAnyH_take (i := 19) (v := ?gv289) rfl (by kernel_rfl) (by kernel_rfl) (by kernel_rfl) (fun _ _ _ h => h) (Or.inl ⟨by kernel_rfl, ?gy289⟩) ‹_› ?gr289
                    case gy289 => (intro w' hSw; (try dsimp only at hSw); go_simp; (try with_reducible rfl))
                    refine wpAnyH_take (i := 20) (v := ?gv290) rfl (by kernel_rfl) (by kernel_rfl) (by kernel_rfl) (fun _ _ _ h => h) (Or.inl ⟨by kernel_rfl, ?gy290⟩) ‹_› ?gr290
                    case gy290 => (intro w' hSw; (try dsimp only at hSw); go_simp; (try with_reducible rfl))
                    refine wpAnyH_take (i := 21) (v := ?gv291) rfl (by kernel_rfl) (by kernel_rfl) (by kernel_rfl) (fun _ _ _ h => h) (Or.inl ⟨by kernel_rfl, ?gy291⟩) ‹_› ?gr291
                    case gy291 => (intro w' hSw; (try dsimp only at hSw); go_simp; (try with_reducible rfl))
                    refine wpAnyH_take (i := 22) (v := ?gv292) rfl (by kernel_rfl) (by kernel_rfl) (by kernel_rfl) (fun _ _ _ h => h) (Or.inl ⟨by kernel_rfl, ?gy292⟩) ‹_› ?gr292
                    case gy292 => (intro w' hSw; (try dsimp only at hSw); go_simp; (try with_reducible rfl))
                    refine wpAnyH_take (i := 23) (v := ?gv293) rfl (by kernel_rfl) (by kernel_rfl) (by kernel_rfl) (fun _ _ _ h => h) (Or.inl ⟨by kernel_rfl, ?gy293⟩) ‹_› ?gr293
                    case gy293 => (intro w' hSw; (try dsimp only at hSw); go_simp; (try with_reducible rfl))
                    refine wpAnyH_take (i := 24) (v := ?gv294) rfl (by kernel_rfl) (by kernel_rfl) (by kernel_rfl) (fun _ _ _ h => h) (Or.inl ⟨by kernel_rfl, ?gy294⟩) ‹_› ?gr294
                    case gy294 => (intro w' hSw; (try dsimp only at hSw); go_simp; (try with_reducible rfl))
                    refine wpAnyH_take (i := 25) (v := ?gv295) rfl (by kernel_rfl) (by kernel_rfl) (by kernel_rfl) (fun _ _ _ h => h) (Or.inl ⟨by kernel_rfl, ?gy295⟩) ‹_› ?gr295
                    case gy295 => (intro w' hSw; (try dsimp only at hSw); go_simp; (try with_reducible rfl))
                    refine wpAnyH_take (i := 26) (v := ?gv296) rfl (by kernel_rfl) (by kernel_rfl) (by kernel_rfl) (fun _ _ _ h => h) (Or.inl ⟨by kernel_rfl, ?gy296⟩) ‹_› ?gr296
                    case gy296 => (intro w' hSw; (try dsimp only at hSw); go_simp; (try with_reducible rfl))
                    refine wpAnyH_take (i := 27) (v := ?gv297) rfl (by kernel_rfl) (by kernel_rfl) (by kernel_rfl) (fun _ _ _ h => h) (Or.inl ⟨by kernel_rfl, ?gy297⟩) ‹_› ?gr297
                    case gy297 => (intro w' hSw; (try dsimp only at hSw); go_simp; (try with_reducible rfl))
                    refine wpAnyH_take (i := 28) (v := ?gv298) rfl (by kernel_rfl) (by kernel_rfl) (by kernel_rfl) (fun _ _ _ h => h) (Or.inl ⟨by kernel_rfl, ?gy298⟩) ‹_› ?gr298
                    case gy298 => (intro w' hSw; (try dsimp only at hSw); go_simp; (try with_reducible rfl))
                    try simp only [Act.put, List.setIfInBounds_toArray, List.set_cons_zero, List.set_cons_succ, List.getElem_toArray, List.getElem_cons_succ, List.getElem_cons_zero]
                    refine wpAnyH_ready (rs := [29]) (by kernel_rfl) (by simp) ?_
                    refine AllReadyH.cons rfl (fun K hK => ?_) AllReadyH.nil
                    go_simp
                    go_at_call 19
                    (with_reducible refine (HN.out W1.drew).mono ?_)
                    rintro e u1 ⟨rfl, b1⟩
                    have C1 : Below W1.heap.size W1 u1 := (Below.refl _ W1).drew.trans b1
                    clear hS
                    dsimp only
                    refine Shut.out hK _ _ (HK.out u1 C1) (fun hS => ?_)
                    try simp only [Act.put, List.setIfInBounds_toArray, List.set_cons_zero, List.set_cons_succ, List.getElem_toArray, List.getElem_cons_succ, List.getElem_cons_zero]
                    refine wpAnyH_take (i := 30) (v := ?gv299) rfl (by kernel_rfl) (by kernel_rfl) (by kernel_rfl) (fun _ _ _ h => h) (Or.inl ⟨by kernel_rfl, ?gy299⟩) ‹_› ?gr299
                    case gy299 => (intro w' hSw; (try dsimp only at hSw); go_simp; (try with_reducible rfl))
                    refine wpAnyH_take (i := 31) (v := ?gv300) rfl (by kernel_rfl) (by kernel_rfl) (by kernel_rfl) (fun _ _ _ h => h) (Or.inl ⟨by kernel_rfl, ?gy300⟩) ‹_› ?gr300
                    case gy300 => (intro w' hSw; (try dsimp only at hSw); go_simp; (try with_reducible rfl))
                    refine wpAnyH_take (i := 32) (v := ?gv301) rfl (by kernel_rfl) (by kernel_rfl) (by kernel_rfl) (fun _ _ _ h => h) (Or.inl ⟨by kernel_rfl, ?gy301⟩) ‹_› ?gr301
                    case gy301 => (intro w' hSw; (try dsimp only at hSw); go_simp; (try with_reducible rfl))
                    refine wpAnyH_take (i := 33) (v := ?gv302) rfl (by kernel_rfl) (by kernel_rfl) (by kernel_rfl) (fun _ _ _ h => h) (Or.inl ⟨by kernel_rfl, ?gy302⟩) ‹_› ?gr302
                    case gy302 => (intro w' hSw; (try dsimp only at hSw); go_simp; (try with_reducible rfl))
                    refine wpAnyH_take (i := 34) (v := ?gv303) rfl (by kernel_rfl) (by kernel_rfl) (by kernel_rfl) (fun _ _ _ h => h) (Or.inl ⟨by kernel_rfl, ?gy303⟩) ‹_› ?gr303
                    case gy303 => (intro w' hSw; (try dsimp only at hSw); go_simp; (try with_reducible rfl))
                    refine wpAnyH_take (i := 35) (v := ?gv304) rfl (by kernel_rfl) (by kernel_rfl) (by kernel_rfl) (fun _ _ _ h => h) (Or.inl ⟨by kernel_rfl, ?gy304⟩) ‹_› ?gr304
                    case gy304 => (intro w' hSw; (try dsimp only at hSw); go_simp; (try with_reducible rfl))
                    refine wpAnyH_take (i := 37) (v := ?gv305) rfl (by kernel_rfl) (by kernel_rfl) (by kernel_rfl) (fun _ _ _ h => h) (Or.inl ⟨by kernel_rfl, ?gy305⟩) ‹_› ?gr305
                    case gy305 => (intro w' hSw; (try dsimp only at hSw); go_simp; (try with_reducible rfl))
                    try simp only [Act.put, List.setIfInBounds_toArray, List.set_cons_zero, List.set_cons_succ, List.getElem_toArray, List.getElem_cons_succ, List.getElem_cons_zero]
                    refine wpAnyH_ready (rs := [36]) (by kernel_rfl) (by simp) ?_
                    refine AllReadyH.cons rfl (fun K hK => ?_) AllReadyH.nil
                    go_simp
                    go_at_call 20
                    (with_reducible refine (HV.out u1 C1).mono ?_)
                    rintro e u2 ⟨rfl, b2⟩
                    have C2 : Below W1.heap.size W1 u2 := C1.trans (b2.mono C1.size)
                    clear hS
                    dsimp only
                    refine Shut.out hK _ _ (HK.out u2 C2) (fun hS => ?_)
                    try simp only [Act.put, List.setIfInBounds_toArray, List.set_cons_zero, List.set_cons_succ, List.getElem_toArray, List.getElem_cons_succ, List.getElem_cons_zero]
                    refine wpAnyH_take (i := 38) (v := ?gv306) rfl (by kernel_rfl) (by kernel_rfl) (by kernel_rfl) (fun _ _ _ h => h) (Or.inl ⟨by kernel_rfl, ?gy306⟩) ‹_› ?gr306
                    case gy306 => (intro w' hSw; (try dsimp only at hSw); go_simp; (try with_reducible rfl))
                    refine wpAnyH_take (i := 39) (v := ?gv307) rfl (by kernel_rfl) (by kernel_rfl) (by kernel_rfl) (fun _ _ _ h => h) (Or.inl ⟨by kernel_rfl, ?gy307⟩) ‹_› ?gr307
                    case gy307 => (intro w' hSw; (try dsimp only at hSw); go_simp; (try with_reducible rfl))
                    refine wpAnyH_take (i := 40) (v := ?gv308) rfl (by kernel_rfl) (by kernel_rfl) (by kernel_rfl) (fun _ _ _ h => h) (Or.inl ⟨by kernel_rfl, ?gy308⟩) ‹_› ?gr308
                    case gy308 => (intro w' hSw; (try dsimp only at hSw); go_simp; (try with_reducible rfl))
                    refine wpAnyH_take (i := 41) (v := undef) rfl (by kernel_rfl) (by kernel_rfl) (by kernel_rfl) (fun _ _ _ h => h) (Or.inr ⟨by kernel_rfl, rfl⟩) ‹_› ?_
                    refine wpAnyH_take (i := 42) (v := undef) rfl (by kernel_rfl) (by kernel_rfl) (by kernel_rfl) (fun _ _ _ h => h) (Or.inr ⟨by kernel_rfl, rfl⟩) ‹_› ?_
                    refine wpAnyH_take (i := 43) (v := undef) rfl (by kernel_rfl) (by kernel_rfl) (by kernel_rfl) (fun _ _ _ h => h) (Or.inr ⟨by kernel_rfl, rfl⟩) ‹_› ?_
                    refine wpAnyH_take (i := 44) (v := undef) rfl (by kernel_rfl) (by kernel_rfl) (by kernel_rfl) (fun _ _ _ h => h) (Or.inr ⟨by kernel_rfl, rfl⟩) ‹_› ?_
                    refine wpAnyH_take (i := 45) (v := ?gv309) rfl (by kernel_rfl) (by kernel_rfl) (by kernel_rfl) (fun _ _ _ h => h) (Or.inl ⟨by kernel_rfl, ?gy309⟩) ‹_› ?gr309
                    case gy309 => (intro w' hSw; (try dsimp only at hSw); go_simp; (try with_reducible rfl))
                    refine wpAnyH_take (i := 46) (v := ?gv310) rfl (by kernel_rfl) (by kernel_rfl) (by kernel_rfl) (fun _ _ _ h => h) (Or.inl ⟨by kernel_rfl, ?gy310⟩) ‹_› ?gr310
                    case gy310 => (intro w' hSw; (try dsimp only at hSw); go_simp; (try with_reducible rfl))
                    refine wpAnyH_take (i := 47) (v := undef) rfl (by kernel_rfl) (by kernel_rfl) (by kernel_rfl) (fun _ _ _ h => h) (Or.inr ⟨by kernel_rfl, rfl⟩) ‹_› ?_
                    refine wpAnyH_take (i := 48) (v := undef) rfl (by kernel_rfl) (by kernel_rfl) (by kernel_rfl) (fun _ _ _ h => h) (Or.inr ⟨by kernel_rfl, rfl⟩) ‹_› ?_
                    refine wpAnyH_take (i := 49) (v := undef) rfl (by kernel_rfl) (by kernel_rfl) (by kernel_rfl) (fun _ _ _ h => h) (Or.inr ⟨by kernel_rfl, rfl⟩) ‹_› ?_
                    refine wpAnyH_take (i := 50) (v := undef) rfl (by kernel_rfl) (by kernel_rfl) (by kernel_rfl) (fun _ _ _ h => h) (Or.inr ⟨by kernel_rfl, rfl⟩) ‹_› ?_
                    refine wpAnyH_take (i := 51) (v := ?gv311) rfl (by kernel_rfl) (by kernel_rfl) (by kernel_rfl) (fun _ _ _ h => h) (Or.inl ⟨by kernel_rfl, ?gy311⟩) ‹_› ?gr311
                    case gy311 => (intro w' hSw; (try dsimp only at hSw); go_simp; (try with_reducible rfl))
                    refine wpAnyH_take (i := 52) (v := ?gv312) rfl (by kernel_rfl) (by kernel_rfl) (by kernel_rfl) (fun _ _ _ h => h) (Or.inl ⟨by kernel_rfl, ?gy312⟩) ‹_› ?gr312
                    case gy312 => (intro w' hSw; (try dsimp only at hSw); go_simp; (try with_reducible rfl))
                    refine wpAnyH_take (i := 53) (v := undef) rfl (by kernel_rfl) (by kernel_rfl) (by kernel_rfl) (fun _ _ _ h => h) (Or.inr ⟨by kernel_rfl, rfl⟩) ‹_› ?_
                    refine wpAnyH_take (i := 54) (v := undef) rfl (by kernel_rfl) (by kernel_rfl) (by kernel_rfl) (fun _ _ _ h => h) (Or.inr ⟨by kernel_rfl, rfl⟩) ‹_› ?_
                    refine wpAnyH_take (i := 55) (v := undef) rfl (by kernel_rfl) (by kernel_rfl) (by kernel_rfl) (fun _ _ _ h => h) (Or.inr ⟨by kernel_rfl, rfl⟩) ‹_› ?_
                    refine wpAnyH_take (i := 56) (v := undef) rfl (by kernel_rfl) (by kernel_rfl) (by kernel_rfl) (fun _ _ _ h => h) (Or.inr ⟨by kernel_rfl, rfl⟩) ‹_› ?_
                    refine wpAnyH_take (i := 57) (v := undef) rfl (by kernel_rfl) (by kernel_rfl) (by kernel_rfl) (fun _ _ _ h => h) (Or.inr ⟨by kernel_rfl, rfl⟩) ‹_› ?_
                    refine wpAnyH_take (i := 58) (v := undef) rfl (by kernel_rfl) (by kernel_rfl) (by kernel_rfl) (fun _ _ _ h => h) (Or.inr ⟨by kernel_rfl, rfl⟩) ‹_› ?_
                    refine wpAnyH_take (i := 59) (v := ?gv313) rfl (by kernel_rfl) (by kernel_rfl) (by kernel_rfl) (fun _ _ _ h => h) (Or.inl ⟨by kernel_rfl, ?gy313⟩) ‹_› ?gr313
                    case gy313 => (intro w' hSw; (try dsimp only at hSw); go_simp; (try with_reducible rfl))
                    try simp only [Act.put, List.setIfInBounds_toArray, List.set_cons_zero, List.set_cons_succ, List.getElem_toArray, List.getElem_cons_succ, List.getElem_cons_zero]
                    refine wpAnyH_done (by kernel_rfl) (NoPanic.normal ?_) _
                    have hfb : Hid _ := HB1.out.trans (C2.mono HB1.out.size)
                    go_wp2
                    go_ret
                    exact ⟨ret_bool hend.out, B0.trans (hfb.out.mono hws)⟩
                  subst hvk
                  cases bl
                  case false =>
                    have hend : Hid (false = R) := hbad.out (by rw [HGD.out]; simp)
                    refine wp_region_noPanic ?_
                    refine wp_region_held_drew (S := fun W : World => W.cell? ⟨w.heap.size, 0, none⟩ = some (.slice (some ⟨b, off, none⟩) n cap) ∧ W.cell? ⟨w.heap.size, 1, none⟩ = some (.int .i64 nx) ∧ W.cell? ⟨X, 0, none⟩ = some (.int .i64 id) ∧ W.cell? ⟨X, 1, none⟩ = some (.string name) ∧ W.cell? ⟨X, 2, none⟩ = some (.bool ro) ∧ W.cell? ⟨X, 3, none⟩ = some (.int .i64 limit) ∧ W.cell? ⟨X, 4, none⟩ = some (.slice ra n1 rc) ∧ W.cell? ⟨X, 5, none⟩ = some (.int .i64 rnx) ∧ W.cell? ⟨b, off + j * 6, none⟩ = some (.int .i64 pid)) (by kernel_rfl) (by go_keep) (fun hS => ?_)
                    refine wpAnyH_take (i := 0) (v := ?gv314) rfl (by kernel_rfl) (by kernel_rfl) (by kernel_rfl) (fun _ _ _ h => h) (Or.inl ⟨by kernel_rfl, ?gy314⟩) ‹_› ?gr314
                    case gy314 => (intro w' hSw; (try dsimp only at hSw); go_simp; (try with_reducible rfl))
                    refine wpAnyH_take (i := 1) (v := ?gv315) rfl (by kernel_rfl) (by kernel_rfl) (by kernel_rfl) (fun _ _ _ h => h) (Or.inl ⟨by kernel_rfl, ?gy315⟩) ‹_› ?gr315
                    case gy315 => (intro w' hSw; (try dsimp only at hSw); go_simp; (try with_reducible rfl))
                    refine wpAnyH_take (i := 2) (v := ?gv316) rfl (by kernel_rfl) (by kernel_rfl) (by kernel_rfl) (fun _ _ _ h => h) (Or.inl ⟨by kernel_rfl, ?gy316⟩) ‹_› ?gr316
                    case gy316 => (intro w' hSw; (try dsimp only at hSw); go_simp; (try with_reducible rfl))
                    refine wpAnyH_take (i := 3) (v := ?gv317) rfl (by kernel_rfl) (by kernel_rfl) (by kernel_rfl) (fun _ _ _ h => h) (Or.inl ⟨by kernel_rfl, ?gy317⟩) ‹_› ?gr317
                    case gy317 => (intro w' hSw; (try dsimp only at hSw); go_simp; (try with_reducible rfl))
                    refine wpAnyH_take (i := 4) (v := ?gv318) rfl (by kernel_rfl) (by kernel_rfl) (by kernel_rfl) (fun _ _ _ h => h) (Or.inl ⟨by kernel_rfl, ?gy318⟩) ‹_› ?gr318
                    case gy318 => (intro w' hSw; (try dsimp only at hSw); go_simp; (try with_reducible rfl))
                    refine wpAnyH_take (i := 5) (v := ?gv319) rfl (by kernel_rfl) (by kernel_rfl) (by kernel_rfl) (fun _ _ _ h => h) (Or.inl ⟨by kernel_rfl, ?gy319⟩) ‹_› ?gr319
                    case gy319 => (intro w' hSw; (try dsimp only at hSw); go_simp; (try with_reducible rfl))
                    refine wpAnyH_take (i := 6) (v := ?gv320) rfl (by kernel_rfl) (by kernel_rfl) (by kernel_rfl) (fun _ _ _ h => h) (Or.inl ⟨by kernel_rfl, ?gy320⟩) ‹_› ?gr320
                    case gy320 => (intro w' hSw; (try dsimp only at hSw); go_simp; (try with_reducible rfl))
                    refine wpAnyH_take (i := 7) (v := ?gv321) rfl (by kernel_rfl) (by kernel_rfl) (by kernel_rfl) (fun _ _ _ h => h) (Or.inl ⟨by kernel_rfl, ?gy321⟩) ‹_› ?gr321
                    case gy321 => (intro w' hSw; (try dsimp only at hSw); go_simp; (try with_reducible rfl))
                    refine wpAnyH_take (i := 8) (v := ?gv322) rfl (by kernel_rfl) (by kernel_rfl) (by kernel_rfl) (fun _ _ _ h => h) (Or.inl ⟨by kernel_rfl, ?gy322⟩) ‹_› ?gr322
                    case gy322 => (intro w' hSw; (try dsimp only at hSw); go_simp; (try with_reducible rfl))
                    refine wpAnyH_take (i := 9) (v := ?gv323) rfl (by kernel_rfl) (by kernel_rfl) (by kernel_rfl) (fun _ _ _ h => h) (Or.inl ⟨by kernel_rfl, ?gy323⟩) ‹_› ?gr323
                    case gy323 => (intro w' hSw; (try dsimp only at hSw); go_simp; (try with_reducible rfl))
                    refine wpAnyH_take (i := 10) (v := ?gv324) rfl (by kernel_rfl) (by kernel_rfl) (by kernel_rfl) (fun _ _ _ h => h) (Or.inl ⟨by kernel_rfl, ?gy324⟩) ‹_› ?gr324
                    case gy324 => (intro w' hSw; (try dsimp only at hSw); go_simp; (try with_reducible rfl))
                    refine wpAnyH_take (i := 11) (v := ?gv325) rfl (by kernel_rfl) (by kernel_rfl) (by kernel_rfl) (fun _ _ _ h => h) (Or.inl ⟨by kernel_rfl, ?gy325⟩) ‹_› ?gr325
                    case gy325 => (intro w' hSw; (try dsimp only at hSw); go_simp; (try with_reducible rfl))
                    refine wpAnyH_take (i := 12) (v := ?gv326) rfl (by kernel_rfl) (by kernel_rfl) (by kernel_rfl) (fun _ _ _ h => h) (Or.inl ⟨by kernel_rfl, ?gy326⟩) ‹_› ?gr326
                    case gy326 => (intro w' hSw; (try dsimp only at hSw); go_simp; (try with_reducible rfl))
                    refine wpAnyH_take (i := 13) (v := ?gv327) rfl (by kernel_rfl) (by kernel_rfl) (by kernel_rfl) (fun _ _ _ h => h) (Or.inl ⟨by kernel_rfl, ?gy327⟩) ‹_› ?gr327
                    case gy327 => (intro w' hSw; (try dsimp only at hSw); go_simp; (try with_reducible rfl))
                    refine wpAnyH_take (i := 14) (v := ?gv328) rfl (by kernel_rfl) (by kernel_rfl) (by kernel_rfl) (fun _ _ _ h => h) (Or.inl ⟨by kernel_rfl, ?gy328⟩) ‹_› ?gr328
                    case gy328 => (intro w' hSw; (try dsimp only at hSw); go_simp; (try with_reducible rfl))
                    refine wpAnyH_take (i := 15) (v := ?gv329) rfl (by kernel_rfl) (by kernel_rfl) (by kernel_rfl) (fun _ _ _ h => h) (Or.inl ⟨by kernel_rfl, ?gy329⟩) ‹_› ?gr329
                    case gy329 => (intro w' hSw; (try dsimp only at hSw); go_simp; (try with_reducible rfl))
                    refine wpAnyH_take (i := 16) (v := ?gv330) rfl (by kernel_rfl) (by kernel_rfl) (by kernel_rfl) (fun _ _ _ h => h) (Or.inl ⟨by kernel_rfl, ?gy330⟩) ‹_› ?gr330
                    case gy330 => (intro w' hSw; (try dsimp only at hSw); go_simp; (try with_reducible rfl))
                    refine wpAnyH_take (i := 17) (v := ?gv331) rfl (by kernel_rfl) (by kernel_rfl) (by kernel_rfl) (fun _ _ _ h => h) (Or.inl ⟨by kernel_rfl, ?gy331⟩) ‹_› ?gr331
                    case gy331 => (intro w' hSw; (try dsimp only at hSw); go_simp; (try with_reducible rfl))
                    refine wpAnyH_take (i := 18) (v := ?gv332) rfl (by kernel_rfl) (by kernel_rfl) (by kernel_rfl) (fun _ _ _ h => h) (Or.inl ⟨by kernel_rfl, ?gy332⟩) ‹_› ?gr332
                    case gy332 => (intro w' hSw; (try dsimp only at hSw); go_simp; (try with_reducible rfl))
                    refine wpAnyH_take (i := 19) (v := ?gv333) rfl (by kernel_rfl) (by kernel_rfl) (by kernel_rfl) (fun _ _ _ h => h) (Or.inl ⟨by kernel_rfl, ?gy333⟩) ‹_› ?gr333
                    case gy333 => (intro w' hSw; (try dsimp only at hSw); go_simp; (try with_reducible rfl))
                    refine wpAnyH_take (i := 20) (v := ?gv334) rfl (by kernel_rfl) (by kernel_rfl) (by kernel_rfl) (fun _ _ _ h => h) (Or.inl ⟨by kernel_rfl, ?gy334⟩) ‹_› ?gr334
                    case gy334 => (intro w' hSw; (try dsimp only at hSw); go_simp; (try with_reducible rfl))
                    refine wpAnyH_take (i := 21) (v := ?gv335) rfl (by kernel_rfl) (by kernel_rfl) (by kernel_rfl) (fun _ _ _ h => h) (Or.inl ⟨by kernel_rfl, ?gy335⟩) ‹_› ?gr335
                    case gy335 => (intro w' hSw; (try dsimp only at hSw); go_simp; (try with_reducible rfl))
                    refine wpAnyH_take (i := 22) (v := ?gv336) rfl (by kernel_rfl) (by kernel_rfl) (by kernel_rfl) (fun _ _ _ h => h) (Or.inl ⟨by kernel_rfl, ?gy336⟩) ‹_› ?gr336
                    case gy336 => (intro w' hSw; (try dsimp only at hSw); go_simp; (try with_reducible rfl))
                    refine wpAnyH_take (i := 23) (v := ?gv337) rfl (by kernel_rfl) (by kernel_rfl) (by kernel_rfl) (fun _ _ _ h => h) (Or.inl ⟨by kernel_rfl, ?gy337⟩) ‹_› ?gr337
                    case gy337 => (intro w' hSw; (try dsimp only at hSw); go_simp; (try with_reducible rfl))
                    refine wpAnyH_take (i := 24) (v := ?gv338) rfl (by kernel_rfl) (by kernel_rfl) (by kernel_rfl) (fun _ _ _ h => h) (Or.inl ⟨by kernel_rfl, ?gy338⟩) ‹_› ?gr338
                    case gy338 => (intro w' hSw; (try dsimp only at hSw); go_simp; (try with_reducible rfl))
                    refine wpAnyH_take (i := 25) (v := ?gv339) rfl (by kernel_rfl) (by kernel_rfl) (by kernel_rfl) (fun _ _ _ h => h) (Or.inl ⟨by kernel_rfl, ?gy339⟩) ‹_› ?gr339
                    case gy339 => (intro w' hSw; (try dsimp only at hSw); go_simp; (try with_reducible rfl))
                    refine wpAnyH_take (i := 26) (v := ?gv340) rfl (by kernel_rfl) (by kernel_rfl) (by kernel_rfl) (fun _ _ _ h => h) (Or.inl ⟨by kernel_rfl, ?gy340⟩) ‹_› ?gr340
                    case gy340 => (intro w' hSw; (try dsimp only at hSw); go_simp; (try with_reducible rfl))
                    refine wpAnyH_take (i := 27) (v := ?gv341) rfl (by kernel_rfl) (by kernel_rfl) (by kernel_rfl) (fun _ _ _ h => h) (Or.inl ⟨by kernel_rfl, ?gy341⟩) ‹_› ?gr341
                    case gy341 => (intro w' hSw; (try dsimp only at hSw); go_simp; (try with_reducible rfl))
                    refine wpAnyH_take (i := 28) (v := ?gv342) rfl (by kernel_rfl) (by kernel_rfl) (by kernel_rfl) (fun _ _ _ h => h) (Or.inl ⟨by kernel_rfl, ?gy342⟩) ‹_› ?gr342
                    case gy342 => (intro w' hSw; (try dsimp only at hSw); go_simp; (try with_reducible rfl))
                    try simp only [Act.put, List.setIfInBounds_toArray, List.set_cons_zero, List.set_cons_succ, List.getElem_toArray, List.getElem_cons_succ, List.getElem_cons_zero]
                    refine wpAnyH_ready (rs := [29]) (by kernel_rfl) (by simp) ?_
                    refine AllReadyH.cons rfl (fun K hK => ?_) AllReadyH.nil
                    go_simp
                    go_at_call 19
                    (with_reducible refine (HN.out W1.drew).mono ?_)
                    rintro e u1 ⟨rfl, b1⟩
                    have C1 : Below W1.heap.size W1 u1 := (Below.refl _ W1).drew.trans b1
                    clear hS
                    dsimp only
                    refine Shut.out hK _ _ (HK.out u1 C1) (fun hS => ?_)
                    try simp only [Act.put, List.setIfInBounds_toArray, List.set_cons_zero, List.set_cons_succ, List.getElem_toArray, List.getElem_cons_succ, List.getElem_cons_zero]
                    refine wpAnyH_take (i := 30) (v := ?gv343) rfl (by kernel_rfl) (by kernel_rfl) (by kernel_rfl) (fun _ _ _ h => h) (Or.inl ⟨by kernel_rfl, ?gy343⟩) ‹_› ?gr343
                    case gy343 => (intro w' hSw; (try dsimp only at hSw); go_simp; (try with_reducible rfl))
                    refine wpAnyH_take (i := 31) (v := ?gv344) rfl (by kernel_rfl) (by kernel_rfl) (by kernel_rfl) (fun _ _ _ h => h) (Or.inl ⟨by kernel_rfl, ?gy344⟩) ‹_› ?gr344
                    case gy344 => (intro w' hSw; (try dsimp only at hSw); go_simp; (try with_reducible rfl))
                    refine wpAnyH_take (i := 32) (v := ?gv345) rfl (by kernel_rfl) (by kernel_rfl) (by kernel_rfl) (fun _ _ _ h => h) (Or.inl ⟨by kernel_rfl, ?gy345⟩) ‹_› ?gr345
                    case gy345 => (intro w' hSw; (try dsimp only at hSw); go_simp; (try with_reducible rfl))
                    refine wpAnyH_take (i := 33) (v := ?gv346) rfl (by kernel_rfl) (by kernel_rfl) (by kernel_rfl) (fun _ _ _ h => h) (Or.inl ⟨by kernel_rfl, ?gy346⟩) ‹_› ?gr346
                    case gy346 => (intro w' hSw; (try dsimp only at hSw); go_simp; (try with_reducible rfl))
                    refine wpAnyH_take (i := 34) (v := ?gv347) rfl (by kernel_rfl) (by kernel_rfl) (by kernel_rfl) (fun _ _ _ h => h) (Or.inl ⟨by kernel_rfl, ?gy347⟩) ‹_› ?gr347
                    case gy347 => (intro w' hSw; (try dsimp only at hSw); go_simp; (try with_reducible rfl))
                    refine wpAnyH_take (i := 35) (v := ?gv348) rfl (by kernel_rfl) (by kernel_rfl) (by kernel_rfl) (fun _ _ _ h => h) (Or.inl ⟨by kernel_rfl, ?gy348⟩) ‹_› ?gr348
                    case gy348 => (intro w' hSw; (try dsimp only at hSw); go_simp; (try with_reducible rfl))
                    refine wpAnyH_take (i := 37) (v := ?gv349) rfl (by kernel_rfl) (by kernel_rfl) (by kernel_rfl) (fun _ _ _ h => h) (Or.inl ⟨by kernel_rfl, ?gy349⟩) ‹_› ?gr349
                    case gy349 => (intro w' hSw; (try dsimp only at hSw); go_simp; (try with_reducible rfl))
                    try simp only [Act.put, List.setIfInBounds_toArray, List.set_cons_zero, List.set_cons_succ, List.getElem_toArray, List.getElem_cons_succ, List.getElem_cons_zero]
                    refine wpAnyH_ready (rs := [36]) (by kernel_rfl) (by simp) ?_
                    refine AllReadyH.cons rfl (fun K hK => ?_) AllReadyH.nil
                    go_simp
                    go_at_call 20
                    (with_reducible refine (HV.out u1 C1).mono ?_)
                    rintro e u2 ⟨rfl, b2⟩
                    have C2 : Below W1.heap.size W1 u2 := C1.trans (b2.mono C1.size)
                    clear hS
                    dsimp only
                    refine Shut.out hK _ _ (HK.out u2 C2) (fun hS => ?_)
                    try simp only [Act.put, List.setIfInBounds_toArray, List.set_cons_zero, List.set_cons_succ, List.getElem_toArray, List.getElem_cons_succ, List.getElem_cons_zero]
                    refine wpAnyH_take (i := 38) (v := ?gv350) rfl (by kernel_rfl) (by kernel_rfl) (by kernel_rfl) (fun _ _ _ h => h) (Or.inl ⟨by kernel_rfl, ?gy350⟩) ‹_› ?gr350
                    case gy350 => (intro w' hSw; (try dsimp only at hSw); go_simp; (try with_reducible rfl))
                    refine wpAnyH_take (i := 39) (v := ?gv351) rfl (by kernel_rfl) (by kernel_rfl) (by kernel_rfl) (fun _ _ _ h => h) (Or.inl ⟨by kernel_rfl, ?gy351⟩) ‹_› ?gr351
                    case gy351 => (intro w' hSw; (try dsimp only at hSw); go_simp; (try with_reducible rfl))
                    refine wpAnyH_take (i := 40) (v := ?gv352) rfl (by kernel_rfl) (by kernel_rfl) (by kernel_rfl) (fun _ _ _ h => h) (Or.inl ⟨by kernel_rfl, ?gy352⟩) ‹_› ?gr352
                    case gy352 => (intro w' hSw; (try dsimp only at hSw); go_simp; (try with_reducible rfl))
                    refine wpAnyH_take (i := 41) (v := ?gv353) rfl (by kernel_rfl) (by kernel_rfl) (by kernel_rfl) (fun _ _ _ h => h) (Or.inl ⟨by kernel_rfl, ?gy353⟩) ‹_› ?gr353
                    case gy353 => (intro w' hSw; (try dsimp only at hSw); go_simp; (try with_reducible rfl))
                    refine wpAnyH_take (i := 42) (v := ?gv354) rfl (by kernel_rfl) (by kernel_rfl) (by kernel_rfl) (fun _ _ _ h => h) (Or.inl ⟨by kernel_rfl, ?gy354⟩) ‹_› ?gr354
                    case gy354 => (intro w' hSw; (try dsimp only at hSw); go_simp; (try with_reducible rfl))
                    try simp only [Act.put, List.setIfInBounds_toArray, List.set_cons_zero, List.set_cons_succ, List.getElem_toArray, List.getElem_cons_succ, List.getElem_cons_zero]
                    refine wpAnyH_ready (rs := [43]) (by kernel_rfl) (by simp) ?_
                    refine AllReadyH.cons rfl (fun K hK => ?_) AllReadyH.nil
                    go_simp
                    go_at_call 18
                    (with_reducible refine (HL.out u2).mono ?_)
                    rintro e u3 ⟨rfl, b3⟩
                    have C3 : Below W1.heap.size W1 u3 := C2.trans (b3.mono C2.size)
                    clear hS
                    dsimp only
                    refine Shut.out hK _ _ (HK.out u3 C3) (fun hS => ?_)
                    try simp only [Act.put, List.setIfInBounds_toArray, List.set_cons_zero, List.set_cons_succ, List.getElem_toArray, List.getElem_cons_succ, List.getElem_cons_zero]
                    refine wpAnyH_take (i := 44) (v := ?gv355) rfl (by kernel_rfl) (by kernel_rfl) (by kernel_rfl) (fun _ _ _ h => h) (Or.inl ⟨by kernel_rfl, ?gy355⟩) ‹_› ?gr355
                    case gy355 => (intro w' hSw; (try dsimp only at hSw); go_simp; (try with_reducible rfl))
                    refine wpAnyH_take (i := 45) (v := ?gv356) rfl (by kernel_rfl) (by kernel_rfl) (by kernel_rfl) (fun _ _ _ h => h) (Or.inl ⟨by kernel_rfl, ?gy356⟩) ‹_› ?gr356
                    case gy356 => (intro w' hSw; (try dsimp only at hSw); go_simp; (try with_reducible rfl))
                    refine wpAnyH_take (i := 46) (v := ?gv357) rfl (by kernel_rfl) (by kernel_rfl) (by kernel_rfl) (fun _ _ _ h => h) (Or.inl ⟨by kernel_rfl, ?gy357⟩) ‹_› ?gr357
                    case gy357 => (intro w' hSw; (try dsimp only at hSw); go_simp; (try with_reducible rfl))
                    refine wpAnyH_take (i := 47) (v := undef) rfl (by kernel_rfl) (by kernel_rfl) (by kernel_rfl) (fun _ _ _ h => h) (Or.inr ⟨by kernel_rfl, rfl⟩) ‹_› ?_
                    refine wpAnyH_take (i := 48) (v := undef) rfl (by kernel_rfl) (by kernel_rfl) (by kernel_rfl) (fun _ _ _ h => h) (Or.inr ⟨by kernel_rfl, rfl⟩) ‹_› ?_
                    refine wpAnyH_take (i := 49) (v := undef) rfl (by kernel_rfl) (by kernel_rfl) (by kernel_rfl) (fun _ _ _ h => h) (Or.inr ⟨by kernel_rfl, rfl⟩) ‹_› ?_
                    refine wpAnyH_take (i := 50) (v := undef) rfl (by kernel_rfl) (by kernel_rfl) (by kernel_rfl) (fun _ _ _ h => h) (Or.inr ⟨by kernel_rfl, rfl⟩) ‹_› ?_
                    refine wpAnyH_take (i := 51) (v := ?gv358) rfl (by kernel_rfl) (by kernel_rfl) (by kernel_rfl) (fun _ _ _ h => h) (Or.inl ⟨by kernel_rfl, ?gy358⟩) ‹_› ?gr358
                    case gy358 => (intro w' hSw; (try dsimp only at hSw); go_simp; (try with_reducible rfl))
                    refine wpAnyH_take (i := 52) (v := ?gv359) rfl (by kernel_rfl) (by kernel_rfl) (by kernel_rfl) (fun _ _ _ h => h) (Or.inl ⟨by kernel_rfl, ?gy359⟩) ‹_› ?gr359
                    case gy359 => (intro w' hSw; (try dsimp only at hSw); go_simp; (try with_reducible rfl))
                    refine wpAnyH_take (i := 53) (v := undef) rfl (by kernel_rfl) (by kernel_rfl) (by kernel_rfl) (fun _ _ _ h => h) (Or.inr ⟨by kernel_rfl, rfl⟩) ‹_› ?_
                    refine wpAnyH_take (i := 54) (v := undef) rfl (by kernel_rfl) (by kernel_rfl) (by kernel_rfl) (fun _ _ _ h => h) (Or.inr ⟨by kernel_rfl, rfl⟩) ‹_› ?_
                    refine wpAnyH_take (i := 55) (v := undef) rfl (by kernel_rfl) (by kernel_rfl) (by kernel_rfl) (fun _ _ _ h => h) (Or.inr ⟨by kernel_rfl, rfl⟩) ‹_› ?_
                    refine wpAnyH_take (i := 56) (v := undef) rfl (by kernel_rfl) (by kernel_rfl) (by kernel_rfl) (fun _ _ _ h => h) (Or.inr ⟨by kernel_rfl, rfl⟩) ‹_› ?_
                    refine wpAnyH_take (i := 57) (v := undef) rfl (by kernel_rfl) (by kernel_rfl) (by kernel_rfl) (fun _ _ _ h => h) (Or.inr ⟨by kernel_rfl, rfl⟩) ‹_› ?_
                    refine wpAnyH_take (i := 58) (v := undef) rfl (by kernel_rfl) (by kernel_rfl) (by kernel_rfl) (fun _ _ _ h => h) (Or.inr ⟨by kernel_rfl, rfl⟩) ‹_› ?_
                    refine wpAnyH_take (i := 59) (v := ?gv360) rfl (by kernel_rfl) (by kernel_rfl) (by kernel_rfl) (fun _ _ _ h => h) (Or.inl ⟨by kernel_rfl, ?gy360⟩) ‹_› ?gr360
                    case gy360 => (intro w' hSw; (try dsimp only at hSw); go_simp; (try with_reducible rfl))
                    try simp only [Act.put, List.setIfInBounds_toArray, List.set_cons_zero, List.set_cons_succ, List.getElem_toArray, List.getElem_cons_succ, List.getElem_cons_zero]
                    refine wpAnyH_done (by kernel_rfl) (NoPanic.normal ?_) _
                    have hfb : Hid _ := HB1.out.trans (C3.mono HB1.out.size)
                    go_wp2
                    go_ret
                    exact ⟨ret_bool hend.out, B0.trans (hfb.out.mono hws)⟩
                  cases bt
                  case false =>
                    have hend : Hid (false = R) := hbad.out (by rw [HGD.out]; simp)
                    refine wp_region_noPanic ?_
                    refine wp_region_held_drew (S := fun W : World => W.cell? ⟨w.heap.size, 0, none⟩ = some (.slice (some ⟨b, off, none⟩) n cap) ∧ W.cell? ⟨w.heap.size, 1, none⟩ = some (.int .i64 nx) ∧ W.cell? ⟨X, 0, none⟩ = some (.int .i64 id) ∧ W.cell? ⟨X, 1, none⟩ = some (.string name) ∧ W.cell? ⟨X, 2, none⟩ = some (.bool ro) ∧ W.cell? ⟨X, 3, none⟩ = some (.int .i64 limit) ∧ W.cell? ⟨X, 4, none⟩ = some (.slice ra n1 rc) ∧ W.cell? ⟨X, 5, none⟩ = some (.int .i64 rnx) ∧ W.cell? ⟨b, off + j * 6, none⟩ = some (.int .i64 pid)) (by kernel_rfl) (by go_keep) (fun hS => ?_)
                    refine wpAnyH_take (i := 0) (v := ?gv361) rfl (by kernel_rfl) (by kernel_rfl) (by kernel_rfl) (fun _ _ _ h => h) (Or.inl ⟨by kernel_rfl, ?gy361⟩) ‹_› ?gr361
                    case gy361 => (intro w' hSw; (try dsimp only at hSw); go_simp; (try with_reducible rfl))
                    refine wpAnyH_take (i := 1) (v := ?gv362) rfl (by kernel_rfl) (by kernel_rfl) (by kernel_rfl) (fun _ _ _ h => h) (Or.inl ⟨by kernel_rfl, ?gy362⟩) ‹_› ?gr362
                    case gy362 => (intro w' hSw; (try dsimp only at hSw); go_simp; (try with_reducible rfl))
                    refine wpAnyH_take (i := 2) (v := ?gv363) rfl (by kernel_rfl) (by kernel_rfl) (by kernel_rfl) (fun _ _ _ h => h) (Or.inl ⟨by kernel_rfl, ?gy363⟩) ‹_› ?gr363
                    case gy363 => (intro w' hSw; (try dsimp only at hSw); go_simp; (try with_reducible rfl))
                    refine wpAnyH_take (i := 3) (v := ?gv364) rfl (by kernel_rfl) (by kernel_rfl) (by kernel_rfl) (fun _ _ _ h => h) (Or.inl ⟨by kernel_rfl, ?gy364⟩) ‹_› ?gr364
                    case gy364 => (intro w' hSw; (try dsimp only at hSw); go_simp; (try with_reducible rfl))
                    refine wpAnyH_take (i := 4) (v := ?gv365) rfl (by kernel_rfl) (by kernel_rfl) (by kernel_rfl) (fun _ _ _ h => h) (Or.inl ⟨by kernel_rfl, ?gy365⟩) ‹_› ?gr365
                    case gy365 => (intro w' hSw; (try dsimp only at hSw); go_simp; (try with_reducible rfl))
                    refine wpAnyH_take (i := 5) (v := ?gv366) rfl (by kernel_rfl) (by kernel_rfl) (by kernel_rfl) (fun _ _ _ h => h) (Or.inl ⟨by kernel_rfl, ?gy366⟩) ‹_› ?gr366
                    case gy366 => (intro w' hSw; (try dsimp only at hSw); go_simp; (try with_reducible rfl))
                    refine wpAnyH_take (i := 6) (v := ?gv367) rfl (by kernel_rfl) (by kernel_rfl) (by kernel_rfl) (fun _ _ _ h => h) (Or.inl ⟨by kernel_rfl, ?gy367⟩) ‹_› ?gr367
                    case gy367 => (intro w' hSw; (try dsimp only at hSw); go_simp; (try with_reducible rfl))
                    refine wpAnyH_take (i := 7) (v := ?gv368) rfl (by kernel_rfl) (by kernel_rfl) (by kernel_rfl) (fun _ _ _ h => h) (Or.inl ⟨by kernel_rfl, ?gy368⟩) ‹_› ?gr368
                    case gy368 => (intro w' hSw; (try dsimp only at hSw); go_simp; (try with_reducible rfl))
                    refine wpAnyH_take (i := 8) (v := ?gv369) rfl (by kernel_rfl) (by kernel_rfl) (by kernel_rfl) (fun _ _ _ h => h) (Or.inl ⟨by kernel_rfl, ?gy369⟩) ‹_› ?gr369
                    case gy369 => (intro w' hSw; (try dsimp only at hSw); go_simp; (try with_reducible rfl))
                    refine wpAnyH_take (i := 9) (v := ?gv370) rfl (by kernel_rfl) (by kernel_rfl) (by kernel_rfl) (fun _ _ _ h => h) (Or.inl ⟨by kernel_rfl, ?gy370⟩) ‹_› ?gr370
                    case gy370 => (intro w' hSw; (try dsimp only at hSw); go_simp; (try with_reducible rfl))
                    refine wpAnyH_take (i := 10) (v := ?gv371) rfl (by kernel_rfl) (by kernel_rfl) (by kernel_rfl) (fun _ _ _ h => h) (Or.inl ⟨by kernel_rfl, ?gy371⟩) ‹_› ?gr371
                    case gy371 => (intro w' hSw; (try dsimp only at hSw); go_simp; (try with_reducible rfl))
                    refine wpAnyH_take (i := 11) (v := ?gv372) rfl (by kernel_rfl) (by kernel_rfl) (by kernel_rfl) (fun _ _ _ h => h) (Or.inl ⟨by kernel_rfl, ?gy372⟩) ‹_› ?gr372
                    case gy372 => (intro w' hSw; (try dsimp only at hSw); go_simp; (try with_reducible rfl))
                    refine wpAnyH_take (i := 12) (v := ?gv373) rfl (by kernel_rfl) (by kernel_rfl) (by kernel_rfl) (fun _ _ _ h => h) (Or.inl ⟨by kernel_rfl, ?gy373⟩) ‹_› ?gr373
                    case gy373 => (intro w' hSw; (try dsimp only at hSw); go_simp; (try with_reducible rfl))
                    refine wpAnyH_take (i := 13) (v := ?gv374) rfl (by kernel_rfl) (by kernel_rfl) (by kernel_rfl) (fun _ _ _ h => h) (Or.inl ⟨by kernel_rfl, ?gy374⟩) ‹_› ?gr374
                    case gy374 => (intro w' hSw; (try dsimp only at hSw); go_simp; (try with_reducible rfl))
                    refine wpAnyH_take (i := 14) (v := ?gv375) rfl (by kernel_rfl) (by kernel_rfl) (by kernel_rfl) (fun _ _ _ h => h) (Or.inl ⟨by kernel_rfl, ?gy375⟩) ‹_› ?gr375
                    case gy375 => (intro w' hSw; (try dsimp only at hSw); go_simp; (try with_reducible rfl))
                    refine wpAnyH_take (i := 15) (v := ?gv376) rfl (by kernel_rfl) (by kernel_rfl) (by kernel_rfl) (fun _ _ _ h => h) (Or.inl ⟨by kernel_rfl, ?gy376⟩) ‹_› ?gr376
                    case gy376 => (intro w' hSw; (try dsimp only at hSw); go_simp; (try with_reducible rfl))
                    refine wpAnyH_take (i := 16) (v := ?gv377) rfl (by kernel_rfl) (by kernel_rfl) (by kernel_rfl) (fun _ _ _ h => h) (Or.inl ⟨by kernel_rfl, ?gy377⟩) ‹_› ?gr377
                    case gy377 => (intro w' hSw; (try dsimp only at hSw); go_simp; (try with_reducible rfl))
                    refine wpAnyH_take (i := 17) (v := ?gv378) rfl (by kernel_rfl) (by kernel_rfl) (by kernel_rfl) (fun _ _ _ h => h) (Or.inl ⟨by kernel_rfl, ?gy378⟩) ‹_› ?gr378
                    case gy378 => (intro w' hSw; (try dsimp only at hSw); go_simp; (try with_reducible rfl))
                    refine wpAnyH_take (i := 18) (v := ?gv379) rfl (by kernel_rfl) (by kernel_rfl) (by kernel_rfl) (fun _ _ _ h => h) (Or.inl ⟨by kernel_rfl, ?gy379⟩) ‹_› ?gr379
                    case gy379 => (intro w' hSw; (try dsimp only at hSw); go_simp; (try with_reducible rfl))
                    refine wpAnyH_take (i := 19) (v := ?gv380) rfl (by kernel_rfl) (by kernel_rfl) (by kernel_rfl) (fun _ _ _ h => h) (Or.inl ⟨by kernel_rfl, ?gy380⟩) ‹_› ?gr380
                    case gy380 => (intro w' hSw; (try dsimp only at hSw); go_simp; (try with_reducible rfl))
                    refine wpAnyH_take (i := 20) (v := ?gv381) rfl (by kernel_rfl) (by kernel_rfl) (by kernel_rfl) (fun _ _ _ h => h) (Or.inl ⟨by kernel_rfl, ?gy381⟩) ‹_› ?gr381
                    case gy381 => (intro w' hSw; (try dsimp only at hSw); go_simp; (try with_reducible rfl))
                    refine wpAnyH_take (i := 21) (v := ?gv382) rfl (by kernel_rfl) (by kernel_rfl) (by kernel_rfl) (fun _ _ _ h => h) (Or.inl ⟨by kernel_rfl, ?gy382⟩) ‹_› ?gr382
                    case gy382 => (intro w' hSw; (try dsimp only at hSw); go_simp; (try with_reducible rfl))
                    refine wpAnyH_take (i := 22) (v := ?gv383) rfl (by kernel_rfl) (by kernel_rfl) (by kernel_rfl) (fun _ _ _ h => h) (Or.inl ⟨by kernel_rfl, ?gy383⟩) ‹_› ?gr383
                    case gy383 => (intro w' hSw; (try dsimp only at hSw); go_simp; (try with_reducible rfl))
                    refine wpAnyH_take (i := 23) (v := ?gv384) rfl (by kernel_rfl) (by kernel_rfl) (by kernel_rfl) (fun _ _ _ h => h) (Or.inl ⟨by kernel_rfl, ?gy384⟩) ‹_› ?gr384
                    case gy384 => (intro w' hSw; (try dsimp only at hSw); go_simp; (try with_reducible rfl))
                    refine wpAnyH_take (i := 24) (v := ?gv385) rfl (by kernel_rfl) (by kernel_rfl) (by kernel_rfl) (fun _ _ _ h => h) (Or.inl ⟨by kernel_rfl, ?gy385⟩) ‹_› ?gr385
                    case gy385 => (intro w' hSw; (try dsimp only at hSw); go_simp; (try with_reducible rfl))
                    refine wpAnyH_take (i := 25) (v := ?gv386) rfl (by kernel_rfl) (by kernel_rfl) (by kernel_rfl) (fun _ _ _ h => h) (Or.inl ⟨by kernel_rfl, ?gy386⟩) ‹_› ?gr386
                    case gy386 => (intro w' hSw; (try dsimp only at hSw); go_simp; (try with_reducible rfl))
                    refine wpAnyH_take (i := 26) (v := ?gv387) rfl (by kernel_rfl) (by kernel_rfl) (by kernel_rfl) (fun _ _ _ h => h) (Or.inl ⟨by kernel_rfl, ?gy387⟩) ‹_› ?gr387
                    case gy387 => (intro w' hSw; (try dsimp only at hSw); go_simp; (try with_reducible rfl))
                    refine wpAnyH_take (i := 27) (v := ?gv388) rfl (by kernel_rfl) (by kernel_rfl) (by kernel_rfl) (fun _ _ _ h => h) (Or.inl ⟨by kernel_rfl, ?gy388⟩) ‹_› ?gr388
                    case gy388 => (intro w' hSw; (try dsimp only at hSw); go_simp; (try with_reducible rfl))
                    refine wpAnyH_take (i := 28) (v := ?gv389) rfl (by kernel_rfl) (by kernel_rfl) (by kernel_rfl) (fun _ _ _ h => h) (Or.inl ⟨by kernel_rfl, ?gy389⟩) ‹_› ?gr389
                    case gy389 => (intro w' hSw; (try dsimp only at hSw); go_simp; (try with_reducible rfl))
                    try simp only [Act.put, List.setIfInBounds_toArray, List.set_cons_zero, List.set_cons_succ, List.getElem_toArray, List.getElem_cons_succ, List.getElem_cons_zero]
                    refine wpAnyH_ready (rs := [29]) (by kernel_rfl) (by simp) ?_
                    refine AllReadyH.cons rfl (fun K hK => ?_) AllReadyH.nil
                    go_simp
                    go_at_call 19
                    (with_reducible refine (HN.out W1.drew).mono ?_)
                    rintro e u1 ⟨rfl, b1⟩
                    have C1 : Below W1.heap.size W1 u1 := (Below.refl _ W1).drew.trans b1
                    clear hS
                    dsimp only
                    refine Shut.out hK _ _ (HK.out u1 C1) (fun hS => ?_)
                    try simp only [Act.put, List.setIfInBounds_toArray, List.set_cons_zero, List.set_cons_succ, List.getElem_toArray, List.getElem_cons_succ, List.getElem_cons_zero]
                    refine wpAnyH_take (i := 30) (v := ?gv390) rfl (by kernel_rfl) (by kernel_rfl) (by kernel_rfl) (fun _ _ _ h => h) (Or.inl ⟨by kernel_rfl, ?gy390⟩) ‹_› ?gr390
                    case gy390 => (intro w' hSw; (try dsimp only at hSw); go_simp; (try with_reducible rfl))
                    refine wpAnyH_take (i := 31) (v := ?gv391) rfl (by kernel_rfl) (by kernel_rfl) (by kernel_rfl) (fun _ _ _ h => h) (Or.inl ⟨by kernel_rfl, ?gy391⟩) ‹_› ?gr391
                    case gy391 => (intro w' hSw; (try dsimp only at hSw); go_simp; (try with_reducible rfl))
                    refine wpAnyH_take (i := 32) (v := ?gv392) rfl (by kernel_rfl) (by kernel_rfl) (by kernel_rfl) (fun _ _ _ h => h) (Or.inl ⟨by kernel_rfl, ?gy392⟩) ‹_› ?gr392
                    case gy392 => (intro w' hSw; (try dsimp only at hSw); go_simp; (try with_reducible rfl))
                    refine wpAnyH_take (i := 33) (v := ?gv393) rfl (by kernel_rfl) (by kernel_rfl) (by kernel_rfl) (fun _ _ _ h => h) (Or.inl ⟨by kernel_rfl, ?gy393⟩) ‹_› ?gr393
                    case gy393 => (intro w' hSw; (try dsimp only at hSw); go_simp; (try with_reducible rfl))
                    refine wpAnyH_take (i := 34) (v := ?gv394) rfl (by kernel_rfl) (by kernel_rfl) (by kernel_rfl) (fun _ _ _ h => h) (Or.inl ⟨by kernel_rfl, ?gy394⟩) ‹_› ?gr394
                    case gy394 => (intro w' hSw; (try dsimp only at hSw); go_simp; (try with_reducible rfl))
                    refine wpAnyH_take (i := 35) (v := ?gv395) rfl (by kernel_rfl) (by kernel_rfl) (by kernel_rfl) (fun _ _ _ h => h) (Or.inl ⟨by kernel_rfl, ?gy395⟩) ‹_› ?gr395
                    case gy395 => (intro w' hSw; (try dsimp only at hSw); go_simp; (try with_reducible rfl))
                    refine wpAnyH_take (i := 37) (v := ?gv396) rfl (by kernel_rfl) (by kernel_rfl) (by kernel_rfl) (fun _ _ _ h => h) (Or.inl ⟨by kernel_rfl, ?gy396⟩) ‹_› ?gr396
                    case gy396 => (intro w' hSw; (try dsimp only at hSw); go_simp; (try with_reducible rfl))
                    try simp only [Act.put, List.setIfInBounds_toArray, List.set_cons_zero, List.set_cons_succ, List.getElem_toArray, List.getElem_cons_succ, List.getElem_cons_zero]
                    refine wpAnyH_ready (rs := [36]) (by kernel_rfl) (by simp) ?_
                    refine AllReadyH.cons rfl (fun K hK => ?_) AllReadyH.nil
                    go_simp
                    go_at_call 20
                    (with_reducible refine (HV.out u1 C1).mono ?_)
                    rintro e u2 ⟨rfl, b2⟩
                    have C2 : Below W1.heap.size W1 u2 := C1.trans (b2.mono C1.size)
                    clear hS
                    dsimp only
                    refine Shut.out hK _ _ (HK.out u2 C2) (fun hS => ?_)
                    try simp only [Act.put, List.setIfInBounds_toArray, List.set_cons_zero, List.set_cons_succ, List.getElem_toArray, List.getElem_cons_succ, List.getElem_cons_zero]
                    refine wpAnyH_take (i := 38) (v := ?gv397) rfl (by kernel_rfl) (by kernel_rfl) (by kernel_rfl) (fun _ _ _ h => h) (Or.inl ⟨by kernel_rfl, ?gy397⟩) ‹_› ?gr397
                    case gy397 => (intro w' hSw; (try dsimp only at hSw); go_simp; (try with_reducible rfl))
                    refine wpAnyH_take (i := 39) (v := ?gv398) rfl (by kernel_rfl) (by kernel_rfl) (by kernel_rfl) (fun _ _ _ h => h) (Or.inl ⟨by kernel_rfl, ?gy398⟩) ‹_› ?gr398
                    case gy398 => (intro w' hSw; (try dsimp only at hSw); go_simp; (try with_reducible rfl))
                    refine wpAnyH_take (i := 40) (v := ?gv399) rfl (by kernel_rfl) (by kernel_rfl) (by kernel_rfl) (fun _ _ _ h => h) (Or.inl ⟨by kernel_rfl, ?gy399⟩) ‹_› ?gr399
                    case gy399 => (intro w' hSw; (try dsimp only at hSw); go_simp; (try with_reducible rfl))
                    refine wpAnyH_take (i := 41) (v := ?gv400) rfl (by kernel_rfl) (by kernel_rfl) (by kernel_rfl) (fun _ _ _ h => h) (Or.inl ⟨by kernel_rfl, ?gy400⟩) ‹_› ?gr400
                    case gy400 => (intro w' hSw; (try dsimp only at hSw); go_simp; (try with_reducible rfl))
                    refine wpAnyH_take (i := 42) (v := ?gv401) rfl (by kernel_rfl) (by kernel_rfl) (by kernel_rfl) (fun _ _ _ h => h) (Or.inl ⟨by kernel_rfl, ?gy401⟩) ‹_› ?gr401
                    case gy401 => (intro w' hSw; (try dsimp only at hSw); go_simp; (try with_reducible rfl))
                    try simp only [Act.put, List.setIfInBounds_toArray, List.set_cons_zero, List.set_cons_succ, List.getElem_toArray, List.getElem_cons_succ, List.getElem_cons_zero]
                    refine wpAnyH_ready (rs := [43]) (by kernel_rfl) (by simp) ?_
                    refine AllReadyH.cons rfl (fun K hK => ?_) AllReadyH.nil
                    go_simp
                    go_at_call 18
                    (with_reducible refine (HL.out u2).mono ?_)
                    rintro e u3 ⟨rfl, b3⟩
                    have C3 : Below W1.heap.size W1 u3 := C2.trans (b3.mono C2.size)
                    clear hS
                    dsimp only
                    refine Shut.out hK _ _ (HK.out u3 C3) (fun hS => ?_)
                    try simp only [Act.put, List.setIfInBounds_toArray, List.set_cons_zero, List.set_cons_succ, List.getElem_toArray, List.getElem_cons_succ, List.getElem_cons_zero]
                    refine wpAnyH_take (i := 44) (v := ?gv402) rfl (by kernel_rfl) (by kernel_rfl) (by kernel_rfl) (fun _ _ _ h => h) (Or.inl ⟨by kernel_rfl, ?gy402⟩) ‹_› ?gr402
                    case gy402 => (intro w' hSw; (try dsimp only at hSw); go_simp; (try with_reducible rfl))
                    refine wpAnyH_take (i := 45) (v := ?gv403) rfl (by kernel_rfl) (by kernel_rfl) (by kernel_rfl) (fun _ _ _ h => h) (Or.inl ⟨by kernel_rfl, ?gy403⟩) ‹_› ?gr403
                    case gy403 => (intro w' hSw; (try dsimp only at hSw); go_simp; (try with_reducible rfl))
                    refine wpAnyH_take (i := 46) (v := ?gv404) rfl (by kernel_rfl) (by kernel_rfl) (by kernel_rfl) (fun _ _ _ h => h) (Or.inl ⟨by kernel_rfl, ?gy404⟩) ‹_› ?gr404
                    case gy404 => (intro w' hSw; (try dsimp only at hSw); go_simp; (try with_reducible rfl))
                    refine wpAnyH_take (i := 47) (v := ?gv405) rfl (by kernel_rfl) (by kernel_rfl) (by kernel_rfl) (fun _ _ _ h => h) (Or.inl ⟨by kernel_rfl, ?gy405⟩) ‹_› ?gr405
                    case gy405 => (intro w' hSw; (try dsimp only at hSw); go_simp; (try with_reducible rfl))
                    refine wpAnyH_take (i := 48) (v := ?gv406) rfl (by kernel_rfl) (by kernel_rfl) (by kernel_rfl) (fun _ _ _ h => h) (Or.inl ⟨by kernel_rfl, ?gy406⟩) ‹_› ?gr406
                    case gy406 => (intro w' hSw; (try dsimp only at hSw); go_simp; (try with_reducible rfl))
                    try simp only [Act.put, List.setIfInBounds_toArray, List.set_cons_zero, List.set_cons_succ, List.getElem_toArray, List.getElem_cons_succ, List.getElem_cons_zero]
                    refine wpAnyH_ready (rs := [49]) (by kernel_rfl) (by simp) ?_
                    refine AllReadyH.cons rfl (fun K hK => ?_) AllReadyH.nil
                    go_simp
                    go_at_call 21
                    (with_reducible refine (HT.out u3 C3).mono ?_)
                    rintro e u4 ⟨rfl, b4⟩
                    have C4 : Below W1.heap.size W1 u4 := C3.trans (b4.mono C3.size)
                    clear hS
                    dsimp only
                    refine Shut.out hK _ _ (HK.out u4 C4) (fun hS => ?_)
                    try simp only [Act.put, List.setIfInBounds_toArray, List.set_cons_zero, List.set_cons_succ, List.getElem_toArray, List.getElem_cons_succ, List.getElem_cons_zero]
                    refine wpAnyH_take (i := 50) (v := ?gv407) rfl (by kernel_rfl) (by kernel_rfl) (by kernel_rfl) (fun _ _ _ h => h) (Or.inl ⟨by kernel_rfl, ?gy407⟩) ‹_› ?gr407
                    case gy407 => (intro w' hSw; (try dsimp only at hSw); go_simp; (try with_reducible rfl))
                    refine wpAnyH_take (i := 51) (v := ?gv408) rfl (by kernel_rfl) (by kernel_rfl) (by kernel_rfl) (fun _ _ _ h => h) (Or.inl ⟨by kernel_rfl, ?gy408⟩) ‹_› ?gr408
                    case gy408 => (intro w' hSw; (try dsimp only at hSw); go_simp; (try with_reducible rfl))
                    refine wpAnyH_take (i := 52) (v := ?gv409) rfl (by kernel_rfl) (by kernel_rfl) (by kernel_rfl) (fun _ _ _ h => h) (Or.inl ⟨by kernel_rfl, ?gy409⟩) ‹_› ?gr409
                    case gy409 => (intro w' hSw; (try dsimp only at hSw); go_simp; (try with_reducible rfl))
                    refine wpAnyH_take (i := 53) (v := undef) rfl (by kernel_rfl) (by kernel_rfl) (by kernel_rfl) (fun _ _ _ h => h) (Or.inr ⟨by kernel_rfl, rfl⟩) ‹_› ?_
                    refine wpAnyH_take (i := 54) (v := undef) rfl (by kernel_rfl) (by kernel_rfl) (by kernel_rfl) (fun _ _ _ h => h) (Or.inr ⟨by kernel_rfl, rfl⟩) ‹_› ?_
                    refine wpAnyH_take (i := 55) (v := undef) rfl (by kernel_rfl) (by kernel_rfl) (by kernel_rfl) (fun _ _ _ h => h) (Or.inr ⟨by kernel_rfl, rfl⟩) ‹_› ?_
                    refine wpAnyH_take (i := 56) (v := undef) rfl (by kernel_rfl) (by kernel_rfl) (by kernel_rfl) (fun _ _ _ h => h) (Or.inr ⟨by kernel_rfl, rfl⟩) ‹_› ?_
                    refine wpAnyH_take (i := 57) (v := undef) rfl (by kernel_rfl) (by kernel_rfl) (by kernel_rfl) (fun _ _ _ h => h) (Or.inr ⟨by kernel_rfl, rfl⟩) ‹_› ?_
                    refine wpAnyH_take (i := 58) (v := undef) rfl (by kernel_rfl) (by kernel_rfl) (by kernel_rfl) (fun _ _ _ h => h) (Or.inr ⟨by kernel_rfl, rfl⟩) ‹_› ?_
                    refine wpAnyH_take (i := 59) (v := ?gv410) rfl (by kernel_rfl) (by kernel_rfl) (by kernel_rfl) (fun _ _ _ h => h) (Or.inl ⟨by kernel_rfl, ?gy410⟩) ‹_› ?gr410
                    case gy410 => (intro w' hSw; (try dsimp only at hSw); go_simp; (try with_reducible rfl))
                    try simp only [Act.put, List.setIfInBounds_toArray, List.set_cons_zero, List.set_cons_succ, List.getElem_toArray, List.getElem_cons_succ, List.getElem_cons_zero]
                    refine wpAnyH_done (by kernel_rfl) (NoPanic.normal ?_) _
                    have hfb : Hid _ := HB1.out.trans (C4.mono HB1.out.size)
                    go_wp2
                    go_ret
                    exact ⟨ret_bool hend.out, B0.trans (hfb.out.mono hws)⟩
                  by_cases hul : (us : Int) ≤ limit
                  rotate_left
                  · have hud : decide ((us : Int) ≤ limit) = false := decide_eq_false hul
                    have hud2 : (us : Int) > limit := by omega
                    have hend : Hid (false = R) := hbad.out (by rw [HGD.out, hud]; simp)
                    refine wp_region_noPanic ?_
                    refine wp_region_held_drew (S := fun W : World => W.cell? ⟨w.heap.size, 0, none⟩ = some (.slice (some ⟨b, off, none⟩) n cap) ∧ W.cell? ⟨w.heap.size, 1, none⟩ = some (.int .i64 nx) ∧ W.cell? ⟨X, 0, none⟩ = some (.int .i64 id) ∧ W.cell? ⟨X, 1, none⟩ = some (.string name) ∧ W.cell? ⟨X, 2, none⟩ = some (.bool ro) ∧ W.cell? ⟨X, 3, none⟩ = some (.int .i64 limit) ∧ W.cell? ⟨X, 4, none⟩ = some (.slice ra n1 rc) ∧ W.cell? ⟨X, 5, none⟩ = some (.int .i64 rnx) ∧ W.cell? ⟨b, off + j * 6, none⟩ = some (.int .i64 pid)) (by kernel_rfl) (by go_keep) (fun hS => ?_)
                    refine wpAnyH_take (i := 0) (v := ?gv411) rfl (by kernel_rfl) (by kernel_rfl) (by kernel_rfl) (fun _ _ _ h => h) (Or.inl ⟨by kernel_rfl, ?gy411⟩) ‹_› ?gr411
                    case gy411 => (intro w' hSw; (try dsimp only at hSw); go_simp; (try with_reducible rfl))
                    refine wpAnyH_take (i := 1) (v := ?gv412) rfl (by kernel_rfl) (by kernel_rfl) (by kernel_rfl) (fun _ _ _ h => h) (Or.inl ⟨by kernel_rfl, ?gy412⟩) ‹_› ?gr412
                    case gy412 => (intro w' hSw; (try dsimp only at hSw); go_simp; (try with_reducible rfl))
                    refine wpAnyH_take (i := 2) (v := ?gv413) rfl (by kernel_rfl) (by kernel_rfl) (by kernel_rfl) (fun _ _ _ h => h) (Or.inl ⟨by kernel_rfl, ?gy413⟩) ‹_› ?gr413
                    case gy413 => (intro w' hSw; (try dsimp only at hSw); go_simp; (try with_reducible rfl))
                    refine wpAnyH_take (i := 3) (v := ?gv414) rfl (by kernel_rfl) (by kernel_rfl) (by kernel_rfl) (fun _ _ _ h => h) (Or.inl ⟨by kernel_rfl, ?gy414⟩) ‹_› ?gr414
                    case gy414 => (intro w' hSw; (try dsimp only at hSw); go_simp; (try with_reducible rfl))
                    refine wpAnyH_take (i := 4) (v := ?gv415) rfl (by kernel_rfl) (by kernel_rfl) (by kernel_rfl) (fun _ _ _ h => h) (Or.inl ⟨by kernel_rfl, ?gy415⟩) ‹_› ?gr415
                    case gy415 => (intro w' hSw; (try dsimp only at hSw); go_simp; (try with_reducible rfl))
                    refine wpAnyH_take (i := 5) (v := ?gv416) rfl (by kernel_rfl) (by kernel_rfl) (by kernel_rfl) (fun _ _ _ h => h) (Or.inl ⟨by kernel_rfl, ?gy416⟩) ‹_› ?gr416
                    case gy416 => (intro w' hSw; (try dsimp only at hSw); go_simp; (try with_reducible rfl))
                    refine wpAnyH_take (i := 6) (v := ?gv417) rfl (by kernel_rfl) (by kernel_rfl) (by kernel_rfl) (fun _ _ _ h => h) (Or.inl ⟨by kernel_rfl, ?gy417⟩) ‹_› ?gr417
                    case gy417 => (intro w' hSw; (try dsimp only at hSw); go_simp; (try with_reducible rfl))
                    refine wpAnyH_take (i := 7) (v := ?gv418) rfl (by kernel_rfl) (by kernel_rfl) (by kernel_rfl) (fun _ _ _ h => h) (Or.inl ⟨by kernel_rfl, ?gy418⟩) ‹_› ?gr418
                    case gy418 => (intro w' hSw; (try dsimp only at hSw); go_simp; (try with_reducible rfl))
                    refine wpAnyH_take (i := 8) (v := ?gv419) rfl (by kernel_rfl) (by kernel_rfl) (by kernel_rfl) (fun _ _ _ h => h) (Or.inl ⟨by kernel_rfl, ?gy419⟩) ‹_› ?gr419
                    case gy419 => (intro w' hSw; (try dsimp only at hSw); go_simp; (try with_reducible rfl))
                    refine wpAnyH_take (i := 9) (v := ?gv420) rfl (by kernel_rfl) (by kernel_rfl) (by kernel_rfl) (fun _ _ _ h => h) (Or.inl ⟨by kernel_rfl, ?gy420⟩) ‹_› ?gr420
                    case gy420 => (intro w' hSw; (try dsimp only at hSw); go_simp; (try with_reducible rfl))
                    refine wpAnyH_take (i := 10) (v := ?gv421) rfl (by kernel_rfl) (by kernel_rfl) (by kernel_rfl) (fun _ _ _ h => h) (Or.inl ⟨by kernel_rfl, ?gy421⟩) ‹_› ?gr421
                    case gy421 => (intro w' hSw; (try dsimp only at hSw); go_simp; (try with_reducible rfl))
                    refine wpAnyH_take (i := 11) (v := ?gv422) rfl (by kernel_rfl) (by kernel_rfl) (by kernel_rfl) (fun _ _ _ h => h) (Or.inl ⟨by kernel_rfl, ?gy422⟩) ‹_› ?gr422
                    case gy422 => (intro w' hSw; (try dsimp only at hSw); go_simp; (try with_reducible rfl))
                    refine wpAnyH_take (i := 12) (v := ?gv423) rfl (by kernel_rfl) (by kernel_rfl) (by kernel_rfl) (fun _ _ _ h => h) (Or.inl ⟨by kernel_rfl, ?gy423⟩) ‹_› ?gr423
                    case gy423 => (intro w' hSw; (try dsimp only at hSw); go_simp; (try with_reducible rfl))
                    refine wpAnyH_take (i := 13) (v := ?gv424) rfl (by kernel_rfl) (by kernel_rfl) (by kernel_rfl) (fun _ _ _ h => h) (Or.inl ⟨by kernel_rfl, ?gy424⟩) ‹_› ?gr424
                    case gy424 => (intro w' hSw; (try dsimp only at hSw); go_simp; (try with_reducible rfl))
                    refine wpAnyH_take (i := 14) (v := ?gv425) rfl (by kernel_rfl) (by kernel_rfl) (by kernel_rfl) (fun _ _ _ h => h) (Or.inl ⟨by kernel_rfl, ?gy425⟩) ‹_› ?gr425
                    case gy425 => (intro w' hSw; (try dsimp only at hSw); go_simp; (try with_reducible rfl))
                    refine wpAnyH_take (i := 15) (v := ?gv426) rfl (by kernel_rfl) (by kernel_rfl) (by kernel_rfl) (fun _ _ _ h => h) (Or.inl ⟨by kernel_rfl, ?gy426⟩) ‹_› ?gr426
                    case gy426 => (intro w' hSw; (try dsimp only at hSw); go_simp; (try with_reducible rfl))
                    refine wpAnyH_take (i := 16) (v := ?gv427) rfl (by kernel_rfl) (by kernel_rfl) (by kernel_rfl) (fun _ _ _ h => h) (Or.inl ⟨by kernel_rfl, ?gy427⟩) ‹_› ?gr427
                    case gy427 => (intro w' hSw; (try dsimp only at hSw); go_simp; (try with_reducible rfl))
                    refine wpAnyH_take (i := 17) (v := ?gv428) rfl (by kernel_rfl) (by kernel_rfl) (by kernel_rfl) (fun _ _ _ h => h) (Or.inl ⟨by kernel_rfl, ?gy428⟩) ‹_› ?gr428
                    case gy428 => (intro w' hSw; (try dsimp only at hSw); go_simp; (try with_reducible rfl))
                    refine wpAnyH_take (i := 18) (v := ?gv429) rfl (by kernel_rfl) (by kernel_rfl) (by kernel_rfl) (fun _ _ _ h => h) (Or.inl ⟨by kernel_rfl, ?gy429⟩) ‹_› ?gr429
                    case gy429 => (intro w' hSw; (try dsimp only at hSw); go_simp; (try with_reducible rfl))
                    refine wpAnyH_take (i := 19) (v := ?gv430) rfl (by kernel_rfl) (by kernel_rfl) (by kernel_rfl) (fun _ _ _ h => h) (Or.inl ⟨by kernel_rfl, ?gy430⟩) ‹_› ?gr430
                    case gy430 => (intro w' hSw; (try dsimp only at hSw); go_simp; (try with_reducible rfl))
                    refine wpAnyH_take (i := 20) (v := ?gv431) rfl (by kernel_rfl) (by kernel_rfl) (by kernel_rfl) (fun _ _ _ h => h) (Or.inl ⟨by kernel_rfl, ?gy431⟩) ‹_› ?gr431
                    case gy431 => (intro w' hSw; (try dsimp only at hSw); go_simp; (try with_reducible rfl))
                    refine wpAnyH_take (i := 21) (v := ?gv432) rfl (by kernel_rfl) (by kernel_rfl) (by kernel_rfl) (fun _ _ _ h => h) (Or.inl ⟨by kernel_rfl, ?gy432⟩) ‹_› ?gr432
                    case gy432 => (intro w' hSw; (try dsimp only at hSw); go_simp; (try with_reducible rfl))
                    refine wpAnyH_take (i := 22) (v := ?gv433) rfl (by kernel_rfl) (by kernel_rfl) (by kernel_rfl) (fun _ _ _ h => h) (Or.inl ⟨by kernel_rfl, ?gy433⟩) ‹_› ?gr433
                    case gy433 => (intro w' hSw; (try dsimp only at hSw); go_simp; (try with_reducible rfl))
                    refine wpAnyH_take (i := 23) (v := ?gv434) rfl (by kernel_rfl) (by kernel_rfl) (by kernel_rfl) (fun _ _ _ h => h) (Or.inl ⟨by kernel_rfl, ?gy434⟩) ‹_› ?gr434
                    case gy434 => (intro w' hSw; (try dsimp only at hSw); go_simp; (try with_reducible rfl))
                    refine wpAnyH_take (i := 24) (v := ?gv435) rfl (by kernel_rfl) (by kernel_rfl) (by kernel_rfl) (fun _ _ _ h => h) (Or.inl ⟨by kernel_rfl, ?gy435⟩) ‹_› ?gr435
                    case gy435 => (intro w' hSw; (try dsimp only at hSw); go_simp; (try with_reducible rfl))
                    refine wpAnyH_take (i := 25) (v := ?gv436) rfl (by kernel_rfl) (by kernel_rfl) (by kernel_rfl) (fun _ _ _ h => h) (Or.inl ⟨by kernel_rfl, ?gy436⟩) ‹_› ?gr436
                    case gy436 => (intro w' hSw; (try dsimp only at hSw); go_simp; (try with_reducible rfl))
                    refine wpAnyH_take (i := 26) (v := ?gv437) rfl (by kernel_rfl) (by kernel_rfl) (by kernel_rfl) (fun _ _ _ h => h) (Or.inl ⟨by kernel_rfl, ?gy437⟩) ‹_› ?gr437
                    case gy437 => (intro w' hSw; (try dsimp only at hSw); go_simp; (try with_reducible rfl))
                    refine wpAnyH_take (i := 27) (v := ?gv438) rfl (by kernel_rfl) (by kernel_rfl) (by kernel_rfl) (fun _ _ _ h => h) (Or.inl ⟨by kernel_rfl, ?gy438⟩) ‹_› ?gr438
                    case gy438 => (intro w' hSw; (try dsimp only at hSw); go_simp; (try with_reducible rfl))
                    refine wpAnyH_take (i := 28) (v := ?gv439) rfl (by kernel_rfl) (by kernel_rfl) (by kernel_rfl) (fun _ _ _ h => h) (Or.inl ⟨by kernel_rfl, ?gy439⟩) ‹_› ?gr439
                    case gy439 => (intro w' hSw; (try dsimp only at hSw); go_simp; (try with_reducible rfl))
                    try simp only [Act.put, List.setIfInBounds_toArray, List.set_cons_zero, List.set_cons_succ, List.getElem_toArray, List.getElem_cons_succ, List.getElem_cons_zero]
                    refine wpAnyH_ready (rs := [29]) (by kernel_rfl) (by simp) ?_
                    refine AllReadyH.cons rfl (fun K hK => ?_) AllReadyH.nil
                    go_simp
                    go_at_call 19
                    (with_reducible refine (HN.out W1.drew).mono ?_)
                    rintro e u1 ⟨rfl, b1⟩
                    have C1 : Below W1.heap.size W1 u1 := (Below.refl _ W1).drew.trans b1
                    clear hS
                    dsimp only
                    refine Shut.out hK _ _ (HK.out u1 C1) (fun hS => ?_)
                    try simp only [Act.put, List.setIfInBounds_toArray, List.set_cons_zero, List.set_cons_succ, List.getElem_toArray, List.getElem_cons_succ, List.getElem_cons_zero]
                    refine wpAnyH_take (i := 30) (v := ?gv440) rfl (by kernel_rfl) (by kernel_rfl) (by kernel_rfl) (fun _ _ _ h => h) (Or.inl ⟨by kernel_rfl, ?gy440⟩) ‹_› ?gr440
                    case gy440 => (intro w' hSw; (try dsimp only at hSw); go_simp; (try with_reducible rfl))
                    refine wpAnyH_take (i := 31) (v := ?gv441) rfl (by kernel_rfl) (by kernel_rfl) (by kernel_rfl) (fun _ _ _ h => h) (Or.inl ⟨by kernel_rfl, ?gy441⟩) ‹_› ?gr441
                    case gy441 => (intro w' hSw; (try dsimp only at hSw); go_simp; (try with_reducible rfl))
                    refine wpAnyH_take (i := 32) (v := ?gv442) rfl (by kernel_rfl) (by kernel_rfl) (by kernel_rfl) (fun _ _ _ h => h) (Or.inl ⟨by kernel_rfl, ?gy442⟩) ‹_› ?gr442
                    case gy442 => (intro w' hSw; (try dsimp only at hSw); go_simp; (try with_reducible rfl))
                    refine wpAnyH_take (i := 33) (v := ?gv443) rfl (by kernel_rfl) (by kernel_rfl) (by kernel_rfl) (fun _ _ _ h => h) (Or.inl ⟨by kernel_rfl, ?gy443⟩) ‹_› ?gr443
                    case gy443 => (intro w' hSw; (try dsimp only at hSw); go_simp; (try with_reducible rfl))
                    refine wpAnyH_take (i := 34) (v := ?gv444) rfl (by kernel_rfl) (by kernel_rfl) (by kernel_rfl) (fun _ _ _ h => h) (Or.inl ⟨by kernel_rfl, ?gy444⟩) ‹_› ?gr444
                    case gy444 => (intro w' hSw; (try dsimp only at hSw); go_simp; (try with_reducible rfl))
                    refine wpAnyH_take (i := 35) (v := ?gv445) rfl (by kernel_rfl) (by kernel_rfl) (by kernel_rfl) (fun _ _ _ h => h) (Or.inl ⟨by kernel_rfl, ?gy445⟩) ‹_› ?gr445
                    case gy445 => (intro w' hSw; (try dsimp only at hSw); go_simp; (try with_reducible rfl))
                    refine wpAnyH_take (i := 37) (v := ?gv446) rfl (by kernel_rfl) (by kernel_rfl) (by kernel_rfl) (fun _ _ _ h => h) (Or.inl ⟨by kernel_rfl, ?gy446⟩) ‹_› ?gr446
                    case gy446 => (intro w' hSw; (try dsimp only at hSw); go_simp; (try with_reducible rfl))
                    try simp only [Act.put, List.setIfInBounds_toArray, List.set_cons_zero, List.set_cons_succ, List.getElem_toArray, List.getElem_cons_succ, List.getElem_cons_zero]
                    refine wpAnyH_ready (rs := [36]) (by kernel_rfl) (by simp) ?_
                    refine AllReadyH.cons rfl (fun K hK => ?_) AllReadyH.nil
                    go_simp
                    go_at_call 20
                    (with_reducible refine (HV.out u1 C1).mono ?_)
                    rintro e u2 ⟨rfl, b2⟩
                    have C2 : Below W1.heap.size W1 u2 := C1.trans (b2.mono C1.size)
                    clear hS
                    dsimp only
                    refine Shut.out hK _ _ (HK.out u2 C2) (fun hS => ?_)
                    try simp only [Act.put, List.setIfInBounds_toArray, List.set_cons_zero, List.set_cons_succ, List.getElem_toArray, List.getElem_cons_succ, List.getElem_cons_zero]
                    refine wpAnyH_take (i := 38) (v := ?gv447) rfl (by kernel_rfl) (by kernel_rfl) (by kernel_rfl) (fun _ _ _ h => h) (Or.inl ⟨by kernel_rfl, ?gy447⟩) ‹_› ?gr447
                    case gy447 => (intro w' hSw; (try dsimp only at hSw); go_simp; (try with_reducible rfl))
                    refine wpAnyH_take (i := 39) (v := ?gv448) rfl (by kernel_rfl) (by kernel_rfl) (by kernel_rfl) (fun _ _ _ h => h) (Or.inl ⟨by kernel_rfl, ?gy448⟩) ‹_› ?gr448
                    case gy448 => (intro w' hSw; (try dsimp only at hSw); go_simp; (try with_reducible rfl))
                    refine wpAnyH_take (i := 40) (v := ?gv449) rfl (by kernel_rfl) (by kernel_rfl) (by kernel_rfl) (fun _ _ _ h => h) (Or.inl ⟨by kernel_rfl, ?gy449⟩) ‹_› ?gr449
                    case gy449 => (intro w' hSw; (try dsimp only at hSw); go_simp; (try with_reducible rfl))
                    refine wpAnyH_take (i := 41) (v := ?gv450) rfl (by kernel_rfl) (by kernel_rfl) (by kernel_rfl) (fun _ _ _ h => h) (Or.inl ⟨by kernel_rfl, ?gy450⟩) ‹_› ?gr450
                    case gy450 => (intro w' hSw; (try dsimp only at hSw); go_simp; (try with_reducible rfl))
                    refine wpAnyH_take (i := 42) (v := ?gv451) rfl (by kernel_rfl) (by kernel_rfl) (by kernel_rfl) (fun _ _ _ h => h) (Or.inl ⟨by kernel_rfl, ?gy451⟩) ‹_› ?gr451
                    case gy451 => (intro w' hSw; (try dsimp only at hSw); go_simp; (try with_reducible rfl))
                    try simp only [Act.put, List.setIfInBounds_toArray, List.set_cons_zero, List.set_cons_succ, List.getElem_toArray, List.getElem_cons_succ, List.getElem_cons_zero]
                    refine wpAnyH_ready (rs := [43]) (by kernel_rfl) (by simp) ?_
                    refine AllReadyH.cons rfl (fun K hK => ?_) AllReadyH.nil
                    go_simp
                    go_at_call 18
                    (with_reducible refine (HL.out u2).mono ?_)
                    rintro e u3 ⟨rfl, b3⟩
                    have C3 : Below W1.heap.size W1 u3 := C2.trans (b3.mono C2.size)
                    clear hS
                    dsimp only
                    refine Shut.out hK _ _ (HK.out u3 C3) (fun hS => ?_)
                    try simp only [Act.put, List.setIfInBounds_toArray, List.set_cons_zero, List.set_cons_succ, List.getElem_toArray, List.getElem_cons_succ, List.getElem_cons_zero]
                    refine wpAnyH_take (i := 44) (v := ?gv452) rfl (by kernel_rfl) (by kernel_rfl) (by kernel_rfl) (fun _ _ _ h => h) (Or.inl ⟨by kernel_rfl, ?gy452⟩) ‹_› ?gr452
                    case gy452 => (intro w' hSw; (try dsimp only at hSw); go_simp; (try with_reducible rfl))
                    refine wpAnyH_take (i := 45) (v := ?gv453) rfl (by kernel_rfl) (by kernel_rfl) (by kernel_rfl) (fun _ _ _ h => h) (Or.inl ⟨by kernel_rfl, ?gy453⟩) ‹_› ?gr453
                    case gy453 => (intro w' hSw; (try dsimp only at hSw); go_simp; (try with_reducible rfl))
                    refine wpAnyH_take (i := 46) (v := ?gv454) rfl (by kernel_rfl) (by kernel_rfl) (by kernel_rfl) (fun _ _ _ h => h) (Or.inl ⟨by kernel_rfl, ?gy454⟩) ‹_› ?gr454
                    case gy454 => (intro w' hSw; (try dsimp only at hSw); go_simp; (try with_reducible rfl))
                    refine wpAnyH_take (i := 47) (v := ?gv455) rfl (by kernel_rfl) (by kernel_rfl) (by kernel_rfl) (fun _ _ _ h => h) (Or.inl ⟨by kernel_rfl, ?gy455⟩) ‹_› ?gr455
                    case gy455 => (intro w' hSw; (try dsimp only at hSw); go_simp; (try with_reducible rfl))
                    refine wpAnyH_take (i := 48) (v := ?gv456) rfl (by kernel_rfl) (by kernel_rfl) (by kernel_rfl) (fun _ _ _ h => h) (Or.inl ⟨by kernel_rfl, ?gy456⟩) ‹_› ?gr456
                    case gy456 => (intro w' hSw; (try dsimp only at hSw); go_simp; (try with_reducible rfl))
                    try simp only [Act.put, List.setIfInBounds_toArray, List.set_cons_zero, List.set_cons_succ, List.getElem_toArray, List.getElem_cons_succ, List.getElem_cons_zero]
                    refine wpAnyH_ready (rs := [49]) (by kernel_rfl) (by simp) ?_
                    refine AllReadyH.cons rfl (fun K hK => ?_) AllReadyH.nil
                    go_simp
                    go_at_call 21
                    (with_reducible refine (HT.out u3 C3).mono ?_)
                    rintro e u4 ⟨rfl, b4⟩
                    have C4 : Below W1.heap.size W1 u4 := C3.trans (b4.mono C3.size)
                    clear hS
                    dsimp only
                    refine Shut.out hK _ _ (HK.out u4 C4) (fun hS => ?_)
                    try simp only [Act.put, List.setIfInBounds_toArray, List.set_cons_zero, List.set_cons_succ, List.getElem_toArray, List.getElem_cons_succ, List.getElem_cons_zero]
                    refine wpAnyH_take (i := 50) (v := ?gv457) rfl (by kernel_rfl) (by kernel_rfl) (by kernel_rfl) (fun _ _ _ h => h) (Or.inl ⟨by kernel_rfl, ?gy457⟩) ‹_› ?gr457
                    case gy457 => (intro w' hSw; (try dsimp only at hSw); go_simp; (try with_reducible rfl))
                    refine wpAnyH_take (i := 51) (v := ?gv458) rfl (by kernel_rfl) (by kernel_rfl) (by kernel_rfl) (fun _ _ _ h => h) (Or.inl ⟨by kernel_rfl, ?gy458⟩) ‹_› ?gr458
                    case gy458 => (intro w' hSw; (try dsimp only at hSw); go_simp; (try with_reducible rfl))
                    refine wpAnyH_take (i := 52) (v := ?gv459) rfl (by kernel_rfl) (by kernel_rfl) (by kernel_rfl) (fun _ _ _ h => h) (Or.inl ⟨by kernel_rfl, ?gy459⟩) ‹_› ?gr459
                    case gy459 => (intro w' hSw; (try dsimp only at hSw); go_simp; (try with_reducible rfl))
                    refine wpAnyH_take (i := 53) (v := ?gv460) rfl (by kernel_rfl) (by kernel_rfl) (by kernel_rfl) (fun _ _ _ h => h) (Or.inl ⟨by kernel_rfl, ?gy460⟩) ‹_› ?gr460
                    case gy460 => (intro w' hSw; (try dsimp only at hSw); go_simp; (try with_reducible rfl))
                    refine wpAnyH_take (i := 54) (v := ?gv461) rfl (by kernel_rfl) (by kernel_rfl) (by kernel_rfl) (fun _ _ _ h => h) (Or.inl ⟨by kernel_rfl, ?gy461⟩) ‹_› ?gr461
                    case gy461 => (intro w' hSw; (try dsimp only at hSw); go_simp; (try with_reducible rfl))
                    refine wpAnyH_take (i := 56) (v := ?gv462) rfl (by kernel_rfl) (by kernel_rfl) (by kernel_rfl) (fun _ _ _ h => h) (Or.inl ⟨by kernel_rfl, ?gy462⟩) ‹_› ?gr462
                    case gy462 => (intro w' hSw; (try dsimp only at hSw); go_simp; (try with_reducible rfl))
                    refine wpAnyH_take (i := 57) (v := ?gv463) rfl (by kernel_rfl) (by kernel_rfl) (by kernel_rfl) (fun _ _ _ h => h) (Or.inl ⟨by kernel_rfl, ?gy463⟩) ‹_› ?gr463
                    case gy463 => (intro w' hSw; (try dsimp only at hSw); go_simp; (try with_reducible rfl))
                    try simp only [Act.put, List.setIfInBounds_toArray, List.set_cons_zero, List.set_cons_succ, List.getElem_toArray, List.getElem_cons_succ, List.getElem_cons_zero]
                    refine wpAnyH_ready (rs := [55]) (by kernel_rfl) (by simp) ?_
                    refine AllReadyH.cons rfl (fun K hK => ?_) AllReadyH.nil
                    go_simp
                    go_at_call 22
                    (with_reducible refine (HU.out u4 C4).mono ?_)
                    rintro e u5 ⟨rfl, b5⟩
                    have C5 : Below W1.heap.size W1 u5 := C4.trans (b5.mono C4.size)
                    clear hS
                    dsimp only
                    refine Shut.out hK _ _ (HK.out u5 C5) (fun hS => ?_)
                    try simp only [Act.put, List.setIfInBounds_toArray, List.set_cons_zero, List.set_cons_succ, List.getElem_toArray, List.getElem_cons_succ, List.getElem_cons_zero]
                    refine wpAnyH_take (i := 58) (v := ?gv464) rfl (by kernel_rfl) (by kernel_rfl) (by kernel_rfl) (fun _ _ _ h => h) (Or.inl ⟨by kernel_rfl, ?gy464⟩) ‹_› ?gr464
                    case gy464 => (intro w' hSw; (try dsimp only at hSw); go_simp; (try with_reducible rfl))
                    refine wpAnyH_take (i := 59) (v := ?gv465) rfl (by kernel_rfl) (by kernel_rfl) (by kernel_rfl) (fun _ _ _ h => h) (Or.inl ⟨by kernel_rfl, ?gy465⟩) ‹_› ?gr465
                    case gy465 => (intro w' hSw; (try dsimp only at hSw); go_simp; (try with_reducible rfl))
                    try simp only [Act.put, List.setIfInBounds_toArray, List.set_cons_zero, List.set_cons_succ, List.getElem_toArray, List.getElem_cons_succ, List.getElem_cons_zero]
                    refine wpAnyH_done (by kernel_rfl) (NoPanic.normal ?_) _
                    have hfb : Hid _ := HB1.out.trans (C5.mono HB1.out.size)
                    go_wp2
                    go_ret
                    exact ⟨ret_bool hend.out, B0.trans (hfb.out.mono hws)⟩
                  have hud : decide ((us : Int) ≤ limit) = true := decide_eq_true hul
                  have hud2 : ¬ (us : Int) > limit := by omega
                  have hnx : Hid _ := hnext.out (by rw [HGD.out, hud]; simp [hi1, hi2])
                  refine wp_region_noPanic ?_
                  refine wp_region_held_drew (S := fun W : World => W.cell? ⟨w.heap.size, 0, none⟩ = some (.slice (some ⟨b, off, none⟩) n cap) ∧ W.cell? ⟨w.heap.size, 1, none⟩ = some (.int .i64 nx) ∧ W.cell? ⟨X, 0, none⟩ = some (.int .i64 id) ∧ W.cell? ⟨X, 1, none⟩ = some (.string name) ∧ W.cell? ⟨X, 2, none⟩ = some (.bool ro) ∧ W.cell? ⟨X, 3, none⟩ = some (.int .i64 limit) ∧ W.cell? ⟨X, 4, none⟩ = some (.slice ra n1 rc) ∧ W.cell? ⟨X, 5, none⟩ = some (.int .i64 rnx) ∧ W.cell? ⟨b, off + j * 6, none⟩ = some (.int .i64 pid)) (by kernel_rfl) (by go_keep) (fun hS => ?_)
                  refine wpAnyH_take (i := 0) (v := ?gv466) rfl (by kernel_rfl) (by kernel_rfl) (by kernel_rfl) (fun _ _ _ h => h) (Or.inl ⟨by kernel_rfl, ?gy466⟩) ‹_› ?gr466
                  case gy466 => (intro w' hSw; (try dsimp only at hSw); go_simp; (try with_reducible rfl))
                  refine wpAnyH_take (i := 1) (v := ?gv467) rfl (by kernel_rfl) (by kernel_rfl) (by kernel_rfl) (fun _ _ _ h => h) (Or.inl ⟨by kernel_rfl, ?gy467⟩) ‹_› ?gr467
                  case gy467 => (intro w' hSw; (try dsimp only at hSw); go_simp; (try with_reducible rfl))
                  refine wpAnyH_take (i := 2) (v := ?gv468) rfl (by kernel_rfl) (by kernel_rfl) (by kernel_rfl) (fun _ _ _ h => h) (Or.inl ⟨by kernel_rfl, ?gy468⟩) ‹_› ?gr468
                  case gy468 => (intro w' hSw; (try dsimp only at hSw); go_simp; (try with_reducible rfl))
                  refine wpAnyH_take (i := 3) (v := ?gv469) rfl (by kernel_rfl) (by kernel_rfl) (by kernel_rfl) (fun _ _ _ h => h) (Or.inl ⟨by kernel_rfl, ?gy469⟩) ‹_› ?gr469
                  case gy469 => (intro w' hSw; (try dsimp only at hSw); go_simp; (try with_reducible rfl))
                  refine wpAnyH_take (i := 4) (v := ?gv470) rfl (by kernel_rfl) (by kernel_rfl) (by kernel_rfl) (fun _ _ _ h => h) (Or.inl ⟨by kernel_rfl, ?gy470⟩) ‹_› ?gr470
                  case gy470 => (intro w' hSw; (try dsimp only at hSw); go_simp; (try with_reducible rfl))
                  refine wpAnyH_take (i := 5) (v := ?gv471) rfl (by kernel_rfl) (by kernel_rfl) (by kernel_rfl) (fun _ _ _ h => h) (Or.inl ⟨by kernel_rfl, ?gy471⟩) ‹_› ?gr471
                  case gy471 => (intro w' hSw; (try dsimp only at hSw); go_simp; (try with_reducible rfl))
                  refine wpAnyH_take (i := 6) (v := ?gv472) rfl (by kernel_rfl) (by kernel_rfl) (by kernel_rfl) (fun _ _ _ h => h) (Or.inl ⟨by kernel_rfl, ?gy472⟩) ‹_› ?gr472
                  case gy472 => (intro w' hSw; (try dsimp only at hSw); go_simp; (try with_reducible rfl))
                  refine wpAnyH_take (i := 7) (v := ?gv473) rfl (by kernel_rfl) (by kernel_rfl) (by kernel_rfl) (fun _ _ _ h => h) (Or.inl ⟨by kernel_rfl, ?gy473⟩) ‹_› ?gr473
                  case gy473 => (intro w' hSw; (try dsimp only at hSw); go_simp; (try with_reducible rfl))
                  refine wpAnyH_take (i := 8) (v := ?gv474) rfl (by kernel_rfl) (by kernel_rfl) (by kernel_rfl) (fun _ _ _ h => h) (Or.inl ⟨by kernel_rfl, ?gy474⟩) ‹_› ?gr474
                  case gy474 => (intro w' hSw; (try dsimp only at hSw); go_simp; (try with_reducible rfl))
                  refine wpAnyH_take (i := 9) (v := ?gv475) rfl (by kernel_rfl) (by kernel_rfl) (by kernel_rfl) (fun _ _ _ h => h) (Or.inl ⟨by kernel_rfl, ?gy475⟩) ‹_› ?gr475
                  case gy475 => (intro w' hSw; (try dsimp only at hSw); go_simp; (try with_reducible rfl))
                  refine wpAnyH_take (i := 10) (v := ?gv476) rfl (by kernel_rfl) (by kernel_rfl) (by kernel_rfl) (fun _ _ _ h => h) (Or.inl ⟨by kernel_rfl, ?gy476⟩) ‹_› ?gr476
                  case gy476 => (intro w' hSw; (try dsimp only at hSw); go_simp; (try with_reducible rfl))
                  refine wpAnyH_take (i := 11) (v := ?gv477) rfl (by kernel_rfl) (by kernel_rfl) (by kernel_rfl) (fun _ _ _ h => h) (Or.inl ⟨by kernel_rfl, ?gy477⟩) ‹_› ?gr477
                  case gy477 => (intro w' hSw; (try dsimp only at hSw); go_simp; (try with_reducible rfl))
                  refine wpAnyH_take (i := 12) (v := ?gv478) rfl (by kernel_rfl) (by kernel_rfl) (by kernel_rfl) (fun _ _ _ h => h) (Or.inl ⟨by kernel_rfl, ?gy478⟩) ‹_› ?gr478
                  case gy478 => (intro w' hSw; (try dsimp only at hSw); go_simp; (try with_reducible rfl))
                  refine wpAnyH_take (i := 13) (v := ?gv479) rfl (by kernel_rfl) (by kernel_rfl) (by kernel_rfl) (fun _ _ _ h => h) (Or.inl ⟨by kernel_rfl, ?gy479⟩) ‹_› ?gr479
                  case gy479 => (intro w' hSw; (try dsimp only at hSw); go_simp; (try with_reducible rfl))
                  refine wpAnyH_take (i := 14) (v := ?gv480) rfl (by kernel_rfl) (by kernel_rfl) (by kernel_rfl) (fun _ _ _ h => h) (Or.inl ⟨by kernel_rfl, ?gy480⟩) ‹_› ?gr480
                  case gy480 => (intro w' hSw; (try dsimp only at hSw); go_simp; (try with_reducible rfl))
                  refine wpAnyH_take (i := 15) (v := ?gv481) rfl (by kernel_rfl) (by kernel_rfl) (by kernel_rfl) (fun _ _ _ h => h) (Or.inl ⟨by kernel_rfl, ?gy481⟩) ‹_› ?gr481
                  case gy481 => (intro w' hSw; (try dsimp only at hSw); go_simp; (try with_reducible rfl))
                  refine wpAnyH_take (i := 16) (v := ?gv482) rfl (by kernel_rfl) (by kernel_rfl) (by kernel_rfl) (fun _ _ _ h => h) (Or.inl ⟨by kernel_rfl, ?gy482⟩) ‹_› ?gr482
                  case gy482 => (intro w' hSw; (try dsimp only at hSw); go_simp; (try with_reducible rfl))
                  refine wpAnyH_take (i := 17) (v := ?gv483) rfl (by kernel_rfl) (by kernel_rfl) (by kernel_rfl) (fun _ _ _ h => h) (Or.inl ⟨by kernel_rfl, ?gy483⟩) ‹_› ?gr483
                  case gy483 => (intro w' hSw; (try dsimp only at hSw); go_simp; (try with_reducible rfl))
                  refine wpAnyH_take (i := 18) (v := ?gv484) rfl (by kernel_rfl) (by kernel_rfl) (by kernel_rfl) (fun _ _ _ h => h) (Or.inl ⟨by kernel_rfl, ?gy484⟩) ‹_› ?gr484
                  case gy484 => (intro w' hSw; (try dsimp only at hSw); go_simp; (try with_reducible rfl))
                  refine wpAnyH_take (i := 19) (v := ?gv485) rfl (by kernel_rfl) (by kernel_rfl) (by kernel_rfl) (fun _ _ _ h => h) (Or.inl ⟨by kernel_rfl, ?gy485⟩) ‹_› ?gr485
                  case gy485 => (intro w' hSw; (try dsimp only at hSw); go_simp; (try with_reducible rfl))
                  refine wpAnyH_take (i := 20) (v := ?gv486) rfl (by kernel_rfl) (by kernel_rfl) (by kernel_rfl) (fun _ _ _ h => h) (Or.inl ⟨by kernel_rfl, ?gy486⟩) ‹_› ?gr486
                  case gy486 => (intro w' hSw; (try dsimp only at hSw); go_simp; (try with_reducible rfl))
                  refine wpAnyH_take (i := 21) (v := ?gv487) rfl (by kernel_rfl) (by kernel_rfl) (by kernel_rfl) (fun _ _ _ h => h) (Or.inl ⟨by kernel_rfl, ?gy487⟩) ‹_› ?gr487
                  case gy487 => (intro w' hSw; (try dsimp only at hSw); go_simp; (try with_reducible rfl))
                  refine wpAnyH_take (i := 22) (v := ?gv488) rfl (by kernel_rfl) (by kernel_rfl) (by kernel_rfl) (fun _ _ _ h => h) (Or.inl ⟨by kernel_rfl, ?gy488⟩) ‹_› ?gr488
                  case gy488 => (intro w' hSw; (try dsimp only at hSw); go_simp; (try with_reducible rfl))
                  refine wpAnyH_take (i := 23) (v := ?gv489) rfl (by kernel_rfl) (by kernel_rfl) (by kernel_rfl) (fun _ _ _ h => h) (Or.inl ⟨by kernel_rfl, ?gy489⟩) ‹_› ?gr489
                  case gy489 => (intro w' hSw; (try dsimp only at hSw); go_simp; (try with_reducible rfl))
                  refine wpAnyH_take (i := 24) (v := ?gv490) rfl (by kernel_rfl) (by kernel_rfl) (by kernel_rfl) (fun _ _ _ h => h) (Or.inl ⟨by kernel_rfl, ?gy490⟩) ‹_› ?gr490
                  case gy490 => (intro w' hSw; (try dsimp only at hSw); go_simp; (try with_reducible rfl))
                  refine wpAnyH_take (i := 25) (v := ?gv491) rfl (by kernel_rfl) (by kernel_rfl) (by kernel_rfl) (fun _ _ _ h => h) (Or.inl ⟨by kernel_rfl, ?gy491⟩) ‹_› ?gr491
                  case gy491 => (intro w' hSw; (try dsimp only at hSw); go_simp; (try with_reducible rfl))
                  refine wpAnyH_take (i := 26) (v := ?gv492) rfl (by kernel_rfl) (by kernel_rfl) (by kernel_rfl) (fun _ _ _ h => h) (Or.inl ⟨by kernel_rfl, ?gy492⟩) ‹_› ?gr492
                  case gy492 => (intro w' hSw; (try dsimp only at hSw); go_simp; (try with_reducible rfl))
                  refine wpAnyH_take (i := 27) (v := ?gv493) rfl (by kernel_rfl) (by kernel_rfl) (by kernel_rfl) (fun _ _ _ h => h) (Or.inl ⟨by kernel_rfl, ?gy493⟩) ‹_› ?gr493
                  case gy493 => (intro w' hSw; (try dsimp only at hSw); go_simp; (try with_reducible rfl))
                  refine wpAnyH_take (i := 28) (v := ?gv494) rfl (by kernel_rfl) (by kernel_rfl) (by kernel_rfl) (fun _ _ _ h => h) (Or.inl ⟨by kernel_rfl, ?gy494⟩) ‹_› ?gr494
                  case gy494 => (intro w' hSw; (try dsimp only at hSw); go_simp; (try with_reducible rfl))
                  try simp only [Act.put, List.setIfInBounds_toArray, List.set_cons_zero, List.set_cons_succ, List.getElem_toArray, List.getElem_cons_succ, List.getElem_cons_zero]
                  refine wpAnyH_ready (rs := [29]) (by kernel_rfl) (by simp) ?_
                  refine AllReadyH.cons rfl (fun K hK => ?_) AllReadyH.nil
                  go_simp
                  go_at_call 19
                  (with_reducible refine (HN.out W1.drew).mono ?_)
                  rintro e u1 ⟨rfl, b1⟩
                  have C1 : Below W1.heap.size W1 u1 := (Below.refl _ W1).drew.trans b1
                  clear hS
                  dsimp only
                  refine Shut.out hK _ _ (HK.out u1 C1) (fun hS => ?_)
                  try simp only [Act.put, List.setIfInBounds_toArray, List.set_cons_zero, List.set_cons_succ, List.getElem_toArray, List.getElem_cons_succ, List.getElem_cons_zero]
                  refine wpAnyH_take (i := 30) (v := ?gv495) rfl (by kernel_rfl) (by kernel_rfl) (by kernel_rfl) (fun _ _ _ h => h) (Or.inl ⟨by kernel_rfl, ?gy495⟩) ‹_› ?gr495
                  case gy495 => (intro w' hSw; (try dsimp only at hSw); go_simp; (try with_reducible rfl))
                  refine wpAnyH_take (i := 31) (v := ?gv496) rfl (by kernel_rfl) (by kernel_rfl) (by kernel_rfl) (fun _ _ _ h => h) (Or.inl ⟨by kernel_rfl, ?gy496⟩) ‹_› ?gr496
                  case gy496 => (intro w' hSw; (try dsimp only at hSw); go_simp; (try with_reducible rfl))
                  refine wpAnyH_take (i := 32) (v := ?gv497) rfl (by kernel_rfl) (by kernel_rfl) (by kernel_rfl) (fun _ _ _ h => h) (Or.inl ⟨by kernel_rfl, ?gy497⟩) ‹_› ?gr497
                  case gy497 => (intro w' hSw; (try dsimp only at hSw); go_simp; (try with_reducible rfl))
                  refine wpAnyH_take (i := 33) (v := ?gv498) rfl (by kernel_rfl) (by kernel_rfl) (by kernel_rfl) (fun _ _ _ h => h) (Or.inl ⟨by kernel_rfl, ?gy498⟩) ‹_› ?gr498
                  case gy498 => (intro w' hSw; (try dsimp only at hSw); go_simp; (try with_reducible rfl))
                  refine wpAnyH_take (i := 34) (v := ?gv499) rfl (by kernel_rfl) (by kernel_rfl) (by kernel_rfl) (fun _ _ _ h => h) (Or.inl ⟨by kernel_rfl, ?gy499⟩) ‹_› ?gr499
                  case gy499 => (intro w' hSw; (try dsimp only at hSw); go_simp; (try with_reducible rfl))
                  refine wpAnyH_take (i := 35) (v := ?gv500) rfl (by kernel_rfl) (by kernel_rfl) (by kernel_rfl) (fun _ _ _ h => h) (Or.inl ⟨by kernel_rfl, ?gy500⟩) ‹_› ?gr500
                  case gy500 => (intro w' hSw; (try dsimp only at hSw); go_simp; (try with_reducible rfl))
                  refine wpAnyH_take (i := 37) (v := ?gv501) rfl (by kernel_rfl) (by kernel_rfl) (by kernel_rfl) (fun _ _ _ h => h) (Or.inl ⟨by kernel_rfl, ?gy501⟩) ‹_› ?gr501
                  case gy501 => (intro w' hSw; (try dsimp only at hSw); go_simp; (try with_reducible rfl))
                  try simp only [Act.put, List.setIfInBounds_toArray, List.set_cons_zero, List.set_cons_succ, List.getElem_toArray, List.getElem_cons_succ, List.getElem_cons_zero]
                  refine wpAnyH_ready (rs := [36]) (by kernel_rfl) (by simp) ?_
                  refine AllReadyH.cons rfl (fun K hK => ?_) AllReadyH.nil
                  go_simp
                  go_at_call 20
                  (with_reducible refine (HV.out u1 C1).mono ?_)
                  rintro e u2 ⟨rfl, b2⟩
                  have C2 : Below W1.heap.size W1 u2 := C1.trans (b2.mono C1.size)
                  clear hS
                  dsimp only
                  refine Shut.out hK _ _ (HK.out u2 C2) (fun hS => ?_)
                  try simp only [Act.put, List.setIfInBounds_toArray, List.set_cons_zero, List.set_cons_succ, List.getElem_toArray, List.getElem_cons_succ, List.getElem_cons_zero]
                  refine wpAnyH_take (i := 38) (v := ?gv502) rfl (by kernel_rfl) (by kernel_rfl) (by kernel_rfl) (fun _ _ _ h => h) (Or.inl ⟨by kernel_rfl, ?gy502⟩) ‹_› ?gr502
                  case gy502 => (intro w' hSw; (try dsimp only at hSw); go_simp; (try with_reducible rfl))
                  refine wpAnyH_take (i := 39) (v := ?gv503) rfl (by kernel_rfl) (by kernel_rfl) (by kernel_rfl) (fun _ _ _ h => h) (Or.inl ⟨by kernel_rfl, ?gy503⟩) ‹_› ?gr503
                  case gy503 => (intro w' hSw; (try dsimp only at hSw); go_simp; (try with_reducible rfl))
                  refine wpAnyH_take (i := 40) (v := ?gv504) rfl (by kernel_rfl) (by kernel_rfl) (by kernel_rfl) (fun _ _ _ h => h) (Or.inl ⟨by kernel_rfl, ?gy504⟩) ‹_› ?gr504
                  case gy504 => (intro w' hSw; (try dsimp only at hSw); go_simp; (try with_reducible rfl))
                  refine wpAnyH_take (i := 41) (v := ?gv505) rfl (by kernel_rfl) (by kernel_rfl) (by kernel_rfl) (fun _ _ _ h => h) (Or.inl ⟨by kernel_rfl, ?gy505⟩) ‹_› ?gr505
                  case gy505 => (intro w' hSw; (try dsimp only at hSw); go_simp; (try with_reducible rfl))
                  refine wpAnyH_take (i := 42) (v := ?gv506) rfl (by kernel_rfl) (by kernel_rfl) (by kernel_rfl) (fun _ _ _ h => h) (Or.inl ⟨by kernel_rfl, ?gy506⟩) ‹_› ?gr506
                  case gy506 => (intro w' hSw; (try dsimp only at hSw); go_simp; (try with_reducible rfl))
                  try simp only [Act.put, List.setIfInBounds_toArray, List.set_cons_zero, List.set_cons_succ, List.getElem_toArray, List.getElem_cons_succ, List.getElem_cons_zero]
                  refine wpAnyH_ready (rs := [43]) (by kernel_rfl) (by simp) ?_
                  refine AllReadyH.cons rfl (fun K hK => ?_) AllReadyH.nil
                  go_simp
                  go_at_call 18
                  (with_reducible refine (HL.out u2).mono ?_)
                  rintro e u3 ⟨rfl, b3⟩
                  have C3 : Below W1.heap.size W1 u3 := C2.trans (b3.mono C2.size)
                  clear hS
                  dsimp only
                  refine Shut.out hK _ _ (HK.out u3 C3) (fun hS => ?_)
                  try simp only [Act.put, List.setIfInBounds_toArray, List.set_cons_zero, List.set_cons_succ, List.getElem_toArray, List.getElem_cons_succ, List.getElem_cons_zero]
                  refine wpAnyH_take (i := 44) (v := ?gv507) rfl (by kernel_rfl) (by kernel_rfl) (by kernel_rfl) (fun _ _ _ h => h) (Or.inl ⟨by kernel_rfl, ?gy507⟩) ‹_› ?gr507
                  case gy507 => (intro w' hSw; (try dsimp only at hSw); go_simp; (try with_reducible rfl))
                  refine wpAnyH_take (i := 45) (v := ?gv508) rfl (by kernel_rfl) (by kernel_rfl) (by kernel_rfl) (fun _ _ _ h => h) (Or.inl ⟨by kernel_rfl, ?gy508⟩) ‹_› ?gr508
                  case gy508 => (intro w' hSw; (try dsimp only at hSw); go_simp; (try with_reducible rfl))
                  refine wpAnyH_take (i := 46) (v := ?gv509) rfl (by kernel_rfl) (by kernel_rfl) (by kernel_rfl) (fun _ _ _ h => h) (Or.inl ⟨by kernel_rfl, ?gy509⟩) ‹_› ?gr509
                  case gy509 => (intro w' hSw; (try dsimp only at hSw); go_simp; (try with_reducible rfl))
                  refine wpAnyH_take (i := 47) (v := ?gv510) rfl (by kernel_rfl) (by kernel_rfl) (by kernel_rfl) (fun _ _ _ h => h) (Or.inl ⟨by kernel_rfl, ?gy510⟩) ‹_› ?gr510
                  case gy510 => (intro w' hSw; (try dsimp only at hSw); go_simp; (try with_reducible rfl))
                  refine wpAnyH_take (i := 48) (v := ?gv511) rfl (by kernel_rfl) (by kernel_rfl) (by kernel_rfl) (fun _ _ _ h => h) (Or.inl ⟨by kernel_rfl, ?gy511⟩) ‹_› ?gr511
                  case gy511 => (intro w' hSw; (try dsimp only at hSw); go_simp; (try with_reducible rfl))
                  try simp only [Act.put, List.setIfInBounds_toArray, List.set_cons_zero, List.set_cons_succ, List.getElem_toArray, List.getElem_cons_succ, List.getElem_cons_zero]
                  refine wpAnyH_ready (rs := [49]) (by kernel_rfl) (by simp) ?_
                  refine AllReadyH.cons rfl (fun K hK => ?_) AllReadyH.nil
                  go_simp
                  go_at_call 21
                  (with_reducible refine (HT.out u3 C3).mono ?_)
                  rintro e u4 ⟨rfl, b4⟩
                  have C4 : Below W1.heap.size W1 u4 := C3.trans (b4.mono C3.size)
                  clear hS
                  dsimp only
                  refine Shut.out hK _ _ (HK.out u4 C4) (fun hS => ?_)
                  try simp only [Act.put, List.setIfInBounds_toArray, List.set_cons_zero, List.set_cons_succ, List.getElem_toArray, List.getElem_cons_succ, List.getElem_cons_zero]
                  refine wpAnyH_take (i := 50) (v := ?gv512) rfl (by kernel_rfl) (by kernel_rfl) (by kernel_rfl) (fun _ _ _ h => h) (Or.inl ⟨by kernel_rfl, ?gy512⟩) ‹_› ?gr512
                  case gy512 => (intro w' hSw; (try dsimp only at hSw); go_simp; (try with_reducible rfl))
                  refine wpAnyH_take (i := 51) (v := ?gv513) rfl (by kernel_rfl) (by kernel_rfl) (by kernel_rfl) (fun _ _ _ h => h) (Or.inl ⟨by kernel_rfl, ?gy513⟩) ‹_› ?gr513
                  case gy513 => (intro w' hSw; (try dsimp only at hSw); go_simp; (try with_reducible rfl))
                  refine wpAnyH_take (i := 52) (v := ?gv514) rfl (by kernel_rfl) (by kernel_rfl) (by kernel_rfl) (fun _ _ _ h => h) (Or.inl ⟨by kernel_rfl, ?gy514⟩) ‹_› ?gr514
                  case gy514 => (intro w' hSw; (try dsimp only at hSw); go_simp; (try with_reducible rfl))
                  refine wpAnyH_take (i := 53) (v := ?gv515) rfl (by kernel_rfl) (by kernel_rfl) (by kernel_rfl) (fun _ _ _ h => h) (Or.inl ⟨by kernel_rfl, ?gy515⟩) ‹_› ?gr515
                  case gy515 => (intro w' hSw; (try dsimp only at hSw); go_simp; (try with_reducible rfl))
                  refine wpAnyH_take (i := 54) (v := ?gv516) rfl (by kernel_rfl) (by kernel_rfl) (by kernel_rfl) (fun _ _ _ h => h) (Or.inl ⟨by kernel_rfl, ?gy516⟩) ‹_› ?gr516
                  case gy516 => (intro w' hSw; (try dsimp only at hSw); go_simp; (try with_reducible rfl))
                  refine wpAnyH_take (i := 56) (v := ?gv517) rfl (by kernel_rfl) (by kernel_rfl) (by kernel_rfl) (fun _ _ _ h => h) (Or.inl ⟨by kernel_rfl, ?gy517⟩) ‹_› ?gr517
                  case gy517 => (intro w' hSw; (try dsimp only at hSw); go_simp; (try with_reducible rfl))
                  refine wpAnyH_take (i := 57) (v := ?gv518) rfl (by kernel_rfl) (by kernel_rfl) (by kernel_rfl) (fun _ _ _ h => h) (Or.inl ⟨by kernel_rfl, ?gy518⟩) ‹_› ?gr518
                  case gy518 => (intro w' hSw; (try dsimp only at hSw); go_simp; (try with_reducible rfl))
                  try simp only [Act.put, List.setIfInBounds_toArray, List.set_cons_zero, List.set_cons_succ, List.getElem_toArray, List.getElem_cons_succ, List.getElem_cons_zero]
                  refine wpAnyH_ready (rs := [55]) (by kernel_rfl) (by simp) ?_
                  refine AllReadyH.cons rfl (fun K hK => ?_) AllReadyH.nil
                  go_simp
                  go_at_call 22
                  (with_reducible refine (HU.out u4 C4).mono ?_)
                  rintro e u5 ⟨rfl, b5⟩
                  have C5 : Below W1.heap.size W1 u5 := C4.trans (b5.mono C4.size)
                  clear hS
                  dsimp only
                  refine Shut.out hK _ _ (HK.out u5 C5) (fun hS => ?_)
                  try simp only [Act.put, List.setIfInBounds_toArray, List.set_cons_zero, List.set_cons_succ, List.getElem_toArray, List.getElem_cons_succ, List.getElem_cons_zero]
                  refine wpAnyH_take (i := 58) (v := ?gv519) rfl (by kernel_rfl) (by kernel_rfl) (by kernel_rfl) (fun _ _ _ h => h) (Or.inl ⟨by kernel_rfl, ?gy519⟩) ‹_› ?gr519
                  case gy519 => (intro w' hSw; (try dsimp only at hSw); go_simp; (try with_reducible rfl))
                  refine wpAnyH_take (i := 59) (v := ?gv520) rfl (by kernel_rfl) (by kernel_rfl) (by kernel_rfl) (fun _ _ _ h => h) (Or.inl ⟨by kernel_rfl, ?gy520⟩) ‹_› ?gr520
                  case gy520 => (intro w' hSw; (try dsimp only at hSw); go_simp; (try with_reducible rfl))
                  try simp only [Act.put, List.setIfInBounds_toArray, List.set_cons_zero, List.set_cons_succ, List.getElem_toArray, List.getElem_cons_succ, List.getElem_cons_zero]
                  refine wpAnyH_done (by kernel_rfl) (NoPanic.normal ?_) _
                  have hfb : Below W0.heap.size W0 u5 := HB1.out.trans (C5.mono HB1.out.size)
                  go_wp2
                  go_roundw
                  case rel => exact ⟨(j + 1 : Nat) + 1, by omega, by go_num, hnx, hasc, hfb⟩
                  case measure => simp [intOf]; omega
                · have hpo' : pid ≥ id := by omega
                  have hpo'' : id ≤ pid := by omega
                  have hend : Hid (false = R) := HORD.out.1 hpo''
                  refine wp_region_noPanic ?_
                  refine wp_region_held_drew (S := fun W : World => W.cell? ⟨w.heap.size, 0, none⟩ = some (.slice (some ⟨b, off, none⟩) n cap) ∧ W.cell? ⟨w.heap.size, 1, none⟩ = some (.int .i64 nx) ∧ W.cell? ⟨X, 0, none⟩ = some (.int .i64 id) ∧ W.cell? ⟨X, 1, none⟩ = some (.string name) ∧ W.cell? ⟨X, 2, none⟩ = some (.bool ro) ∧ W.cell? ⟨X, 3, none⟩ = some (.int .i64 limit) ∧ W.cell? ⟨X, 4, none⟩ = some (.slice ra n1 rc) ∧ W.cell? ⟨X, 5, none⟩ = some (.int .i64 rnx) ∧ W.cell? ⟨b, off + j * 6, none⟩ = some (.int .i64 pid)) (by kernel_rfl) (by go_keep) (fun hS => ?_)
                  refine wpAnyH_take (i := 0) (v := ?gv521) rfl (by kernel_rfl) (by kernel_rfl) (by kernel_rfl) (fun _ _ _ h => h) (Or.inl ⟨by kernel_rfl, ?gy521⟩) ‹_› ?gr521
                  case gy521 => (intro w' hSw; (try dsimp only at hSw); go_simp; (try with_reducible rfl))
                  refine wpAnyH_take (i := 1) (v := ?gv522) rfl (by kernel_rfl) (by kernel_rfl) (by kernel_rfl) (fun _ _ _ h => h) (Or.inl ⟨by kernel_rfl, ?gy522⟩) ‹_› ?gr522
                  case gy522 => (intro w' hSw; (try dsimp only at hSw); go_simp; (try with_reducible rfl))
                  refine wpAnyH_take (i := 2) (v := ?gv523) rfl (by kernel_rfl) (by kernel_rfl) (by kernel_rfl) (fun _ _ _ h => h) (Or.inl ⟨by kernel_rfl, ?gy523⟩) ‹_› ?gr523
                  case gy523 => (intro w' hSw; (try dsimp only at hSw); go_simp; (try with_reducible rfl))
                  refine wpAnyH_take (i := 3) (v := ?gv524) rfl (by kernel_rfl) (by kernel_rfl) (by kernel_rfl) (fun _ _ _ h => h) (Or.inl ⟨by kernel_rfl, ?gy524⟩) ‹_› ?gr524
                  case gy524 => (intro w' hSw; (try dsimp only at hSw); go_simp; (try with_reducible rfl))
                  refine wpAnyH_take (i := 4) (v := ?gv525) rfl (by kernel_rfl) (by kernel_rfl) (by kernel_rfl) (fun _ _ _ h => h) (Or.inl ⟨by kernel_rfl, ?gy525⟩) ‹_› ?gr525
                  case gy525 => (intro w' hSw; (try dsimp only at hSw); go_simp; (try with_reducible rfl))
                  refine wpAnyH_take (i := 5) (v := ?gv526) rfl (by kernel_rfl) (by kernel_rfl) (by kernel_rfl) (fun _ _ _ h => h) (Or.inl ⟨by kernel_rfl, ?gy526⟩) ‹_› ?gr526
                  case gy526 => (intro w' hSw; (try dsimp only at hSw); go_simp; (try with_reducible rfl))
                  refine wpAnyH_take (i := 6) (v := ?gv527) rfl (by kernel_rfl) (by kernel_rfl) (by kernel_rfl) (fun _ _ _ h => h) (Or.inl ⟨by kernel_rfl, ?gy527⟩) ‹_› ?gr527
                  case gy527 => (intro w' hSw; (try dsimp only at hSw); go_simp; (try with_reducible rfl))
                  refine wpAnyH_take (i := 7) (v := ?gv528) rfl (by kernel_rfl) (by kernel_rfl) (by kernel_rfl) (fun _ _ _ h => h) (Or.inl ⟨by kernel_rfl, ?gy528⟩) ‹_› ?gr528
                  case gy528 => (intro w' hSw; (try dsimp only at hSw); go_simp; (try with_reducible rfl))
                  refine wpAnyH_take (i := 8) (v := ?gv529) rfl (by kernel_rfl) (by kernel_rfl) (by kernel_rfl) (fun _ _ _ h => h) (Or.inl ⟨by kernel_rfl, ?gy529⟩) ‹_› ?gr529
                  case gy529 => (intro w' hSw; (try dsimp only at hSw); go_simp; (try with_reducible rfl))
                  refine wpAnyH_take (i := 9) (v := ?gv530) rfl (by kernel_rfl) (by kernel_rfl) (by kernel_rfl) (fun _ _ _ h => h) (Or.inl ⟨by kernel_rfl, ?gy530⟩) ‹_› ?gr530
                  case gy530 => (intro w' hSw; (try dsimp only at hSw); go_simp; (try with_reducible rfl))
                  refine wpAnyH_take (i := 10) (v := ?gv531) rfl (by kernel_rfl) (by kernel_rfl) (by kernel_rfl) (fun _ _ _ h => h) (Or.inl ⟨by kernel_rfl, ?gy531⟩) ‹_› ?gr531
                  case gy531 => (intro w' hSw; (try dsimp only at hSw); go_simp; (try with_reducible rfl))
                  refine wpAnyH_take (i := 11) (v := ?gv532) rfl (by kernel_rfl) (by kernel_rfl) (by kernel_rfl) (fun _ _ _ h => h) (Or.inl ⟨by kernel_rfl, ?gy532⟩) ‹_› ?gr532
                  case gy532 => (intro w' hSw; (try dsimp only at hSw); go_simp; (try with_reducible rfl))
                  refine wpAnyH_take (i := 12) (v := ?gv533) rfl (by kernel_rfl) (by kernel_rfl) (by kernel_rfl) (fun _ _ _ h => h) (Or.inl ⟨by kernel_rfl, ?gy533⟩) ‹_› ?gr533
                  case gy533 => (intro w' hSw; (try dsimp only at hSw); go_simp; (try with_reducible rfl))
                  refine wpAnyH_take (i := 13) (v := ?gv534) rfl (by kernel_rfl) (by kernel_rfl) (by kernel_rfl) (fun _ _ _ h => h) (Or.inl ⟨by kernel_rfl, ?gy534⟩) ‹_› ?gr534
                  case gy534 => (intro w' hSw; (try dsimp only at hSw); go_simp; (try with_reducible rfl))
                  refine wpAnyH_take (i := 14) (v := ?gv535) rfl (by kernel_rfl) (by kernel_rfl) (by kernel_rfl) (fun _ _ _ h => h) (Or.inl ⟨by kernel_rfl, ?gy535⟩) ‹_› ?gr535
                  case gy535 => (intro w' hSw; (try dsimp only at hSw); go_simp; (try with_reducible rfl))
                  refine wpAnyH_take (i := 15) (v := ?gv536) rfl (by kernel_rfl) (by kernel_rfl) (by kernel_rfl) (fun _ _ _ h => h) (Or.inl ⟨by kernel_rfl, ?gy536⟩) ‹_› ?gr536
                  case gy536 => (intro w' hSw; (try dsimp only at hSw); go_simp; (try with_reducible rfl))
                  refine wpAnyH_take (i := 16) (v := ?gv537) rfl (by kernel_rfl) (by kernel_rfl) (by kernel_rfl) (fun _ _ _ h => h) (Or.inl ⟨by kernel_rfl, ?gy537⟩) ‹_› ?gr537
                  case gy537 => (intro w' hSw; (try dsimp only at hSw); go_simp; (try with_reducible rfl))
                  refine wpAnyH_take (i := 17) (v := ?gv538) rfl (by kernel_rfl) (by kernel_rfl) (by kernel_rfl) (fun _ _ _ h => h) (Or.inl ⟨by kernel_rfl, ?gy538⟩) ‹_› ?gr538
                  case gy538 => (intro w' hSw; (try dsimp only at hSw); go_simp; (try with_reducible rfl))
                  refine wpAnyH_take (i := 18) (v := ?gv539) rfl (by kernel_rfl) (by kernel_rfl) (by kernel_rfl) (fun _ _ _ h => h) (Or.inl ⟨by kernel_rfl, ?gy539⟩) ‹_› ?gr539
                  case gy539 => (intro w' hSw; (try dsimp only at hSw); go_simp; (try with_reducible rfl))
                  refine wpAnyH_take (i := 19) (v := ?gv540) rfl (by kernel_rfl) (by kernel_rfl) (by kernel_rfl) (fun _ _ _ h => h) (Or.inl ⟨by kernel_rfl, ?gy540⟩) ‹_› ?gr540
                  case gy540 => (intro w' hSw; (try dsimp only at hSw); go_simp; (try with_reducible rfl))
                  refine wpAnyH_take (i := 20) (v := ?gv541) rfl (by kernel_rfl) (by kernel_rfl) (by kernel_rfl) (fun _ _ _ h => h) (Or.inl ⟨by kernel_rfl, ?gy541⟩) ‹_› ?gr541
                  case gy541 => (intro w' hSw; (try dsimp only at hSw); go_simp; (try with_reducible rfl))
                  refine wpAnyH_take (i := 21) (v := ?gv542) rfl (by kernel_rfl) (by kernel_rfl) (by kernel_rfl) (fun _ _ _ h => h) (Or.inl ⟨by kernel_rfl, ?gy542⟩) ‹_› ?gr542
                  case gy542 => (intro w' hSw; (try dsimp only at hSw); go_simp; (try with_reducible rfl))
                  refine wpAnyH_take (i := 22) (v := ?gv543) rfl (by kernel_rfl) (by kernel_rfl) (by kernel_rfl) (fun _ _ _ h => h) (Or.inl ⟨by kernel_rfl, ?gy543⟩) ‹_› ?gr543
                  case gy543 => (intro w' hSw; (try dsimp only at hSw); go_simp; (try with_reducible rfl))
                  refine wpAnyH_take (i := 23) (v := ?gv544) rfl (by kernel_rfl) (by kernel_rfl) (by kernel_rfl) (fun _ _ _ h => h) (Or.inl ⟨by kernel_rfl, ?gy544⟩) ‹_› ?gr544
                  case gy544 => (intro w' hSw; (try dsimp only at hSw); go_simp; (try with_reducible rfl))
                  refine wpAnyH_take (i := 24) (v := ?gv545) rfl (by kernel_rfl) (by kernel_rfl) (by kernel_rfl) (fun _ _ _ h => h) (Or.inl ⟨by kernel_rfl, ?gy545⟩) ‹_› ?gr545
                  case gy545 => (intro w' hSw; (try dsimp only at hSw); go_simp; (try with_reducible rfl))
                  refine wpAnyH_take (i := 25) (v := ?gv546) rfl (by kernel_rfl) (by kernel_rfl) (by kernel_rfl) (fun _ _ _ h => h) (Or.inl ⟨by kernel_rfl, ?gy546⟩) ‹_› ?gr546
                  case gy546 => (intro w' hSw; (try dsimp only at hSw); go_simp; (try with_reducible rfl))
                  refine wpAnyH_take (i := 26) (v := ?gv547) rfl (by kernel_rfl) (by kernel_rfl) (by kernel_rfl) (fun _ _ _ h => h) (Or.inl ⟨by kernel_rfl, ?gy547⟩) ‹_› ?gr547
                  case gy547 => (intro w' hSw; (try dsimp only at hSw); go_simp; (try with_reducible rfl))
                  refine wpAnyH_take (i := 27) (v := undef) rfl (by kernel_rfl) (by kernel_rfl) (by kernel_rfl) (fun _ _ _ h => h) (Or.inr ⟨by kernel_rfl, rfl⟩) ‹_› ?_
                  refine wpAnyH_take (i := 28) (v := undef) rfl (by kernel_rfl) (by kernel_rfl) (by kernel_rfl) (fun _ _ _ h => h) (Or.inr ⟨by kernel_rfl, rfl⟩) ‹_› ?_
                  refine wpAnyH_take (i := 29) (v := undef) rfl (by kernel_rfl) (by kernel_rfl) (by kernel_rfl) (fun _ _ _ h => h) (Or.inr ⟨by kernel_rfl, rfl⟩) ‹_› ?_
                  refine wpAnyH_take (i := 30) (v := undef) rfl (by kernel_rfl) (by kernel_rfl) (by kernel_rfl) (fun _ _ _ h => h) (Or.inr ⟨by kernel_rfl, rfl⟩) ‹_› ?_
                  refine wpAnyH_take (i := 31) (v := ?gv548) rfl (by kernel_rfl) (by kernel_rfl) (by kernel_rfl) (fun _ _ _ h => h) (Or.inl ⟨by kernel_rfl, ?gy548⟩) ‹_› ?gr548
                  case gy548 => (intro w' hSw; (try dsimp only at hSw); go_simp; (try with_reducible rfl))
                  refine wpAnyH_take (i := 32) (v := ?gv549) rfl (by kernel_rfl) (by kernel_rfl) (by kernel_rfl) (fun _ _ _ h => h) (Or.inl ⟨by kernel_rfl, ?gy549⟩) ‹_› ?gr549
                  case gy549 => (intro w' hSw; (try dsimp only at hSw); go_simp; (try with_reducible rfl))
                  refine wpAnyH_take (i := 33) (v := undef) rfl (by kernel_rfl) (by kernel_rfl) (by kernel_rfl) (fun _ _ _ h => h) (Or.inr ⟨by kernel_rfl, rfl⟩) ‹_› ?_
                  refine wpAnyH_take (i := 34) (v := undef) rfl (by kernel_rfl) (by kernel_rfl) (by kernel_rfl) (fun _ _ _ h => h) (Or.inr ⟨by kernel_rfl, rfl⟩) ‹_› ?_
                  refine wpAnyH_take (i := 35) (v := undef) rfl (by kernel_rfl) (by kernel_rfl) (by kernel_rfl) (fun _ _ _ h => h) (Or.inr ⟨by kernel_rfl, rfl⟩) ‹_› ?_
                  refine wpAnyH_take (i := 36) (v := undef) rfl (by kernel_rfl) (by kernel_rfl) (by kernel_rfl) (fun _ _ _ h => h) (Or.inr ⟨by kernel_rfl, rfl⟩) ‹_› ?_
                  refine wpAnyH_take (i := 37) (v := undef) rfl (by kernel_rfl) (by kernel_rfl) (by kernel_rfl) (fun _ _ _ h => h) (Or.inr ⟨by kernel_rfl, rfl⟩) ‹_› ?_
                  refine wpAnyH_take (i := 38) (v := undef) rfl (by kernel_rfl) (by kernel_rfl) (by kernel_rfl) (fun _ _ _ h => h) (Or.inr ⟨by kernel_rfl, rfl⟩) ‹_› ?_
                  refine wpAnyH_take (i := 39) (v := ?gv550) rfl (by kernel_rfl) (by kernel_rfl) (by kernel_rfl) (fun _ _ _ h => h) (Or.inl ⟨by kernel_rfl, ?gy550⟩) ‹_› ?gr550
                  case gy550 => (intro w' hSw; (try dsimp only at hSw); go_simp; (try with_reducible rfl))
                  refine wpAnyH_take (i := 40) (v := ?gv551) rfl (by kernel_rfl) (by kernel_rfl) (by kernel_rfl) (fun _ _ _ h => h) (Or.inl ⟨by kernel_rfl, ?gy551⟩) ‹_› ?gr551
                  case gy551 => (intro w' hSw; (try dsimp only at hSw); go_simp; (try with_reducible rfl))
                  refine wpAnyH_take (i := 41) (v := undef) rfl (by kernel_rfl) (by kernel_rfl) (by kernel_rfl) (fun _ _ _ h => h) (Or.inr ⟨by kernel_rfl, rfl⟩) ‹_› ?_
                  refine wpAnyH_take (i := 42) (v := undef) rfl (by kernel_rfl) (by kernel_rfl) (by kernel_rfl) (fun _ _ _ h => h) (Or.inr ⟨by kernel_rfl, rfl⟩) ‹_› ?_
                  refine wpAnyH_take (i := 43) (v := undef) rfl (by kernel_rfl) (by kernel_rfl) (by kernel_rfl) (fun _ _ _ h => h) (Or.inr ⟨by kernel_rfl, rfl⟩) ‹_› ?_
                  refine wpAnyH_take (i := 44) (v := undef) rfl (by kernel_rfl) (by kernel_rfl) (by kernel_rfl) (fun _ _ _ h => h) (Or.inr ⟨by kernel_rfl, rfl⟩) ‹_› ?_
                  refine wpAnyH_take (i := 45) (v := ?gv552) rfl (by kernel_rfl) (by kernel_rfl) (by kernel_rfl) (fun _ _ _ h => h) (Or.inl ⟨by kernel_rfl, ?gy552⟩) ‹_› ?gr552
                  case gy552 => (intro w' hSw; (try dsimp only at hSw); go_simp; (try with_reducible rfl))
                  refine wpAnyH_take (i := 46) (v := ?gv553) rfl (by kernel_rfl) (by kernel_rfl) (by kernel_rfl) (fun _ _ _ h => h) (Or.inl ⟨by kernel_rfl, ?gy553⟩) ‹_› ?gr553
                  case gy553 => (intro w' hSw; (try dsimp only at hSw); go_simp; (try with_reducible rfl))
                  refine wpAnyH_take (i := 47) (v := undef) rfl (by kernel_rfl) (by kernel_rfl) (by kernel_rfl) (fun _ _ _ h => h) (Or.inr ⟨by kernel_rfl, rfl⟩) ‹_› ?_
                  refine wpAnyH_take (i := 48) (v := undef) rfl (by kernel_rfl) (by kernel_rfl) (by kernel_rfl) (fun _ _ _ h => h) (Or.inr ⟨by kernel_rfl, rfl⟩) ‹_› ?_
                  refine wpAnyH_take (i := 49) (v := undef) rfl (by kernel_rfl) (by kernel_rfl) (by kernel_rfl) (fun _ _ _ h => h) (Or.inr ⟨by kernel_rfl, rfl⟩) ‹_› ?_
                  refine wpAnyH_take (i := 50) (v := undef) rfl (by kernel_rfl) (by kernel_rfl) (by kernel_rfl) (fun _ _ _ h => h) (Or.inr ⟨by kernel_rfl, rfl⟩) ‹_› ?_
                  refine wpAnyH_take (i := 51) (v := ?gv554) rfl (by kernel_rfl) (by kernel_rfl) (by kernel_rfl) (fun _ _ _ h => h) (Or.inl ⟨by kernel_rfl, ?gy554⟩) ‹_› ?gr554
                  case gy554 => (intro w' hSw; (try dsimp only at hSw); go_simp; (try with_reducible rfl))
                  refine wpAnyH_take (i := 52) (v := ?gv555) rfl (by kernel_rfl) (by kernel_rfl) (by kernel_rfl) (fun _ _ _ h => h) (Or.inl ⟨by kernel_rfl, ?gy555⟩) ‹_› ?gr555
                  case gy555 => (intro w' hSw; (try dsimp only at hSw); go_simp; (try with_reducible rfl))
                  refine wpAnyH_take (i := 53) (v := undef) rfl (by kernel_rfl) (by kernel_rfl) (by kernel_rfl) (fun _ _ _ h => h) (Or.inr ⟨by kernel_rfl, rfl⟩) ‹_› ?_
                  refine wpAnyH_take (i := 54) (v := undef) rfl (by kernel_rfl) (by kernel_rfl) (by kernel_rfl) (fun _ _ _ h => h) (Or.inr ⟨by kernel_rfl, rfl⟩) ‹_› ?_
                  refine wpAnyH_take (i := 55) (v := undef) rfl (by kernel_rfl) (by kernel_rfl) (by kernel_rfl) (fun _ _ _ h => h) (Or.inr ⟨by kernel_rfl, rfl⟩) ‹_› ?_
                  refine wpAnyH_take (i := 56) (v := undef) rfl (by kernel_rfl) (by kernel_rfl) (by kernel_rfl) (fun _ _ _ h => h) (Or.inr ⟨by kernel_rfl, rfl⟩) ‹_› ?_
                  refine wpAnyH_take (i := 57) (v := undef) rfl (by kernel_rfl) (by kernel_rfl) (by kernel_rfl) (fun _ _ _ h => h) (Or.inr ⟨by kernel_rfl, rfl⟩) ‹_› ?_
                  refine wpAnyH_take (i := 58) (v := undef) rfl (by kernel_rfl) (by kernel_rfl) (by kernel_rfl) (fun _ _ _ h => h) (Or.inr ⟨by kernel_rfl, rfl⟩) ‹_› ?_
                  refine wpAnyH_take (i := 59) (v := ?gv556) rfl (by kernel_rfl) (by kernel_rfl) (by kernel_rfl) (fun _ _ _ h => h) (Or.inl ⟨by kernel_rfl, ?gy556⟩) ‹_› ?gr556
                  case gy556 => (intro w' hSw; (try dsimp only at hSw); go_simp; (try with_reducible rfl))
                  try simp only [Act.put, List.setIfInBounds_toArray, List.set_cons_zero, List.set_cons_succ, List.getElem_toArray, List.getElem_cons_succ, List.getElem_cons_zero]
                  refine wpAnyH_done (by kernel_rfl) (NoPanic.normal ?_) _
                  have hfb : Hid _ := HB1.out.trans ((Below.refl W1.heap.size W1).drew.mono HB1.out.size)
                  go_wp2
                  go_ret
                  exact ⟨ret_bool hend.out, B0.trans (hfb.out.mono hws)⟩
            · have hi2' : id ≥ nx := by omega
              have hi2'' : nx ≤ id := by omega
              have HK : Hid _ := HKF.out
              have hend : Hid (false = R) := hbad.out (by rw [HGD.out, decide_eq_false hi2]; simp)
              refine wp_region_noPanic ?_
              refine wp_region_held_drew (S := fun W : World => W.cell? ⟨w.heap.size, 0, none⟩ = some (.slice (some ⟨b, off, none⟩) n cap) ∧ W.cell? ⟨w.heap.size, 1, none⟩ = some (.int .i64 nx) ∧ W.cell? ⟨X, 0, none⟩ = some (.int .i64 id) ∧ W.cell? ⟨X, 1, none⟩ = some (.string name) ∧ W.cell? ⟨X, 2, none⟩ = some (.bool ro) ∧ W.cell? ⟨X, 3, none⟩ = some (.int .i64 limit) ∧ W.cell? ⟨X, 4, none⟩ = some (.slice ra n1 rc) ∧ W.cell? ⟨X, 5, none⟩ = some (.int .i64 rnx)) (by kernel_rfl) (by go_keep) (fun hS => ?_)
              refine wpAnyH_take (i := 0) (v := ?gv557) rfl (by kernel_rfl) (by kernel_rfl) (by kernel_rfl) (fun _ _ _ h => h) (Or.inl ⟨by kernel_rfl, ?gy557⟩) ‹_› ?gr557
              case gy557 => (intro w' hSw; (try dsimp only at hSw); go_simp; (try with_reducible rfl))
              refine wpAnyH_take (i := 1) (v := ?gv558) rfl (by kernel_rfl) (by kernel_rfl) (by kernel_rfl) (fun _ _ _ h => h) (Or.inl ⟨by kernel_rfl, ?gy558⟩) ‹_› ?gr558
              case gy558 => (intro w' hSw; (try dsimp only at hSw); go_simp; (try with_reducible rfl))
              refine wpAnyH_take (i := 2) (v := ?gv559) rfl (by kernel_rfl) (by kernel_rfl) (by kernel_rfl) (fun _ _ _ h => h) (Or.inl ⟨by kernel_rfl, ?gy559⟩) ‹_› ?gr559
              case gy559 => (intro w' hSw; (try dsimp only at hSw); go_simp; (try with_reducible rfl))
              refine wpAnyH_take (i := 3) (v := ?gv560) rfl (by kernel_rfl) (by kernel_rfl) (by kernel_rfl) (fun _ _ _ h => h) (Or.inl ⟨by kernel_rfl, ?gy560⟩) ‹_› ?gr560
              case gy560 => (intro w' hSw; (try dsimp only at hSw); go_simp; (try with_reducible rfl))
              refine wpAnyH_take (i := 4) (v := ?gv561) rfl (by kernel_rfl) (by kernel_rfl) (by kernel_rfl) (fun _ _ _ h => h) (Or.inl ⟨by kernel_rfl, ?gy561⟩) ‹_› ?gr561
              case gy561 => (intro w' hSw; (try dsimp only at hSw); go_simp; (try with_reducible rfl))
              refine wpAnyH_take (i := 5) (v := ?gv562) rfl (by kernel_rfl) (by kernel_rfl) (by kernel_rfl) (fun _ _ _ h => h) (Or.inl ⟨by kernel_rfl, ?gy562⟩) ‹_› ?gr562
              case gy562 => (intro w' hSw; (try dsimp only at hSw); go_simp; (try with_reducible rfl))
              refine wpAnyH_take (i := 6) (v := ?gv563) rfl (by kernel_rfl) (by kernel_rfl) (by kernel_rfl) (fun _ _ _ h => h) (Or.inl ⟨by kernel_rfl, ?gy563⟩) ‹_› ?gr563
              case gy563 => (intro w' hSw; (try dsimp only at hSw); go_simp; (try with_reducible rfl))
              refine wpAnyH_take (i := 7) (v := ?gv564) rfl (by kernel_rfl) (by kernel_rfl) (by kernel_rfl) (fun _ _ _ h => h) (Or.inl ⟨by kernel_rfl, ?gy564⟩) ‹_› ?gr564
              case gy564 => (intro w' hSw; (try dsimp only at hSw); go_simp; (try with_reducible rfl))
              refine wpAnyH_take (i := 8) (v := ?gv565) rfl (by kernel_rfl) (by kernel_rfl) (by kernel_rfl) (fun _ _ _ h => h) (Or.inl ⟨by kernel_rfl, ?gy565⟩) ‹_› ?gr565
              case gy565 => (intro w' hSw; (try dsimp only at hSw); go_simp; (try with_reducible rfl))
              refine wpAnyH_take (i := 9) (v := ?gv566) rfl (by kernel_rfl) (by kernel_rfl) (by kernel_rfl) (fun _ _ _ h => h) (Or.inl ⟨by kernel_rfl, ?gy566⟩) ‹_› ?gr566
              case gy566 => (intro w' hSw; (try dsimp only at hSw); go_simp; (try with_reducible rfl))
              refine wpAnyH_take (i := 10) (v := ?gv567) rfl (by kernel_rfl) (by kernel_rfl) (by kernel_rfl) (fun _ _ _ h => h) (Or.inl ⟨by kernel_rfl, ?gy567⟩) ‹_› ?gr567
              case gy567 => (intro w' hSw; (try dsimp only at hSw); go_simp; (try with_reducible rfl))
              refine wpAnyH_take (i := 11) (v := undef) rfl (by kernel_rfl) (by kernel_rfl) (by kernel_rfl) (fun _ _ _ h => h) (Or.inr ⟨by kernel_rfl, rfl⟩) ‹_› ?_
              refine wpAnyH_take (i := 12) (v := undef) rfl (by kernel_rfl) (by kernel_rfl) (by kernel_rfl) (fun _ _ _ h => h) (Or.inr ⟨by kernel_rfl, rfl⟩) ‹_› ?_
              refine wpAnyH_take (i := 13) (v := undef) rfl (by kernel_rfl) (by kernel_rfl) (by kernel_rfl) (fun _ _ _ h => h) (Or.inr ⟨by kernel_rfl, rfl⟩) ‹_› ?_
              refine wpAnyH_take (i := 14) (v := undef) rfl (by kernel_rfl) (by kernel_rfl) (by kernel_rfl) (fun _ _ _ h => h) (Or.inr ⟨by kernel_rfl, rfl⟩) ‹_› ?_
              refine wpAnyH_take (i := 15) (v := undef) rfl (by kernel_rfl) (by kernel_rfl) (by kernel_rfl) (fun _ _ _ h => h) (Or.inr ⟨by kernel_rfl, rfl⟩) ‹_› ?_
              refine wpAnyH_take (i := 16) (v := undef) rfl (by kernel_rfl) (by kernel_rfl) (by kernel_rfl) (fun _ _ _ h => h) (Or.inr ⟨by kernel_rfl, rfl⟩) ‹_› ?_
              refine wpAnyH_take (i := 17) (v := undef) rfl (by kernel_rfl) (by kernel_rfl) (by kernel_rfl) (fun _ _ _ h => h) (Or.inr ⟨by kernel_rfl, rfl⟩) ‹_› ?_
              refine wpAnyH_take (i := 18) (v := undef) rfl (by kernel_rfl) (by kernel_rfl) (by kernel_rfl) (fun _ _ _ h => h) (Or.inr ⟨by kernel_rfl, rfl⟩) ‹_› ?_
              refine wpAnyH_take (i := 19) (v := undef) rfl (by kernel_rfl) (by kernel_rfl) (by kernel_rfl) (fun _ _ _ h => h) (Or.inr ⟨by kernel_rfl, rfl⟩) ‹_› ?_
              refine wpAnyH_take (i := 20) (v := undef) rfl (by kernel_rfl) (by kernel_rfl) (by kernel_rfl) (fun _ _ _ h => h) (Or.inr ⟨by kernel_rfl, rfl⟩) ‹_› ?_
              refine wpAnyH_take (i := 21) (v := undef) rfl (by kernel_rfl) (by kernel_rfl) (by kernel_rfl) (fun _ _ _ h => h) (Or.inr ⟨by kernel_rfl, rfl⟩) ‹_› ?_
              refine wpAnyH_take (i := 22) (v := undef) rfl (by kernel_rfl) (by kernel_rfl) (by kernel_rfl) (fun _ _ _ h => h) (Or.inr ⟨by kernel_rfl, rfl⟩) ‹_› ?_
              refine wpAnyH_take (i := 23) (v := undef) rfl (by kernel_rfl) (by kernel_rfl) (by kernel_rfl) (fun _ _ _ h => h) (Or.inr ⟨by kernel_rfl, rfl⟩) ‹_› ?_
              refine wpAnyH_take (i := 24) (v := undef) rfl (by kernel_rfl) (by kernel_rfl) (by kernel_rfl) (fun _ _ _ h => h) (Or.inr ⟨by kernel_rfl, rfl⟩) ‹_› ?_
              refine wpAnyH_take (i := 25) (v := ?gv568) rfl (by kernel_rfl) (by kernel_rfl) (by kernel_rfl) (fun _ _ _ h => h) (Or.inl ⟨by kernel_rfl, ?gy568⟩) ‹_› ?gr568
              case gy568 => (intro w' hSw; (try dsimp only at hSw); go_simp; (try with_reducible rfl))
              refine wpAnyH_take (i := 26) (v := ?gv569) rfl (by kernel_rfl) (by kernel_rfl) (by kernel_rfl) (fun _ _ _ h => h) (Or.inl ⟨by kernel_rfl, ?gy569⟩) ‹_› ?gr569
              case gy569 => (intro w' hSw; (try dsimp only at hSw); go_simp; (try with_reducible rfl))
              refine wpAnyH_take (i := 27) (v := undef) rfl (by kernel_rfl) (by kernel_rfl) (by kernel_rfl) (fun _ _ _ h => h) (Or.inr ⟨by kernel_rfl, rfl⟩) ‹_› ?_
              refine wpAnyH_take (i := 28) (v := undef) rfl (by kernel_rfl) (by kernel_rfl) (by kernel_rfl) (fun _ _ _ h => h) (Or.inr ⟨by kernel_rfl, rfl⟩) ‹_› ?_
              refine wpAnyH_take (i := 29) (v := undef) rfl (by kernel_rfl) (by kernel_rfl) (by kernel_rfl) (fun _ _ _ h => h) (Or.inr ⟨by kernel_rfl, rfl⟩) ‹_› ?_
              refine wpAnyH_take (i := 30) (v := undef) rfl (by kernel_rfl) (by kernel_rfl) (by kernel_rfl) (fun _ _ _ h => h) (Or.inr ⟨by kernel_rfl, rfl⟩) ‹_› ?_
              refine wpAnyH_take (i := 31) (v := ?gv570) rfl (by kernel_rfl) (by kernel_rfl) (by kernel_rfl) (fun _ _ _ h => h) (Or.inl ⟨by kernel_rfl, ?gy570⟩) ‹_› ?gr570
              case gy570 => (intro w' hSw; (try dsimp only at hSw); go_simp; (try with_reducible rfl))
              refine wpAnyH_take (i := 32) (v := ?gv571) rfl (by kernel_rfl) (by kernel_rfl) (by kernel_rfl) (fun _ _ _ h => h) (Or.inl ⟨by kernel_rfl, ?gy571⟩) ‹_› ?gr571
              case gy571 => (intro w' hSw; (try dsimp only at hSw); go_simp; (try with_reducible rfl))
              refine wpAnyH_take (i := 33) (v := undef) rfl (by kernel_rfl) (by kernel_rfl) (by kernel_rfl) (fun _ _ _ h => h) (Or.inr ⟨by kernel_rfl, rfl⟩) ‹_› ?_
              refine wpAnyH_take (i := 34) (v := undef) rfl (by kernel_rfl) (by kernel_rfl) (by kernel_rfl) (fun _ _ _ h => h) (Or.inr ⟨by kernel_rfl, rfl⟩) ‹_› ?_
              refine wpAnyH_take (i := 35) (v := undef) rfl (by kernel_rfl) (by kernel_rfl) (by kernel_rfl) (fun _ _ _ h => h) (Or.inr ⟨by kernel_rfl, rfl⟩) ‹_› ?_
              refine wpAnyH_take (i := 36) (v := undef) rfl (by kernel_rfl) (by kernel_rfl) (by kernel_rfl) (fun _ _ _ h => h) (Or.inr ⟨by kernel_rfl, rfl⟩) ‹_› ?_
              refine wpAnyH_take (i := 37) (v := undef) rfl (by kernel_rfl) (by kernel_rfl) (by kernel_rfl) (fun _ _ _ h => h) (Or.inr ⟨by kernel_rfl, rfl⟩) ‹_› ?_
              refine wpAnyH_take (i := 38) (v := undef) rfl (by kernel_rfl) (by kernel_rfl) (by kernel_rfl) (fun _ _ _ h => h) (Or.inr ⟨by kernel_rfl, rfl⟩) ‹_› ?_
              refine wpAnyH_take (i := 39) (v := ?gv572) rfl (by kernel_rfl) (by kernel_rfl) (by kernel_rfl) (fun _ _ _ h => h) (Or.inl ⟨by kernel_rfl, ?gy572⟩) ‹_› ?gr572
              case gy572 => (intro w' hSw; (try dsimp only at hSw); go_simp; (try with_reducible rfl))
              refine wpAnyH_take (i := 40) (v := ?gv573) rfl (by kernel_rfl) (by kernel_rfl) (by kernel_rfl) (fun _ _ _ h => h) (Or.inl ⟨by kernel_rfl, ?gy573⟩) ‹_› ?gr573
              case gy573 => (intro w' hSw; (try dsimp only at hSw); go_simp; (try with_reducible rfl))
              refine wpAnyH_take (i := 41) (v := undef) rfl (by kernel_rfl) (by kernel_rfl) (by kernel_rfl) (fun _ _ _ h => h) (Or.inr ⟨by kernel_rfl, rfl⟩) ‹_› ?_
              refine wpAnyH_take (i := 42) (v := undef) rfl (by kernel_rfl) (by kernel_rfl) (by kernel_rfl) (fun _ _ _ h => h) (Or.inr ⟨by kernel_rfl, rfl⟩) ‹_› ?_
              refine wpAnyH_take (i := 43) (v := undef) rfl (by kernel_rfl) (by kernel_rfl) (by kernel_rfl) (fun _ _ _ h => h) (Or.inr ⟨by kernel_rfl, rfl⟩) ‹_› ?_
              refine wpAnyH_take (i := 44) (v := undef) rfl (by kernel_rfl) (by kernel_rfl) (by kernel_rfl) (fun _ _ _ h => h) (Or.inr ⟨by kernel_rfl, rfl⟩) ‹_› ?_
              refine wpAnyH_take (i := 45) (v := ?gv574) rfl (by kernel_rfl) (by kernel_rfl) (by kernel_rfl) (fun _ _ _ h => h) (Or.inl ⟨by kernel_rfl, ?gy574⟩) ‹_› ?gr574
              case gy574 => (intro w' hSw; (try dsimp only at hSw); go_simp; (try with_reducible rfl))
              refine wpAnyH_take (i := 46) (v := ?gv575) rfl (by kernel_rfl) (by kernel_rfl) (by kernel_rfl) (fun _ _ _ h => h) (Or.inl ⟨by kernel_rfl, ?gy575⟩) ‹_› ?gr575
              case gy575 => (intro w' hSw; (try dsimp only at hSw); go_simp; (try with_reducible rfl))
              refine wpAnyH_take (i := 47) (v := undef) rfl (by kernel_rfl) (by kernel_rfl) (by kernel_rfl) (fun _ _ _ h => h) (Or.inr ⟨by kernel_rfl, rfl⟩) ‹_› ?_
              refine wpAnyH_take (i := 48) (v := undef) rfl (by kernel_rfl) (by kernel_rfl) (by kernel_rfl) (fun _ _ _ h => h) (Or.inr ⟨by kernel_rfl, rfl⟩) ‹_› ?_
              refine wpAnyH_take (i := 49) (v := undef) rfl (by kernel_rfl) (by kernel_rfl) (by kernel_rfl) (fun _ _ _ h => h) (Or.inr ⟨by kernel_rfl, rfl⟩) ‹_› ?_
              refine wpAnyH_take (i := 50) (v := undef) rfl (by kernel_rfl) (by kernel_rfl) (by kernel_rfl) (fun _ _ _ h => h) (Or.inr ⟨by kernel_rfl, rfl⟩) ‹_› ?_
              refine wpAnyH_take (i := 51) (v := ?gv576) rfl (by kernel_rfl) (by kernel_rfl) (by kernel_rfl) (fun _ _ _ h => h) (Or.inl ⟨by kernel_rfl, ?gy576⟩) ‹_› ?gr576
              case gy576 => (intro w' hSw; (try dsimp only at hSw); go_simp; (try with_reducible rfl))
              refine wpAnyH_take (i := 52) (v := ?gv577) rfl (by kernel_rfl) (by kernel_rfl) (by kernel_rfl) (fun _ _ _ h => h) (Or.inl ⟨by kernel_rfl, ?gy577⟩) ‹_› ?gr577
              case gy577 => (intro w' hSw; (try dsimp only at hSw); go_simp; (try with_reducible rfl))
              refine wpAnyH_take (i := 53) (v := undef) rfl (by kernel_rfl) (by kernel_rfl) (by kernel_rfl) (fun _ _ _ h => h) (Or.inr ⟨by kernel_rfl, rfl⟩) ‹_› ?_
              refine wpAnyH_take (i := 54) (v := undef) rfl (by kernel_rfl) (by kernel_rfl) (by kernel_rfl) (fun _ _ _ h => h) (Or.inr ⟨by kernel_rfl, rfl⟩) ‹_› ?_
              refine wpAnyH_take (i := 55) (v := undef) rfl (by kernel_rfl) (by kernel_rfl) (by kernel_rfl) (fun _ _ _ h => h) (Or.inr ⟨by kernel_rfl, rfl⟩) ‹_› ?_
              refine wpAnyH_take (i := 56) (v := undef) rfl (by kernel_rfl) (by kernel_rfl) (by kernel_rfl) (fun _ _ _ h => h) (Or.inr ⟨by kernel_rfl, rfl⟩) ‹_› ?_
              refine wpAnyH_take (i := 57) (v := undef) rfl (by kernel_rfl) (by kernel_rfl) (by kernel_rfl) (fun _ _ _ h => h) (Or.inr ⟨by kernel_rfl, rfl⟩) ‹_› ?_
              refine wpAnyH_take (i := 58) (v := undef) rfl (by kernel_rfl) (by kernel_rfl) (by kernel_rfl) (fun _ _ _ h => h) (Or.inr ⟨by kernel_rfl, rfl⟩) ‹_› ?_
              refine wpAnyH_take (i := 59) (v := ?gv578) rfl (by kernel_rfl) (by kernel_rfl) (by kernel_rfl) (fun _ _ _ h => h) (Or.inl ⟨by kernel_rfl, ?gy578⟩) ‹_› ?gr578
              case gy578 => (intro w' hSw; (try dsimp only at hSw); go_simp; (try with_reducible rfl))
              try simp only [Act.put, List.setIfInBounds_toArray, List.set_cons_zero, List.set_cons_succ, List.getElem_toArray, List.getElem_cons_succ, List.getElem_cons_zero]
              refine wpAnyH_done (by kernel_rfl) (NoPanic.normal ?_) _
              have hfb : Hid _ := HB1.out.trans ((Below.refl W1.heap.size W1).drew.mono HB1.out.size)
              go_wp2
              go_ret
              exact ⟨ret_bool hend.out, B0.trans (hfb.out.mono hws)⟩
          · have hi1' : id < 1 := by omega
            have HK : Hid _ := HKF.out
            have hend : Hid (false = R) := hbad.out (by rw [HGD.out, decide_eq_false hi1]; simp)
            refine wp_region_noPanic ?_
            refine wp_region_held_drew (S := fun W : World => W.cell? ⟨w.heap.size, 0, none⟩ = some (.slice (some ⟨b, off, none⟩) n cap) ∧ W.cell? ⟨w.heap.size, 1, none⟩ = some (.int .i64 nx) ∧ W.cell? ⟨X, 0, none⟩ = some (.int .i64 id) ∧ W.cell? ⟨X, 1, none⟩ = some (.string name) ∧ W.cell? ⟨X, 2, none⟩ = some (.bool ro) ∧ W.cell? ⟨X, 3, none⟩ = some (.int .i64 limit) ∧ W.cell? ⟨X, 4, none⟩ = some (.slice ra n1 rc) ∧ W.cell? ⟨X, 5, none⟩ = some (.int .i64 rnx)) (by kernel_rfl) (by go_keep) (fun hS => ?_)
            refine wpAnyH_take (i := 0) (v := ?gv579) rfl (by kernel_rfl) (by kernel_rfl) (by kernel_rfl) (fun _ _ _ h => h) (Or.inl ⟨by kernel_rfl, ?gy579⟩) ‹_› ?gr579
            case gy579 => (intro w' hSw; (try dsimp only at hSw); go_simp; (try with_reducible rfl))
            refine wpAnyH_take (i := 1) (v := ?gv580) rfl (by kernel_rfl) (by kernel_rfl) (by kernel_rfl) (fun _ _ _ h => h) (Or.inl ⟨by kernel_rfl, ?gy580⟩) ‹_› ?gr580
            case gy580 => (intro w' hSw; (try dsimp only at hSw); go_simp; (try with_reducible rfl))
            refine wpAnyH_take (i := 2) (v := ?gv581) rfl (by kernel_rfl) (by kernel_rfl) (by kernel_rfl) (fun _ _ _ h => h) (Or.inl ⟨by kernel_rfl, ?gy581⟩) ‹_› ?gr581
            case gy581 => (intro w' hSw; (try dsimp only at hSw); go_simp; (try with_reducible rfl))
            refine wpAnyH_take (i := 3) (v := ?gv582) rfl (by kernel_rfl) (by kernel_rfl) (by kernel_rfl) (fun _ _ _ h => h) (Or.inl ⟨by kernel_rfl, ?gy582⟩) ‹_› ?gr582
            case gy582 => (intro w' hSw; (try dsimp only at hSw); go_simp; (try with_reducible rfl))
            refine wpAnyH_take (i := 4) (v := undef) rfl (by kernel_rfl) (by kernel_rfl) (by kernel_rfl) (fun _ _ _ h => h) (Or.inr ⟨by kernel_rfl, rfl⟩) ‹_› ?_
            refine wpAnyH_take (i := 5) (v := undef) rfl (by kernel_rfl) (by kernel_rfl) (by kernel_rfl) (fun _ _ _ h => h) (Or.inr ⟨by kernel_rfl, rfl⟩) ‹_› ?_
            refine wpAnyH_take (i := 6) (v := undef) rfl (by kernel_rfl) (by kernel_rfl) (by kernel_rfl) (fun _ _ _ h => h) (Or.inr ⟨by kernel_rfl, rfl⟩) ‹_› ?_
            refine wpAnyH_take (i := 7) (v := undef) rfl (by kernel_rfl) (by kernel_rfl) (by kernel_rfl) (fun _ _ _ h => h) (Or.inr ⟨by kernel_rfl, rfl⟩) ‹_› ?_
            refine wpAnyH_take (i := 8) (v := undef) rfl (by kernel_rfl) (by kernel_rfl) (by kernel_rfl) (fun _ _ _ h => h) (Or.inr ⟨by kernel_rfl, rfl⟩) ‹_› ?_
            refine wpAnyH_take (i := 9) (v := ?gv583) rfl (by kernel_rfl) (by kernel_rfl) (by kernel_rfl) (fun _ _ _ h => h) (Or.inl ⟨by kernel_rfl, ?gy583⟩) ‹_› ?gr583
            case gy583 => (intro w' hSw; (try dsimp only at hSw); go_simp; (try with_reducible rfl))
            refine wpAnyH_take (i := 10) (v := ?gv584) rfl (by kernel_rfl) (by kernel_rfl) (by kernel_rfl) (fun _ _ _ h => h) (Or.inl ⟨by kernel_rfl, ?gy584⟩) ‹_› ?gr584
            case gy584 => (intro w' hSw; (try dsimp only at hSw); go_simp; (try with_reducible rfl))
            refine wpAnyH_take (i := 11) (v := undef) rfl (by kernel_rfl) (by kernel_rfl) (by kernel_rfl) (fun _ _ _ h => h) (Or.inr ⟨by kernel_rfl, rfl⟩) ‹_› ?_
            refine wpAnyH_take (i := 12) (v := undef) rfl (by kernel_rfl) (by kernel_rfl) (by kernel_rfl) (fun _ _ _ h => h) (Or.inr ⟨by kernel_rfl, rfl⟩) ‹_› ?_
            refine wpAnyH_take (i := 13) (v := undef) rfl (by kernel_rfl) (by kernel_rfl) (by kernel_rfl) (fun _ _ _ h => h) (Or.inr ⟨by kernel_rfl, rfl⟩) ‹_› ?_
            refine wpAnyH_take (i := 14) (v := undef) rfl (by kernel_rfl) (by kernel_rfl) (by kernel_rfl) (fun _ _ _ h => h) (Or.inr ⟨by kernel_rfl, rfl⟩) ‹_› ?_
            refine wpAnyH_take (i := 15) (v := undef) rfl (by kernel_rfl) (by kernel_rfl) (by kernel_rfl) (fun _ _ _ h => h) (Or.inr ⟨by kernel_rfl, rfl⟩) ‹_› ?_
            refine wpAnyH_take (i := 16) (v := undef) rfl (by kernel_rfl) (by kernel_rfl) (by kernel_rfl) (fun _ _ _ h => h) (Or.inr ⟨by kernel_rfl, rfl⟩) ‹_› ?_
            refine wpAnyH_take (i := 17) (v := undef) rfl (by kernel_rfl) (by kernel_rfl) (by kernel_rfl) (fun _ _ _ h => h) (Or.inr ⟨by kernel_rfl, rfl⟩) ‹_› ?_
            refine wpAnyH_take (i := 18) (v := undef) rfl (by kernel_rfl) (by kernel_rfl) (by kernel_rfl) (fun _ _ _ h => h) (Or.inr ⟨by kernel_rfl, rfl⟩) ‹_› ?_
            refine wpAnyH_take (i := 19) (v := undef) rfl (by kernel_rfl) (by kernel_rfl) (by kernel_rfl) (fun _ _ _ h => h) (Or.inr ⟨by kernel_rfl, rfl⟩) ‹_› ?_
            refine wpAnyH_take (i := 20) (v := undef) rfl (by kernel_rfl) (by kernel_rfl) (by kernel_rfl) (fun _ _ _ h => h) (Or.inr ⟨by kernel_rfl, rfl⟩) ‹_› ?_
            refine wpAnyH_take (i := 21) (v := undef) rfl (by kernel_rfl) (by kernel_rfl) (by kernel_rfl) (fun _ _ _ h => h) (Or.inr ⟨by kernel_rfl, rfl⟩) ‹_› ?_
            refine wpAnyH_take (i := 22) (v := undef) rfl (by kernel_rfl) (by kernel_rfl) (by kernel_rfl) (fun _ _ _ h => h) (Or.inr ⟨by kernel_rfl, rfl⟩) ‹_› ?_
            refine wpAnyH_take (i := 23) (v := undef) rfl (by kernel_rfl) (by kernel_rfl) (by kernel_rfl) (fun _ _ _ h => h) (Or.inr ⟨by kernel_rfl, rfl⟩) ‹_› ?_
            refine wpAnyH_take (i := 24) (v := undef) rfl (by kernel_rfl) (by kernel_rfl) (by kernel_rfl) (fun _ _ _ h => h) (Or.inr ⟨by kernel_rfl, rfl⟩) ‹_› ?_
            refine wpAnyH_take (i := 25) (v := ?gv585) rfl (by kernel_rfl) (by kernel_rfl) (by kernel_rfl) (fun _ _ _ h => h) (Or.inl ⟨by kernel_rfl, ?gy585⟩) ‹_› ?gr585
            case gy585 => (intro w' hSw; (try dsimp only at hSw); go_simp; (try with_reducible rfl))
            refine wpAnyH_take (i := 26) (v := ?gv586) rfl (by kernel_rfl) (by kernel_rfl) (by kernel_rfl) (fun _ _ _ h => h) (Or.inl ⟨by kernel_rfl, ?gy586⟩) ‹_› ?gr586
            case gy586 => (intro w' hSw; (try dsimp only at hSw); go_simp; (try with_reducible rfl))
            refine wpAnyH_take (i := 27) (v := undef) rfl (by kernel_rfl) (by kernel_rfl) (by kernel_rfl) (fun _ _ _ h => h) (Or.inr ⟨by kernel_rfl, rfl⟩) ‹_› ?_
            refine wpAnyH_take (i := 28) (v := undef) rfl (by kernel_rfl) (by kernel_rfl) (by kernel_rfl) (fun _ _ _ h => h) (Or.inr ⟨by kernel_rfl, rfl⟩) ‹_› ?_
            refine wpAnyH_take (i := 29) (v := undef) rfl (by kernel_rfl) (by kernel_rfl) (by kernel_rfl) (fun _ _ _ h => h) (Or.inr ⟨by kernel_rfl, rfl⟩) ‹_› ?_
            refine wpAnyH_take (i := 30) (v := undef) rfl (by kernel_rfl) (by kernel_rfl) (by kernel_rfl) (fun _ _ _ h => h) (Or.inr ⟨by kernel_rfl, rfl⟩) ‹_› ?_
            refine wpAnyH_take (i := 31) (v := ?gv587) rfl (by kernel_rfl) (by kernel_rfl) (by kernel_rfl) (fun _ _ _ h => h) (Or.inl ⟨by kernel_rfl, ?gy587⟩) ‹_› ?gr587
            case gy587 => (intro w' hSw; (try dsimp only at hSw); go_simp; (try with_reducible rfl))
            refine wpAnyH_take (i := 32) (v := ?gv588) rfl (by kernel_rfl) (by kernel_rfl) (by kernel_rfl) (fun _ _ _ h => h) (Or.inl ⟨by kernel_rfl, ?gy588⟩) ‹_› ?gr588
            case gy588 => (intro w' hSw; (try dsimp only at hSw); go_simp; (try with_reducible rfl))
            refine wpAnyH_take (i := 33) (v := undef) rfl (by kernel_rfl) (by kernel_rfl) (by kernel_rfl) (fun _ _ _ h => h) (Or.inr ⟨by kernel_rfl, rfl⟩) ‹_› ?_
            refine wpAnyH_take (i := 34) (v := undef) rfl (by kernel_rfl) (by kernel_rfl) (by kernel_rfl) (fun _ _ _ h => h) (Or.inr ⟨by kernel_rfl, rfl⟩) ‹_› ?_
            refine wpAnyH_take (i := 35) (v := undef) rfl (by kernel_rfl) (by kernel_rfl) (by kernel_rfl) (fun _ _ _ h => h) (Or.inr ⟨by kernel_rfl, rfl⟩) ‹_› ?_
            refine wpAnyH_take (i := 36) (v := undef) rfl (by kernel_rfl) (by kernel_rfl) (by kernel_rfl) (fun _ _ _ h => h) (Or.inr ⟨by kernel_rfl, rfl⟩) ‹_› ?_
            refine wpAnyH_take (i := 37) (v := undef) rfl (by kernel_rfl) (by kernel_rfl) (by kernel_rfl) (fun _ _ _ h => h) (Or.inr ⟨by kernel_rfl, rfl⟩) ‹_› ?_
            refine wpAnyH_take (i := 38) (v := undef) rfl (by kernel_rfl) (by kernel_rfl) (by kernel_rfl) (fun _ _ _ h => h) (Or.inr ⟨by kernel_rfl, rfl⟩) ‹_› ?_
            refine wpAnyH_take (i := 39) (v := ?gv589) rfl (by kernel_rfl) (by kernel_rfl) (by kernel_rfl) (fun _ _ _ h => h) (Or.inl ⟨by kernel_rfl, ?gy589⟩) ‹_› ?gr589
            case gy589 => (intro w' hSw; (try dsimp only at hSw); go_simp; (try with_reducible rfl))
            refine wpAnyH_take (i := 40) (v := ?gv590) rfl (by kernel_rfl) (by kernel_rfl) (by kernel_rfl) (fun _ _ _ h => h) (Or.inl ⟨by kernel_rfl, ?gy590⟩) ‹_› ?gr590
            case gy590 => (intro w' hSw; (try dsimp only at hSw); go_simp; (try with_reducible rfl))
            refine wpAnyH_take (i := 41) (v := undef) rfl (by kernel_rfl) (by kernel_rfl) (by kernel_rfl) (fun _ _ _ h => h) (Or.inr ⟨by kernel_rfl, rfl⟩) ‹_› ?_
            refine wpAnyH_take (i := 42) (v := undef) rfl (by kernel_rfl) (by kernel_rfl) (by kernel_rfl) (fun _ _ _ h => h) (Or.inr ⟨by kernel_rfl, rfl⟩) ‹_› ?_
            refine wpAnyH_take (i := 43) (v := undef) rfl (by kernel_rfl) (by kernel_rfl) (by kernel_rfl) (fun _ _ _ h => h) (Or.inr ⟨by kernel_rfl, rfl⟩) ‹_› ?_
            refine wpAnyH_take (i := 44) (v := undef) rfl (by kernel_rfl) (by kernel_rfl) (by kernel_rfl) (fun _ _ _ h => h) (Or.inr ⟨by kernel_rfl, rfl⟩) ‹_› ?_
            refine wpAnyH_take (i := 45) (v := ?gv591) rfl (by kernel_rfl) (by kernel_rfl) (by kernel_rfl) (fun _ _ _ h => h) (Or.inl ⟨by kernel_rfl, ?gy591⟩) ‹_› ?gr591
            case gy591 => (intro w' hSw; (try dsimp only at hSw); go_simp; (try with_reducible rfl))
            refine wpAnyH_take (i := 46) (v := ?gv592) rfl (by kernel_rfl) (by kernel_rfl) (by kernel_rfl) (fun _ _ _ h => h) (Or.inl ⟨by kernel_rfl, ?gy592⟩) ‹_› ?gr592
            case gy592 => (intro w' hSw; (try dsimp only at hSw); go_simp; (try with_reducible rfl))
            refine wpAnyH_take (i := 47) (v := undef) rfl (by kernel_rfl) (by kernel_rfl) (by kernel_rfl) (fun _ _ _ h => h) (Or.inr ⟨by kernel_rfl, rfl⟩) ‹_› ?_
            refine wpAnyH_take (i := 48) (v := undef) rfl (by kernel_rfl) (by kernel_rfl) (by kernel_rfl) (fun _ _ _ h => h) (Or.inr ⟨by kernel_rfl, rfl⟩) ‹_› ?_
            refine wpAnyH_take (i := 49) (v := undef) rfl (by kernel_rfl) (by kernel_rfl) (by kernel_rfl) (fun _ _ _ h => h) (Or.inr ⟨by kernel_rfl, rfl⟩) ‹_› ?_
            refine wpAnyH_take (i := 50) (v := undef) rfl (by kernel_rfl) (by kernel_rfl) (by kernel_rfl) (fun _ _ _ h => h) (Or.inr ⟨by kernel_rfl, rfl⟩) ‹_› ?_
            refine wpAnyH_take (i := 51) (v := ?gv593) rfl (by kernel_rfl) (by kernel_rfl) (by kernel_rfl) (fun _ _ _ h => h) (Or.inl ⟨by kernel_rfl, ?gy593⟩) ‹_› ?gr593
            case gy593 => (intro w' hSw; (try dsimp only at hSw); go_simp; (try with_reducible rfl))
            refine wpAnyH_take (i := 52) (v := ?gv594) rfl (by kernel_rfl) (by kernel_rfl) (by kernel_rfl) (fun _ _ _ h => h) (Or.inl ⟨by kernel_rfl, ?gy594⟩) ‹_› ?gr594
            case gy594 => (intro w' hSw; (try dsimp only at hSw); go_simp; (try with_reducible rfl))
            refine wpAnyH_take (i := 53) (v := undef) rfl (by kernel_rfl) (by kernel_rfl) (by kernel_rfl) (fun _ _ _ h => h) (Or.inr ⟨by kernel_rfl, rfl⟩) ‹_› ?_
            refine wpAnyH_take (i := 54) (v := undef) rfl (by kernel_rfl) (by kernel_rfl) (by kernel_rfl) (fun _ _ _ h => h) (Or.inr ⟨by kernel_rfl, rfl⟩) ‹_› ?_
            refine wpAnyH_take (i := 55) (v := undef) rfl (by kernel_rfl) (by kernel_rfl) (by kernel_rfl) (fun _ _ _ h => h) (Or.inr ⟨by kernel_rfl, rfl⟩) ‹_› ?_
            refine wpAnyH_take (i := 56) (v := undef) rfl (by kernel_rfl) (by kernel_rfl) (by kernel_rfl) (fun _ _ _ h => h) (Or.inr ⟨by kernel_rfl, rfl⟩) ‹_› ?_
            refine wpAnyH_take (i := 57) (v := undef) rfl (by kernel_rfl) (by kernel_rfl) (by kernel_rfl) (fun _ _ _ h => h) (Or.inr ⟨by kernel_rfl, rfl⟩) ‹_› ?_
            refine wpAnyH_take (i := 58) (v := undef) rfl (by kernel_rfl) (by kernel_rfl) (by kernel_rfl) (fun _ _ _ h => h) (Or.inr ⟨by kernel_rfl, rfl⟩) ‹_› ?_
            refine wpAnyH_take (i := 59) (v := ?gv595) rfl (by kernel_rfl) (by kernel_rfl) (by kernel_rfl) (fun _ _ _ h => h) (Or.inl ⟨by kernel_rfl, ?gy595⟩) ‹_› ?gr595
            case gy595 => (intro w' hSw; (try dsimp only at hSw); go_simp; (try with_reducible rfl))
            try simp only [Act.put, List.setIfInBounds_toArray, List.set_cons_zero, List.set_cons_succ, List.getElem_toArray, List.getElem_cons_succ, List.getElem_cons_zero]
            refine wpAnyH_done (by kernel_rfl) (NoPanic.normal ?_) _
            have hfb : Hid _ := HB1.out.trans ((Below.refl W1.heap.size W1).drew.mono HB1.out.size)
            go_wp2
            go_ret
            exact ⟨ret_bool hend.out, B0.trans (hfb.out.mono hws)⟩
        · have hki : ¬ (k : Int) < (n : Int) := by omega
          have hend : Hid (true = R) := by
            show _ = _
            rw [HA.out h6 h1 h99 (fun j r hj hr => hall.out j r (by omega) hr)]
            exact (ascV_yes fun j r t hr ht => hord.out j r t (by have := (List.getElem?_eq_some_iff.1 ht).1; have := hn'.out; omega) hr ht).symm
          clear hall hord HA HBD HAS HF
          go_wp2
          go_ret
          exact ⟨ret_bool hend.out, B0.trans (hB.mono hws)⟩
    · have hend : Hid (false = R) := HF.out (fun h => h199 h.2)
      have hbb : (decide (1 ≤ nx) && decide (nx ≤ 99)) = false := by
        by_cases h1 : 1 ≤ nx
        · rw [decide_eq_false (fun h => h199 ⟨h1, h⟩)]
          simp
        · rw [decide_eq_false h1]
          simp
      rw [hbb] at cL
      clear HF HA HBD HAS hr hsm _hwf
      go_enter Tryz.func6, Tryz.ntmps6
      go_wp2_with (go_at_call 18; (with_reducible refine (cL _).mono ?_); rintro e w1 ⟨rfl, hw1⟩; subst hw1)
      go_ret
      exact ⟨ret_bool hend.out, HB.out⟩
  · have g6 : (n : Int) > 6 := by omega
    have hend : Hid (false = R) := HF.out (fun h => h6 h.1)
    clear HF HA HBD HAS hr hsm _hwf cL
    go_enter Tryz.func6, Tryz.ntmps6
    go_wp2
    go_ret
    exact ⟨ret_bool hend.out, HB.out⟩
end Go.Proofs.YtfjlemnohjnkhaaGreat
