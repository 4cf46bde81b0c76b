/-
  What the program's FsOk answers.
-/
import Derived.Test.YtfjlemnohjnkhaaGreatAscVF
import Derived.Test.YtfjlemnohjnkhaaGreatRightIF
import Derived.Test.YtfjlemnohjnkhaaGreatSameVF
namespace Go.Proofs.YtfjlemnohjnkhaaGreat
open Go.RowKit
set_option maxRecDepth 100000 in
set_option maxHeartbeats 16000000 in
theorem fsOkI (a : Option Addr) (n cap : Nat) (nx : Int) (vs : List VolR) (w : World) (hn : vs.length = n) (hs : n ≤ 4000000) (hsm : ∀ r ∈ vs, VolSmall r) (hwf : ∀ r ∈ vs, ∀ q ∈ r.rs, (Lit.int .i64 q.D.ino).wf = true) (hr : RdVo w a vs) :
    Calls Tryz.prog 8 #[.agg #[.slice a n cap, .int .i64 nx]] w fun e w' => e = .returned (.bool (fsOkD nx (vs.map VolR.D))) ∧ Below w.heap.size w w' := by
  have B0 : Below w.heap.size w (w.alloc (.cells #[.slice a n cap, .int .i64 nx] 29)) := (Below.refl _ w).alloc (Nat.le_refl _) _
  have z0 := Blk.new w 29 #[.slice a n cap, .int .i64 nx]
  have HF : Hid (¬ (n ≤ 6 ∧ 1 ≤ nx ∧ nx ≤ 99) → false = fsOkD nx (vs.map VolR.D)) := fun h => (fsOk_form (by rw [hn]; exact h)).symm
  have HA : Hid (n ≤ 6 → 1 ≤ nx → nx ≤ 99 → (∀ (k : Nat) (r : VolR), k < n → vs[k]? = some r → volGood nx (vs.map VolR.D) r.D k = true) → fsOkD nx (vs.map VolR.D) = ascN ((vs.map VolR.D).map VolD.id)) := fun h1 h2 h3 h => fsOk_all (by omega) h2 h3 (fun k r hk hr => h k r (by omega) hr)
  have HBD : Hid (∀ (k : Nat) (r : VolR), vs[k]? = some r → volGood nx (vs.map VolR.D) r.D k = false → false = fsOkD nx (vs.map VolR.D)) := fun k r hk h => (fsOk_bad hk h).symm
  have HAS : Hid (∀ (j : Nat) (r t : VolR), vs[j]? = some r → vs[j + 1]? = some t → t.id ≤ r.id → false = fsOkD nx (vs.map VolR.D)) := fun j r t h1 h2 h3 => (fsOk_asc h1 h2 h3).symm
  generalize fsOkD nx (vs.map VolR.D) = R at HF HA HBD HAS ⊢
  have HB : Hid _ := B0
  by_cases h6 : n ≤ 6
  · have g6 : ¬ (n : Int) > 6 := by omega
    by_cases h1 : 1 ≤ nx
    · have g1 : ¬ nx < 1 := by omega
      by_cases h99 : nx ≤ 99
      · have g99 : ¬ nx > 99 := by omega
        have hr0 := hr.keep B0
        have HR0 : Hid _ := hr0
        have HS : Hid _ := hsm
        have HW : Hid _ := hwf
        have hn' : Hid (vs.length = n) := hn
        have cN := fun (W : World) (x : ByteArray) (hW : Below (w.alloc (.cells #[.slice a n cap, .int .i64 nx] 29)).heap.size (w.alloc (.cells #[.slice a n cap, .int .i64 nx] 29)) W) => volNmI a n cap nx vs x W hn hs (RdVo.keep hr0 hW)
        have cA := fun (W : World) (hW : Below (w.alloc (.cells #[.slice a n cap, .int .i64 nx] 29)).heap.size (w.alloc (.cells #[.slice a n cap, .int .i64 nx] 29)) W) => ascV_any a n cap vs W hn hs (RdVo.keep hr0 hW)
        have CN : Hid _ := cN
        have CA : Hid _ := cA
        have t0 := z0.cell 0
        have t1 := z0.cell 1
        simp at t0 t1
        clear hr hr0 hsm hwf hn cN cA
        go_enter Tryz.func8, Tryz.ntmps8
        go_wp2
        obtain ⟨W0, hW0⟩ : ∃ W, w.alloc (.cells #[.slice a n cap, .int .i64 nx] 29) = W := ⟨_, rfl⟩
        rw [hW0] at B0 z0 CN CA HR0 ⊢
        clear HB hW0 t0 t1
        have hws := B0.size
        go_loopw [22] (fun i wr => ∃ k : Nat, k ≤ n ∧ i = .int .i64 k ∧ Hid (∀ (j : Nat) (r : VolR), j < k → vs[j]? = some r → volGood nx (vs.map VolR.D) r.D j = true) ∧ Below W0.heap.size W0 wr) (fun i _ => n - (intOf i).toNat)
        case atStart => exact ⟨0, Nat.zero_le _, rfl, fun j r hj => by omega, Below.refl _ _⟩
        case round =>
          obtain ⟨k, hk, rfl, hall, hB⟩ := hrel
          have hbz := hB.size
          by_cases hkn : k < n
          · have hki : (k : Int) < (n : Int) := by omega
            obtain ⟨r, hrk⟩ : ∃ r, vs[k]? = some r := ⟨_, List.getElem?_eq_getElem (by rw [hn'.out]; exact hkn)⟩
            obtain ⟨b, off, rfl, hlt, hc⟩ := (RdVo.keep HR0.out hB).lt (by intro h; have := hn'.out; rw [h] at this; simp at this; omega)
            obtain ⟨⟨x0, x1, x2, x3, x4, x5⟩, xr⟩ := hc k r hrk
            have hmem := List.mem_of_getElem? hrk
            have hsr := HS.out r hmem
            have hwr := HW.out r hmem
            have hbad : Hid (volGood nx (vs.map VolR.D) r.D k = false → false = R) := HBD.out k r hrk
            have hnext : Hid (volGood nx (vs.map VolR.D) r.D k = true → ∀ (j : Nat) (q : VolR), j < k + 1 → vs[j]? = some q → volGood nx (vs.map VolR.D) q.D j = true) := by
              intro h j q hj hq
              rcases (show j < k ∨ j = k by omega) with h1 | rfl
              · exact hall.out j q h1 hq
              · rw [hrk] at hq
                cases hq
                exact h
            have hgd : volGood nx (vs.map VolR.D) r.D k = (((volRight r.D && decide (1 ≤ r.D.id)) && decide (r.D.id < nx)) && (volNm (vs.map VolR.D) r.D.name == (k : Int))) := rfl
            obtain ⟨id, name, ro, limit, ra, rc, rnx, rr⟩ := r
            have hgd2 : volGood nx (vs.map VolR.D) (VolR.D ⟨id, name, ro, limit, ra, rc, rnx, rr⟩) k = (((volRight ⟨id, name, ro, limit, rnx, rr.map InoR.D⟩ && decide (1 ≤ id)) && decide (id < nx)) && (volNm (vs.map VolR.D) name == (k : Int))) := hgd
            have hsr1 := hsr.name
            have hsr2 := hsr.len
            have hsr3 := hsr.ino
            dsimp only at x0 x1 x2 x3 x4 x5 hsr1 hsr2 hsr3 hwr
            have hTR : ∀ W : World, Below wr.heap.size wr W → TR W ra rr.length rr := fun W hW => ⟨rfl, hsr2, hsr3, RdI.keep xr hW⟩
            have hcR := fun (W : World) (hW : Below wr.heap.size wr W) => isRightI id name ro limit ra rr.length rc rnx rr W (hTR W hW) hwr hsr1
            obtain ⟨n1, hn1⟩ : ∃ m, rr.length = m := ⟨_, rfl⟩
            rw [hn1] at x4 hcR
            generalize volGood nx (vs.map VolR.D) (VolR.D ⟨id, name, ro, limit, ra, rc, rnx, rr⟩) k = gd at hbad hnext hgd2
            generalize volRight ⟨id, name, ro, limit, rnx, rr.map InoR.D⟩ = rt at hcR hgd2
            have hbA : Below wr.heap.size wr (wr.alloc (.cells #[.int .i64 id, .string name, .bool ro, .int .i64 limit, .slice ra n1 rc, .int .i64 rnx] 49)) := (Below.refl _ wr).alloc (Nat.le_refl _) _
            have bx := Blk.new wr 49 #[.int .i64 id, .string name, .bool ro, .int .i64 limit, .slice ra n1 rc, .int .i64 rnx]
            have zk := (z0.keep hB).keep hbA
            have HCR : Hid _ := hcR
            have HGD : Hid _ := hgd2
            have hB1 := hB.trans (hbA.mono hbz)
            have HBX : Hid _ := And.intro bx (And.intro zk hbA)
            have HB1 : Hid _ := hB1
            have hlx : wr.heap.size < (wr.alloc (.cells #[.int .i64 id, .string name, .bool ro, .int .i64 limit, .slice ra n1 rc, .int .i64 rnx] 49)).heap.size := bx.lt
            have HLX : Hid _ := hlx
            clear hc hrk hmem hsr hsr1 hsr2 hsr3 hwr xr hgd hgd2 hTR hcR hn1 bx zk hB1 hlx hall
            go_wp2_with fail
            obtain ⟨W1, hW1⟩ : ∃ W, wr.alloc (.cells #[.int .i64 id, .string name, .bool ro, .int .i64 limit, .slice ra n1 rc, .int .i64 rnx] 49) = W := ⟨_, rfl⟩
            rw [hW1] at HBX hbA HB1 HLX ⊢
            clear hW1 x0 x1 x2 x3 x4 x5
            (with_reducible refine (volumeOf_any id name ro limit ra n1 rc rnx W1).mono ?_)
            rintro e w2 ⟨rfl, b2⟩
            have B2 : Below wr.heap.size wr w2 := hbA.trans (b2.mono hbA.size)
            have hc2 := HCR.out w2 B2
            clear HCR
            go_wp2_with fail
            (with_reducible refine hc2.mono ?_)
            rintro e w3 ⟨rfl, b3⟩
            have b23 : Below W1.heap.size W1 w3 := b2.trans (b3.mono b2.size)
            have B3 : Below W0.heap.size W0 w3 := HB1.out.trans (b23.mono HB1.out.size)
            have v0 := (Blk.keep HBX.out.1 b23).cell 0
            have v1 := (Blk.keep HBX.out.1 b23).cell 1
            have u0 := (Blk.keep HBX.out.2.1 b23).cell 0
            have u1 := (Blk.keep HBX.out.2.1 b23).cell 1
            simp at v0 v1 u0 u1
            clear hc2 b2 b3 B2
            cases rt with
            | false =>
              have hend : Hid (false = R) := hbad.out (by rw [HGD.out]; simp)
              clear hbad hnext
              go_wp2
              go_ret
              exact ⟨ret_bool hend.out, B0.trans (B3.mono hws)⟩
            | true =>
              by_cases hi1 : 1 ≤ id
              · have hi1' : ¬ id < 1 := by omega
                by_cases hi2 : id < nx
                · have hi2' : ¬ id ≥ nx := by omega
                  have hi2'' : ¬ nx ≤ id := by omega
                  have hcn := CN.out w3 name B3
                  obtain ⟨vn, hvn⟩ : ∃ v, volNm (vs.map VolR.D) name = v := ⟨_, rfl⟩
                  rw [hvn] at hcn HGD
                  clear hvn
                  go_wp2_with fail
                  (with_reducible refine hcn.mono ?_)
                  rintro e w4 ⟨rfl, b4⟩
                  have B4 : Below W0.heap.size W0 w4 := B3.trans (b4.mono B3.size)
                  clear hcn v0 v1 u0 u1
                  by_cases hvk : vn = (k : Int)
                  · have hv1 : (vn == (k : Int)) = true := by simp [hvk]
                    have hv2 : (vn != (k : Int)) = false := by simp [hvk]
                    have hnx : Hid _ := hnext.out (by rw [HGD.out, hv1]; simp [hi1, hi2])
                    clear hbad hnext hvk
                    go_wp2
                    go_roundw
                    case rel => exact ⟨k + 1, by omega, by go_num, hnx, B4⟩
                    case measure => simp [intOf]; omega
                  · have hv1 : (vn == (k : Int)) = false := by simpa using hvk
                    have hv2 : (vn != (k : Int)) = true := by simpa using hvk
                    have hend : Hid (false = R) := hbad.out (by rw [HGD.out, hv1]; simp)
                    clear hbad hnext hvk
                    go_wp2
                    go_ret
                    exact ⟨ret_bool hend.out, B0.trans (B4.mono hws)⟩
                · have hi2' : id ≥ nx := by omega
                  have hi2'' : nx ≤ id := by omega
                  have hend : Hid (false = R) := hbad.out (by rw [HGD.out, decide_eq_false hi2]; simp)
                  clear hbad hnext
                  go_wp2
                  go_ret
                  exact ⟨ret_bool hend.out, B0.trans (B3.mono hws)⟩
              · have hi1' : id < 1 := by omega
                have hend : Hid (false = R) := hbad.out (by rw [HGD.out, decide_eq_false hi1]; simp)
                clear hbad hnext
                go_wp2
                go_ret
                exact ⟨ret_bool hend.out, B0.trans (B3.mono hws)⟩
          · have hki : ¬ (k : Int) < (n : Int) := by omega
            have hend : Hid (R = ascN ((vs.map VolR.D).map VolD.id)) := HA.out h6 h1 h99 (fun j r hj hr => hall.out j r (by omega) hr)
            have hca := CA.out wr hB
            rw [idsV_D] at hend
            generalize ascN (idsV vs) = S at hca hend
            have u0 := (z0.keep hB).cell 0
            have u1 := (z0.keep hB).cell 1
            simp at u0 u1
            clear hall HA HBD HAS
            go_wp2_with fail
            (with_reducible refine hca.mono ?_)
            rintro e w5 ⟨rfl, b5⟩
            go_wp2
            go_ret
            exact ⟨ret_bool hend.out.symm, B0.trans ((hB.trans (b5.mono hbz)).mono hws)⟩
      · have g99 : nx > 99 := by omega
        have hend : Hid (false = R) := HF.out (fun h => h99 h.2.2)
        clear HF HA HBD HAS hr hsm hwf
        go_enter Tryz.func8, Tryz.ntmps8
        go_wp2
        go_ret
        exact ⟨ret_bool hend.out, HB.out⟩
    · have g1 : nx < 1 := by omega
      have hend : Hid (false = R) := HF.out (fun h => h1 h.2.1)
      clear HF HA HBD HAS hr hsm hwf
      go_enter Tryz.func8, Tryz.ntmps8
      go_wp2
      go_ret
      exact ⟨ret_bool hend.out, HB.out⟩
  · have g6 : (n : Int) > 6 := by omega
    have hend : Hid (false = R) := HF.out (fun h => h6 h.1)
    clear HF HA HBD HAS hr hsm hwf
    go_enter Tryz.func8, Tryz.ntmps8
    go_wp2
    go_ret
    exact ⟨ret_bool hend.out, HB.out⟩
end Go.Proofs.YtfjlemnohjnkhaaGreat
