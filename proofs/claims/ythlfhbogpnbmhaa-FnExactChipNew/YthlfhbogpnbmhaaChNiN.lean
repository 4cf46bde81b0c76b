/-
  The program's ChipNew.
-/
import Derived.Test.YthlfhbogpnbmhaaChOkCN
import Derived.Test.YthlfhbogpnbmhaaChHoN
namespace Go.Proofs.Ythlfhbogpnbmhaa
open Go.RowKit
def fkZ : FkR := ⟨List.replicate 8 pgZ, 0, false, rfl⟩
theorem fkZ_D : fkZ.D = bkN := rfl
theorem Try.infoCells : (Try.prog.info? 74).map (fun i => (i.zero, i.size, i.bytes)) = some (some (.agg #[.bool false, .slice none 0 0, .bool false, .slice none 0 0, .bool false, .slice none 0 0, .bool false, .slice none 0 0, .bool false, .slice none 0 0, .bool false, .slice none 0 0, .bool false, .slice none 0 0, .bool false, .slice none 0 0, .int .i64 0, .bool false]), 18, 272) := by kernel_rfl
theorem made_rdFs {w : World} {g n : Nat} (h : w.ownsRow 0 74 18 (.slice (some ⟨g, 0, none⟩) n n) n (madeCells (Value.agg #[.bool false, .slice none 0 0, .bool false, .slice none 0 0, .bool false, .slice none 0 0, .bool false, .slice none 0 0, .bool false, .slice none 0 0, .bool false, .slice none 0 0, .bool false, .slice none 0 0, .bool false, .slice none 0 0, .int .i64 0, .bool false]).cells (n * 18)).toList) : RdFs w (some ⟨g, 0, none⟩) (List.replicate n fkZ) := by
  have h1 : OwnE fkE 74 w (.slice (some ⟨g, 0, none⟩) n n) n (List.replicate n fkZ) := made_row fkE fkZ (.agg #[.bool false, .slice none 0 0, .bool false, .slice none 0 0, .bool false, .slice none 0 0, .bool false, .slice none 0 0, .bool false, .slice none 0 0, .bool false, .slice none 0 0, .bool false, .slice none 0 0, .bool false, .slice none 0 0, .int .i64 0, .bool false]) rfl h
  obtain ⟨a, c, e, r⟩ := OwnE.rd (rd := fun f : FkR => ∀ p ∈ f.ps, Rd w p.a p.zs) h1 (fun f hf p hp => by
    rw [List.mem_replicate] at hf
    rw [hf.2] at hp
    have : p ∈ List.replicate 8 pgZ := hp
    rw [List.mem_replicate] at this
    rw [this.2]
    exact .inl rfl)
  simp only [Value.slice.injEq] at e
  rw [e.1]
  exact r
set_option maxRecDepth 100000 in
set_option maxHeartbeats 4000000 in
theorem chipNewI (x : Int) (w : World) : Calls Try.prog 10 #[.int .i64 x] w (ChA w (newD x)) := by
  have B0 : Below w.heap.size w (w.alloc (.cells #[.slice none 0 0] 24)) := (Below.refl _ w).alloc (Nat.le_refl _) _
  have z0 := Blk.new w 24 #[.slice none 0 0]
  have hcnt := countOkI x (w.alloc (.cells #[.slice none 0 0] 24))
  by_cases hx : 3 ≤ x ∧ x ≤ 24
  · obtain ⟨n, rfl⟩ : ∃ n : Nat, x = (n : Int) := ⟨x.toNat, by omega⟩
    have hnn : n ≤ 24 := by omega
    have hd : (decide (3 ≤ (n : Int)) && decide ((n : Int) ≤ 24)) = true := by simp; omega
    rw [hd] at hcnt
    have HD : Hid (newD (n : Int) = (List.replicate n fkZ).map FkR.D) := by show _ = _; unfold newD; rw [if_pos hx]; simp [fkZ_D]
    obtain ⟨i0, hi, hz0, hz1, hz2⟩ := info_parts Try.infoCells
    have hm : n ≤ maxLen := by unfold maxLen; omega
    have hby : i0.bytes * n ≤ 281474976710656 := by rw [hz2]; omega
    have HB0 : Hid _ := B0
    clear hx hd B0
    rw [HD.out]
    generalize hGP : ChA w ((List.replicate n fkZ).map FkR.D) = P
    have HGP : Hid _ := hGP
    clear hGP
    go_enter Try.func10, Try.ntmps10
    go_wp2_with fail
    refine hcnt.mono ?_
    rintro e w1 ⟨rfl, hw⟩
    obtain rfl := hw.symm
    go_wp2_with (at_make; refine wpList_make_full _ rfl (.tmp 8) (.tmp 8) 52 rfl 0 74 i0 _ 18 Try.underlying52 hi hz0 hz1 .i64 .i64 _ _ n rfl rfl rfl rfl hby hm (Nat.zero_le _) ?_; intro w2 hown hgrow)
    have rf := made_rdFs hown
    have b2 : Below (w.alloc (.cells #[.slice none 0 0] 24)).heap.size (w.alloc (.cells #[.slice none 0 0] 24)) w2 := (Below.refl _ _).grown hgrow (Nat.le_refl _) (by simp)
    have z2 := z0.keep b2
    have B2 : Below w.heap.size w w2 := HB0.out.trans (b2.mono HB0.out.size)
    have b3 : Below w2.heap.size w2 (w2.alloc (.cells #[.slice (some ⟨(w.alloc (.cells #[.slice none 0 0] 24)).heap.size, 0, none⟩) n n] 54)) := (Below.refl _ w2).alloc (Nat.le_refl _) _
    have zF := Blk.new w2 54 #[.slice (some ⟨(w.alloc (.cells #[.slice none 0 0] 24)).heap.size, 0, none⟩) n n]
    have htt : totB ((List.replicate n fkZ).map FkR.D) ≤ 1048576 := by
      have : totB ((List.replicate n fkZ).map FkR.D) = n * 9 := by
        simp only [List.map_replicate, totB, List.map_replicate, List.sum_replicate_nat]
        rfl
      omega
    have hcall := handedI w2.heap.size (some ⟨(w.alloc (.cells #[.slice none 0 0] 24)).heap.size, 0, none⟩) n n (List.replicate n fkZ) _ (by simp) htt zF (rf.keep b3)
    have hz3 := z2.keep b3
    obtain ⟨H, hH⟩ : ∃ H, w.heap.size = H := ⟨_, rfl⟩
    have hs1 : (w.alloc (.cells #[.slice none 0 0] 24)).heap.size = w.heap.size + 1 := by simp
    rw [hs1] at hcall zF
    obtain ⟨W3, hW3⟩ : ∃ W, w2.alloc (.cells #[.slice (some ⟨w.heap.size + 1, 0, none⟩) n n] 54) = W := ⟨_, rfl⟩
    rw [hs1] at b3 hz3
    rw [hW3] at b3 hz3 hcall
    have HB3 : Hid (Below w.heap.size w W3) := B2.trans (b3.mono B2.size)
    rw [hH] at hz3
    clear hown hgrow b2 z2 rf zF htt hs1 hi hz0 hz1 hz2 hby B2 b3 hcnt z0
    go_wp2_with fail
    rw [hW3, hH]
    clear hW3
    refine hcall.mono ?_
    rintro e w4 ⟨a1, n1, c1, qs, rfl, hnb, hl, b4⟩
    have z4 := hz3.keep b4
    have x0 := z4.cell 0
    have f0 := z4.frozen 0
    have zf := z4.set 0 (.slice a1 n1 c1)
    have d0 := zf.cell 0
    simp at x0 d0
    have HNB : Hid _ := hnb
    have HB4 : Hid (Below w.heap.size w w4) := HB3.out.trans (b4.mono HB3.out.size)
    have HLT : Hid (H < W3.heap.size) := hz3.lt
    have HHH : Hid (w.heap.size = H) := hH
    clear hcall z4 zf hnb hz3 b4
    go_wp2
    refine bodyPost_ret (v := .agg #[.slice a1 n1 c1]) (by simp [results, Try.f10, go_sem, d0]) rfl ?_
    rw [← HGP.out]
    have h1 := HHH.out
    have h2 := HB3.out.size
    exact ⟨a1, n1, c1, qs, rfl, NewBs.wider (B := W3.heap.size) (NewBs.set_below (B := W3.heap.size) (j := H) HNB.out HLT.out) h2, hl, HB4.out.setCell (p := ⟨H, 0, none⟩) (by simp only; omega) _⟩
  · have hd : (decide (3 ≤ x) && decide (x ≤ 24)) = false := by
      rw [← Bool.not_eq_true]; intro h; simp at h; exact hx h
    rw [hd] at hcnt
    have HD : Hid (newD x = []) := by show _ = _; unfold newD; rw [if_neg hx]
    rw [HD.out]
    generalize hGP : ChA w [] = P
    have HGP : Hid _ := hGP
    have HB0 : Hid _ := B0
    clear hGP hd hx B0 z0
    go_enter Try.func10, Try.ntmps10
    go_wp2_with fail
    refine hcnt.mono ?_
    rintro e w1 ⟨rfl, hw⟩
    obtain rfl := hw.symm
    go_wp2
    refine bodyPost_ret (v := .agg #[.slice none 0 0]) (by simp [results, Try.f10, go_sem]) rfl ?_
    rw [← HGP.out]
    refine ⟨none, 0, 0, [], rfl, ⟨rfl, ⟨ownE_nil _ _ _, fun b hb => by simp at hb⟩, fun g hg => by simp [fpBs, Value.ownBlock] at hg, by simp [fpBs, Value.ownBlock]⟩, rfl, ?_⟩
    exact HB0.out
end Go.Proofs.Ythlfhbogpnbmhaa
