/-
  Joined: ChOkC, ChNw.
-/
import Derived.Test.YtcohppfocfepdaaDoorJ11P
namespace Go.Proofs.YtcohppfocfepdaaDoor
section
open Go.RowKit
theorem chipOk_no {ds : List BkD} (h : ¬ ChOk ds) : chipOkB ds = false := by
  have := chipOkB_iff ds
  cases hb : chipOkB ds with
  | false => rfl
  | true => exact absurd (this.1 hb) h
set_option maxHeartbeats 1600000 in
theorem countOkI (x : Int) (w : World) :
    Calls Tryd.prog 28 #[.int .i64 x] w fun e w' => e = .returned (.bool (decide (3 ≤ x) && decide (x ≤ 24))) ∧ w' = w := by
  go_enter Tryd.func28, Tryd.ntmps28
  by_cases h1 : 3 ≤ x
  · by_cases h2 : x ≤ 24
    · go_wp2
      go_ret
      exact ⟨by simp [h1, h2], rfl⟩
    · go_wp2
      go_ret
      exact ⟨by simp [h2], rfl⟩
  · go_wp2
    go_ret
    exact ⟨by simp; omega, rfl⟩
set_option maxRecDepth 100000 in
set_option maxHeartbeats 4000000 in
theorem chipOkI (a : Option Addr) (n cap : Nat) (bs : List BkR) (w : World) (ht : CR w a n bs) :
    Calls Tryd.prog 11 #[.agg #[.slice a n cap]] w fun e w' => e = .returned (.bool (chipOkB (bs.map BkR.D))) ∧ Below w.heap.size w w' := by
  have B0 : Below w.heap.size w (w.alloc (.cells #[.slice a n cap] 26)) := (Below.refl _ w).alloc (Nat.le_refl _) _
  have hn1 := ht.n
  have hcnt := countOkI (n : Int) (w.alloc (.cells #[.slice a n cap] 26))
  by_cases hc : 3 ≤ n ∧ n ≤ 24
  · have hd : (decide (3 ≤ (n : Int)) && decide ((n : Int) ≤ 24)) = true := by simp; omega
    rw [hd] at hcnt
    have HT : Hid _ := ht.keep B0
    have HB : Hid _ := B0
    have hln : Hid (bs.length = n) := ht.len
    obtain ⟨R, hR⟩ : ∃ R, chipOkB (bs.map BkR.D) = R := ⟨_, rfl⟩
    have HR : Hid _ := hR
    rw [hR]
    clear ht B0 hR hd
    go_enter Tryd.func11, Tryd.ntmps11
    go_wp2_with fail
    refine hcnt.mono ?_
    rintro e w1 ⟨rfl, hw⟩
    obtain rfl := hw.symm
    clear hcnt
    go_wp2
    obtain ⟨W0, hW0⟩ : ∃ W, w.alloc (.cells #[.slice a n cap] 26) = W := ⟨_, rfl⟩
    rw [hW0] at HB HT ⊢
    clear hW0
    go_loopw [13] (fun i wr => ∃ (k : Nat), k ≤ n ∧ i = .int .i64 k ∧ Hid (∀ (j : Nat) (b : BkR), j < k → bs[j]? = some b → BkOk b.D) ∧ Hid (Below W0.heap.size W0 wr)) (fun i _ => n - (intOf i).toNat)
    case atStart => exact ⟨0, Nat.zero_le _, rfl, fun j b hj => by omega, Below.refl _ _⟩
    case round =>
      obtain ⟨k, hk, rfl, hall, hB⟩ := hrel
      by_cases hkn : k < n
      · have hki : (k : Int) < (n : Int) := by omega
        obtain ⟨b, off, r, rfl, hlt, hrk, x3, hrp, htp⟩ := (HT.out.keep hB.out).some hkn
        obtain ⟨x0, x1, x2⟩ := x3
        have hB2 : Hid (Below W0.heap.size W0 (wr.alloc (.cells #[.slice r.a r.ps.length r.cap, .int .i64 r.wear, .bool r.bad] 34))) := hB.out.alloc hB.out.size _
        have hcall := blockOkI r.a r.ps.length r.cap r.wear r.bad r.ps (wr.alloc (.cells #[.slice r.a r.ps.length r.cap, .int .i64 r.wear, .bool r.bad] 34)) rfl htp (hrp.keep ((Below.refl _ wr).alloc (Nat.le_refl _) _))
        have hmem : Hid (¬ BkOk r.D → R = false) := fun h => by
          rw [← HR.out]
          exact chipOk_no fun hok => h (hok.2.2 r.D (List.mem_map_of_mem (List.mem_of_getElem? hrk)))
        have hnx : Hid (BkOk r.D → ∀ (j : Nat) (b : BkR), j < k + 1 → bs[j]? = some b → BkOk b.D) := fun h j b hj hb => by
          rcases (show j < k ∨ j = k by omega) with h1 | rfl
          · exact hall.out j b h1 hb
          · rw [hrk] at hb
            simp at hb
            subst hb
            exact h
        have hiff : Hid (bkOkB ⟨r.ps.map PgR.D, r.wear, r.bad⟩ = true ↔ BkOk r.D) := bkOkB_iff _
        obtain ⟨n1, hn1'⟩ : ∃ n1, r.ps.length = n1 := ⟨_, rfl⟩
        rw [hn1'] at x0 hB2 hcall
        obtain ⟨G, hG⟩ : ∃ G, bkOkB ⟨r.ps.map PgR.D, r.wear, r.bad⟩ = G := ⟨_, rfl⟩
        rw [hG] at hcall hiff
        clear hrk hn1' hG hall hrp htp
        cases G
        · have hR0 : R = false := hmem.out (fun h => by have := hiff.out.2 h; simp at this)
          subst hR0
          go_wp2_with fail
          refine hcall.mono ?_
          rintro e w2 ⟨rfl, b2⟩
          clear hcall x0 x1 x2
          go_wp2
          go_ret
          exact ⟨rfl, HB.out.trans ((hB2.out.trans (b2.mono hB2.out.size)).mono HB.out.size)⟩
        · have hA : Hid _ := hnx.out (hiff.out.1 rfl)
          go_wp2_with fail
          refine hcall.mono ?_
          rintro e w2 ⟨rfl, b2⟩
          clear hcall x0 x1 x2
          go_wp2
          go_roundw
          case rel => exact ⟨k + 1, by omega, by go_num, hA, hB2.out.trans (b2.mono hB2.out.size)⟩
          case measure => simp [intOf]; omega
      · have hki : ¬ (k : Int) < (n : Int) := by omega
        have hR1 : R = true := by
          rw [← HR.out, chipOkB_iff]
          refine ⟨by simp [hln.out]; omega, by simp [hln.out]; omega, fun d hd => ?_⟩
          obtain ⟨b, hb, rfl⟩ := List.mem_map.1 hd
          obtain ⟨j, hj⟩ := List.mem_iff_getElem?.1 hb
          exact hall.out j b (by have := (List.getElem?_eq_some_iff.1 hj).1; have := hln.out; omega) hj
        subst hR1
        go_wp2
        go_ret
        exact ⟨rfl, HB.out.trans (hB.out.mono HB.out.size)⟩
  · have hd : (decide (3 ≤ (n : Int)) && decide ((n : Int) ≤ 24)) = false := by
      rw [← Bool.not_eq_true]; intro h; simp at h; exact hc ⟨by omega, by omega⟩
    rw [hd] at hcnt
    rw [chipOk_no (fun h => hc ⟨by have := h.1; simpa [ht.len] using this, by have := h.2.1; simpa [ht.len] using this⟩)]
    clear ht hd
    go_enter Tryd.func11, Tryd.ntmps11
    go_wp2_with fail
    refine hcnt.mono ?_
    rintro e w1 ⟨rfl, hw⟩
    obtain rfl := hw.symm
    go_wp2
    go_ret
    exact ⟨rfl, B0⟩
set_option maxRecDepth 100000 in
set_option maxHeartbeats 4000000 in
theorem chipOkS (a : Option Addr) (n cap : Nat) (bs : List BkR) (w : World) (ht : CR w a n bs) :
    Calls Tryd.prog 58 #[.agg #[.slice a n cap]] w fun e w' => e = .returned (.bool (chipOkB (bs.map BkR.D))) ∧ Below w.heap.size w w' := by
  have B0 : Below w.heap.size w (w.alloc (.cells #[.slice a n cap] 26)) := (Below.refl _ w).alloc (Nat.le_refl _) _
  have z0 := Blk.new w 26 #[.slice a n cap]
  have hn1 := ht.n
  have HT : Hid _ := ht.keep B0
  have HB : Hid _ := B0
  have hln : Hid (bs.length = n) := ht.len
  obtain ⟨R, hR⟩ : ∃ R, chipOkB (bs.map BkR.D) = R := ⟨_, rfl⟩
  have HR : Hid _ := hR
  rw [hR]
  clear ht B0 hR
  obtain ⟨H, hH⟩ : ∃ H, w.heap.size = H := ⟨_, rfl⟩
  rw [hH] at z0
  go_enter Tryd.func58, Tryd.ntmps58
  go_wp2
  obtain ⟨W0, hW0⟩ : ∃ W, w.alloc (.cells #[.slice a n cap] 26) = W := ⟨_, rfl⟩
  rw [hW0] at z0 HB HT ⊢
  clear hW0
  try rw [hH]
  go_loopw [3] (fun i wr => ∃ (k : Nat), k ≤ n ∧ i = .int .i64 k ∧ Hid (∀ (j : Nat) (b : BkR), j < k → bs[j]? = some b → BkOk b.D) ∧ Hid (Below W0.heap.size W0 wr)) (fun i _ => n - (intOf i).toNat)
  case atStart => exact ⟨0, Nat.zero_le _, rfl, fun j b hj => by omega, Below.refl _ _⟩
  case round =>
    obtain ⟨k, hk, rfl, hall, hB⟩ := hrel
    have t0 := (z0.keep hB.out).cell 0
    simp at t0
    by_cases hkn : k < n
    · have hki : (k : Int) < (n : Int) := by omega
      obtain ⟨b, off, r, rfl, hlt, hrk, x3, hrp, htp⟩ := (HT.out.keep hB.out).some hkn
      obtain ⟨x0, x1, x2⟩ := x3
      have hcall := l10BlockS r.a r.ps.length r.cap r.wear r.bad r.ps wr rfl htp hrp
      have hmem : Hid (¬ BkOk r.D → R = false) := fun h => by
        rw [← HR.out]
        exact chipOk_no fun hok => h (hok.2.2 r.D (List.mem_map_of_mem (List.mem_of_getElem? hrk)))
      have hnx : Hid (BkOk r.D → ∀ (j : Nat) (b : BkR), j < k + 1 → bs[j]? = some b → BkOk b.D) := fun h j b hj hb => by
        rcases (show j < k ∨ j = k by omega) with h1 | rfl
        · exact hall.out j b h1 hb
        · rw [hrk] at hb
          simp at hb
          subst hb
          exact h
      have hiff : Hid (bkOkB ⟨r.ps.map PgR.D, r.wear, r.bad⟩ = true ↔ BkOk r.D) := bkOkB_iff _
      obtain ⟨n1, hn1'⟩ : ∃ n1, r.ps.length = n1 := ⟨_, rfl⟩
      rw [hn1'] at x0 hcall
      obtain ⟨G, hG⟩ : ∃ G, bkOkB ⟨r.ps.map PgR.D, r.wear, r.bad⟩ = G := ⟨_, rfl⟩
      rw [hG] at hcall hiff
      clear hrk hn1' hG hall hrp htp
      cases G
      · have hR0 : R = false := hmem.out (fun h => by have := hiff.out.2 h; simp at this)
        subst hR0
        go_wp2_with fail
        refine hcall.mono ?_
        rintro e w2 ⟨rfl, b2⟩
        clear hcall x0 x1 x2
        go_wp2
        go_ret
        rw [← hH]
        exact ⟨rfl, HB.out.trans ((hB.out.trans (b2.mono hB.out.size)).mono HB.out.size)⟩
      · have hA : Hid _ := hnx.out (hiff.out.1 rfl)
        go_wp2_with fail
        refine hcall.mono ?_
        rintro e w2 ⟨rfl, b2⟩
        clear hcall x0 x1 x2
        go_wp2
        go_roundw
        case rel => exact ⟨k + 1, by omega, by go_num, hA, hB.out.trans (b2.mono hB.out.size)⟩
        case measure => simp [intOf]; omega
    · have hki : ¬ (k : Int) < (n : Int) := by omega
      have hin := l1In_any (n : Int) 3 24 wr
      have hR1 : Hid ((decide (3 ≤ (n : Int)) && decide ((n : Int) ≤ 24)) = R) := by
        show _ = _
        rw [← HR.out]
        refine chipOkB_eq ?_
        simp only [Bool.and_eq_true, decide_eq_true_eq]
        constructor
        · intro h
          refine ⟨by simp [hln.out]; omega, by simp [hln.out]; omega, fun d hd => ?_⟩
          obtain ⟨b, hb, rfl⟩ := List.mem_map.1 hd
          obtain ⟨j, hj⟩ := List.mem_iff_getElem?.1 hb
          exact hall.out j b (by have := (List.getElem?_eq_some_iff.1 hj).1; have := hln.out; omega) hj
        · intro h
          have h1 := h.1
          have h2 := h.2.1
          have h3 := hln.out
          simp at h1 h2
          omega
      rw [hR1.out] at hin
      go_wp2_with fail
      refine hin.mono ?_
      rintro e w2 ⟨rfl, hw⟩
      obtain rfl := hw.symm
      clear hin
      go_wp2
      go_ret
      rw [← hH]
      exact ⟨rfl, HB.out.trans (hB.out.mono HB.out.size)⟩
end

section
open Go.RowKit
/-- A new chip was answered. -/
def ChA (w : World) (ds : List BkD) (e : Ending) (w' : World) : Prop := ∃ a n c qs, e = .returned (.agg #[.slice a n c]) ∧ NewBs w' w.heap.size (.slice a n c) ds qs ∧ qs.length = n ∧ Below w.heap.size w w'
/-- A block with nothing. -/
def bkN : BkD := ⟨List.replicate 8 ⟨false, []⟩, 0, false⟩
/-- What ChipNew answers. -/
def newD (x : Int) : List BkD := if 3 ≤ x ∧ x ≤ 24 then List.replicate x.toNat bkN else []
theorem new_row {W : World} {M : Array Value} (hM : M = madeCells (Value.agg #[.bool false, .slice none 0 0]).cells 16) : NewPs (W.alloc (.cells M 55)) W.heap.size (.slice (some ⟨W.heap.size, 0, none⟩) 8 8) (List.replicate 8 ⟨false, []⟩) (List.replicate 8 pgZ) := by
  have h1 : (W.alloc (.cells M 55)).ownsRow 0 55 2 (.slice (some ⟨W.heap.size, 0, none⟩) 8 8) 8 (madeCells (Value.agg #[.bool false, .slice none 0 0]).cells (8 * 2)).toList := by
    refine ⟨by simp [madeCells], .inr ⟨W.heap.size, 8, M, rfl, Nat.zero_le _, heap_alloc_new W _, Nat.le_refl _, by unfold maxLen; omega, by rw [hM]; simp [madeCells], ?_⟩⟩
    rw [hM]
    exact List.take_of_length_le (by simp [madeCells])
  have h2 := made_ownPs h1
  refine ⟨by rw [List.map_replicate]; rfl, ⟨h2, fun p hp => ?_⟩, fun g hg => ?_, ?_⟩
  · rw [List.mem_replicate] at hp
    rw [hp.2]
    exact ⟨RowB.nil _, Nat.le_refl _⟩
  · simp [fpPs, pgZ, PgR.v, Value.ownBlock] at hg
    omega
  · simp [fpPs, pgZ, PgR.v, Value.ownBlock]
set_option maxRecDepth 100000 in
set_option maxHeartbeats 8000000 in
theorem chipNewS (x : Int) (w : World) :
    Calls Tryd.prog 54 #[.int .i64 x] w (ChA w (newD x)) := by
  have B0 : Below w.heap.size w (w.alloc (.cells #[.slice none 0 0] 26)) := (Below.refl _ w).alloc (Nat.le_refl _) _
  have hws : (w.alloc (.cells #[.slice none 0 0] 26)).heap.size = w.heap.size + 1 := by simp
  have z0 := Blk.new w 26 #[.slice none 0 0]
  have z1 := Blk.new (w.alloc (.cells #[.slice none 0 0] 26)) 26 #[.slice none 0 0]
  have cc0 : CC (w.alloc (.cells #[.slice none 0 0] 26)) ((w.alloc (.cells #[.slice none 0 0] 26)).alloc (.cells #[.slice none 0 0] 26)) (w.alloc (.cells #[.slice none 0 0] 26)).heap.size (.slice none 0 0) [] [] := CC.new ((Below.refl _ _).alloc (Nat.le_refl _) _) z1 (Nat.le_refl _)
  obtain ⟨i0, hi, hz0, hz1, hz2⟩ := info_parts Tryd.infoPage
  obtain ⟨M, hM⟩ : ∃ M, M = madeCells (Value.agg #[.bool false, .slice none 0 0]).cells 16 := ⟨_, rfl⟩
  have hmk : ∀ W : World, (Instr.makeSlice 32 (.int .i64 8) (.int .i64 8)).run Tryd.prog W = .ok (.slice (some ⟨W.heap.size, 0, none⟩) 8 8) (W.alloc (.cells M 55)) := fun W => by
    have h := run_make (P := Tryd.prog) W 32 55 i0 _ Tryd.underlying32 hi hz0 .i64 .i64 8 8 (by omega) (by omega) (by rw [hz2]; omega) (by omega)
    rw [hz1] at h
    rw [hM]
    exact h
  have HM : Hid _ := hM
  clear hM hi hz0 hz1 hz2
  go_enter Tryd.func54, Tryd.ntmps54
  go_upto_region 3 with fail
  obtain ⟨W0, hW0⟩ : ∃ W, w.alloc (.cells #[.slice none 0 0] 26) = W := ⟨_, rfl⟩
  rw [hW0] at B0 z0 cc0 hws ⊢
  clear hW0 z1
  obtain ⟨H, hH⟩ : ∃ H, w.heap.size = H := ⟨_, rfl⟩
  have HH : Hid _ := hH
  rw [hH] at z0 hws ⊢
  rw [hws] at cc0
  have HZ0 : Hid (Blk W0 H 26 #[.slice none 0 0]) := z0
  have HB0 : Hid (Below H w W0) := by rw [← hH]; exact B0
  have HW : Hid _ := hws
  clear z0 B0 hH hws
  by_cases hx : 3 ≤ x ∧ x ≤ 24
  · obtain ⟨n, rfl⟩ : ∃ n : Nat, x = (n : Int) := ⟨x.toNat, by omega⟩
    have hnn : n ≤ 24 := by omega
    have HX : Hid _ := hx
    have HD : Hid (newD (n : Int) = List.replicate n bkN) := by show _ = _; unfold newD; rw [if_pos hx]; simp
    have hd : (decide (3 ≤ (n : Int)) && decide ((n : Int) ≤ 24)) = true := by simp; omega
    have HIN : Hid (∀ W : World, Calls Tryd.prog 59 #[.int .i64 (n : Int), .int .i64 3, .int .i64 24] W fun e w' => e = .returned (.bool true) ∧ w' = W) := fun W => by have := l1In_any (n : Int) 3 24 W; rw [hd] at this; exact this
    clear hx hd
    go_loopw [4] (fun i wr => ∃ (k : Nat) (v : Value) (us : List BkR), k ≤ n ∧ i = .int .i64 k ∧ us.length = k ∧ Hid (CC W0 wr (H + 1) v us (List.replicate k bkN))) (fun i _ => n - (intOf i).toNat)
    case atStart => exact ⟨0, .slice none 0 0, [], by omega, rfl, rfl, cc0⟩
    case round =>
      obtain ⟨k, v, us, hk, rfl, hus, hcc⟩ := hrel
      clear cc0
      by_cases hkn : k < n
      · have hki : (k : Int) < (n : Int) := by omega
        have cb := hcc.out
        have x0 := cb.x.cell 0
        simp at x0
        go_upto_region 5 with (go_at_call 59; refine (HIN.out _).mono ?_; rintro e w1 ⟨rfl, hw1⟩; obtain rfl := hw1.symm)
        have bA : Below wr.drew.heap.size wr.drew (wr.drew.alloc (.cells M 55)) := (Below.refl _ _).alloc (Nat.le_refl _) _
        have cbd : CC W0 wr.drew (H + 1) v us (List.replicate k bkN) := cb.keep (Below.refl _ _).drew
        have cb9 := cbd.keep bA
        have hnp := new_row (W := wr.drew) HM.out
        have hrow := cb9.row
        rw [hus] at hrow
        have happ := fun ty => app_block (wr.drew.alloc (.cells M 55)) v us k hus (by omega) hrow ⟨some ⟨wr.drew.heap.size, 0, none⟩, 8, List.replicate 8 pgZ, 0, false⟩ ty 8 (by simp)
        have y0 := cb9.x.cell 0
        have y1 := (cb9.x.alloc (.cells #[.slice (some ⟨wr.drew.heap.size, 0, none⟩) 8 8, .int .i64 0, .bool false] 34)).cell 0
        simp at y0 y1
        have y0' : (wr.alloc (.cells M 55)).cell? ⟨H + 1, 0, none⟩ = some v := y0
        have y1' : ((wr.alloc (.cells M 55)).alloc (.cells #[.slice (some ⟨wr.heap.size, 0, none⟩) 8 8, .int .i64 0, .bool false] 34)).cell? ⟨H + 1, 0, none⟩ = some v := y1
        have hwd : wr.drew.heap.size = wr.heap.size := rfl
        dsimp only at happ
        rw [hwd] at happ hnp bA
        have hsz : (wr.drew.alloc (.cells M 55)).heap.size = wr.heap.size + 1 := by simp
        rw [hsz] at happ
        have HCB : Hid _ := cbd
        have HNP : Hid _ := hnp
        have HBA : Hid _ := bA
        have HC9 : Hid _ := cb9
        clear cb cbd cb9 hnp hrow bA hcc hwd hsz
        go_region_law (refine step_appAny ((wr.drew.alloc (.cells M 55)).alloc (.cells #[.slice (some ⟨wr.heap.size, 0, none⟩) 8 8, .int .i64 0, .bool false] 34)) rfl (.tmp 16) (.tmp 19) 24 rfl v (.slice (some ⟨wr.heap.size + 1, 0, none⟩) 1 1) _ rfl rfl happ ?_; intro v2 W10 hap2; obtain ⟨a2, c2, rfl, _⟩ := OwnE.rd (rd := fun _ => True) hap2.own (fun _ _ => trivial); have hxg := blk_gr (HC9.out.x.alloc (.cells #[.slice (some ⟨wr.heap.size, 0, none⟩) 8 8, .int .i64 0, .bool false] 34)) hap2.gr (fun e => (HC9.out.vn (H + 1) e).2.1 rfl); have g0 := hxg.cell 0; have gf := hxg.frozen 0; simp at g0; dsimp only)
        all_goals (have ccn : CC W0 (W10.setCell ⟨H + 1, 0, none⟩ (.slice a2 (k + 1) c2)) (H + 1) (.slice a2 (k + 1) c2) (us ++ [⟨some ⟨wr.heap.size, 0, none⟩, 8, List.replicate 8 pgZ, 0, false⟩]) (List.replicate k bkN ++ [bkN]) := CC.step HCB.out hus (by simp) HBA.out HNP.out hap2 (by simp [hus]); rw [← List.replicate_succ'] at ccn; have CCN : Hid _ := ccn; have hul : (us ++ [⟨some ⟨wr.heap.size, 0, none⟩, 8, List.replicate 8 pgZ, 0, false⟩] : List BkR).length = k + 1 := (by simp [hus]); clear ccn hap2 happ hxg g0 gf x0 y0 y1 y0' y1')
        all_goals go_wp2
        all_goals go_roundw
        all_goals first
          | (case rel => exact ⟨k + 1, _, _, by omega, by go_num, hul, CCN⟩)
          | (case measure => simp [intOf]; omega)
      · have hki : ¬ (k : Int) < (n : Int) := by omega
        obtain rfl : k = n := by omega
        have hco := hcc.out
        obtain ⟨va, vc, rfl, _⟩ := OwnE.rd (rd := fun _ => True) hco.row (fun _ _ => trivial)
        rw [hus] at hco
        have x0 := hco.x.cell 0
        have zr := Blk.keep HZ0.out hco.bel
        have r0 := zr.cell 0
        have f0 := zr.frozen 0
        have zf := zr.set 0 (.slice va k vc)
        have d0 := zf.cell 0
        simp at x0 r0 d0
        have HC : Hid _ := hco
        clear hco zr zf hcc
        go_wp2
        refine bodyPost_ret (v := .agg #[.slice va k vc]) (by simp [results, Tryd.f54, go_sem, d0]) rfl ?_
        have hc := HC.out
        have hw := HW.out
        have hH := HH.out
        have hbs := HB0.out
        have bel : Below w.heap.size w wr := by rw [hH]; exact hbs.trans (hc.bel.mono (by omega))
        rw [HD.out]
        exact ⟨va, k, vc, us, rfl, NewBs.wider (B := W0.heap.size) (NewBs.set_below (B := W0.heap.size) (j := H) (hc.done hus) (by omega)) (by omega), hus, bel.setCell (p := ⟨H, 0, none⟩) (by simp only; omega) _⟩
  · have HD : Hid (newD x = []) := by show _ = _; unfold newD; rw [if_neg hx]
    have hd : (decide (3 ≤ x) && decide (x ≤ 24)) = false := by
      rw [← Bool.not_eq_true]; intro h; simp at h; exact hx h
    have x0 := cc0.x.cell 0
    have zr := Blk.keep HZ0.out cc0.bel
    have r0 := zr.cell 0
    have f0 := zr.frozen 0
    have zf := zr.set 0 (.slice none 0 0)
    have d0 := zf.cell 0
    simp at x0 r0 d0
    have HC : Hid _ := cc0
    have HIN : Hid (∀ W : World, Calls Tryd.prog 59 #[.int .i64 x, .int .i64 3, .int .i64 24] W fun e w' => e = .returned (.bool false) ∧ w' = W) := fun W => by have := l1In_any x 3 24 W; rw [hd] at this; exact this
    clear cc0 zr zf hd
    refine wp_loop_rounds 1 ?_; rw [rounds_succ]
    by_cases h0 : 0 < x
    · go_wp2_with (go_at_call 59; refine (HIN.out _).mono ?_; rintro e w1 ⟨rfl, hw1⟩; obtain rfl := hw1.symm)
      refine bodyPost_ret (v := .agg #[.slice none 0 0]) (by simp [results, Tryd.f54, go_sem, d0]) rfl ?_
      have hc := HC.out
      have hw := HW.out
      have hH := HH.out
      have hbs := HB0.out
      have bel : Below w.heap.size w (W0.alloc (.cells #[.slice none 0 0] 26)) := by rw [hH]; exact hbs.trans (hc.bel.mono (by omega))
      rw [HD.out]
      exact ⟨none, 0, 0, [], rfl, NewBs.wider (B := W0.heap.size) (NewBs.set_below (B := W0.heap.size) (j := H) (hc.done rfl) (by omega)) (by omega), rfl, bel.setCell (p := ⟨H, 0, none⟩) (by simp only; omega) _⟩
    · go_wp2
      refine bodyPost_ret (v := .agg #[.slice none 0 0]) (by simp [results, Tryd.f54, go_sem, d0]) rfl ?_
      have hc := HC.out
      have hw := HW.out
      have hH := HH.out
      have hbs := HB0.out
      have bel : Below w.heap.size w (W0.alloc (.cells #[.slice none 0 0] 26)) := by rw [hH]; exact hbs.trans (hc.bel.mono (by omega))
      rw [HD.out]
      exact ⟨none, 0, 0, [], rfl, NewBs.wider (B := W0.heap.size) (NewBs.set_below (B := W0.heap.size) (j := H) (hc.done rfl) (by omega)) (by omega), rfl, bel.setCell (p := ⟨H, 0, none⟩) (by simp only; omega) _⟩
/-- A block of a flash: eight pages, laid flat. -/
structure FkR where
  ps : List PgR
  wear : Int
  bad : Bool
  h8 : ps.length = 8
def FkR.D (f : FkR) : BkD := ⟨f.ps.map PgR.D, f.wear, f.bad⟩
def fkE : El FkR := ⟨18, by omega, fun f => pgE.xv f.ps ++ [.int .i64 f.wear, .bool f.bad], fun f => by rw [List.length_append, pgE.xv_length, f.h8]; rfl⟩
def RdFs (w : World) (a : Option Addr) (fs : List FkR) : Prop := RdE fkE (fun f => ∀ p ∈ f.ps, Rd w p.a p.zs) w a fs
theorem RdFs.keep {w w' : World} {a : Option Addr} {fs : List FkR} (h : RdFs w a fs) (hb : Below w.heap.size w w') : RdFs w' a fs := RdE.mono h hb fun _ _ hr p hp => Rd.keep (hr p hp) hb
theorem list8 {α : Type} {l : List α} (h : l.length = 8) : ∃ a b c d e f g i, l = [a, b, c, d, e, f, g, i] := by
  match l, h with
  | [a, b, c, d, e, f, g, i], _ => exact ⟨a, b, c, d, e, f, g, i, rfl⟩
/-- The 18 cells of a flash's block. -/
def fk18 (q0 q1 q2 q3 q4 q5 q6 q7 : PgR) (wear : Int) (bad : Bool) : Array Value := #[.bool q0.used, q0.v, .bool q1.used, q1.v, .bool q2.used, q2.v, .bool q3.used, q3.v, .bool q4.used, q4.v, .bool q5.used, q5.v, .bool q6.used, q6.v, .bool q7.used, q7.v, .int .i64 wear, .bool bad]
end
end Go.Proofs.YtcohppfocfepdaaDoor
