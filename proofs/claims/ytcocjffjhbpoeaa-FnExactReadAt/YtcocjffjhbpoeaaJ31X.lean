/-
  Joined: ChOkC, ChAp.
-/
import Derived.Test.YtcocjffjhbpoeaaJ30X
namespace Go.Proofs.Ytcocjffjhbpoeaa
section
open Go.RowKit
theorem chipOk_no {ds : List BkD} (h : ¬ ChOk ds) : chipOkB ds = false := by
  have := chipOkB_iff ds
  cases hb : chipOkB ds with
  | false => rfl
  | true => exact absurd (this.1 hb) h
set_option maxHeartbeats 1600000 in
theorem countOkI (x : Int) (w : World) :
    Calls Try.prog 93 #[.int .i64 x] w fun e w' => e = .returned (.bool (decide (3 ≤ x) && decide (x ≤ 24))) ∧ w' = w := by
  go_enter Try.func93, Try.ntmps93
  by_cases h1 : 3 ≤ x
  · by_cases h2 : x ≤ 24
    · go_wp2
      go_ret
      exact ⟨by simp [h1, h2], rfl⟩
    · go_wp2
      go_ret
      exact ⟨by simp [h2], rfl⟩
  · go_wp2
    go_ret
    exact ⟨by simp; omega, rfl⟩
set_option maxRecDepth 100000 in
set_option maxHeartbeats 4000000 in
theorem chipOkI (a : Option Addr) (n cap : Nat) (bs : List BkR) (w : World) (ht : CR w a n bs) :
    Calls Try.prog 69 #[.agg #[.slice a n cap]] w fun e w' => e = .returned (.bool (chipOkB (bs.map BkR.D))) ∧ Below w.heap.size w w' := by
  have B0 : Below w.heap.size w (w.alloc (.cells #[.slice a n cap] 34)) := (Below.refl _ w).alloc (Nat.le_refl _) _
  have hn1 := ht.n
  have hcnt := countOkI (n : Int) (w.alloc (.cells #[.slice a n cap] 34))
  by_cases hc : 3 ≤ n ∧ n ≤ 24
  · have hd : (decide (3 ≤ (n : Int)) && decide ((n : Int) ≤ 24)) = true := by simp; omega
    rw [hd] at hcnt
    have HT : Hid _ := ht.keep B0
    have HB : Hid _ := B0
    have hln : Hid (bs.length = n) := ht.len
    obtain ⟨R, hR⟩ : ∃ R, chipOkB (bs.map BkR.D) = R := ⟨_, rfl⟩
    have HR : Hid _ := hR
    rw [hR]
    clear ht B0 hR hd
    go_enter Try.func69, Try.ntmps69
    go_wp2_with fail
    refine hcnt.mono ?_
    rintro e w1 ⟨rfl, hw⟩
    obtain rfl := hw.symm
    clear hcnt
    go_wp2
    obtain ⟨W0, hW0⟩ : ∃ W, w.alloc (.cells #[.slice a n cap] 34) = W := ⟨_, rfl⟩
    rw [hW0] at HB HT ⊢
    clear hW0
    go_loopw [13] (fun i wr => ∃ (k : Nat), k ≤ n ∧ i = .int .i64 k ∧ Hid (∀ (j : Nat) (b : BkR), j < k → bs[j]? = some b → BkOk b.D) ∧ Hid (Below W0.heap.size W0 wr)) (fun i _ => n - (intOf i).toNat)
    case atStart => exact ⟨0, Nat.zero_le _, rfl, fun j b hj => by omega, Below.refl _ _⟩
    case round =>
      obtain ⟨k, hk, rfl, hall, hB⟩ := hrel
      by_cases hkn : k < n
      · have hki : (k : Int) < (n : Int) := by omega
        obtain ⟨b, off, r, rfl, hlt, hrk, x3, hrp, htp⟩ := (HT.out.keep hB.out).some hkn
        obtain ⟨x0, x1, x2⟩ := x3
        have hB2 : Hid (Below W0.heap.size W0 (wr.alloc (.cells #[.slice r.a r.ps.length r.cap, .int .i64 r.wear, .bool r.bad] 63))) := hB.out.alloc hB.out.size _
        have hcall := blockOkI r.a r.ps.length r.cap r.wear r.bad r.ps (wr.alloc (.cells #[.slice r.a r.ps.length r.cap, .int .i64 r.wear, .bool r.bad] 63)) rfl htp (hrp.keep ((Below.refl _ wr).alloc (Nat.le_refl _) _))
        have hmem : Hid (¬ BkOk r.D → R = false) := fun h => by
          rw [← HR.out]
          exact chipOk_no fun hok => h (hok.2.2 r.D (List.mem_map_of_mem (List.mem_of_getElem? hrk)))
        have hnx : Hid (BkOk r.D → ∀ (j : Nat) (b : BkR), j < k + 1 → bs[j]? = some b → BkOk b.D) := fun h j b hj hb => by
          rcases (show j < k ∨ j = k by omega) with h1 | rfl
          · exact hall.out j b h1 hb
          · rw [hrk] at hb
            simp at hb
            subst hb
            exact h
        have hiff : Hid (bkOkB ⟨r.ps.map PgR.D, r.wear, r.bad⟩ = true ↔ BkOk r.D) := bkOkB_iff _
        obtain ⟨n1, hn1'⟩ : ∃ n1, r.ps.length = n1 := ⟨_, rfl⟩
        rw [hn1'] at x0 hB2 hcall
        obtain ⟨G, hG⟩ : ∃ G, bkOkB ⟨r.ps.map PgR.D, r.wear, r.bad⟩ = G := ⟨_, rfl⟩
        rw [hG] at hcall hiff
        clear hrk hn1' hG hall hrp htp
        cases G
        · have hR0 : R = false := hmem.out (fun h => by have := hiff.out.2 h; simp at this)
          subst hR0
          go_wp2_with fail
          refine hcall.mono ?_
          rintro e w2 ⟨rfl, b2⟩
          clear hcall x0 x1 x2
          go_wp2
          go_ret
          exact ⟨rfl, HB.out.trans ((hB2.out.trans (b2.mono hB2.out.size)).mono HB.out.size)⟩
        · have hA : Hid _ := hnx.out (hiff.out.1 rfl)
          go_wp2_with fail
          refine hcall.mono ?_
          rintro e w2 ⟨rfl, b2⟩
          clear hcall x0 x1 x2
          go_wp2
          go_roundw
          case rel => exact ⟨k + 1, by omega, by go_num, hA, hB2.out.trans (b2.mono hB2.out.size)⟩
          case measure => simp [intOf]; omega
      · have hki : ¬ (k : Int) < (n : Int) := by omega
        have hR1 : R = true := by
          rw [← HR.out, chipOkB_iff]
          refine ⟨by simp [hln.out]; omega, by simp [hln.out]; omega, fun d hd => ?_⟩
          obtain ⟨b, hb, rfl⟩ := List.mem_map.1 hd
          obtain ⟨j, hj⟩ := List.mem_iff_getElem?.1 hb
          exact hall.out j b (by have := (List.getElem?_eq_some_iff.1 hj).1; have := hln.out; omega) hj
        subst hR1
        go_wp2
        go_ret
        exact ⟨rfl, HB.out.trans (hB.out.mono HB.out.size)⟩
  · have hd : (decide (3 ≤ (n : Int)) && decide ((n : Int) ≤ 24)) = false := by
      rw [← Bool.not_eq_true]; intro h; simp at h; exact hc ⟨by omega, by omega⟩
    rw [hd] at hcnt
    rw [chipOk_no (fun h => hc ⟨by have := h.1; simpa [ht.len] using this, by have := h.2.1; simpa [ht.len] using this⟩)]
    clear ht hd
    go_enter Try.func69, Try.ntmps69
    go_wp2_with fail
    refine hcnt.mono ?_
    rintro e w1 ⟨rfl, hw⟩
    obtain rfl := hw.symm
    go_wp2
    go_ret
    exact ⟨rfl, B0⟩
set_option maxRecDepth 100000 in
set_option maxHeartbeats 4000000 in
theorem chipOkS (a : Option Addr) (n cap : Nat) (bs : List BkR) (w : World) (ht : CR w a n bs) :
    Calls Try.prog 67 #[.agg #[.slice a n cap]] w fun e w' => e = .returned (.bool (chipOkB (bs.map BkR.D))) ∧ Below w.heap.size w w' := by
  have B0 : Below w.heap.size w (w.alloc (.cells #[.slice a n cap] 34)) := (Below.refl _ w).alloc (Nat.le_refl _) _
  have z0 := Blk.new w 34 #[.slice a n cap]
  have hn1 := ht.n
  have HT : Hid _ := ht.keep B0
  have HB : Hid _ := B0
  have hln : Hid (bs.length = n) := ht.len
  obtain ⟨R, hR⟩ : ∃ R, chipOkB (bs.map BkR.D) = R := ⟨_, rfl⟩
  have HR : Hid _ := hR
  rw [hR]
  clear ht B0 hR
  obtain ⟨H, hH⟩ : ∃ H, w.heap.size = H := ⟨_, rfl⟩
  rw [hH] at z0
  go_enter Try.func67, Try.ntmps67
  go_wp2
  obtain ⟨W0, hW0⟩ : ∃ W, w.alloc (.cells #[.slice a n cap] 34) = W := ⟨_, rfl⟩
  rw [hW0] at z0 HB HT ⊢
  clear hW0
  try rw [hH]
  go_loopw [3] (fun i wr => ∃ (k : Nat), k ≤ n ∧ i = .int .i64 k ∧ Hid (∀ (j : Nat) (b : BkR), j < k → bs[j]? = some b → BkOk b.D) ∧ Hid (Below W0.heap.size W0 wr)) (fun i _ => n - (intOf i).toNat)
  case atStart => exact ⟨0, Nat.zero_le _, rfl, fun j b hj => by omega, Below.refl _ _⟩
  case round =>
    obtain ⟨k, hk, rfl, hall, hB⟩ := hrel
    have t0 := (z0.keep hB.out).cell 0
    simp at t0
    by_cases hkn : k < n
    · have hki : (k : Int) < (n : Int) := by omega
      obtain ⟨b, off, r, rfl, hlt, hrk, x3, hrp, htp⟩ := (HT.out.keep hB.out).some hkn
      obtain ⟨x0, x1, x2⟩ := x3
      have hcall := l10BlockS r.a r.ps.length r.cap r.wear r.bad r.ps wr rfl htp hrp
      have hmem : Hid (¬ BkOk r.D → R = false) := fun h => by
        rw [← HR.out]
        exact chipOk_no fun hok => h (hok.2.2 r.D (List.mem_map_of_mem (List.mem_of_getElem? hrk)))
      have hnx : Hid (BkOk r.D → ∀ (j : Nat) (b : BkR), j < k + 1 → bs[j]? = some b → BkOk b.D) := fun h j b hj hb => by
        rcases (show j < k ∨ j = k by omega) with h1 | rfl
        · exact hall.out j b h1 hb
        · rw [hrk] at hb
          simp at hb
          subst hb
          exact h
      have hiff : Hid (bkOkB ⟨r.ps.map PgR.D, r.wear, r.bad⟩ = true ↔ BkOk r.D) := bkOkB_iff _
      obtain ⟨n1, hn1'⟩ : ∃ n1, r.ps.length = n1 := ⟨_, rfl⟩
      rw [hn1'] at x0 hcall
      obtain ⟨G, hG⟩ : ∃ G, bkOkB ⟨r.ps.map PgR.D, r.wear, r.bad⟩ = G := ⟨_, rfl⟩
      rw [hG] at hcall hiff
      clear hrk hn1' hG hall hrp htp
      cases G
      · have hR0 : R = false := hmem.out (fun h => by have := hiff.out.2 h; simp at this)
        subst hR0
        go_wp2_with fail
        refine hcall.mono ?_
        rintro e w2 ⟨rfl, b2⟩
        clear hcall x0 x1 x2
        go_wp2
        go_ret
        rw [← hH]
        exact ⟨rfl, HB.out.trans ((hB.out.trans (b2.mono hB.out.size)).mono HB.out.size)⟩
      · have hA : Hid _ := hnx.out (hiff.out.1 rfl)
        go_wp2_with fail
        refine hcall.mono ?_
        rintro e w2 ⟨rfl, b2⟩
        clear hcall x0 x1 x2
        go_wp2
        go_roundw
        case rel => exact ⟨k + 1, by omega, by go_num, hA, hB.out.trans (b2.mono hB.out.size)⟩
        case measure => simp [intOf]; omega
    · have hki : ¬ (k : Int) < (n : Int) := by omega
      have hin := l1In_any (n : Int) 3 24 wr
      have hR1 : Hid ((decide (3 ≤ (n : Int)) && decide ((n : Int) ≤ 24)) = R) := by
        show _ = _
        rw [← HR.out]
        refine chipOkB_eq ?_
        simp only [Bool.and_eq_true, decide_eq_true_eq]
        constructor
        · intro h
          refine ⟨by simp [hln.out]; omega, by simp [hln.out]; omega, fun d hd => ?_⟩
          obtain ⟨b, hb, rfl⟩ := List.mem_map.1 hd
          obtain ⟨j, hj⟩ := List.mem_iff_getElem?.1 hb
          exact hall.out j b (by have := (List.getElem?_eq_some_iff.1 hj).1; have := hln.out; omega) hj
        · intro h
          have h1 := h.1
          have h2 := h.2.1
          have h3 := hln.out
          simp at h1 h2
          omega
      rw [hR1.out] at hin
      go_wp2_with fail
      refine hin.mono ?_
      rintro e w2 ⟨rfl, hw⟩
      obtain rfl := hw.symm
      clear hin
      go_wp2
      go_ret
      rw [← hH]
      exact ⟨rfl, HB.out.trans (hB.out.mono HB.out.size)⟩
end

section
open Go.RowKit
/-- A block onto a row of blocks of the call's own. -/
structure AppK (W : World) (v : Value) (us : List BkR) (v' : Value) (W' : World) : Prop where
  own : OwnE bkE 63 W' v' us.length us
  gr : W.grownBy W' v.ownBlock
  at_ : v'.ownBlock = v.ownBlock ∨ v'.ownBlock = some W.heap.size
/-- While blocks are put one by one into the box X. -/
structure CC (w0 wr : World) (X : Nat) (v : Value) (us : List BkR) (ds : List BkD) : Prop where
  bel : Below w0.heap.size w0 wr
  x : Blk wr X 34 #[v]
  xn : w0.heap.size ≤ X
  row : OwnE bkE 63 wr v us.length us
  inn : Inn bkK wr w0.heap.size ds us
  xi : X ∉ bkK.fps us
  vn : ∀ g, v.ownBlock = some g → w0.heap.size ≤ g ∧ g ≠ X ∧ g ∉ bkK.fps us
theorem CC.keep {w0 wr w' : World} {X : Nat} {v : Value} {us : List BkR} {ds : List BkD} (h : CC w0 wr X v us ds) (hb : Below wr.heap.size wr w') : CC w0 w' X v us ds :=
  ⟨h.bel.trans (hb.mono h.bel.size), h.x.keep hb, h.xn, h.row.keep hb, h.inn.keep hb, h.xi, h.vn⟩
theorem CC.new {w0 W : World} {X : Nat} (hb : Below w0.heap.size w0 W) (hx : Blk W X 34 #[.slice none 0 0]) (hX : w0.heap.size ≤ X) : CC w0 W X (.slice none 0 0) [] [] :=
  ⟨hb, hx, hX, ownE_nil _ _ _, Inn.nil _ _ _, by simp [Kd.fps], fun g hg => by simp [Value.ownBlock] at hg⟩
/-- One block more: q lies from the size of W8 on. -/
theorem CC.step {w0 W8 W9 W10 : World} {X k m n1 : Nat} {v : Value} {us : List BkR} {ds : List BkD} {a1 a2 : Option Addr} {c1 c2 : Nat} {wear : Int} {bad : Bool} {qd : List PgD} {qs : List PgR} {o : Obj} (h : CC w0 W8 X v us ds) (_hus : us.length = k) (hq : qs.length = n1) (b9 : Below W8.heap.size W8 W9)
    (hnp : NewPs W9 W8.heap.size (.slice a1 n1 c1) qd qs) (ha : AppK (W9.alloc o) v (us ++ [⟨a1, c1, qs, wear, bad⟩]) (.slice a2 m c2) W10) (hm : m = k + 1) : CC w0 (W10.setCell ⟨X, 0, none⟩ (.slice a2 (k + 1) c2)) X (.slice a2 (k + 1) c2) (us ++ [⟨a1, c1, qs, wear, bad⟩]) (ds ++ [⟨qd, wear, bad⟩]) := by
  subst hm
  subst hq
  obtain ⟨p, hp⟩ : ∃ p : BkR, p = ⟨a1, c1, qs, wear, bad⟩ := ⟨_, rfl⟩
  have hpv : p.v = .slice a1 qs.length c1 := by rw [hp]; rfl
  have hpp : p.ps = qs := by rw [hp]
  have hpD : p.D = ⟨qd, wear, bad⟩ := by rw [hp]; unfold BkR.D; rw [hnp.D]
  rw [← hp] at ha ⊢
  rw [← hpD]
  have hfp : bkK.fp p = fpPs (.slice a1 qs.length c1) qs := by show fpPs p.v p.ps = _; rw [hpv, hpp]
  have hS : ∀ g ∈ bkK.fps us, g < W8.heap.size := fun g hg => h.inn.lt g hg
  have hpB : ∀ g ∈ bkK.fp p, W8.heap.size ≤ g := fun g hg => hnp.new g (by rw [← hfp]; exact hg)
  have hpo0 : bkK.own W9 p := by show OwnPs W9 p.v p.ps; rw [hpv, hpp]; exact hnp.own
  have bA : Below W9.heap.size W9 (W9.alloc o) := (Below.refl _ W9).alloc (Nat.le_refl _) _
  have h1 := (h.keep b9).keep bA
  have hp1 : bkK.own (W9.alloc o) p := bkK.block hpo0 fun g hg => bA.block g (bkK.lt hpo0 g hg)
  have hvB : ∀ g, v.ownBlock = some g → g < W8.heap.size := fun g hg => h.row.lt hg
  have hXB : X < W8.heap.size := h.x.lt
  have hXv : v.ownBlock ≠ some X := fun e => (h.vn X e).2.1 rfl
  have hvp : ∀ g ∈ bkK.fp p, v.ownBlock ≠ some g := fun g hg e => by have := hpB g hg; have := hvB g e; omega
  have hbel : Below w0.heap.size w0 W10 := h1.bel.grown ha.gr h1.bel.size (fun g hg => (h.vn g hg).1)
  have hx : Blk W10 X 34 #[v] := (ha.gr.block X h1.x.lt (fun e => hXv e.symm)).trans h1.x
  have hin : Inn bkK W10 w0.heap.size ds us := h1.inn.block fun g hg => ha.gr.block g (h1.inn.lt g hg) (fun e => (h.vn g e.symm).2.2 hg)
  have hpo : bkK.own W10 p := bkK.block hp1 fun g hg => ha.gr.block g (bkK.lt hp1 g hg) (fun e => hvp g hg e.symm)
  have hpx : X ∉ bkK.fp p := fun hf => by have := hpB X hf; omega
  have hset : ∀ g, g ≠ X → (W10.setCell ⟨X, 0, none⟩ (.slice a2 (k + 1) c2)).heap[g]? = W10.heap[g]? := fun g hg => Below.heap_setCell _ _ _ _ hg
  have hfs : bkK.fps (us ++ [p]) = bkK.fps us ++ bkK.fp p := by simp [Kd.fps]
  have hs9 := b9.size
  have hv'X : ∀ g, (Value.slice a2 (k + 1) c2).ownBlock = some g → w0.heap.size ≤ g ∧ g ≠ X ∧ g ∉ bkK.fps (us ++ [p]) := fun g hg => by
    rw [hfs]
    rcases ha.at_ with e | e
    · rw [hg] at e
      have h2 := h.vn g e.symm
      refine ⟨h2.1, h2.2.1, fun hf => ?_⟩
      rcases List.mem_append.1 hf with h3 | h3
      · exact h2.2.2 h3
      · exact hvp g h3 e.symm
    · rw [hg] at e
      simp at e
      have := h.bel.size
      refine ⟨by omega, by omega, fun hf => ?_⟩
      rcases List.mem_append.1 hf with h3 | h3
      · have := hS g h3; omega
      · have h4 := bkK.lt hpo0 g h3; omega
  have hin' : Inn bkK (W10.setCell ⟨X, 0, none⟩ (.slice a2 (k + 1) c2)) w0.heap.size ds us := hin.block fun g hg => hset g (fun e => by subst e; exact h.xi hg)
  have hpo' : bkK.own (W10.setCell ⟨X, 0, none⟩ (.slice a2 (k + 1) c2)) p := bkK.block hpo fun g hg => hset g (fun e => by subst e; exact hpx hg)
  refine ⟨hbel.setCell (p := ⟨X, 0, none⟩) h.xn _, ?_, h.xn, ha.own.block fun g hg => hset g (hv'X g hg).2.1, ?_, ?_, hv'X⟩
  · exact hx.set 0 (.slice a2 (k + 1) c2)
  · have h8 := h.bel.size
    exact hin'.snoc (S := W8.heap.size) hS hpo' (fun g hg => by have := hpB g hg; exact ⟨this, by omega⟩) (by rw [hfp]; exact hnp.nd)
  · rw [hfs]
    exact fun hf => (List.mem_append.1 hf).elim h.xi hpx
/-- What was built, told. -/
theorem CC.done {w0 W : World} {X n c : Nat} {a : Option Addr} {us : List BkR} {ds : List BkD} (h : CC w0 W X (.slice a n c) us ds) (_hn : us.length = n) : NewBs W w0.heap.size (.slice a n c) ds us :=
  h.inn.newBs h.row (Nat.le_refl _) (fun g hg => ⟨(h.vn g hg).1, (h.vn g hg).2.2⟩)
end
end Go.Proofs.Ytcocjffjhbpoeaa
