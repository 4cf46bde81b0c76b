/-
  Joined: ChOkC, ChCp.
-/
import Derived.Test.YtcocjffjhbpoeaaJ31K
namespace Go.Proofs.Ytcocjffjhbpoeaa
section
open Go.RowKit
theorem chipOk_no {ds : List BkD} (h : ¬ ChOk ds) : chipOkB ds = false := by
  have := chipOkB_iff ds
  cases hb : chipOkB ds with
  | false => rfl
  | true => exact absurd (this.1 hb) h
set_option maxHeartbeats 1600000 in
theorem countOkI (x : Int) (w : World) :
    Calls Try.prog 93 #[.int .i64 x] w fun e w' => e = .returned (.bool (decide (3 ≤ x) && decide (x ≤ 24))) ∧ w' = w := by
  go_enter Try.func93, Try.ntmps93
  by_cases h1 : 3 ≤ x
  · by_cases h2 : x ≤ 24
    · go_wp2
      go_ret
      exact ⟨by simp [h1, h2], rfl⟩
    · go_wp2
      go_ret
      exact ⟨by simp [h2], rfl⟩
  · go_wp2
    go_ret
    exact ⟨by simp; omega, rfl⟩
set_option maxRecDepth 100000 in
set_option maxHeartbeats 4000000 in
theorem chipOkI (a : Option Addr) (n cap : Nat) (bs : List BkR) (w : World) (ht : CR w a n bs) :
    Calls Try.prog 69 #[.agg #[.slice a n cap]] w fun e w' => e = .returned (.bool (chipOkB (bs.map BkR.D))) ∧ Below w.heap.size w w' := by
  have B0 : Below w.heap.size w (w.alloc (.cells #[.slice a n cap] 34)) := (Below.refl _ w).alloc (Nat.le_refl _) _
  have hn1 := ht.n
  have hcnt := countOkI (n : Int) (w.alloc (.cells #[.slice a n cap] 34))
  by_cases hc : 3 ≤ n ∧ n ≤ 24
  · have hd : (decide (3 ≤ (n : Int)) && decide ((n : Int) ≤ 24)) = true := by simp; omega
    rw [hd] at hcnt
    have HT : Hid _ := ht.keep B0
    have HB : Hid _ := B0
    have hln : Hid (bs.length = n) := ht.len
    obtain ⟨R, hR⟩ : ∃ R, chipOkB (bs.map BkR.D) = R := ⟨_, rfl⟩
    have HR : Hid _ := hR
    rw [hR]
    clear ht B0 hR hd
    go_enter Try.func69, Try.ntmps69
    go_wp2_with fail
    refine hcnt.mono ?_
    rintro e w1 ⟨rfl, hw⟩
    obtain rfl := hw.symm
    clear hcnt
    go_wp2
    obtain ⟨W0, hW0⟩ : ∃ W, w.alloc (.cells #[.slice a n cap] 34) = W := ⟨_, rfl⟩
    rw [hW0] at HB HT ⊢
    clear hW0
    go_loopw [13] (fun i wr => ∃ (k : Nat), k ≤ n ∧ i = .int .i64 k ∧ Hid (∀ (j : Nat) (b : BkR), j < k → bs[j]? = some b → BkOk b.D) ∧ Hid (Below W0.heap.size W0 wr)) (fun i _ => n - (intOf i).toNat)
    case atStart => exact ⟨0, Nat.zero_le _, rfl, fun j b hj => by omega, Below.refl _ _⟩
    case round =>
      obtain ⟨k, hk, rfl, hall, hB⟩ := hrel
      by_cases hkn : k < n
      · have hki : (k : Int) < (n : Int) := by omega
        obtain ⟨b, off, r, rfl, hlt, hrk, x3, hrp, htp⟩ := (HT.out.keep hB.out).some hkn
        obtain ⟨x0, x1, x2⟩ := x3
        have hB2 : Hid (Below W0.heap.size W0 (wr.alloc (.cells #[.slice r.a r.ps.length r.cap, .int .i64 r.wear, .bool r.bad] 63))) := hB.out.alloc hB.out.size _
        have hcall := blockOkI r.a r.ps.length r.cap r.wear r.bad r.ps (wr.alloc (.cells #[.slice r.a r.ps.length r.cap, .int .i64 r.wear, .bool r.bad] 63)) rfl htp (hrp.keep ((Below.refl _ wr).alloc (Nat.le_refl _) _))
        have hmem : Hid (¬ BkOk r.D → R = false) := fun h => by
          rw [← HR.out]
          exact chipOk_no fun hok => h (hok.2.2 r.D (List.mem_map_of_mem (List.mem_of_getElem? hrk)))
        have hnx : Hid (BkOk r.D → ∀ (j : Nat) (b : BkR), j < k + 1 → bs[j]? = some b → BkOk b.D) := fun h j b hj hb => by
          rcases (show j < k ∨ j = k by omega) with h1 | rfl
          · exact hall.out j b h1 hb
          · rw [hrk] at hb
            simp at hb
            subst hb
            exact h
        have hiff : Hid (bkOkB ⟨r.ps.map PgR.D, r.wear, r.bad⟩ = true ↔ BkOk r.D) := bkOkB_iff _
        obtain ⟨n1, hn1'⟩ : ∃ n1, r.ps.length = n1 := ⟨_, rfl⟩
        rw [hn1'] at x0 hB2 hcall
        obtain ⟨G, hG⟩ : ∃ G, bkOkB ⟨r.ps.map PgR.D, r.wear, r.bad⟩ = G := ⟨_, rfl⟩
        rw [hG] at hcall hiff
        clear hrk hn1' hG hall hrp htp
        cases G
        · have hR0 : R = false := hmem.out (fun h => by have := hiff.out.2 h; simp at this)
          subst hR0
          go_wp2_with fail
          refine hcall.mono ?_
          rintro e w2 ⟨rfl, b2⟩
          clear hcall x0 x1 x2
          go_wp2
          go_ret
          exact ⟨rfl, HB.out.trans ((hB2.out.trans (b2.mono hB2.out.size)).mono HB.out.size)⟩
        · have hA : Hid _ := hnx.out (hiff.out.1 rfl)
          go_wp2_with fail
          refine hcall.mono ?_
          rintro e w2 ⟨rfl, b2⟩
          clear hcall x0 x1 x2
          go_wp2
          go_roundw
          case rel => exact ⟨k + 1, by omega, by go_num, hA, hB2.out.trans (b2.mono hB2.out.size)⟩
          case measure => simp [intOf]; omega
      · have hki : ¬ (k : Int) < (n : Int) := by omega
        have hR1 : R = true := by
          rw [← HR.out, chipOkB_iff]
          refine ⟨by simp [hln.out]; omega, by simp [hln.out]; omega, fun d hd => ?_⟩
          obtain ⟨b, hb, rfl⟩ := List.mem_map.1 hd
          obtain ⟨j, hj⟩ := List.mem_iff_getElem?.1 hb
          exact hall.out j b (by have := (List.getElem?_eq_some_iff.1 hj).1; have := hln.out; omega) hj
        subst hR1
        go_wp2
        go_ret
        exact ⟨rfl, HB.out.trans (hB.out.mono HB.out.size)⟩
  · have hd : (decide (3 ≤ (n : Int)) && decide ((n : Int) ≤ 24)) = false := by
      rw [← Bool.not_eq_true]; intro h; simp at h; exact hc ⟨by omega, by omega⟩
    rw [hd] at hcnt
    rw [chipOk_no (fun h => hc ⟨by have := h.1; simpa [ht.len] using this, by have := h.2.1; simpa [ht.len] using this⟩)]
    clear ht hd
    go_enter Try.func69, Try.ntmps69
    go_wp2_with fail
    refine hcnt.mono ?_
    rintro e w1 ⟨rfl, hw⟩
    obtain rfl := hw.symm
    go_wp2
    go_ret
    exact ⟨rfl, B0⟩
set_option maxRecDepth 100000 in
set_option maxHeartbeats 4000000 in
theorem chipOkS (a : Option Addr) (n cap : Nat) (bs : List BkR) (w : World) (ht : CR w a n bs) :
    Calls Try.prog 67 #[.agg #[.slice a n cap]] w fun e w' => e = .returned (.bool (chipOkB (bs.map BkR.D))) ∧ Below w.heap.size w w' := by
  have B0 : Below w.heap.size w (w.alloc (.cells #[.slice a n cap] 34)) := (Below.refl _ w).alloc (Nat.le_refl _) _
  have z0 := Blk.new w 34 #[.slice a n cap]
  have hn1 := ht.n
  have HT : Hid _ := ht.keep B0
  have HB : Hid _ := B0
  have hln : Hid (bs.length = n) := ht.len
  obtain ⟨R, hR⟩ : ∃ R, chipOkB (bs.map BkR.D) = R := ⟨_, rfl⟩
  have HR : Hid _ := hR
  rw [hR]
  clear ht B0 hR
  obtain ⟨H, hH⟩ : ∃ H, w.heap.size = H := ⟨_, rfl⟩
  rw [hH] at z0
  go_enter Try.func67, Try.ntmps67
  go_wp2
  obtain ⟨W0, hW0⟩ : ∃ W, w.alloc (.cells #[.slice a n cap] 34) = W := ⟨_, rfl⟩
  rw [hW0] at z0 HB HT ⊢
  clear hW0
  try rw [hH]
  go_loopw [3] (fun i wr => ∃ (k : Nat), k ≤ n ∧ i = .int .i64 k ∧ Hid (∀ (j : Nat) (b : BkR), j < k → bs[j]? = some b → BkOk b.D) ∧ Hid (Below W0.heap.size W0 wr)) (fun i _ => n - (intOf i).toNat)
  case atStart => exact ⟨0, Nat.zero_le _, rfl, fun j b hj => by omega, Below.refl _ _⟩
  case round =>
    obtain ⟨k, hk, rfl, hall, hB⟩ := hrel
    have t0 := (z0.keep hB.out).cell 0
    simp at t0
    by_cases hkn : k < n
    · have hki : (k : Int) < (n : Int) := by omega
      obtain ⟨b, off, r, rfl, hlt, hrk, x3, hrp, htp⟩ := (HT.out.keep hB.out).some hkn
      obtain ⟨x0, x1, x2⟩ := x3
      have hcall := l10BlockS r.a r.ps.length r.cap r.wear r.bad r.ps wr rfl htp hrp
      have hmem : Hid (¬ BkOk r.D → R = false) := fun h => by
        rw [← HR.out]
        exact chipOk_no fun hok => h (hok.2.2 r.D (List.mem_map_of_mem (List.mem_of_getElem? hrk)))
      have hnx : Hid (BkOk r.D → ∀ (j : Nat) (b : BkR), j < k + 1 → bs[j]? = some b → BkOk b.D) := fun h j b hj hb => by
        rcases (show j < k ∨ j = k by omega) with h1 | rfl
        · exact hall.out j b h1 hb
        · rw [hrk] at hb
          simp at hb
          subst hb
          exact h
      have hiff : Hid (bkOkB ⟨r.ps.map PgR.D, r.wear, r.bad⟩ = true ↔ BkOk r.D) := bkOkB_iff _
      obtain ⟨n1, hn1'⟩ : ∃ n1, r.ps.length = n1 := ⟨_, rfl⟩
      rw [hn1'] at x0 hcall
      obtain ⟨G, hG⟩ : ∃ G, bkOkB ⟨r.ps.map PgR.D, r.wear, r.bad⟩ = G := ⟨_, rfl⟩
      rw [hG] at hcall hiff
      clear hrk hn1' hG hall hrp htp
      cases G
      · have hR0 : R = false := hmem.out (fun h => by have := hiff.out.2 h; simp at this)
        subst hR0
        go_wp2_with fail
        refine hcall.mono ?_
        rintro e w2 ⟨rfl, b2⟩
        clear hcall x0 x1 x2
        go_wp2
        go_ret
        rw [← hH]
        exact ⟨rfl, HB.out.trans ((hB.out.trans (b2.mono hB.out.size)).mono HB.out.size)⟩
      · have hA : Hid _ := hnx.out (hiff.out.1 rfl)
        go_wp2_with fail
        refine hcall.mono ?_
        rintro e w2 ⟨rfl, b2⟩
        clear hcall x0 x1 x2
        go_wp2
        go_roundw
        case rel => exact ⟨k + 1, by omega, by go_num, hA, hB.out.trans (b2.mono hB.out.size)⟩
        case measure => simp [intOf]; omega
    · have hki : ¬ (k : Int) < (n : Int) := by omega
      have hin := l1In_any (n : Int) 3 24 wr
      have hR1 : Hid ((decide (3 ≤ (n : Int)) && decide ((n : Int) ≤ 24)) = R) := by
        show _ = _
        rw [← HR.out]
        refine chipOkB_eq ?_
        simp only [Bool.and_eq_true, decide_eq_true_eq]
        constructor
        · intro h
          refine ⟨by simp [hln.out]; omega, by simp [hln.out]; omega, fun d hd => ?_⟩
          obtain ⟨b, hb, rfl⟩ := List.mem_map.1 hd
          obtain ⟨j, hj⟩ := List.mem_iff_getElem?.1 hb
          exact hall.out j b (by have := (List.getElem?_eq_some_iff.1 hj).1; have := hln.out; omega) hj
        · intro h
          have h1 := h.1
          have h2 := h.2.1
          have h3 := hln.out
          simp at h1 h2
          omega
      rw [hR1.out] at hin
      go_wp2_with fail
      refine hin.mono ?_
      rintro e w2 ⟨rfl, hw⟩
      obtain rfl := hw.symm
      clear hin
      go_wp2
      go_ret
      rw [← hH]
      exact ⟨rfl, HB.out.trans (hB.out.mono HB.out.size)⟩
end

section
open Go.RowKit
/-- A page onto a row of pages of the call's own. -/
structure AppP (W : World) (v : Value) (us : List PgR) (v' : Value) (W' : World) : Prop where
  own : OwnE pgE 90 W' v' us.length us
  gr : W.grownBy W' v.ownBlock
  at_ : v'.ownBlock = v.ownBlock ∨ v'.ownBlock = some W.heap.size
/-- While pages are copied one by one into the box X. -/
structure CB (w0 wr : World) (X : Nat) (wear : Int) (bad : Bool) (v : Value) (us : List PgR) (ds : List PgD) : Prop where
  bel : Below w0.heap.size w0 wr
  x : Blk wr X 63 #[v, .int .i64 wear, .bool bad]
  xn : w0.heap.size ≤ X
  row : OwnE pgE 90 wr v us.length us
  inn : Inn pgK wr w0.heap.size ds us
  xi : X ∉ pgK.fps us
  vn : ∀ g, v.ownBlock = some g → w0.heap.size ≤ g ∧ g ≠ X ∧ g ∉ pgK.fps us
theorem CB.keep {w0 wr w' : World} {X : Nat} {wear : Int} {bad : Bool} {v : Value} {us : List PgR} {ds : List PgD} (h : CB w0 wr X wear bad v us ds) (hb : Below wr.heap.size wr w') : CB w0 w' X wear bad v us ds :=
  ⟨h.bel.trans (hb.mono h.bel.size), h.x.keep hb, h.xn, h.row.keep hb, h.inn.keep hb, h.xi, h.vn⟩
/-- One page more. -/
theorem CB.app {w0 W W' : World} {X : Nat} {wear : Int} {bad : Bool} {v v' : Value} {us : List PgR} {ds : List PgD} {p : PgR} {B : Nat} {o : Obj} (h : CB w0 W X wear bad v us ds) (hp : p.own W) (hpB : ∀ g, p.v.ownBlock = some g → B ≤ g) (hB : ∀ g ∈ pgK.fps us, g < B) (hXB : X < B) (hvB : ∀ g, v.ownBlock = some g → g < B) (hB0 : w0.heap.size ≤ B) (hBW : B ≤ W.heap.size)
    (ha : AppP (W.alloc o) v (us ++ [p]) v' W') : CB w0 (W'.setCell ⟨X, 0, none⟩ v') X wear bad v' (us ++ [p]) (ds ++ [p.D]) := by
  have bA : Below W.heap.size W (W.alloc o) := (Below.refl _ W).alloc (Nat.le_refl _) _
  have h1 := h.keep bA
  have hp1 : p.own (W.alloc o) := hp.block fun g hg => bA.block g (hp.lt hg)
  have hXv : v.ownBlock ≠ some X := fun e => (h.vn X e).2.1 rfl
  have hvp : ∀ g, p.v.ownBlock = some g → v.ownBlock ≠ some g := fun g hg e => by have := hpB g hg; have := hvB g e; omega
  have hbel : Below w0.heap.size w0 W' := h1.bel.grown ha.gr h1.bel.size (fun g hg => (h.vn g hg).1)
  have hx : Blk W' X 63 #[v, .int .i64 wear, .bool bad] := (ha.gr.block X h1.x.lt (fun e => hXv e.symm)).trans h1.x
  have hin : Inn pgK W' w0.heap.size ds us := h1.inn.block fun g hg => ha.gr.block g (h1.inn.lt g hg) (fun e => (h.vn g e.symm).2.2 hg)
  have hpo : p.own W' := hp1.block fun g hg => ha.gr.block g (hp1.lt hg) (fun e => hvp g hg e.symm)
  have hpx : X ∉ pgK.fp p := fun hf => by have := hpB X (by simpa [pgK] using hf); omega
  have hset : ∀ g, g ≠ X → (W'.setCell ⟨X, 0, none⟩ v').heap[g]? = W'.heap[g]? := fun g hg => Below.heap_setCell _ _ _ _ hg
  have hfs : pgK.fps (us ++ [p]) = pgK.fps us ++ pgK.fp p := by simp [Kd.fps]
  have hv'X : ∀ g, v'.ownBlock = some g → w0.heap.size ≤ g ∧ g ≠ X ∧ g ∉ pgK.fps (us ++ [p]) := fun g hg => by
    rw [hfs]
    rcases ha.at_ with e | e
    · rw [hg] at e
      have h2 := h.vn g e.symm
      refine ⟨h2.1, h2.2.1, fun hf => ?_⟩
      rcases List.mem_append.1 hf with h3 | h3
      · exact h2.2.2 h3
      · exact hvp g (by simpa [pgK] using h3) e.symm
    · rw [hg] at e
      simp at e
      have := h.bel.size
      refine ⟨by omega, by omega, fun hf => ?_⟩
      rcases List.mem_append.1 hf with h3 | h3
      · have := hB g h3; omega
      · have h4 := hp.lt (g := g) (by simpa [pgK] using h3); omega
  refine ⟨hbel.setCell (p := ⟨X, 0, none⟩) h.xn _, ?_, h.xn, ha.own.block fun g hg => hset g (hv'X g hg).2.1, ?_, ?_, hv'X⟩
  · have := hx.set 0 v'
    exact this
  · have hin' : Inn pgK (W'.setCell ⟨X, 0, none⟩ v') w0.heap.size ds us := hin.block fun g hg => hset g (fun e => by subst e; exact h.xi hg)
    have hpo' : pgK.own (W'.setCell ⟨X, 0, none⟩ v') p := hpo.block fun g hg => hset g (fun e => by subst e; exact hpx (by simp [pgK, hg]))
    exact hin'.snoc (S := B) hB hpo' (fun g hg => by have := hpB g (by simpa [pgK] using hg); exact ⟨this, by omega⟩) (by show (p.v.ownBlock.toList).Nodup; cases p.v.ownBlock <;> simp)
  · rw [hfs]
    exact fun hf => (List.mem_append.1 hf).elim h.xi hpx
/-- One page more, as the walk has it. -/
theorem CB.step {w0 W8 W9 W10 : World} {X k n1 : Nat} {wear : Int} {bad : Bool} {v : Value} {us : List PgR} {ds : List PgD} {u : Bool} {pz : List Int} {a1 a2 : Option Addr} {c1 c2 m : Nat} (h : CB w0 W8 X wear bad v us ds) (_hus : us.length = k) (hz : pz.length = n1)
    (ha : AppB W8 (.slice none 0 0) n1 pz (.slice a1 n1 c1) W9) (ha2 : AppP (W9.alloc (.cells #[.bool u, .slice a1 n1 c1] 90)) v (us ++ [⟨u, a1, c1, pz⟩]) (.slice a2 m c2) W10) (hm : m = k + 1) : CB w0 (W10.setCell ⟨X, 0, none⟩ (.slice a2 (k + 1) c2)) X wear bad (.slice a2 (k + 1) c2) (us ++ [⟨u, a1, c1, pz⟩]) (ds ++ [⟨u, pz⟩]) := by
  subst hm
  have b9 := ha.below rfl
  refine CB.app (B := W8.heap.size) (h.keep b9) (p := ⟨u, a1, c1, pz⟩) ?_ ?_ (fun g hg => h.inn.lt g hg) h.x.lt (fun g hg => h.row.lt hg) h.bel.size b9.size ha2
  · show RowB W9 (.slice a1 pz.length c1) pz.length pz
    rw [hz]
    exact OwnV.rowB ha.own
  · intro g hg
    have hg' : (Value.slice a1 n1 c1).ownBlock = some g := by rw [← hz]; exact hg
    rcases ha.at_ with e | e
    · rw [hg'] at e; simp [Value.ownBlock] at e
    · rw [hg'] at e; simp at e; omega
end
end Go.Proofs.Ytcocjffjhbpoeaa
