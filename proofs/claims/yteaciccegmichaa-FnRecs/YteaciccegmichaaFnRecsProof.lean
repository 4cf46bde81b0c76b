/-
  At every slice of bytes: the drawn record, if it is right, comes back of its bytes; cut, or with one bit turned, it does not; what is not right has no bytes.
  The frame (all but the walk) is the text that the guide's own program writes for this row.
-/
import Derived.Test.YteaciccegmichaaRows
import Derived.Test.YteaciccegmichaaJ23R
import Derived.WalkKit
import Derived.ProofKit
import Derived.OpenShut
import Derived.ShutString
import Derived.ChangeOld
import Derived.Below
namespace Go.Proofs.Yteaciccegmichaa.fnRecs
open Go.ChangeShapes Go.WideShapes Go.ChangeAt Go.RowKit
open Go.ChangeMaps (open_string shut_string)
set_option linter.unusedVariables false

theorem own : ownKnob Try.prog.godebug = none := by kernel_rfl
theorem laidOut : laidOutB Try.prog = true := by kernel_rfl

/-- WHAT THE WALK IS TOLD OF A SLICE OF INTEGERS THAT CAME IN: it is nil; or it leads to a row of 'cap' cells, the numbers 'zs' (the first 'len' are its elements, the rest its spare room), each fitting its kind. -/
def IsRow (k : IntKind) (w : World) (a : Option Addr) (len cap : Nat) (zs : List Int) : Prop :=
  (a = none ∧ len = 0 ∧ cap = 0 ∧ zs = []) ∨
  ∃ x, a = some x ∧ len ≤ cap ∧ cap ≤ maxLen ∧ zs.length = cap ∧ (∀ i, i < zs.length → w.cell? (x.add i) = some (.int k (zs.getD i 0))) ∧ ∀ n ∈ zs, (Lit.int k n).wf = true

/-! ### STEP 1: THE WALK: the Go text returns true, AND WRITES NOTHING THAT WAS THERE: 'Below w.heap.size w w'' (Derived/Below.lean: '.refl', '.alloc', '.drew', '.setCell' at a new block, '.trans'). Open each 'IsRow' by 'rcases' AHEAD of 'go_enter'; part every test ahead of the walk. -/
set_option maxRecDepth 100000 in
set_option maxHeartbeats 8000000 in
theorem walk (a0 : Option Addr) (len0 cap0 : Nat) (z0 : List Int) (w : World) (w0 : IsRow .u8 w a0 len0 cap0 z0) :
    Calls Try.prog 3 #[.slice a0 len0 cap0] w fun e w' => e = .returned (.bool true) ∧ Below w.heap.size w w' := by
  obtain ⟨zs, hn, hr, hb⟩ := rd_of_row w0
  clear w0
  by_cases hbig : 1048576 < len0
  · have hd : decide ((1048576 : Int) < (len0 : Int)) = true := by simp; omega
    go_enter Try.func3, Try.ntmps3
    go_wp2_with fail
    refine (big_any a0 len0 cap0 w).mono ?_
    rintro e w1 ⟨rfl, hw⟩
    obtain rfl := hw.symm
    rw [hd]
    go_wp2
    go_ret
    exact ⟨rfl, Below.refl _ _⟩
  have hd : decide ((1048576 : Int) < (len0 : Int)) = false := by simp; omega
  have hcD := drawPutRec_any a0 len0 cap0 zs w hn (by omega) hr hb
  have CA : Hid (∀ (i : Nat) (W : World), i ≤ 1000 → Below w.heap.size w W → Calls Try.prog 12 #[.slice a0 len0 cap0, .int .i64 (i : Int)] W fun e w' => e = .returned (.int .i64 (atVal zs len0 i)) ∧ w' = W) := fun i W hi hW => at_any a0 len0 cap0 zs i W hn (by omega) hi (hr.keep hW) hb
  have hA : ∀ i, atVal zs len0 i ≤ 255 := fun i => atVal_le zs len0 i hb
  obtain ⟨X2, hX2⟩ : ∃ x, atVal zs len0 2 = x := ⟨_, rfl⟩
  obtain ⟨X3, hX3⟩ : ∃ x, atVal zs len0 3 = x := ⟨_, rfl⟩
  obtain ⟨X4, hX4⟩ : ∃ x, atVal zs len0 4 = x := ⟨_, rfl⟩
  have hX2l := hA 2
  have hX3l := hA 3
  have hX4l := hA 4
  rw [hX2] at hX2l
  rw [hX3] at hX3l
  rw [hX4] at hX4l
  have C2 : Hid (∀ (W : World), Below w.heap.size w W → Calls Try.prog 12 #[.slice a0 len0 cap0, .int .i64 2] W fun e w' => e = .returned (.int .i64 X2) ∧ w' = W) := fun W hW => by rw [← hX2]; exact CA.out 2 W (by omega) hW
  have C3 : Hid (∀ (W : World), Below w.heap.size w W → Calls Try.prog 12 #[.slice a0 len0 cap0, .int .i64 3] W fun e w' => e = .returned (.int .i64 X3) ∧ w' = W) := fun W hW => by rw [← hX3]; exact CA.out 3 W (by omega) hW
  have C4 : Hid (∀ (W : World), Below w.heap.size w W → Calls Try.prog 12 #[.slice a0 len0 cap0, .int .i64 4] W fun e w' => e = .returned (.int .i64 X4) ∧ w' = W) := fun W hW => by rw [← hX4]; exact CA.out 4 W (by omega) hW
  clear hn hr hb CA hA hX2 hX3 hX4
  go_enter Try.func3, Try.ntmps3
  go_wp2_with fail
  refine (big_any a0 len0 cap0 w).mono ?_
  rintro e w1 ⟨rfl, hw⟩
  obtain rfl := hw.symm
  rw [hd]
  clear hd hbig
  go_wp2_with fail
  refine hcD.mono ?_
  rintro e w1 ⟨D, g, c, rfl, hg, ⟨hby, hl⟩, ho, B1⟩
  clear hcD
  have hbx := Blk.new w1 25 (recC D (some ⟨g, 0, none⟩) c)
  have bb : Below w1.heap.size w1 (w1.alloc (.cells (recC D (some ⟨g, 0, none⟩) c) 25)) := (Below.refl _ w1).alloc (Nat.le_refl _) _
  have ho1 : Own (w1.alloc (.cells (recC D (some ⟨g, 0, none⟩) c) 25)) g D.body.length c D.body := World.ownsRow.alloc ho _
  obtain ⟨W1, hW1⟩ : ∃ W, w1.alloc (.cells (recC D (some ⟨g, 0, none⟩) c) 25) = W := ⟨_, rfl⟩
  rw [hW1] at hbx bb ho1
  obtain ⟨X, hX⟩ : ∃ X, w1.heap.size = X := ⟨_, rfl⟩
  have hgX : g < X := by rw [← hX]; exact ho.lt
  have B1' : Below w.heap.size w W1 := B1.trans (bb.mono B1.size)
  rw [hX] at hbx
  clear ho B1
  have hoS := recOkS D (some ⟨g, 0, none⟩) c
  have hoI := recOkI D (some ⟨g, 0, none⟩) c
  have hsm : RecSmall D := by unfold RecSmall; omega
  cases hok : recOk D with
  | false =>
    have hp := putRecI D (some ⟨g, 0, none⟩) c W1 hsm ⟨ho1.rd, hby⟩
    have hz : recPut D = [] := by unfold recPut; rw [hok]; rfl
    rw [hz] at hp
    have cS : ∀ W : World, Calls Try.prog 9 #[.agg (recC D (some ⟨g, 0, none⟩) c)] W fun e w' => e = .returned (.bool false) ∧ Below W.heap.size W w' := fun W => by rw [← hok]; exact hoS W (by omega)
    have cI : ∀ W : World, Calls Try.prog 10 #[.agg (recC D (some ⟨g, 0, none⟩) c)] W fun e w' => e = .returned (.bool false) ∧ Below W.heap.size W w' := fun W => by rw [← hok]; exact hoI W (by omega)
    obtain ⟨kind, seq, body⟩ := D
    unfold recC at hp cS cI hbx hW1
    dsimp only at hp cS cI hbx hW1
    obtain ⟨nb, hnb⟩ : ∃ m, body.length = m := ⟨_, rfl⟩
    rw [hnb] at hp cS cI hbx hW1
    obtain ⟨t0, t1, t2⟩ := hbx.thr
    clear hok hz ho1 hoS hoI hby hl hsm
    unfold recC
    dsimp only
    rw [hnb]
    clear hnb
    go_wp2_with fail
    try rw [hW1]
    try rw [hX]
    refine hp.mono ?_
    rintro e w2 ⟨b2, d2, rfl, _, _, bp⟩
    have B2 := B1'.trans (bp.mono B1'.size)
    obtain ⟨t0, t1, t2⟩ := (hbx.keep bp).thr
    clear hp
    go_wp2_with fail
    refine (cS w2).mono ?_
    rintro e w3 ⟨rfl, b3⟩
    have B3 := B2.trans (b3.mono B2.size)
    obtain ⟨t0, t1, t2⟩ := ((hbx.keep bp).keep b3).thr
    go_wp2_with fail
    refine (cI w3).mono ?_
    rintro e w4 ⟨rfl, b4⟩
    have B4 := B3.trans (b4.mono B3.size)
    go_wp2
    go_ret
    exact ⟨rfl, B4⟩
  | true =>
    have hp := putRecI_yes D (some ⟨g, 0, none⟩) c W1 ⟨ho1.rd, hby⟩ hok
    have hEB := recEnc_byt D
    have henc := rc_enc D hok hby
    have hcut := rc_cut D hok
    have hturn := rc_turned (recEnc D) hEB
    have hZb := summedOf_byt hEB
    have hL4 := recPut_len D
    have hpu : recPut D = summedOf (recEnc D) := by unfold recPut; rw [if_pos hok]
    rw [hpu] at hL4
    have hZl := summedOf_len (recEnc D)
    obtain ⟨L, hLe⟩ : ∃ L, (recEnc D).length + 4 = L := ⟨_, rfl⟩
    have hLge : 4 ≤ L := by omega
    rw [hLe] at hp hZl
    generalize summedOf (recEnc D) = Z at hp henc hcut hturn hZb hL4 hZl
    rw [hZl] at hcut hturn hL4
    clear hLe hEB hpu
    have cS : ∀ W : World, Calls Try.prog 9 #[.agg (recC D (some ⟨g, 0, none⟩) c)] W fun e w' => e = .returned (.bool true) ∧ Below W.heap.size W w' := fun W => by rw [← hok]; exact hoS W (by omega)
    have cI : ∀ W : World, Calls Try.prog 10 #[.agg (recC D (some ⟨g, 0, none⟩) c)] W fun e w' => e = .returned (.bool true) ∧ Below W.heap.size W w' := fun W => by rw [← hok]; exact hoI W (by omega)
    have G1 : Hid (∀ (W : World) (g1 c1 : Nat), L ≤ c1 → Own W g1 L c1 Z → Calls Try.prog 11 #[.slice (some ⟨g1, 0, none⟩) L c1] W fun e w' => (∃ a c, e = .returned (.tuple #[.agg (recC D a c), .bool true]) ∧ RowB w' (.slice a D.body.length c) D.body.length D.body ∧ ∀ g, (Value.slice a D.body.length c).ownBlock = some g → W.heap.size ≤ g) ∧ Below W.heap.size W w') := fun W g1 c1 hc1 ho => by
      have := getRecIO (some ⟨g1, 0, none⟩) L c1 Z W hZl (by omega) hc1 ho.rd hZb
      rw [henc.1, henc.2] at this
      exact this
    have G2 : Hid (∀ (W : World) (g1 c1 k : Nat), L ≤ c1 → k < L → Own W g1 L c1 Z → Calls Try.prog 11 #[.slice (some ⟨g1, 0, none⟩) k c1] W fun e w' => (∃ kd sq a n c, e = .returned (.tuple #[.agg #[.int .i64 kd, .int .i64 sq, .slice a n c], .bool false])) ∧ Below W.heap.size W w') := fun W g1 c1 k hc1 hk ho => by
      have := getRecIO (some ⟨g1, 0, none⟩) k c1 (Z.take k) W (by rw [List.length_take]; omega) (by omega) (by omega) (ho.rd.tk k) (hZb.take k)
      rw [hcut k hk] at this
      exact this.mono fun e w' ⟨⟨a, c, h1, _⟩, h2⟩ => ⟨⟨_, _, a, _, c, h1⟩, h2⟩
    have G3 : Hid (∀ (W : World) (g1 c1 k : Nat) (v : Int), L ≤ c1 → k < L → 0 ≤ v → v ≤ 255 → v ≠ Z.getD k 0 → Own W g1 L c1 (Z.set k v) → Calls Try.prog 11 #[.slice (some ⟨g1, 0, none⟩) L c1] W fun e w' => (∃ kd sq a n c, e = .returned (.tuple #[.agg #[.int .i64 kd, .int .i64 sq, .slice a n c], .bool false])) ∧ Below W.heap.size W w') := fun W g1 c1 k v hc1 hk h0 h1 hne ho => by
      have hb2 : Byt (Z.set k v) := by
        intro z hz
        rcases List.mem_or_eq_of_mem_set hz with h | h
        · exact hZb z h
        · omega
      have := getRecIO (some ⟨g1, 0, none⟩) L c1 (Z.set k v) W (by rw [List.length_set]; exact hZl) (by omega) hc1 ho.rd hb2
      rw [hturn k hk v h0 h1 hne] at this
      exact this.mono fun e w' ⟨⟨a, c, h1, _⟩, h2⟩ => ⟨⟨_, _, a, _, c, h1⟩, h2⟩
    have hbd : ∀ i, ∃ q : Nat, Z.getD i 0 = (q : Int) ∧ q ≤ 255 := fun i => byt_at hZb i
    obtain ⟨kind, seq, body⟩ := D
    unfold recC at hp cS cI hbx hW1 G1
    dsimp only at hp cS cI hbx hW1 G1 ho1 hl
    obtain ⟨nb, hnb⟩ : ∃ m, body.length = m := ⟨_, rfl⟩
    rw [hnb] at hp cS cI hbx hW1 G1 ho1 hl
    have HNB : Hid (body.length = nb) := hnb
    have HZL : Hid (Z.length = L) := hZl
    obtain ⟨K2, hK2⟩ : ∃ k, X2 % L = k := ⟨_, rfl⟩
    obtain ⟨K3, hK3⟩ : ∃ k, X3 % L = k := ⟨_, rfl⟩
    have hK2l : K2 < L := by rw [← hK2]; exact Nat.mod_lt _ (by omega)
    have hK3l : K3 < L := by rw [← hK3]; exact Nat.mod_lt _ (by omega)
    have hK2i : (X2 : Int) % (L : Int) = (K2 : Int) := by omega
    have hK3i : (X3 : Int) % (L : Int) = (K3 : Int) := by omega
    obtain ⟨q, hq, hq255⟩ := hbd K3
    have HV : Hid (bits .xor .u8 (q : Int) (2 ^ min (X4 % 8) 8 % 256) = ((q ^^^ 2 ^ (X4 % 8) : Nat) : Int)) := flip_in q (X4 % 8) (by omega) hq255
    have hfl := flip_ne q (X4 % 8) (by omega) hq255
    obtain ⟨v, hv⟩ : ∃ v, q ^^^ 2 ^ (X4 % 8) = v := ⟨_, rfl⟩
    rw [hv] at HV hfl
    have HQ : Hid (Z.getD K3 0 = (q : Int)) := hq
    have G3' : Hid (∀ (W : World) (g1 c1 : Nat), L ≤ c1 → Own W g1 L c1 (Z.set K3 (v : Int)) → Calls Try.prog 11 #[.slice (some ⟨g1, 0, none⟩) L c1] W fun e w' => (∃ kd sq a n c, e = .returned (.tuple #[.agg #[.int .i64 kd, .int .i64 sq, .slice a n c], .bool false])) ∧ Below W.heap.size W w') := fun W g1 c1 hc1 ho => G3.out W g1 c1 K3 (v : Int) hc1 hK3l (by omega) (by omega) (by rw [hq]; omega) ho
    obtain ⟨t0, t1, t2⟩ := hbx.thr
    clear hok hoS hoI hby hsm henc hcut hturn hZb hbd hnb hZl hK2 hK3 hv hq hfl G3 hq255
    unfold recC
    dsimp only
    rw [HNB.out]
    go_wp2_with fail
    try rw [hW1]
    try rw [hX]
    clear hW1
    refine hp.mono ?_
    rintro e w2 ⟨g1, c1, rfl, hg1, o2, bp⟩
    have hc1 : L ≤ c1 := by
      rcases o2.2 with ⟨h1, h2⟩ | ⟨g', c', cur, h1, _, _, h2, _⟩
      · simp at h1
      · simp only [Value.slice.injEq] at h1; omega
    have B2 := B1'.trans (bp.mono B1'.size)
    have x2 := hbx.keep bp
    have r2 := ho1.keep bp ho1.lt
    have hXg : X < g1 := by have := hbx.lt; omega
    obtain ⟨t0, t1, t2⟩ := x2.thr
    clear hp hbx ho1 bb bp B1'
    go_wp2_with fail
    refine (cS w2).mono ?_
    rintro e w3 ⟨rfl, b3⟩
    have B3 := B2.trans (b3.mono B2.size)
    have x3 := x2.keep b3
    have r3 := r2.keep b3 r2.lt
    have o3 := o2.keep b3 o2.lt
    clear x2 r2 o2 B2 b3 t0 t1 t2
    go_wp2_with fail
    refine (G1.out w3 g1 c1 hc1 o3).mono ?_
    rintro e w4 ⟨⟨a2, c2, rfl, rx, hnx⟩, b4⟩
    have hyA := Blk.new w4 25 #[.int .i64 kind, .int .i64 seq, .slice a2 nb c2]
    have bA : Below w4.heap.size w4 (w4.alloc (.cells #[.int .i64 kind, .int .i64 seq, .slice a2 nb c2] 25)) := (Below.refl _ w4).alloc (Nat.le_refl _) _
    have b5 := b4.trans (bA.mono b4.size)
    have B5 := B3.trans (b5.mono B3.size)
    have x5 := x3.keep b5
    have r5 := r3.keep b5 r3.lt
    have o5 := o3.keep b5 o3.lt
    have rx5 : RowB (w4.alloc (.cells #[.int .i64 kind, .int .i64 seq, .slice a2 nb c2] 25)) (.slice a2 nb c2) nb body := RowB.keep rx bA
    have hnx1 : Hid (∀ g, (Value.slice a2 nb c2).ownBlock = some g → g1 < g) := fun g hg => by have := hnx g hg; have := o3.lt; omega
    have hYg : g1 < w4.heap.size := by have := o3.lt; have := b4.size; omega
    obtain ⟨W5, hW5⟩ : ∃ W, w4.alloc (.cells #[.int .i64 kind, .int .i64 seq, .slice a2 nb c2] 25) = W := ⟨_, rfl⟩
    rw [hW5] at hyA bA b5 B5 x5 r5 o5 rx5
    obtain ⟨Y, hY⟩ : ∃ Y, w4.heap.size = Y := ⟨_, rfl⟩
    rw [hY] at hyA hYg
    clear x3 r3 o3 rx bA b4 b5 B3 hnx
    go_wp2_with fail
    try rw [hW5]
    try rw [hY]
    clear hW5
    refine (C2.out W5 B5).mono ?_
    rintro e w6 ⟨rfl, hw⟩
    obtain rfl := hw.symm
    go_wp2_with fail
    refine (G2.out W5 g1 c1 K2 hc1 hK2l o5).mono ?_
    rintro e w7 ⟨⟨kd2, sq2, a3, n3, c3, rfl⟩, b7⟩
    have bA : Below w7.heap.size w7 (w7.alloc (.cells #[.int .i64 kd2, .int .i64 sq2, .slice a3 n3 c3] 25)) := (Below.refl _ w7).alloc (Nat.le_refl _) _
    have b8 := b7.trans (bA.mono b7.size)
    have B8 := B5.trans (b8.mono B5.size)
    have x8 := x5.keep b8
    have y8 := hyA.keep b8
    have r8 := r5.keep b8 r5.lt
    have o8 := o5.keep b8 o5.lt
    have rx8 := RowB.keep rx5 b8
    obtain ⟨W8, hW8⟩ : ∃ W, w7.alloc (.cells #[.int .i64 kd2, .int .i64 sq2, .slice a3 n3 c3] 25) = W := ⟨_, rfl⟩
    rw [hW8] at bA b8 B8 x8 y8 r8 o8 rx8
    clear x5 hyA r5 o5 rx5 b7 bA b8 B5
    go_wp2_with fail
    try rw [hW8]
    clear hW8
    refine (C3.out W8 B8).mono ?_
    rintro e w9 ⟨rfl, hw⟩
    obtain rfl := hw.symm
    have hcell : W8.cell? ⟨g1, K3, none⟩ = some (.int .u8 (q : Int)) := by
      have := World.ownsRow.cellAt o8 K3 (by omega)
      rw [this, cells_getD _ _ (by rw [HZL.out]; exact hK3l), HQ.out]
    have hfz := World.ownsRow.frozenAt o8 K3
    have hoS : Own (W8.setCell ⟨g1, K3, none⟩ (.int .u8 (v : Int))).drew g1 L c1 (Z.set K3 (v : Int)) := own_drew (own_stored o8 K3 _)
    have hgr : W8.grownBy (W8.setCell ⟨g1, K3, none⟩ (.int .u8 (v : Int))).drew (some g1) := by
      have h := gr_setC W8 g1 K3 (.int .u8 (v : Int))
      exact ⟨h.os, h.tape, h.output, h.size, h.block⟩
    have BS : Below w.heap.size w (W8.setCell ⟨g1, K3, none⟩ (.int .u8 (v : Int))).drew := (B8.setCell (p := ⟨g1, K3, none⟩) (by show w.heap.size ≤ g1; have := x8.lt; omega) _).drew
    have x9 := x8.kept hgr (by omega)
    have y9 := y8.kept hgr (by omega)
    have r9 := r8.kept hgr (by omega)
    have rx9 := rx8.gr hgr (fun g hg e => by have := hnx1.out g hg; simp at e; omega)
    have HAll : Hid (Own (W8.setCell ⟨g1, K3, none⟩ (.int .u8 (v : Int))).drew g1 L c1 (Z.set K3 (v : Int)) ∧ Below w.heap.size w (W8.setCell ⟨g1, K3, none⟩ (.int .u8 (v : Int))).drew ∧ Blk (W8.setCell ⟨g1, K3, none⟩ (.int .u8 (v : Int))).drew X 25 #[.int .i64 kind, .int .i64 seq, .slice (some ⟨g, 0, none⟩) nb c] ∧ Blk (W8.setCell ⟨g1, K3, none⟩ (.int .u8 (v : Int))).drew Y 25 #[.int .i64 kind, .int .i64 seq, .slice a2 nb c2] ∧ Own (W8.setCell ⟨g1, K3, none⟩ (.int .u8 (v : Int))).drew g nb c body ∧ RowB (W8.setCell ⟨g1, K3, none⟩ (.int .u8 (v : Int))).drew (.slice a2 nb c2) nb body) := ⟨hoS, BS, x9, y9, r9, rx9⟩
    have B8d := B8.drew
    clear x8 y8 r8 rx8 o8 hoS hgr BS x9 y9 r9 rx9 B8
    go_wp2
    go_region_with (go_at_call 12; refine (C4.out _ B8d).mono ?_; rintro e w10 ⟨rfl, hw⟩; obtain rfl := hw.symm)
    all_goals
      go_wp2_with fail
      rw [HV.out]
      obtain ⟨o9, B9, x9, y9, r9, rx9⟩ := HAll.out
      refine (G3'.out _ g1 c1 hc1 o9).mono ?_
      rintro e w11 ⟨⟨kd4, sq4, a4, n4, c4, rfl⟩, b11⟩
      have bA : Below w11.heap.size w11 (w11.alloc (.cells #[.int .i64 kd4, .int .i64 sq4, .slice a4 n4 c4] 25)) := (Below.refl _ w11).alloc (Nat.le_refl _) _
      have b12 := b11.trans (bA.mono b11.size)
      have B12 := B9.trans (b12.mono B9.size)
      have x12 := x9.keep b12
      have y12 := y9.keep b12
      have r12 := r9.keep b12 r9.lt
      have rx12 := RowB.keep rx9 b12
      obtain ⟨W12, hW12⟩ : ∃ W, w11.alloc (.cells #[.int .i64 kd4, .int .i64 sq4, .slice a4 n4 c4] 25) = W := ⟨_, rfl⟩
      rw [hW12] at bA b12 B12 x12 y12 r12 rx12
      obtain ⟨u0, u1, u2⟩ := x12.thr
      obtain ⟨v0, v1, v2⟩ := y12.thr
      have hkk : (kind == kind) = true := by simp
      have hss : (seq == seq) = true := by simp
      have hL400 : (L : Int) ≤ 400 := by omega
      clear o9 x9 y9 r9 rx9 b11 bA b12 B9 HAll
      go_wp2_with fail
      try rw [hW12]
      clear hW12
      refine (sameL_any a2 (some ⟨g, 0, none⟩) nb nb c2 c body body W12 HNB.out HNB.out (by omega) (by omega) rx12.rd r12.rd).mono ?_
      rintro e w13 ⟨rfl, dd, rfl⟩
      have b13 : Below W12.heap.size W12 (W12.drewN dd) := below_drewN (Below.refl _ _) dd
      have x13 := x12.keep b13
      obtain ⟨u0, u1, u2⟩ := x13.thr
      have hbb : decide (body = body) = true := by simp
      rw [hbb]
      clear hbb
      go_wp2_with fail
      refine (cI _).mono ?_
      rintro e w14 ⟨rfl, b14⟩
      go_wp2
      go_ret
      exact ⟨rfl, B12.trans ((b13.trans (b14.mono b13.size)).mono B12.size)⟩

/-! ### THE ROW's STEP: WRITTEN OUT: LEAVE IT -/
set_option maxRecDepth 100000 in
theorem lifted (os : Os) (started : os.Started) (H : Type) (enc : TypeId × Value → H) :
    ReturnsInHanded {} Try.checked os 3 .any (Rows.fnRecsSpec.pre6 enc Try.prog Try.f3 Rows.fnRecsRow.domain false) (Rows.fnRecsSpec.post enc Try.prog Try.f3 false true false false) := by
  refine returnsInHanded_of_change (C := Try.checked) own started (by kernel_rfl) Try.func3
    (ChangeSpec.witness6 (enc := enc) (C := Try.checked) false ⟨#[], #[.slice none 0 0], []⟩ 8 (by kernel_rfl) (by kernel_rfl) (by kernel_rfl) (by kernel_rfl)) ?_
  intro W base args ds gs before hval0 hW hcnd _
  have hval : ∀ (j : Nat) t v, Try.f3.params[j]? = some t → args[j]? = some v → Value.okWide Try.prog W .any base t v := hval0
  have hW' := hW
  obtain ⟨p, q, hA0, hV, rfl, hfz, hnd⟩ := hW
  have hA : DataW.TrodAll enc Try.prog W 0 (fun _ => true) true Try.f3.params.toList args.toList ds p := hA0
  rw [Try.params3] at hA hval
  obtain ⟨v0, vs0, d0, ds0, p0, q0, hargs, rfl, rfl, h0, r0⟩ := trodAll_cons hA
  obtain ⟨rfl, rfl, rfl⟩ := trodAll_nil r0
  obtain rfl : args = #[v0] := by cases args; simp_all
  obtain ⟨rfl, rfl⟩ := trodVars_none hV
  obtain ⟨a0, len0, cap0, rfl⟩ := okWide_slice Try.underlying22 (hval 0 22 v0 rfl rfl)
  have k0 := h0
  have lt0 : ∀ x ∈ p0, x.block < W.heap.size := by obtain ⟨m, hm⟩ := k0; exact DataW.trod_lt m _ _ _ hm
  obtain ⟨z0, w0⟩ : ∃ zs, IsRow .u8 W a0 len0 cap0 zs := by
    obtain ⟨fuel, hf⟩ := h0
    rcases open_ints Try.underlying22 Try.underlying5 (by kernel_rfl) hf with ⟨hcs, _⟩ | ⟨x, l, c, zs, hcs, _, hl, hm, hz, _, hcell, hwz⟩
    · simp [Value.cells] at hcs
      obtain ⟨rfl, rfl, rfl⟩ := hcs
      exact ⟨[], .inl ⟨rfl, rfl, rfl, rfl⟩⟩
    · simp [Value.cells] at hcs
      obtain ⟨rfl, rfl, rfl⟩ := hcs
      exact ⟨zs, .inr ⟨_, rfl, hl, hm, by simpa using hz, hcell, hwz⟩⟩
  clear hA0 hval0
  refine (walk a0 len0 cap0 z0 W w0).mono fun e W' ⟨he, bel⟩ => ?_
  subst he
  exact ⟨_, rfl, _, _, _, [], _, [], hW', trodAll_mk1 (shut_bool Try.underlying4 _), (trodAll_cons_mk (Below.trod laidOut (by kernel_rfl) (of_decide_eq_true (by kernel_rfl)) k0 bel lt0) trodAll_mk0), rfl, bel.frame _, fun h => by cases h⟩

theorem over : Rows.fnRecsRow.holds Try.pinned (OpenSpec.ofChange Rows.fnRecsSpec) :=
  OpenClaim.holds_of_wide 3 Try.f3 rfl rfl rfl rfl rfl rfl rfl ⟨rfl, rfl, rfl, rfl, rfl⟩ rfl rfl rfl rfl rfl (by kernel_rfl) Try.func3 (by kernel_rfl)
    (of_decide_eq_true (by kernel_rfl)) (by unfold Func.isWrapper; first | (rw [if_pos (by decide +kernel)]; kernel_rfl) | (rw [if_neg (by decide +kernel)]; exact ⟨rfl, rfl⟩))
    (fun os started H enc _ => lifted os started H enc)

/-- ████ THE STATEMENT ████ -/
theorem proved : Rows.FnRecsSaid := over
#print axioms proved
end Go.Proofs.Yteaciccegmichaa.fnRecs
