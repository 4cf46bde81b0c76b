/-
  Joined: TbJ, EncDec.
-/
import Derived.Test.YtmkcadnpleijdaaJ22U
namespace Go.Proofs.Ytmkcadnpleijdaa
section
open Go.RowKit
/-- What is known while a table is read: the answer's cell, the table's box, its rows. -/
structure GT (w0 W : World) (X : Nat) (xs : Array Value) (v2 : Value) (ps : List RwD) : Prop where
  below : Below w0.heap.size w0 W
  res : Blk W w0.heap.size 26 #[.int .i64 0, .slice none 0 0]
  x : Blk W X 26 xs
  hX : w0.heap.size < X
  e : W.ownsRow w0.heap.size 35 5 v2 ps.length (rwE.xv ps)
theorem GT.kp {w0 W W' : World} {X : Nat} {xs : Array Value} {v2 : Value} {ps : List RwD} (h : GT w0 W X xs v2 ps) (k : KpT W W' [26, 35]) (hb : Below w0.heap.size w0 W') : GT w0 W' X xs v2 ps :=
  ⟨hb, h.res.kp k (by decide), h.x.kp k (by decide), h.hX, row_kp h.e k (by decide)⟩
theorem GT.keep {w0 W W' : World} {X : Nat} {xs : Array Value} {v2 : Value} {ps : List RwD} (h : GT w0 W X xs v2 ps) (hb : Below W.heap.size W W') : GT w0 W' X xs v2 ps :=
  h.kp (KpT.below hb _) (h.below.trans (hb.mono h.below.size))
theorem GT.setX {w0 W : World} {X : Nat} {xs : Array Value} {v2 : Value} {ps : List RwD} (h : GT w0 W X xs v2 ps) (j : Nat) (v : Value) : GT w0 (W.setCell ⟨X, j, none⟩ v) X (xs.setIfInBounds j v) v2 ps :=
  ⟨h.below.setCell (p := ⟨X, j, none⟩) (Nat.le_of_lt h.hX) v, h.res.other (Nat.ne_of_lt h.hX) j v, h.x.set j v, h.hX, row_kp h.e (KpT.grown (ts := [35]) (gr_setC W X j v) h.x (by decide)) (by decide)⟩
theorem GT.app {w0 W W' : World} {X : Nat} {xs : Array Value} {v2 : Value} {ps : List RwD} (h : GT w0 W X xs v2 ps) (o : Obj) (hg : (W.alloc o).grownBy W' v2.ownBlock) (v2' : Value) (ps' : List RwD) (ho : W'.ownsRow w0.heap.size 35 5 v2' ps'.length (rwE.xv ps')) : GT w0 W' X xs v2' ps' := by
  have ha := h.keep ((Below.refl W.heap.size W).alloc (Nat.le_refl _) o)
  have k : KpT (W.alloc o) W' [26] := KpT.row hg ha.e (by decide)
  exact ⟨ha.below.grown hg ha.below.size (fun g hk => (row_at ha.e hk).1), ha.res.kp k (by decide), ha.x.kp k (by decide), ha.hX, ho⟩
theorem RS.kpt5 {W W' : World} {R : Nat} {a : Option Addr} {n cap : Nat} {st : Option Nat} (h : RS W R a n cap st) (g : W.grownBy W' (some R)) : KpT W W' [26, 35] := by
  obtain ⟨p, hb, _⟩ := h
  exact KpT.grown g hb (by decide)
theorem RS.setT {W : World} {X R : Nat} {xs : Array Value} {a : Option Addr} {n cap : Nat} {st : Option Nat} {t : TypeId} (h : RS W R a n cap st) (hx : Blk W X t xs) (ht : t ∉ [65]) (j : Nat) (v : Value) : RS (W.setCell ⟨X, j, none⟩ v) R a n cap st :=
  h.kp (KpT.grown (ts := [65]) (gr_setC W X j v) hx ht) (by decide)
/-- And while a row is read: its box, and the reader's. -/
structure GE (w0 W : World) (X R : Nat) (xs : Array Value) (v2 : Value) (ps : List RwD) (E : Nat) (ys : Array Value) (a : Option Addr) (n cap : Nat) (st : Option Nat) : Prop where
  gt : GT w0 W X xs v2 ps
  ebl : Blk W E 35 ys
  row : v2.ownBlock ≠ some E
  hE : w0.heap.size ≤ E
  rs : RS W R a n cap st
theorem GE.step {w0 W W' : World} {X R : Nat} {xs : Array Value} {v2 : Value} {ps : List RwD} {E : Nat} {ys : Array Value} {a : Option Addr} {n cap : Nat} {st st' : Option Nat} (h : GE w0 W X R xs v2 ps E ys a n cap st) (hR : w0.heap.size ≤ R) (r : RS W' R a n cap st') (g : W.grownBy W' (some R)) : GE w0 W' X R xs v2 ps E ys a n cap st' := by
  have k := h.rs.kpt5 g
  exact ⟨h.gt.kp k (below_gr h.gt.below g (Nat.le_refl _) hR), h.ebl.kp k (by decide), h.row, h.hE, r⟩
theorem GE.set {w0 W : World} {X R : Nat} {xs : Array Value} {v2 : Value} {ps : List RwD} {E : Nat} {ys : Array Value} {a : Option Addr} {n cap : Nat} {st : Option Nat} (h : GE w0 W X R xs v2 ps E ys a n cap st) (j : Nat) (v : Value) : GE w0 (W.setCell ⟨E, j, none⟩ v) X R xs v2 ps E (ys.setIfInBounds j v) a n cap st := by
  have k : KpT W (W.setCell ⟨E, j, none⟩ v) [26] := KpT.grown (gr_setC W E j v) h.ebl (by decide)
  exact ⟨⟨h.gt.below.setCell (p := ⟨E, j, none⟩) h.hE _, h.gt.res.kp k (by decide), h.gt.x.kp k (by decide), h.gt.hX, row_kept h.gt.e (gr_setC W E j v) (fun g hg e => h.row (by rw [hg, ← e]))⟩, h.ebl.set j v, h.row, h.hE, h.rs.setT h.ebl (by decide) j v⟩
/-- The rows and the place behind a loop that stops where something was not whole. -/
def EndT (zs : List Int) (ps : List RwD) (st : Option Nat) : Prop := st = (tgP zs).2 ∧ (st = none ∨ ps = (tgP zs).1)
set_option maxRecDepth 100000 in
set_option maxHeartbeats 16000000 in
theorem getTableS (a : Option Addr) (n cap : Nat) (zs : List Int) (w : World) (hn : zs.length = n) (hs : n ≤ 1048576) (hcap : n ≤ cap) (hr : Rd w a zs) (hb : Byt zs) :
    Calls Try.prog 12 #[.slice a n cap] w fun e w' => TPost w.heap.size w' zs e ∧ Below w.heap.size w w' := by
  have CN : Hid _ := fun (W : World) (st : Option Nat) (h : RS W (w.heap.size + 1) a n cap st) (hB : Below w.heap.size w W) => l3Num_any (w.heap.size + 1) a n cap zs st W hn (by omega) (hr.keep hB) hb h
  have CT : Hid _ := fun (W : World) (st : Option Nat) (h : RS W (w.heap.size + 1) a n cap st) (hB : Below w.heap.size w W) => l3Text_any (w.heap.size + 1) a n cap zs st W hn (by omega) hcap (hr.keep hB) hb h
  have HN : Hid (zs.length = n) := hn
  have B0 : Below w.heap.size w ((w.alloc (.cells #[.int .i64 0, .slice none 0 0] 26)).alloc (.cells #[.slice a n cap, .int .i64 0, .bool false] 65)) := ((Below.refl _ w).alloc (Nat.le_refl _) _).alloc (by simp) _
  have res0 : Blk ((w.alloc (.cells #[.int .i64 0, .slice none 0 0] 26)).alloc (.cells #[.slice a n cap, .int .i64 0, .bool false] 65)) w.heap.size 26 #[.int .i64 0, .slice none 0 0] := (Blk.new w _ _).alloc _
  have rs0 : RS ((w.alloc (.cells #[.int .i64 0, .slice none 0 0] 26)).alloc (.cells #[.slice a n cap, .int .i64 0, .bool false] 65)) (w.heap.size + 1) a n cap (some 0) := ⟨0, Blk.newAt (by simp), fun q hq => by cases hq; rfl⟩
  clear hn hr hb
  go_enter Try.func12, Try.ntmps12
  go_wp2_with fail
  obtain ⟨W0, hW0⟩ : ∃ W, (w.alloc (.cells #[.int .i64 0, .slice none 0 0] 26)).alloc (.cells #[.slice a n cap, .int .i64 0, .bool false] 65) = W := ⟨_, rfl⟩
  rw [hW0] at B0 res0 rs0 ⊢
  clear hW0
  refine (CN.out W0 (some 0) rs0 B0).mono ?_
  rintro e w1 ⟨rfl, rs1, gr1⟩
  have B1 := below_gr B0 gr1 (Nat.le_refl _) (by omega)
  have res1 := res0.kp (rs0.kpt5 gr1) (by decide)
  clear res0 rs0 gr1 B0
  obtain ⟨i1, hi1⟩ : ∃ i, (rdN zs (some 0)).1 = i := ⟨_, rfl⟩
  obtain ⟨s1, hs1⟩ : ∃ i, (rdN zs (some 0)).2 = i := ⟨_, rfl⟩
  rw [hi1]
  rw [hs1] at rs1
  have E1 : Hid ((tgM zs).1 = i1) := hi1
  have S1 : Hid ((tgM zs).2 = s1) := hs1
  clear hi1 hs1
  have bX : Below w1.heap.size w1 (w1.alloc (.cells #[.int .i64 (i1 : Int), .slice none 0 0] 26)) := (Below.refl _ w1).alloc (Nat.le_refl _) _
  have gx1 : GT w (w1.alloc (.cells #[.int .i64 (i1 : Int), .slice none 0 0] 26)) w1.heap.size #[.int .i64 (i1 : Int), .slice none 0 0] (.slice none 0 0) [] :=
    ⟨B1.alloc B1.size _, res1.alloc _, Blk.new w1 _ _, res1.lt, ⟨rfl, .inl ⟨rfl, rfl⟩⟩⟩
  have rs1' := rs1.keep bX
  go_wp2_with fail
  obtain ⟨W1, hW1⟩ : ∃ W, w1.alloc (.cells #[.int .i64 (i1 : Int), .slice none 0 0] 26) = W := ⟨_, rfl⟩
  obtain ⟨X, hX⟩ : ∃ X, w1.heap.size = X := ⟨_, rfl⟩
  rw [hW1] at gx1 rs1' ⊢
  rw [hX] at gx1 ⊢
  clear hW1 hX bX rs1 res1 B1
  refine (CN.out W1 s1 rs1' gx1.below).mono ?_
  rintro e w7 ⟨rfl, rs7, gr7⟩
  have gx7 := gx1.kp (rs1'.kpt5 gr7) (below_gr gx1.below gr7 (Nat.le_refl _) (by omega))
  clear gx1 rs1' gr7
  have hn5 := rdN_le zs s1
  obtain ⟨n5, hn5'⟩ : ∃ i, (rdN zs s1).1 = i := ⟨_, rfl⟩
  obtain ⟨s5, hs5⟩ : ∃ i, (rdN zs s1).2 = i := ⟨_, rfl⟩
  rw [hn5'] at hn5 ⊢
  rw [hs5] at rs7
  have E5 : Hid ((tgN zs).1 = n5) := by show _ = _; unfold tgN; rw [S1.out, hn5']
  have S5 : Hid ((tgN zs).2 = s5) := by show _ = _; unfold tgN; rw [S1.out, hs5]
  clear hn5' hs5
  go_upto_block 0 with fail
  go_cut [7] (fun _ wx => ∃ v2 ps st, EndT zs ps st ∧ ps.length ≤ 7 ∧ (∀ r ∈ ps, r.name.size ≤ 1048576) ∧ RS wx (w.heap.size + 1) a n cap st ∧ GT w wx X #[.int .i64 (i1 : Int), v2] v2 ps)
  case first =>
    go_wp2_with fail
    go_loopw [7] (fun i wr => ∃ (k : Nat) (v2 : Value), k ≤ 7 ∧ k ≤ n5 ∧ i = .int .i64 k ∧ RS wr (w.heap.size + 1) a n cap (tgRs zs s5 k).2 ∧ GT w wr X #[.int .i64 (i1 : Int), v2] v2 (tgRs zs s5 k).1) (fun i _ => 7 - (intOf i).toNat)
    case atStart => exact ⟨0, .slice none 0 0, by omega, by omega, rfl, rs7, gx7⟩
    case round =>
      obtain ⟨k, v2, hk11, hkn5, rfl, rsk, gxk⟩ := hrel
      have hlk := tgRs_len zs s5 k
      have hnmk : Hid (∀ r ∈ (tgRs zs s5 k).1, r.name.size ≤ 1048576) := fun r hr => by
        have := tgRs_nm zs s5 k r hr
        rw [HN.out] at this
        omega
      have hes : Hid ((tgRs zs s5 (k + 1)).1 = (tgRs zs s5 k).1 ++ [tgRow zs (tgRs zs s5 k).2] ∧ (tgRs zs s5 (k + 1)).2 = (tgE zs (tgRs zs s5 k).2).2) := ⟨rfl, rfl⟩
      have hend : Hid ((¬ (k < n5 ∧ k ≤ 6) ∨ (tgRs zs s5 k).2 = none) → EndT zs (tgRs zs s5 k).1 (tgRs zs s5 k).2) := by
        intro h
        unfold EndT tgP
        rw [E5.out, S5.out]
        rcases h with h | h
        · rw [show min n5 7 = k by omega]
          exact ⟨rfl, .inr rfl⟩
        · exact ⟨by rw [h, tgRs_none h (show k ≤ min n5 7 by omega)], .inl h⟩
      obtain ⟨ps, hes'⟩ : ∃ l, (tgRs zs s5 k).1 = l := ⟨_, rfl⟩
      obtain ⟨st, hst'⟩ : ∃ l, (tgRs zs s5 k).2 = l := ⟨_, rfl⟩
      rw [hes', hst'] at hes hend
      rw [hes'] at gxk hlk hnmk
      rw [hst'] at rsk
      clear hes' hst'
      obtain ⟨p, hbr, hpq⟩ := id rsk
      have cb := hbr.cell 2
      simp at cb
      clear hbr hpq
      by_cases hgo : (k < n5 ∧ k ≤ 6) ∧ st ≠ none
      · obtain ⟨⟨hk1, hk2⟩, hst⟩ := hgo
        have hk1' : (k : Int) < (n5 : Int) := by omega
        have hk2' : (k : Int) ≤ 6 := by omega
        obtain ⟨q, rfl⟩ := Option.ne_none_iff_exists'.1 hst
        simp only [Option.isNone_some] at cb
        obtain ⟨xA, hxA⟩ : ∃ x, (tgA zs (some q)).1 = x := ⟨_, rfl⟩
        obtain ⟨sA, hsA⟩ : ∃ x, (tgA zs (some q)).2 = x := ⟨_, rfl⟩
        obtain ⟨xB, hxB⟩ : ∃ x, (tgB zs (some q)).1 = x := ⟨_, rfl⟩
        obtain ⟨sB, hsB⟩ : ∃ x, (tgB zs (some q)).2 = x := ⟨_, rfl⟩
        obtain ⟨xC, hxC⟩ : ∃ x, (tgC zs (some q)).1 = x := ⟨_, rfl⟩
        obtain ⟨sC, hsC⟩ : ∃ x, (tgC zs (some q)).2 = x := ⟨_, rfl⟩
        obtain ⟨sS, hsS⟩ : ∃ x, tgS zs (some q) = x := ⟨_, rfl⟩
        obtain ⟨xD, hxD⟩ : ∃ x, (tgD zs (some q)).1 = x := ⟨_, rfl⟩
        obtain ⟨sD, hsD⟩ : ∃ x, (tgD zs (some q)).2 = x := ⟨_, rfl⟩
        obtain ⟨xE, hxE⟩ : ∃ x, (tgE zs (some q)).1 = x := ⟨_, rfl⟩
        obtain ⟨sE, hsE⟩ : ∃ x, (tgE zs (some q)).2 = x := ⟨_, rfl⟩
        obtain ⟨bC, hbC⟩ : ∃ b, decide (xC = 1) = b := ⟨_, rfl⟩
        have EA : Hid (rdN zs (some q) = (xA, sA)) := by show _ = _; rw [← hxA, ← hsA]; rfl
        have EB : Hid (rdT zs sA = (xB, sB)) := by show _ = _; rw [← hxB, ← hsB, ← hsA]; rfl
        have EC : Hid (rdN zs sB = (xC, sC)) := by show _ = _; rw [← hxC, ← hsC, ← hsB]; rfl
        have ES : Hid (sS = if xC ≤ 1 then sC else none) := by show _ = _; rw [← hsS, ← hxC, ← hsC]; rfl
        have ED : Hid (rdN zs sS = (xD, sD)) := by show _ = _; rw [← hxD, ← hsD, ← hsS]; rfl
        have EE : Hid (rdN zs sD = (xE, sE)) := by show _ = _; rw [← hxE, ← hsE, ← hsD]; rfl
        have hnx : Hid ((tgRs zs s5 (k + 1)).1 = ps ++ [⟨(xA : Int), xB, bC, (xD : Int), (xE : Int)⟩] ∧ (tgRs zs s5 (k + 1)).2 = sE) := by
          show _ ∧ _
          rw [hes.out.1, hes.out.2, hsE]
          unfold tgRow
          rw [hxA, hxB, hxC, hbC, hxD, hxE]
          exact ⟨rfl, rfl⟩
        have heC : ((xC : Int) == 1) = bC := by rw [← hbC, Bool.eq_iff_iff]; simp; omega
        have hC1 := rdN_le zs sB
        rw [EC.out] at hC1
        dsimp only at hC1
        clear hxA hsA hxB hsB hxC hsC hsS hxD hsD hxE hsE hbC hes hend hst
        go_wp2_with fail
        refine (CN.out wr (some q) rsk gxk.below).mono ?_
        rw [EA.out]
        dsimp only
        rintro e w8 ⟨rfl, rs8, gr8⟩
        have gx8 := gxk.kp (rsk.kpt5 gr8) (below_gr gxk.below gr8 (Nat.le_refl _) (by omega))
        clear gr8 rsk gxk cb
        have bE : Below w8.heap.size w8 (w8.alloc (.cells #[.int .i64 (xA : Int), .string ⟨#[]⟩, .bool false, .int .i64 0, .int .i64 0] 35)) := (Below.refl _ w8).alloc (Nat.le_refl _) _
        have hrow : v2.ownBlock ≠ some w8.heap.size := fun h => by
          obtain ⟨_, cur, hc⟩ := row_at gx8.e h
          have := (Array.getElem?_eq_some_iff.1 hc).1
          omega
        have HR : Hid (GE w (w8.alloc (.cells #[.int .i64 (xA : Int), .string ⟨#[]⟩, .bool false, .int .i64 0, .int .i64 0] 35)) X (w.heap.size + 1) #[.int .i64 (i1 : Int), v2] v2 ps w8.heap.size #[.int .i64 (xA : Int), .string ⟨#[]⟩, .bool false, .int .i64 0, .int .i64 0] a n cap sA) := ⟨gx8.keep bE, Blk.new w8 _ _, hrow, gx8.below.size, rs8.keep bE⟩
        have hXE : Hid (X < w8.heap.size) := gx8.x.lt
        clear bE hrow gx8 rs8
        go_wp2_with fail
        obtain ⟨W1, hW⟩ : ∃ W, w8.alloc (.cells #[.int .i64 (xA : Int), .string ⟨#[]⟩, .bool false, .int .i64 0, .int .i64 0] 35) = W := ⟨_, rfl⟩
        obtain ⟨E, hE⟩ : ∃ E, w8.heap.size = E := ⟨_, rfl⟩
        rw [hW, hE] at HR
        rw [hW]
        rw [hE] at hXE ⊢
        clear hW hE
        refine (((CT.out W1 sA HR.out.rs HR.out.gt.below))).mono ?_
        rw [EB.out]
        dsimp only
        rintro e V1 ⟨rfl, r, g⟩
        have S := HR.out.step (by omega) r g
        clear HR r g
        have f := S.ebl.frozen 1
        obtain ⟨c0, c1, c2, c3, c4⟩ := S.ebl.fiv
        have HR : Hid (GE w (V1.setCell ⟨E, 1, none⟩ (.string xB)) X (w.heap.size + 1) #[.int .i64 (i1 : Int), v2] v2 ps E #[.int .i64 (xA : Int), .string xB, .bool false, .int .i64 0, .int .i64 0] a n cap sB) := S.set 1 (.string xB)
        clear S
        go_wp2_with fail
        obtain ⟨W2, hW⟩ : ∃ W, V1.setCell ⟨E, 1, none⟩ (.string xB) = W := ⟨_, rfl⟩
        rw [hW] at HR ⊢
        clear hW f c0 c1 c2 c3 c4
        refine ((CN.out W2 sB HR.out.rs HR.out.gt.below)).mono ?_
        rw [EC.out]
        dsimp only
        rintro e V2 ⟨rfl, r, g⟩
        have S := HR.out.step (by omega) r g
        clear HR r g
        obtain ⟨p3, hb3, hp3⟩ := S.rs
        have cc2 := hb3.cell 2
        have ff2 := hb3.frozen 2
        simp at cc2
        have HR : Hid (GE w V2 X (w.heap.size + 1) #[.int .i64 (i1 : Int), v2] v2 ps E #[.int .i64 (xA : Int), .string xB, .bool false, .int .i64 0, .int .i64 0] a n cap sC) := S
        have HB3 : Hid (Blk V2 (w.heap.size + 1) 65 #[.slice a n cap, .int .i64 (p3 : Int), .bool sC.isNone]) := hb3
        have HP3 : Hid (∀ q, sC = some q → p3 = q) := hp3
        clear S hb3 hp3
        go_upto_region 10 with fail
        go_cut [50] (fun _ wx => GE w wx X (w.heap.size + 1) #[.int .i64 (i1 : Int), v2] v2 ps E #[.int .i64 (xA : Int), .string xB, .bool false, .int .i64 0, .int .i64 0] a n cap sS)
        case first =>
          have fin : ∀ b : Bool, b = sS.isNone → (∀ q, sS = some q → p3 = q) → GE w (V2.setCell ⟨w.heap.size + 1, 2, none⟩ (.bool b)) X (w.heap.size + 1) #[.int .i64 (i1 : Int), v2] v2 ps E #[.int .i64 (xA : Int), .string xB, .bool false, .int .i64 0, .int .i64 0] a n cap sS := fun b hb hq =>
            HR.out.step (by omega) ⟨p3, by rw [← hb]; exact HB3.out.set 2 (.bool b), hq⟩ (gr_setC V2 (w.heap.size + 1) 2 (.bool b))
          have HFIN : Hid _ := fin
          clear fin
          cases hsC : sC with
          | none =>
            rw [hsC] at cc2 ES
            simp only [Option.isNone_none] at cc2
            have hss : sS = none := by rw [ES.out]; simp
            have HSS : Hid _ := hss
            clear hss
            go_wp2_with fail
            go_meet
            exact HFIN.out true (by rw [HSS.out]; rfl) (fun q hq => by rw [HSS.out] at hq; simp at hq)
          | some q3 =>
            rw [hsC] at cc2 ES HP3
            simp only [Option.isNone_some] at cc2
            by_cases h1 : xC ≤ 1
            · have h1' : ¬ (1 : Int) < (xC : Int) := by omega
              have h2' : ¬ (xC : Int) > 1 := by omega
              have hss : sS = some q3 := by rw [ES.out, if_pos h1]
              have HSS : Hid _ := hss
              clear hss
              go_wp2_with fail
              go_meet
              exact HFIN.out false (by rw [HSS.out]; rfl) (fun q hq => HP3.out q (by rw [HSS.out] at hq; exact hq))
            · have h1' : (1 : Int) < (xC : Int) := by omega
              have h2' : (xC : Int) > 1 := by omega
              have hss : sS = none := by rw [ES.out, if_neg h1]
              have HSS : Hid _ := hss
              clear hss
              go_wp2_with fail
              go_meet
              exact HFIN.out true (by rw [HSS.out]; rfl) (fun q hq => by rw [HSS.out] at hq; simp at hq)
        case rest =>
        obtain ⟨V3, hwc⟩ : ∃ W, W = wc := ⟨_, rfl⟩
        subst hwc
        have S := hcut
        clear hcut cc2 ff2 HB3 HP3 HR
        have f := S.ebl.frozen 2
        obtain ⟨c0, c1, c2, c3, c4⟩ := S.ebl.fiv
        have HR : Hid (GE w (V3.setCell ⟨E, 2, none⟩ (.bool bC)) X (w.heap.size + 1) #[.int .i64 (i1 : Int), v2] v2 ps E #[.int .i64 (xA : Int), .string xB, .bool bC, .int .i64 0, .int .i64 0] a n cap sS) := S.set 2 (.bool bC)
        clear S
        go_wp2_with fail
        obtain ⟨W4, hW⟩ : ∃ W, V3.setCell ⟨E, 2, none⟩ (.bool bC) = W := ⟨_, rfl⟩
        rw [hW] at HR ⊢
        clear hW f c0 c1 c2 c3 c4
        refine (((CN.out W4 sS HR.out.rs HR.out.gt.below))).mono ?_
        rw [ED.out]
        dsimp only
        rintro e V4 ⟨rfl, r, g⟩
        have S := HR.out.step (by omega) r g
        clear HR r g
        have f := S.ebl.frozen 3
        obtain ⟨c0, c1, c2, c3, c4⟩ := S.ebl.fiv
        have HR : Hid (GE w (V4.setCell ⟨E, 3, none⟩ (.int .i64 (xD : Int))) X (w.heap.size + 1) #[.int .i64 (i1 : Int), v2] v2 ps E #[.int .i64 (xA : Int), .string xB, .bool bC, .int .i64 (xD : Int), .int .i64 0] a n cap sD) := S.set 3 (.int .i64 (xD : Int))
        clear S
        go_wp2_with fail
        obtain ⟨W5, hW⟩ : ∃ W, V4.setCell ⟨E, 3, none⟩ (.int .i64 (xD : Int)) = W := ⟨_, rfl⟩
        rw [hW] at HR ⊢
        clear hW f c0 c1 c2 c3 c4
        refine (((CN.out W5 sD HR.out.rs HR.out.gt.below))).mono ?_
        rw [EE.out]
        dsimp only
        rintro e V5 ⟨rfl, r, g⟩
        have S := HR.out.step (by omega) r g
        clear HR r g
        have f := S.ebl.frozen 4
        obtain ⟨c0, c1, c2, c3, c4⟩ := S.ebl.fiv
        have HR : Hid (GE w (V5.setCell ⟨E, 4, none⟩ (.int .i64 (xE : Int))) X (w.heap.size + 1) #[.int .i64 (i1 : Int), v2] v2 ps E #[.int .i64 (xA : Int), .string xB, .bool bC, .int .i64 (xD : Int), .int .i64 (xE : Int)] a n cap sE) := S.set 4 (.int .i64 (xE : Int))
        clear S
        go_upto_region 14 with fail
        obtain ⟨W6, hW⟩ : ∃ W, V5.setCell ⟨E, 4, none⟩ (.int .i64 (xE : Int)) = W := ⟨_, rfl⟩
        rw [hW] at HR ⊢
        clear hW f c0 c1 c2 c3 c4
        have gx11 := HR.out.gt
        have rs11 := HR.out.rs
        obtain ⟨c0, c1, c2, c3, c4⟩ := HR.out.ebl.fiv
        have x4 := gx11.x.cell 1
        simp at x4
        have hrowE := gx11.e
        rw [hlk] at hrowE
        have hbW := gx11.below.size
        clear HR
        go_wp2_with (at_builtin; refine wpList_appR W6 rfl (.tmp 63) (.tmp 65) rfl w.heap.size v2 k ps ⟨(xA : Int), xB, bC, (xD : Int), (xE : Int)⟩ rfl hrowE (by omega) rfl hbW ?_; intro v2' w12 ho12 hg12; obtain ⟨g2, cc2, rfl⟩ := row5_some ho12 (by omega); have gx12 := gx11.app _ hg12 (.slice (some ⟨g2, 0, none⟩) (k + 1) cc2) (ps ++ [⟨(xA : Int), xB, bC, (xD : Int), (xE : Int)⟩]) (by rw [List.length_append, hlk]; exact ho12); have rs12 := rs11.app _ hg12 gx11.e (by decide); have x4'' := gx12.x.cell 1; have f4'' := gx12.x.frozen 1; simp at x4''; clear c0 c1 c2 c3 c4)
        have gx13 : GT w (w12.setCell ⟨X, 1, none⟩ (.slice (some ⟨g2, 0, none⟩) (k + 1) cc2)) X #[.int .i64 (i1 : Int), .slice (some ⟨g2, 0, none⟩) (k + 1) cc2] (.slice (some ⟨g2, 0, none⟩) (k + 1) cc2) (ps ++ [⟨(xA : Int), xB, bC, (xD : Int), (xE : Int)⟩]) := gx12.setX 1 _
        have rs13 := rs12.setT gx12.x (by decide) 1 (.slice (some ⟨g2, 0, none⟩) (k + 1) cc2)
        go_roundw
        case rel => exact ⟨k + 1, .slice (some ⟨g2, 0, none⟩) (k + 1) cc2, by omega, by omega, by go_num, by rw [hnx.out.2]; exact rs13, by rw [hnx.out.1]; exact gx13⟩
        case measure => simp [intOf]; omega
      · have hend' : Hid (EndT zs ps st) := hend.out (by
          by_cases h1 : k < n5 ∧ k ≤ 6
          · exact .inr (Decidable.not_not.1 (fun h => hgo ⟨h1, h⟩))
          · exact .inl h1)
        have h3 : (¬ k < n5) ∨ (k < n5 ∧ ¬ k ≤ 6) ∨ (k < n5 ∧ k ≤ 6 ∧ st = none) := by
          by_cases h1 : k < n5
          · by_cases h2 : k ≤ 6
            · exact .inr (.inr ⟨h1, h2, Decidable.not_not.1 (fun h => hgo ⟨⟨h1, h2⟩, h⟩)⟩)
            · exact .inr (.inl ⟨h1, h2⟩)
          · exact .inl h1
        clear hend hes hgo
        rcases h3 with h | ⟨h, h'⟩ | ⟨h, h', hst0⟩
        · have hi1' : ¬ (k : Int) < (n5 : Int) := by omega
          go_wp2_with fail
          go_meet
          exact ⟨v2, ps, st, hend'.out, by omega, hnmk.out, rsk, gxk⟩
        · have hi1' : (k : Int) < (n5 : Int) := by omega
          have hi2' : ¬ (k : Int) ≤ 6 := by omega
          go_wp2_with fail
          go_meet
          exact ⟨v2, ps, st, hend'.out, by omega, hnmk.out, rsk, gxk⟩
        · have hi1' : (k : Int) < (n5 : Int) := by omega
          have hi2' : (k : Int) ≤ 6 := by omega
          subst hst0
          simp only [Option.isNone_none] at cb
          go_wp2_with fail
          go_meet
          exact ⟨v2, ps, none, hend'.out, by omega, hnmk.out, rsk, gxk⟩
  case rest =>
  obtain ⟨v2, ps, st, hend0, hl31, hnm, rsk, gxk⟩ := hcut
  obtain ⟨w15, hwc⟩ : ∃ W, W = wc := ⟨_, rfl⟩
  subst hwc
  have hend' : Hid (EndT zs ps st) := hend0
  clear hend0 rs7 gx7
  obtain ⟨p2, hbr2, hpq0⟩ := id rsk
  have hpq2 : Hid _ := hpq0
  clear hpq0
  have rb1 := hbr2.cell 1
  have cb2 := hbr2.cell 2
  have rb0 := hbr2.cell 0
  simp at rb1 cb2 rb0
  clear hbr2
  obtain ⟨a2, cc2, hv2, rd2⟩ := rowR_form gxk.e
  subst hv2
  obtain ⟨x0, x1⟩ := gxk.x.duo
  go_upto_region 15 with fail
  go_cut [92] (fun s wx => s = .bool (!tgOk zs) ∧ Below w15.heap.size w15 wx)
  case first =>
    cases hsv : st with
    | none =>
      rw [hsv] at cb2
      simp only [Option.isNone_none] at cb2
      have HF : Hid (tgOk zs = false) := by show _ = _; unfold tgOk; rw [← hend'.out.1, hsv]; rfl
      go_wp2_with fail
      go_meet
      exact ⟨by rw [HF.out]; rfl, Below.refl _ _⟩
    | some q =>
      have hpq := hpq2.out q hsv
      rw [hsv] at cb2
      simp only [Option.isNone_some] at cb2
      by_cases hpn : p2 = n
      · have hpn' : ((p2 : Int) == (n : Int)) = true := by simp [hpn]
        have hpn2 : ((p2 : Int) != (n : Int)) = false := by simp [hpn]
        have hsvn : (tgP zs).2 = some zs.length := by rw [← hend'.out.1, hsv, ← hpq, hpn, HN.out]
        have hEs : ps = (tgP zs).1 := by
          rcases hend'.out.2 with h0 | h0
          · rw [hsv] at h0
            simp at h0
          · exact h0
        have hcnt : tbB (i1 : Int) ps = true → n5 = ps.length := fun h0 => by
          have h1 : tbB ((tgM zs).1 : Int) (tgP zs).1 = true := by rw [E1.out, ← hEs]; exact h0
          have := tgOk_count h1
          rw [E5.out, ← hEs] at this
          exact this
        have hgo3 : Hid (tgOk zs = tbB (i1 : Int) ps) := by
          show _ = _
          unfold tgOk
          rw [hsvn, E1.out, ← hEs]
          simp
        clear hEs hsvn hsv hpq hpn
        by_cases hc5 : n5 = ps.length
        · have hc5' : ((n5 : Int) == (ps.length : Int)) = true := by simp [hc5]
          have hc52 : ((n5 : Int) != (ps.length : Int)) = false := by simp [hc5]
          have hcI := tableOkS (i1 : Int) a2 ps.length cc2 ps w15 ⟨rfl, by omega, hnm, rd2⟩
          clear hc5 hcnt rd2 hend' E1 E5 S1 S5 gxk rsk CN
          generalize tbB (i1 : Int) ps = ok at hcI hgo3
          go_wp2_with fail
          (with_reducible refine hcI.mono ?_)
          rintro e w16 ⟨rfl, b16⟩
          go_wp2_with fail
          go_meet
          exact ⟨by rw [hgo3.out], b16⟩
        · have hc5' : ((n5 : Int) == (ps.length : Int)) = false := by simp; omega
          have hc52 : ((n5 : Int) != (ps.length : Int)) = true := by simp; omega
          have HF : Hid (tgOk zs = false) := by show _ = _; rw [hgo3.out]; cases hi : tbB _ _ with | false => rfl | true => exact absurd (hcnt hi) hc5
          clear hcnt rd2 hc5
          go_wp2_with fail
          go_meet
          exact ⟨by rw [HF.out]; rfl, Below.refl _ _⟩
      · have hpn' : ((p2 : Int) == (n : Int)) = false := by simp; omega
        have hpn2 : ((p2 : Int) != (n : Int)) = true := by simp; omega
        have HF : Hid (tgOk zs = false) := by show _ = _; unfold tgOk; rw [← hend'.out.1, hsv, ← hpq, HN.out, decide_eq_false (by simp [hpn])]; rfl
        clear hpq hsv rd2 hpn
        go_wp2_with fail
        go_meet
        exact ⟨by rw [HF.out]; rfl, Below.refl _ _⟩
  case rest =>
  obtain ⟨rfl, b16⟩ := hcut
  obtain ⟨w16, hwc⟩ : ∃ W, W = wc := ⟨_, rfl⟩
  subst hwc
  have gxn := gxk.keep b16
  have hPS : tgOk zs = true → ps = (tgP zs).1 := fun hok => by
    have hsvn : (tgP zs).2 = some zs.length := by
      unfold tgOk at hok
      simp at hok
      exact hok.1
    rcases hend'.out.2 with h0 | h0
    · have h1 := hend'.out.1
      rw [h0, hsvn] at h1
      simp at h1
    · exact h0
  clear gxk rsk rb0 rb1 cb2 CN S1 S5 E5 hpq2 hn5 b16 x0 x1 rd2 hend'
  have fz0 := gxn.res.frozen 0
  have fz1 := gxn.res.frozen 1
  obtain ⟨t0, t1⟩ := gxn.res.duo
  cases hok : tgOk zs with
  | false =>
    have HG : Hid (GT w w16 X #[.int .i64 (i1 : Int), .slice a2 ps.length cc2] (.slice a2 ps.length cc2) ps) := gxn
    have HO : Hid _ := hok
    clear gxn hok hPS
    go_wp2
    have zf := (HG.out.res.set 0 (.int .i64 0)).set 1 (.slice none 0 0)
    have dd0 := zf.cell 0
    have dd1 := zf.cell 1
    simp at dd0 dd1
    refine bodyPost_ret (v := .tuple #[.agg #[.int .i64 0, .slice none 0 0], .bool false]) (by simp [results, Try.f12, go_sem, dd0, dd1]) rfl ?_
    exact ⟨.inr ⟨HO.out, rfl⟩, (HG.out.below.setCell (p := ⟨w.heap.size, 0, none⟩) (Nat.le_refl _) _).setCell (p := ⟨w.heap.size, 1, none⟩) (Nat.le_refl _) _⟩
  | true =>
    obtain ⟨x0, x1⟩ := gxn.x.duo
    have HF : Hid _ := rowT_set2 gxn.e gxn.res (.int .i64 (i1 : Int)) (.slice a2 ps.length cc2)
    have HG : Hid (GT w w16 X #[.int .i64 (i1 : Int), .slice a2 ps.length cc2] (.slice a2 ps.length cc2) ps) := gxn
    have HO : Hid _ := hok
    have hPs : ps = (tgP zs).1 := hPS hok
    have HPS : Hid _ := hPs
    clear gxn hok hPs hPS
    go_wp2
    have zf := (HG.out.res.set 0 (.int .i64 (i1 : Int))).set 1 (.slice a2 ps.length cc2)
    have dd0 := zf.cell 0
    have dd1 := zf.cell 1
    simp at dd0 dd1
    refine bodyPost_ret (v := .tuple #[.agg #[.int .i64 (i1 : Int), .slice a2 ps.length cc2], .bool true]) (by simp [results, Try.f12, go_sem, dd0, dd1]) rfl ?_
    refine ⟨.inl ⟨HO.out, _, by rw [E1.out], ?_⟩, (HG.out.below.setCell (p := ⟨w.heap.size, 0, none⟩) (Nat.le_refl _) _).setCell (p := ⟨w.heap.size, 1, none⟩) (Nat.le_refl _) _⟩
    rw [← HPS.out]
    exact HF.out
theorem OwnRw.keep {w w' : World} {v : Value} {m : Nat} {ps : List RwD} (h : OwnRw w v m ps) (hb : Below w.heap.size w w') : OwnRw w' v m ps := OwnE.keep h hb
theorem OwnRw.gr {w w' : World} {v : Value} {m : Nat} {ps : List RwD} {r : Option Nat} (h : OwnRw w v m ps) (hg : w.grownBy w' r) (hne : ∀ g, v.ownBlock = some g → some g ≠ r) : OwnRw w' v m ps := OwnE.block h fun g hv => hg.block g (OwnE.lt h hv) (hne g hv)
/-- The table that is answered: the one that the bytes tell, or the zero one. -/
def tgNx (zs : List Int) : Int := if tgOk zs = true then ((tgM zs).1 : Int) else 0
def tgQs (zs : List Int) : List RwD := if tgOk zs = true then (tgP zs).1 else []
theorem tgQs_len (zs : List Int) : (tgQs zs).length ≤ 7 := by
  unfold tgQs
  split
  · exact tgP_len zs
  · simp
theorem tgQs_nm (zs : List Int) : ∀ r ∈ tgQs zs, r.name.size ≤ zs.length := by
  unfold tgQs
  split
  · exact tgRs_nm zs _ _
  · intro r hr; simp at hr
theorem TPost.out {B : Nat} {w' : World} {zs : List Int} {e : Ending} (h : TPost B w' zs e) : ∃ a c, e = .returned (.tuple #[.agg #[.int .i64 (tgNx zs), .slice a (tgQs zs).length c], .bool (tgOk zs)]) ∧ OwnRw w' (.slice a (tgQs zs).length c) (tgQs zs).length (tgQs zs) ∧ ∀ g, (Value.slice a (tgQs zs).length c).ownBlock = some g → B ≤ g := by
  unfold tgNx tgQs
  rcases h with ⟨hok, v2, rfl, ho⟩ | ⟨hok, rfl⟩
  · rw [hok]
    simp only [if_true]
    obtain ⟨a, c, rfl, _⟩ := rowR_form ho
    refine ⟨a, c, rfl, ⟨ho.1, ?_⟩, fun g hg => (row_at ho hg).1⟩
    rcases ho.2 with h1 | ⟨g, c, cur, e, _, rest⟩
    · exact .inl h1
    · exact .inr ⟨g, c, cur, e, Nat.zero_le _, rest⟩
  · rw [hok]
    exact ⟨none, 0, rfl, ownE_nil rwE _ _, fun g hg => by simp [Value.ownBlock] at hg⟩
theorem getTableIO (a : Option Addr) (n cap : Nat) (zs : List Int) (w : World) (hn : zs.length = n) (hs : n ≤ 1048576) (hcap : n ≤ cap) (hr : Rd w a zs) (hb : Byt zs) :
    Calls Try.prog 11 #[.slice a n cap] w fun e w' => (∃ a c, e = .returned (.tuple #[.agg #[.int .i64 (tgNx zs), .slice a (tgQs zs).length c], .bool (tgOk zs)]) ∧ OwnRw w' (.slice a (tgQs zs).length c) (tgQs zs).length (tgQs zs) ∧ ∀ g, (Value.slice a (tgQs zs).length c).ownBlock = some g → w.heap.size ≤ g) ∧ Below w.heap.size w w' :=
  (getTableI a n cap zs w hn hs hcap hr hb).mono fun _ _ ⟨h1, h2⟩ => ⟨h1.out, h2⟩
theorem getTableSO (a : Option Addr) (n cap : Nat) (zs : List Int) (w : World) (hn : zs.length = n) (hs : n ≤ 1048576) (hcap : n ≤ cap) (hr : Rd w a zs) (hb : Byt zs) :
    Calls Try.prog 12 #[.slice a n cap] w fun e w' => (∃ a c, e = .returned (.tuple #[.agg #[.int .i64 (tgNx zs), .slice a (tgQs zs).length c], .bool (tgOk zs)]) ∧ OwnRw w' (.slice a (tgQs zs).length c) (tgQs zs).length (tgQs zs) ∧ ∀ g, (Value.slice a (tgQs zs).length c).ownBlock = some g → w.heap.size ≤ g) ∧ Below w.heap.size w w' :=
  (getTableS a n cap zs w hn hs hcap hr hb).mono fun _ _ ⟨h1, h2⟩ => ⟨h1.out, h2⟩
end

section
open Go.RowKit
theorem Byt.drop {zs : List Int} (h : Byt zs) (k : Nat) : Byt (zs.drop k) := fun z hz => h z (List.mem_of_mem_drop hz)
end
end Go.Proofs.Ytmkcadnpleijdaa
