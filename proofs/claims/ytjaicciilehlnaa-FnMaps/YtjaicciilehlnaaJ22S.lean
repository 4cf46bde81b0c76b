/-
  Joined: ImplGet, MpH.
-/
import Derived.Test.YtjaicciilehlnaaJ21S
import Derived.Test.YtjaicciilehlnaaJ17S
import Derived.Test.YtjaicciilehlnaaJ18S
import Derived.Deep.RegionLaw
namespace Go.Proofs.Ytjaicciilehlnaa
section
open Go.RowKit
theorem below_but {B : Nat} {w0 W W' : World} {r1 r2 : Nat} (h : Below B w0 W) (g : But W W' (some r1) (some r2) none) (hB : B ≤ w0.heap.size) (h1 : B ≤ r1) (h2 : B ≤ r2) : Below B w0 W' := by
  have hs := h.size
  refine ⟨by rw [g.os, h.os], by rw [g.tape, h.tape], by rw [g.output, h.output], Nat.le_trans h.size g.size, fun k hk => ?_⟩
  rw [g.block k (by omega) (by simp; omega) (by simp; omega) (by simp)]
  exact h.block k hk
theorem RI.keep {W W' : World} {H : Nat} {a : Option Addr} {n cap : Nat} {st : Option Nat} (h : RI W H a n cap st) (hb : Below W.heap.size W W') : RI W' H a n cap st := h.kp (KpT.below hb [22, 3, 4]) (by decide) (by decide) (by decide)
theorem RI.app {W W' : World} {H B n' s : Nat} {a : Option Addr} {n cap : Nat} {st : Option Nat} {v : Value} {e : TypeId} {xs : List Value} (h : RI W H a n cap st) (o : Obj) (hg : (W.alloc o).grownBy W' v.ownBlock) (hr : W.ownsRow B e s v n' xs) (he : e ∉ [22, 3, 4]) : RI W' H a n cap st :=
  (h.keep ((Below.refl W.heap.size W).alloc (Nat.le_refl _) o)).kp (KpT.row hg (World.ownsRow.alloc hr o) he) (by decide) (by decide) (by decide)
end

section
open Go.RowKit
/-- k places read on. -/
def rdPs (zs : List Int) (st : Option Nat) : Nat → List PlD × Option Nat
  | 0 => ([], st)
  | k + 1 => ((rdPs zs st k).1 ++ [⟨((rdN zs (rdPs zs st k).2).1 : Int), ((rdN zs (rdN zs (rdPs zs st k).2).2).1 : Int)⟩], (rdN zs (rdN zs (rdPs zs st k).2).2).2)
theorem rdPs_len (zs : List Int) (st : Option Nat) (k : Nat) : (rdPs zs st k).1.length = k := by
  induction k with
  | zero => rfl
  | succ k ih => simp [rdPs, ih]
theorem rdPs_none {zs : List Int} {st : Option Nat} {k m : Nat} (h : (rdPs zs st k).2 = none) (hm : k ≤ m) : (rdPs zs st m).2 = none := by
  obtain ⟨d, rfl⟩ := Nat.exists_eq_add_of_le hm
  induction d with
  | zero => exact h
  | succ d ih =>
    have := ih (by omega)
    show (rdN zs (rdN zs (rdPs zs st (k + d)).2).2).2 = none
    rw [this]; rfl
def m1 (zs : List Int) := rdN zs (some 0)
def m2 (zs : List Int) := rdN zs (m1 zs).2
def mP (zs : List Int) := rdPs zs (m2 zs).2 (min (m2 zs).1 31)
/-- They are there whole, nothing follows, and are right. -/
def mOk (zs : List Int) : Bool := decide ((mP zs).2 = some zs.length) && mpB ((m1 zs).1 : Int) (mP zs).1
theorem mP_len (zs : List Int) : (mP zs).1.length ≤ 31 := by unfold mP; rw [rdPs_len]; omega
theorem mOk_count {zs : List Int} (h : mpB ((m1 zs).1 : Int) (mP zs).1 = true) : (m2 zs).1 = (mP zs).1.length := by
  have h1 := mpB_len h
  have h2 : (mP zs).1.length = min (m2 zs).1 31 := by unfold mP; rw [rdPs_len]
  omega
/-- What is answered: that map, in memory of its own, or the zero one. -/
def MPost (B : Nat) (w' : World) (zs : List Int) (e : Ending) : Prop :=
  (mOk zs = true ∧ ∃ v2, e = .returned (.tuple #[.agg #[.int .i64 ((m1 zs).1 : Int), v2], .bool true]) ∧ w'.ownsRow B 36 2 v2 (mP zs).1.length (plE.xv (mP zs).1)) ∨
  (mOk zs = false ∧ e = .returned (.tuple #[.agg #[.int .i64 0, .slice none 0 0], .bool false]))
/-- What is known while a map is read: the answer's cell, the map's box, its places. -/
structure GM (w0 W : World) (X : Nat) (xs : Array Value) (v2 : Value) (ps : List PlD) : Prop where
  below : Below w0.heap.size w0 W
  res : Blk W w0.heap.size 26 #[.int .i64 0, .slice none 0 0]
  x : Blk W X 26 xs
  hX : w0.heap.size < X
  e : W.ownsRow w0.heap.size 36 2 v2 ps.length (plE.xv ps)
theorem GM.kp {w0 W W' : World} {X : Nat} {xs : Array Value} {v2 : Value} {ps : List PlD} (h : GM w0 W X xs v2 ps) (k : KpT W W' [26, 36]) (hb : Below w0.heap.size w0 W') : GM w0 W' X xs v2 ps :=
  ⟨hb, h.res.kp k (by decide), h.x.kp k (by decide), h.hX, row_kp h.e k (by decide)⟩
theorem GM.keep {w0 W W' : World} {X : Nat} {xs : Array Value} {v2 : Value} {ps : List PlD} (h : GM w0 W X xs v2 ps) (hb : Below W.heap.size W W') : GM w0 W' X xs v2 ps :=
  h.kp (KpT.below hb _) (h.below.trans (hb.mono h.below.size))
theorem GM.setX {w0 W : World} {X : Nat} {xs : Array Value} {v2 : Value} {ps : List PlD} (h : GM w0 W X xs v2 ps) (j : Nat) (v : Value) : GM w0 (W.setCell ⟨X, j, none⟩ v) X (xs.setIfInBounds j v) v2 ps :=
  ⟨h.below.setCell (p := ⟨X, j, none⟩) (Nat.le_of_lt h.hX) v, h.res.other (Nat.ne_of_lt h.hX) j v, h.x.set j v, h.hX, row_kp h.e (KpT.grown (ts := [36]) (gr_setC W X j v) h.x (by decide)) (by decide)⟩
theorem plE_snoc (ps : List PlD) (p : PlD) : plE.xv (ps ++ [p]) = plE.xv ps ++ [.int .i64 p.ino, .int .i64 p.adr] := by rw [El.xv_append]; rfl
/-- The places as pairs of values. -/
def plP (ps : List PlD) : List VP := ps.map fun p => (.int .i64 p.ino, .int .i64 p.adr)
theorem plP_pv (ps : List PlD) : pv (plP ps) = plE.xv ps := by
  induction ps with
  | nil => rfl
  | cons p ps ih =>
    rw [El.xv_cons, ← ih]
    rfl
theorem GM.app {w0 W W' : World} {X : Nat} {xs : Array Value} {v2 : Value} {ps : List PlD} (h : GM w0 W X xs v2 ps) (o : Obj) (hg : (W.alloc o).grownBy W' v2.ownBlock) (v2' : Value) (ps' : List PlD) (ho : W'.ownsRow w0.heap.size 36 2 v2' ps'.length (plE.xv ps')) : GM w0 W' X xs v2' ps' := by
  have ha := h.keep ((Below.refl W.heap.size W).alloc (Nat.le_refl _) o)
  have k : KpT (W.alloc o) W' [26] := KpT.row hg ha.e (by decide)
  exact ⟨ha.below.grown hg ha.below.size (fun g hk => (row_at ha.e hk).1), ha.res.kp k (by decide), ha.x.kp k (by decide), ha.hX, ho⟩
theorem RS.kpm {W W' : World} {R : Nat} {a : Option Addr} {n cap : Nat} {st : Option Nat} (h : RS W R a n cap st) (g : W.grownBy W' (some R)) : KpT W W' [26, 36] := by
  obtain ⟨p, hb, _⟩ := h
  exact KpT.grown g hb (by decide)
theorem RI.kpm {W W' : World} {H : Nat} {a : Option Addr} {n cap : Nat} {st : Option Nat} (h : RI W H a n cap st) (g : But W W' (some (H + 1)) (some (H + 2)) none) : KpT W W' [26, 36] := by
  obtain ⟨p, _, b1, b2, _⟩ := h
  exact KpT.but g b1 b2 (by decide) (by decide)
theorem RS.setM {W : World} {X R : Nat} {xs : Array Value} {a : Option Addr} {n cap : Nat} {st : Option Nat} (h : RS W R a n cap st) (hx : Blk W X 26 xs) (j : Nat) (v : Value) : RS (W.setCell ⟨X, j, none⟩ v) R a n cap st :=
  h.kp (KpT.grown (ts := [60]) (gr_setC W X j v) hx (by decide)) (by decide)
theorem RI.setM {W : World} {X H : Nat} {xs : Array Value} {a : Option Addr} {n cap : Nat} {st : Option Nat} (h : RI W H a n cap st) (hx : Blk W X 26 xs) (j : Nat) (v : Value) : RI (W.setCell ⟨X, j, none⟩ v) H a n cap st :=
  h.kp (KpT.grown (ts := [22, 3, 4]) (gr_setC W X j v) hx (by decide)) (by decide) (by decide) (by decide)
theorem rowM_form {B : Nat} {W : World} {v : Value} {n : Nat} {ps : List PlD} (h : W.ownsRow B 36 2 v n (plE.xv ps)) : ∃ a c, v = .slice a n c ∧ RdPl W a ps := by
  have h0 : OwnE plE 36 W v n ps := ⟨h.1, by
    rcases h.2 with h1 | ⟨g, c, cur, e, _, rest⟩
    · exact .inl h1
    · exact .inr ⟨g, c, cur, e, Nat.zero_le _, rest⟩⟩
  exact OwnE.rd (rd := fun _ => True) h0 (fun _ _ => trivial)
theorem set2_gr (W : World) (X : Nat) (v0 v1 : Value) : W.grownBy ((W.setCell ⟨X, 0, none⟩ v0).setCell ⟨X, 1, none⟩ v1) (some X) := (gr_setC W X 0 v0).trans (gr_setC _ X 1 v1)
theorem rowM_set2 {B : Nat} {W : World} {H n : Nat} {v : Value} {ys : List Value} {us : Array Value} (h : W.ownsRow B 36 2 v n ys) (hx : Blk W H 26 us) (v0 v1 : Value) : ((W.setCell ⟨H, 0, none⟩ v0).setCell ⟨H, 1, none⟩ v1).ownsRow B 36 2 v n ys :=
  row_kp h (KpT.grown (ts := [36]) (set2_gr W H v0 v1) hx (by decide)) (by decide)
set_option maxRecDepth 100000 in
set_option maxHeartbeats 8000000 in
theorem getMapI (a : Option Addr) (n cap : Nat) (zs : List Int) (w : World) (hn : zs.length = n) (hs : n ≤ 1048576) (hcap : n ≤ cap) (hr : Rd w a zs) (hb : Byt zs) :
    Calls Try.prog 12 #[.slice a n cap] w fun e w' => MPost w.heap.size w' zs e ∧ Below w.heap.size w w' := by
  have CN : Hid _ := fun (W : World) (st : Option Nat) (h : RI W (w.heap.size + 1) a n cap st) (hB : Below w.heap.size w W) => num_any (w.heap.size + 1) a n cap zs st W hn (by omega) hcap (hr.keep hB) hb h
  have CE : Hid _ := fun (W : World) (st : Option Nat) (h : RI W (w.heap.size + 1) a n cap st) => atEnd_any (w.heap.size + 1) a n cap st W (by omega) h
  have HN : Hid (zs.length = n) := hn
  have B0 : Below w.heap.size w (w.alloc (.cells #[.int .i64 0, .slice none 0 0] 26)) := (Below.refl _ w).alloc (Nat.le_refl _) _
  have res0 : Blk (w.alloc (.cells #[.int .i64 0, .slice none 0 0] 26)) w.heap.size 26 #[.int .i64 0, .slice none 0 0] := Blk.new w _ _
  have hsz0 : (w.alloc (.cells #[.int .i64 0, .slice none 0 0] 26)).heap.size = w.heap.size + 1 := by simp
  clear hn hr hb
  go_enter Try.func12, Try.ntmps12
  go_wp2_with fail
  obtain ⟨W0, hW0⟩ : ∃ W, w.alloc (.cells #[.int .i64 0, .slice none 0 0] 26) = W := ⟨_, rfl⟩
  rw [hW0] at B0 res0 hsz0 ⊢
  clear hW0
  have hRd := readingOf_any a n cap W0
  rw [hsz0] at hRd
  refine hRd.mono ?_
  rintro e w1 ⟨rfl, rs1, b1⟩
  have B1 := B0.trans (b1.mono (Nat.le_succ _))
  have res1 := res0.keep (show Below W0.heap.size W0 w1 by rw [hsz0]; exact b1)
  clear res0 B0 b1 hRd hsz0
  go_wp2_with fail
  refine (CN.out w1 (some 0) rs1 B1).mono ?_
  rintro e v1 ⟨rfl, ra1, gr1⟩
  have C1 := below_but B1 gr1 (Nat.le_refl _) (by omega) (by omega)
  have res2 := res1.kp (rs1.kpm gr1) (by decide)
  clear rs1 res1 B1 gr1
  obtain ⟨i1, hi1⟩ : ∃ i, (rdN zs (some 0)).1 = i := ⟨_, rfl⟩
  obtain ⟨s1, hs1⟩ : ∃ i, (rdN zs (some 0)).2 = i := ⟨_, rfl⟩
  rw [hi1]
  rw [hs1] at ra1
  have E1 : Hid ((m1 zs).1 = i1) := by show _ = _; unfold m1; rw [hi1]
  have S1 : Hid ((m1 zs).2 = s1) := by show _ = _; unfold m1; rw [hs1]
  clear hi1 hs1
  have bX : Below v1.heap.size v1 (v1.alloc (.cells #[.int .i64 (i1 : Int), .slice none 0 0] 26)) := (Below.refl _ v1).alloc (Nat.le_refl _) _
  have gb0 : GM w (v1.alloc (.cells #[.int .i64 (i1 : Int), .slice none 0 0] 26)) v1.heap.size #[.int .i64 (i1 : Int), .slice none 0 0] (.slice none 0 0) [] := ⟨C1.alloc C1.size _, res2.alloc _, Blk.new v1 _ _, res2.lt, ⟨rfl, .inl ⟨rfl, rfl⟩⟩⟩
  have rb0 := ra1.keep bX
  go_upto_region 3 with fail
  obtain ⟨W1, hW1⟩ : ∃ W, v1.alloc (.cells #[.int .i64 (i1 : Int), .slice none 0 0] 26) = W := ⟨_, rfl⟩
  obtain ⟨X, hX⟩ : ∃ X, v1.heap.size = X := ⟨_, rfl⟩
  rw [hW1] at gb0 rb0 ⊢
  rw [hX] at gb0 ⊢
  clear hW1 hX bX ra1 res2 C1
  have hcN := CN.out W1 s1 rb0 gb0.below
  have hn5 := rdN_le zs s1
  obtain ⟨n5, hn5'⟩ : ∃ i, (rdN zs s1).1 = i := ⟨_, rfl⟩
  obtain ⟨s5, hs5⟩ : ∃ i, (rdN zs s1).2 = i := ⟨_, rfl⟩
  rw [hn5', hs5] at hcN
  rw [hn5'] at hn5
  have E5 : Hid ((m2 zs).1 = n5) := by show _ = _; unfold m2; rw [S1.out, hn5']
  have S5 : Hid ((m2 zs).2 = s5) := by show _ = _; unfold m2; rw [S1.out, hs5]
  clear hn5' hs5
  obtain ⟨m5, hm5⟩ : ∃ m, min n5 31 = m := ⟨_, rfl⟩
  have HM5 : Hid (min n5 31 = m5) := hm5
  have hm5l : m5 ≤ 31 := by omega
  go_cut [20, 21] (fun b c wx => b = .int .i64 (m5 : Int) ∧ c = .int .i64 0 ∧ RI wx (w.heap.size + 1) a n cap s5 ∧ GM w wx X #[.int .i64 (i1 : Int), .slice none 0 0] (.slice none 0 0) [])
  case first =>
    go_wp2_with fail
    refine hcN.mono ?_
    rintro e w7 ⟨rfl, rs7, gr7⟩
    have gx7 := gb0.kp (rb0.kpm gr7) (below_but gb0.below gr7 (Nat.le_refl _) (by omega) (by omega))
    clear gb0 rb0 gr7 hcN
    by_cases hle : n5 ≤ 31
    · have hle1 : (n5 : Int) ≤ 31 := by omega
      have hle2 : ¬ (31 : Int) < (n5 : Int) := by omega
      have hmm : m5 = n5 := by omega
      subst hmm
      go_wp2_with fail
      all_goals first
        | (exfalso; omega)
        | (go_meet; exact ⟨by first | rfl | go_num | (congr 1; omega), rfl, rs7, gx7⟩)
    · have hle1 : ¬ (n5 : Int) ≤ 31 := by omega
      have hle2 : (31 : Int) < (n5 : Int) := by omega
      have hmm : m5 = 31 := by omega
      subst hmm
      go_wp2_with fail
      all_goals first
        | (exfalso; omega)
        | (go_meet; exact ⟨by first | rfl | go_num | (congr 1; omega), rfl, rs7, gx7⟩)
  case rest =>
  obtain ⟨rfl, rfl, rs7, gx7⟩ := hcut
  obtain ⟨w7, hwc⟩ : ∃ W, W = wc := ⟨_, rfl⟩
  subst hwc
  clear hm5 hcN gb0 rb0
  obtain ⟨ie, hie, ze0, ze1, ze2⟩ := info_parts Try.infoPlace
  go_wp2_with fail
  go_loopw [21] (fun i wr => ∃ (k : Nat) (v2 : Value), k ≤ m5 ∧ i = .int .i64 k ∧ RI wr (w.heap.size + 1) a n cap (rdPs zs s5 k).2 ∧ GM w wr X #[.int .i64 (i1 : Int), v2] v2 (rdPs zs s5 k).1) (fun i _ => m5 - (intOf i).toNat)
  case atStart => exact ⟨0, .slice none 0 0, by omega, rfl, rs7, gx7⟩
  case round =>
    obtain ⟨k, v2, hkm, rfl, rsk, gxk⟩ := hrel
    have hlk := rdPs_len zs s5 k
    have hes : Hid ((rdPs zs s5 (k + 1)).1 = (rdPs zs s5 k).1 ++ [⟨((rdN zs (rdPs zs s5 k).2).1 : Int), ((rdN zs (rdN zs (rdPs zs s5 k).2).2).1 : Int)⟩] ∧ (rdPs zs s5 (k + 1)).2 = (rdN zs (rdN zs (rdPs zs s5 k).2).2).2) := ⟨rfl, rfl⟩
    have hend : Hid (k = m5 → (mP zs).1 = (rdPs zs s5 k).1 ∧ (mP zs).2 = (rdPs zs s5 k).2) := by
      intro h
      unfold mP
      rw [E5.out, S5.out, HM5.out, h]
      exact ⟨rfl, rfl⟩
    obtain ⟨ps, hes'⟩ : ∃ l, (rdPs zs s5 k).1 = l := ⟨_, rfl⟩
    obtain ⟨st, hst'⟩ : ∃ l, (rdPs zs s5 k).2 = l := ⟨_, rfl⟩
    rw [hes', hst'] at hes hend
    rw [hes'] at gxk hlk
    rw [hst'] at rsk
    clear hes' hst'
    by_cases hgo : k < m5
    · have hk1' : (k : Int) < (m5 : Int) := by omega
      have hcT := CN.out wr st rsk gxk.below
      obtain ⟨z, hz⟩ : ∃ i, (rdN zs st).1 = i := ⟨_, rfl⟩
      obtain ⟨sz, hsz⟩ : ∃ i, (rdN zs st).2 = i := ⟨_, rfl⟩
      rw [hz, hsz] at hcT hes
      clear hz hsz hend
      go_wp2_with fail
      refine hcT.mono ?_
      rintro e w8 ⟨rfl, rs8, gr8⟩
      have gx8 := gxk.kp (rsk.kpm gr8) (below_but gxk.below gr8 (Nat.le_refl _) (by omega) (by omega))
      have rs8d := rs8.keep (Below.refl w8.heap.size w8).drew
      have gx8d := gx8.keep (Below.refl w8.heap.size w8).drew
      have hcN := CN.out w8.drew sz rs8d gx8d.below
      obtain ⟨x, hx⟩ : ∃ i, (rdN zs sz).1 = i := ⟨_, rfl⟩
      obtain ⟨sx, hsx⟩ : ∃ i, (rdN zs sz).2 = i := ⟨_, rfl⟩
      rw [hx, hsx] at hcN hes
      clear hx hsx hcT gr8 rsk gxk
      have x4 := gx8.x.cell 1
      simp at x4
      go_upto_region 6 with fail
      go_region_law (first
        | (go_simp; go_at_call 49; (with_reducible refine hcN.mono ?_); rintro e w10 ⟨rfl, rs10, gr10⟩; have gx10 := gx8d.kp (rs8d.kpm gr10) (below_but gx8d.below gr10 (Nat.le_refl _) (by omega) (by omega)); have x4' := gx10.x.cell 1; have x4'' := (gx10.x.alloc (.cells #[.int .i64 (z : Int), .int .i64 (x : Int)] 36)).cell 1; simp at x4' x4''; have hrow := World.ownsRow.alloc gx10.e (.cells #[.int .i64 (z : Int), .int .i64 (x : Int)] 36); rw [hlk] at hrow; have hbw : w.heap.size ≤ (w10.alloc (.cells #[.int .i64 (z : Int), .int .i64 (x : Int)] 36)).heap.size := (by simp; have := gx10.below.size; omega); dsimp only)
        | (refine step_append_lies (w10.alloc (.cells #[.int .i64 (z : Int), .int .i64 (x : Int)] 36)) rfl (.tmp 26) (.tmp 31) 24 rfl w.heap.size 36 ie _ 2 16 Try.underlying24 hie ze0 ze1 ze2 rfl (by omega) v2 k (plE.xv ps) rfl hrow ⟨w10.heap.size, 0, none⟩ 1 1 [.int .i64 (z : Int), .int .i64 (x : Int)] rfl rfl (pair_news w10 (.int .i64 (z : Int), .int .i64 (x : Int)) _) (by intro u hu; simp at hu; rcases hu with rfl | rfl <;> rfl) (by omega) (by unfold maxLen; omega) (by omega) hbw (w10.heap.size + 1) (by simp) ?_; intro g2 cc2 w12 ho12 hg12 hat12 hlt12; have gx12 := gx10.app (.cells #[.int .i64 (z : Int), .int .i64 (x : Int)] 36) hg12 (.slice (some ⟨g2, 0, none⟩) (k + 1) cc2) (ps ++ [⟨(z : Int), (x : Int)⟩]) (by rw [show (ps ++ [(⟨(z : Int), (x : Int)⟩ : PlD)]).length = k + 1 by simp [hlk], plE_snoc]; exact ho12); have rs12 := rs10.app (.cells #[.int .i64 (z : Int), .int .i64 (x : Int)] 36) hg12 gx10.e (by decide); have c4 := gx12.x.cell 1; have f4 := gx12.x.frozen 1; simp at c4))
      all_goals (have gx13 : GM w (w12.setCell ⟨X, 1, none⟩ (.slice (some ⟨g2, 0, none⟩) (k + 1) cc2)) X #[.int .i64 (i1 : Int), .slice (some ⟨g2, 0, none⟩) (k + 1) cc2] (.slice (some ⟨g2, 0, none⟩) (k + 1) cc2) (ps ++ [⟨(z : Int), (x : Int)⟩]) := gx12.setX 1 _; have rs13 := rs12.setM gx12.x 1 (.slice (some ⟨g2, 0, none⟩) (k + 1) cc2); clear gx12 rs12 gx10 rs10 hrow hbw)
      all_goals go_wp2
      all_goals go_roundw
      all_goals first
        | (case rel => exact ⟨k + 1, .slice (some ⟨g2, 0, none⟩) (k + 1) cc2, by omega, by go_num, by rw [hes.out.2]; exact rs13, by rw [hes.out.1]; exact gx13⟩)
        | (case rel => (repeat apply Exists.intro); exact ⟨⟨k + 1, .slice (some ⟨g2, 0, none⟩) (k + 1) cc2, by omega, by go_num, by rw [hes.out.2]; exact rs13, by rw [hes.out.1]; exact gx13⟩, rfl⟩)
        | (case measure => simp [intOf]; omega)
    · have hi1' : ¬ (k : Int) < (m5 : Int) := by omega
      obtain ⟨hE1, hE2⟩ := hend.out (by omega)
      have HE : Hid ((mP zs).1 = ps ∧ (mP zs).2 = st) := ⟨hE1, hE2⟩
      clear hE1 hE2 hend hes rs7 gx7
      have hgo3 : Hid (mOk zs = (decide (st = some n) && mpB (i1 : Int) ps)) := by
        show _ = _
        unfold mOk
        rw [HE.out.1, HE.out.2, E1.out, HN.out]
      have hcE := CE.out _ st rsk
      clear CN CE hie ze0 ze1 ze2
      generalize hdn : decide (st = some n) = dn at hcE hgo3
      clear hdn
      obtain ⟨a2, cc2, hv2, rd2⟩ := rowM_form gxk.e
      subst hv2
      obtain ⟨w15, hw15⟩ : ∃ W, W = wr := ⟨_, rfl⟩
      subst hw15
      obtain ⟨x0, x1⟩ := gxk.x.duo
      go_upto_region 8 with fail
      go_cut [42] (fun s wx => s = .bool (!mOk zs) ∧ Below w15.heap.size w15 wx)
      case first =>
        have hcI := mapOkI (i1 : Int) a2 ps.length cc2 ps w15 ⟨rfl, by omega, rd2⟩
        clear rd2 gxk rsk hlk
        generalize mpB (i1 : Int) ps = ok at hcI hgo3
        cases dn with
        | false =>
          go_wp2_with fail
          refine hcE.mono ?_
          rintro e w16 ⟨rfl, hw⟩
          obtain rfl := hw.symm
          go_wp2_with fail
          go_meet
          exact ⟨by rw [hgo3.out]; rfl, Below.refl _ _⟩
        | true =>
          go_wp2_with fail
          refine hcE.mono ?_
          rintro e w16 ⟨rfl, hw⟩
          obtain rfl := hw.symm
          go_wp2_with fail
          (with_reducible refine hcI.mono ?_)
          rintro e w17 ⟨rfl, b17⟩
          go_wp2_with fail
          go_meet
          exact ⟨by rw [hgo3.out, Bool.true_and], b17⟩
      case rest =>
      obtain ⟨rfl, b16⟩ := hcut
      obtain ⟨w16, hwc⟩ : ∃ W, W = wc := ⟨_, rfl⟩
      subst hwc
      have gxn := gxk.keep b16
      clear x0 x1 gxk rsk hcE hlk rd2 b16 HM5 hgo3
      have fz0 := gxn.res.frozen 0
      have fz1 := gxn.res.frozen 1
      obtain ⟨t0, t1⟩ := gxn.res.duo
      cases hok : mOk zs with
      | false =>
        have HG : Hid (GM w w16 X #[.int .i64 (i1 : Int), .slice a2 ps.length cc2] (.slice a2 ps.length cc2) ps) := gxn
        have HO : Hid _ := hok
        clear gxn hok
        go_wp2
        have zf := (HG.out.res.set 0 (.int .i64 0)).set 1 (.slice none 0 0)
        have dd0 := zf.cell 0
        have dd1 := zf.cell 1
        simp at dd0 dd1
        refine bodyPost_ret (v := .tuple #[.agg #[.int .i64 0, .slice none 0 0], .bool false]) (by simp [results, Try.f12, go_sem, dd0, dd1]) rfl ?_
        exact ⟨.inr ⟨HO.out, rfl⟩, (HG.out.below.setCell (p := ⟨w.heap.size, 0, none⟩) (Nat.le_refl _) _).setCell (p := ⟨w.heap.size, 1, none⟩) (Nat.le_refl _) _⟩
      | true =>
        obtain ⟨x0, x1⟩ := gxn.x.duo
        have HF : Hid _ := rowM_set2 gxn.e gxn.res (.int .i64 (i1 : Int)) (.slice a2 ps.length cc2)
        have HG : Hid (GM w w16 X #[.int .i64 (i1 : Int), .slice a2 ps.length cc2] (.slice a2 ps.length cc2) ps) := gxn
        have HO : Hid _ := hok
        have hPs : ps = (mP zs).1 := HE.out.1.symm
        have HPS : Hid _ := hPs
        clear gxn hok hPs
        go_wp2
        have zf := (HG.out.res.set 0 (.int .i64 (i1 : Int))).set 1 (.slice a2 ps.length cc2)
        have dd0 := zf.cell 0
        have dd1 := zf.cell 1
        simp at dd0 dd1
        refine bodyPost_ret (v := .tuple #[.agg #[.int .i64 (i1 : Int), .slice a2 ps.length cc2], .bool true]) (by simp [results, Try.f12, go_sem, dd0, dd1]) rfl ?_
        refine ⟨.inl ⟨HO.out, _, by rw [E1.out], ?_⟩, (HG.out.below.setCell (p := ⟨w.heap.size, 0, none⟩) (Nat.le_refl _) _).setCell (p := ⟨w.heap.size, 1, none⟩) (Nat.le_refl _) _⟩
        rw [← HPS.out]
        exact HF.out
/-- The places and the place behind a loop that stops where something was not whole. -/
def EndP (zs : List Int) (ps : List PlD) (st : Option Nat) : Prop := st = (mP zs).2 ∧ (st = none ∨ ps = (mP zs).1)
set_option maxRecDepth 100000 in
set_option maxHeartbeats 8000000 in
theorem getMapS (a : Option Addr) (n cap : Nat) (zs : List Int) (w : World) (hn : zs.length = n) (hs : n ≤ 1048576) (_hcap : n ≤ cap) (hr : Rd w a zs) (hb : Byt zs) :
    Calls Try.prog 13 #[.slice a n cap] w fun e w' => MPost w.heap.size w' zs e ∧ Below w.heap.size w w' := by
  have CN : Hid _ := fun (W : World) (st : Option Nat) (h : RS W (w.heap.size + 1) a n cap st) (hB : Below w.heap.size w W) => l3Num_any (w.heap.size + 1) a n cap zs st W hn (by omega) (hr.keep hB) hb h
  have HN : Hid (zs.length = n) := hn
  have B0 : Below w.heap.size w ((w.alloc (.cells #[.int .i64 0, .slice none 0 0] 26)).alloc (.cells #[.slice a n cap, .int .i64 0, .bool false] 60)) := ((Below.refl _ w).alloc (Nat.le_refl _) _).alloc (by simp) _
  have res0 : Blk ((w.alloc (.cells #[.int .i64 0, .slice none 0 0] 26)).alloc (.cells #[.slice a n cap, .int .i64 0, .bool false] 60)) w.heap.size 26 #[.int .i64 0, .slice none 0 0] := (Blk.new w _ _).alloc _
  have rs0 : RS ((w.alloc (.cells #[.int .i64 0, .slice none 0 0] 26)).alloc (.cells #[.slice a n cap, .int .i64 0, .bool false] 60)) (w.heap.size + 1) a n cap (some 0) := ⟨0, Blk.newAt (by simp), fun q hq => by cases hq; rfl⟩
  clear hn hr hb
  go_enter Try.func13, Try.ntmps13
  go_wp2_with fail
  obtain ⟨W0, hW0⟩ : ∃ W, (w.alloc (.cells #[.int .i64 0, .slice none 0 0] 26)).alloc (.cells #[.slice a n cap, .int .i64 0, .bool false] 60) = W := ⟨_, rfl⟩
  rw [hW0] at B0 res0 rs0 ⊢
  clear hW0
  refine (CN.out W0 (some 0) rs0 B0).mono ?_
  rintro e w1 ⟨rfl, rs1, gr1⟩
  have B1 := below_gr B0 gr1 (Nat.le_refl _) (by omega)
  have res1 := res0.kp (rs0.kpm gr1) (by decide)
  clear res0 rs0 gr1 B0
  obtain ⟨i1, hi1⟩ : ∃ i, (rdN zs (some 0)).1 = i := ⟨_, rfl⟩
  obtain ⟨s1, hs1⟩ : ∃ i, (rdN zs (some 0)).2 = i := ⟨_, rfl⟩
  rw [hi1]
  rw [hs1] at rs1
  have E1 : Hid ((m1 zs).1 = i1) := hi1
  have S1 : Hid ((m1 zs).2 = s1) := hs1
  clear hi1 hs1
  have bX : Below w1.heap.size w1 (w1.alloc (.cells #[.int .i64 (i1 : Int), .slice none 0 0] 26)) := (Below.refl _ w1).alloc (Nat.le_refl _) _
  have gx1 : GM w (w1.alloc (.cells #[.int .i64 (i1 : Int), .slice none 0 0] 26)) w1.heap.size #[.int .i64 (i1 : Int), .slice none 0 0] (.slice none 0 0) [] :=
    ⟨B1.alloc B1.size _, res1.alloc _, Blk.new w1 _ _, res1.lt, ⟨rfl, .inl ⟨rfl, rfl⟩⟩⟩
  have rs1' := rs1.keep bX
  go_wp2_with fail
  obtain ⟨W1, hW1⟩ : ∃ W, w1.alloc (.cells #[.int .i64 (i1 : Int), .slice none 0 0] 26) = W := ⟨_, rfl⟩
  obtain ⟨X, hX⟩ : ∃ X, w1.heap.size = X := ⟨_, rfl⟩
  rw [hW1] at gx1 rs1' ⊢
  rw [hX] at gx1 ⊢
  clear hW1 hX bX rs1 res1 B1
  refine (CN.out W1 s1 rs1' gx1.below).mono ?_
  rintro e w7 ⟨rfl, rs7, gr7⟩
  have gx7 := gx1.kp (rs1'.kpm gr7) (below_gr gx1.below gr7 (Nat.le_refl _) (by omega))
  clear gx1 rs1' gr7
  have hn5 := rdN_le zs s1
  obtain ⟨n5, hn5'⟩ : ∃ i, (rdN zs s1).1 = i := ⟨_, rfl⟩
  obtain ⟨s5, hs5⟩ : ∃ i, (rdN zs s1).2 = i := ⟨_, rfl⟩
  rw [hn5'] at hn5 ⊢
  rw [hs5] at rs7
  have E5 : Hid ((m2 zs).1 = n5) := by show _ = _; unfold m2; rw [S1.out, hn5']
  have S5 : Hid ((m2 zs).2 = s5) := by show _ = _; unfold m2; rw [S1.out, hs5]
  clear hn5' hs5
  obtain ⟨ie, hie, ze0, ze1, ze2⟩ := info_parts Try.infoPlace
  go_upto_block 0 with fail
  go_cut [7] (fun _ wx => ∃ v2 ps st, EndP zs ps st ∧ ps.length ≤ 31 ∧ RS wx (w.heap.size + 1) a n cap st ∧ GM w wx X #[.int .i64 (i1 : Int), v2] v2 ps)
  case first =>
    go_wp2_with fail
    go_loopw [7] (fun i wr => ∃ (k : Nat) (v2 : Value), k ≤ 31 ∧ k ≤ n5 ∧ i = .int .i64 k ∧ RS wr (w.heap.size + 1) a n cap (rdPs zs s5 k).2 ∧ GM w wr X #[.int .i64 (i1 : Int), v2] v2 (rdPs zs s5 k).1) (fun i _ => 31 - (intOf i).toNat)
    case atStart => exact ⟨0, .slice none 0 0, by omega, by omega, rfl, rs7, gx7⟩
    case round =>
      obtain ⟨k, v2, hk11, hkn5, rfl, rsk, gxk⟩ := hrel
      have hlk := rdPs_len zs s5 k
      have hes : Hid ((rdPs zs s5 (k + 1)).1 = (rdPs zs s5 k).1 ++ [⟨((rdN zs (rdPs zs s5 k).2).1 : Int), ((rdN zs (rdN zs (rdPs zs s5 k).2).2).1 : Int)⟩] ∧ (rdPs zs s5 (k + 1)).2 = (rdN zs (rdN zs (rdPs zs s5 k).2).2).2) := ⟨rfl, rfl⟩
      have hend : Hid ((¬ (k < n5 ∧ k ≤ 30) ∨ (rdPs zs s5 k).2 = none) → EndP zs (rdPs zs s5 k).1 (rdPs zs s5 k).2) := by
        intro h
        unfold EndP mP
        rw [E5.out, S5.out]
        rcases h with h | h
        · rw [show min n5 31 = k by omega]
          exact ⟨rfl, .inr rfl⟩
        · exact ⟨by rw [h, rdPs_none h (show k ≤ min n5 31 by omega)], .inl h⟩
      obtain ⟨ps, hes'⟩ : ∃ l, (rdPs zs s5 k).1 = l := ⟨_, rfl⟩
      obtain ⟨st, hst'⟩ : ∃ l, (rdPs zs s5 k).2 = l := ⟨_, rfl⟩
      rw [hes', hst'] at hes hend
      rw [hes'] at gxk hlk
      rw [hst'] at rsk
      clear hes' hst'
      obtain ⟨p, hbr, hpq⟩ := id rsk
      have cb := hbr.cell 2
      simp at cb
      clear hbr hpq
      by_cases hgo : (k < n5 ∧ k ≤ 30) ∧ st ≠ none
      · obtain ⟨⟨hk1, hk2⟩, hst⟩ := hgo
        have hk1' : (k : Int) < (n5 : Int) := by omega
        have hk2' : (k : Int) ≤ 30 := by omega
        obtain ⟨q, rfl⟩ := Option.ne_none_iff_exists'.1 hst
        simp only [Option.isNone_some] at cb
        go_wp2_with fail
        refine (CN.out wr (some q) rsk gxk.below).mono ?_
        rintro e w8 ⟨rfl, rs8, gr8⟩
        have gx8 := gxk.kp (rsk.kpm gr8) (below_gr gxk.below gr8 (Nat.le_refl _) (by omega))
        obtain ⟨z, hz⟩ : ∃ i, (rdN zs (some q)).1 = i := ⟨_, rfl⟩
        obtain ⟨sz, hsz⟩ : ∃ i, (rdN zs (some q)).2 = i := ⟨_, rfl⟩
        rw [hz, hsz] at hes
        rw [hz]
        rw [hsz] at rs8
        clear hz hsz gr8 rsk gxk hend hst cb
        have bE : Below w8.heap.size w8 (w8.alloc (.cells #[.int .i64 (z : Int), .int .i64 0] 36)) := (Below.refl _ w8).alloc (Nat.le_refl _) _
        have bl9 := Blk.new w8 36 #[.int .i64 (z : Int), .int .i64 0]
        have rs9 := rs8.keep bE
        have gx9 := gx8.keep bE
        go_wp2_with fail
        obtain ⟨W9, hW9⟩ : ∃ W, w8.alloc (.cells #[.int .i64 (z : Int), .int .i64 0] 36) = W := ⟨_, rfl⟩
        rw [hW9] at bE bl9 rs9 gx9 ⊢
        clear hW9
        obtain ⟨E, hE⟩ : ∃ E, w8.heap.size = E := ⟨_, rfl⟩
        rw [hE] at bl9 ⊢
        have hrow : v2.ownBlock ≠ some E := fun h => by
          obtain ⟨_, cur, hc⟩ := row_at gx8.e h
          have := (Array.getElem?_eq_some_iff.1 hc).1
          omega
        have hXE : X ≠ E := by have := gx8.x.lt; omega
        have hHE : w.heap.size ≠ E := by have := gx8.res.lt; omega
        have hRE : w.heap.size ≤ E := by have := gx8.below.size; omega
        clear rs8 gx8 bE
        refine (CN.out W9 sz rs9 gx9.below).mono ?_
        rintro e w10 ⟨rfl, rs10, gr10⟩
        have kp10 := rs9.kpm gr10
        have gx10 := gx9.kp kp10 (below_gr gx9.below gr10 (Nat.le_refl _) (by omega))
        have bl10 := bl9.kp kp10 (by decide)
        obtain ⟨x, hx⟩ : ∃ i, (rdN zs sz).1 = i := ⟨_, rfl⟩
        obtain ⟨sx, hsx⟩ : ∃ i, (rdN zs sz).2 = i := ⟨_, rfl⟩
        rw [hx, hsx] at hes
        rw [hx]
        rw [hsx] at rs10
        clear hx hsx gr10 rs9 gx9 kp10 bl9
        have d0 := bl10.cell 0
        have d1 := bl10.cell 1
        have fd := bl10.frozen 1
        simp at d0 d1
        have gS := gr_setC w10 E 1 (.int .i64 (x : Int))
        have bl11 : Blk (w10.setCell ⟨E, 1, none⟩ (.int .i64 (x : Int))) E 36 #[.int .i64 (z : Int), .int .i64 (x : Int)] := bl10.set 1 _
        have kS : KpT w10 (w10.setCell ⟨E, 1, none⟩ (.int .i64 (x : Int))) [26, 60] := KpT.grown gS bl10 (by decide)
        have gx11 : GM w (w10.setCell ⟨E, 1, none⟩ (.int .i64 (x : Int))) X #[.int .i64 (i1 : Int), v2] v2 ps :=
          ⟨gx10.below.setCell (p := ⟨E, 1, none⟩) hRE _, gx10.res.kp kS (by decide), gx10.x.kp kS (by decide), gx10.hX, row_kept gx10.e gS (fun g hg h => hrow (by rw [hg, ← h]))⟩
        have rs11 := rs10.kp kS (by decide)
        have x4 := gx10.x.cell 1
        simp at x4
        clear gx10 rs10 kS gS bl11
        have hrowE := gx11.e
        rw [hlk] at hrowE
        have hbW := gx11.below.size
        have hSW : (w10.setCell ⟨E, 1, none⟩ (.int .i64 (x : Int))).heap.size = w10.heap.size := size_setC _ _ _
        go_wp2_with (at_builtin; refine wpList_appP (w10.setCell ⟨E, 1, none⟩ (.int .i64 (x : Int))) rfl (.tmp 40) (.tmp 42) 24 36 rfl Try.underlying24 ie _ _ hie ze0 ze1 ze2 rfl (by omega) w.heap.size v2 k (plP ps) (.int .i64 (z : Int), .int .i64 (x : Int)) rfl (by rw [plP_pv]; exact hrowE) (by omega) (by rw [hSW]; rfl) rfl rfl hbW ?_; intro v2' w12 ho12 hg12; obtain ⟨g2, cc2, rfl⟩ := row_some ho12 (by omega); rw [pv_snoc, plP_pv, ← plE_snoc ps ⟨(z : Int), (x : Int)⟩] at ho12; have gx12 := gx11.app _ hg12 (.slice (some ⟨g2, 0, none⟩) (k + 1) cc2) (ps ++ [⟨(z : Int), (x : Int)⟩]) (by rw [List.length_append, hlk]; exact ho12); have rs12 := rs11.app _ hg12 gx11.e (by decide); have x4'' := gx12.x.cell 1; have f4'' := gx12.x.frozen 1; simp at x4'')
        have gx13 : GM w (w12.setCell ⟨X, 1, none⟩ (.slice (some ⟨g2, 0, none⟩) (k + 1) cc2)) X #[.int .i64 (i1 : Int), .slice (some ⟨g2, 0, none⟩) (k + 1) cc2] (.slice (some ⟨g2, 0, none⟩) (k + 1) cc2) (ps ++ [⟨(z : Int), (x : Int)⟩]) := gx12.setX 1 _
        have rs13 := rs12.setM gx12.x 1 (.slice (some ⟨g2, 0, none⟩) (k + 1) cc2)
        go_roundw
        case rel => exact ⟨k + 1, .slice (some ⟨g2, 0, none⟩) (k + 1) cc2, by omega, by omega, by go_num, by rw [hes.out.2]; exact rs13, by rw [hes.out.1]; exact gx13⟩
        case measure => simp [intOf]; omega
      · have hend' : Hid (EndP zs ps st) := hend.out (by
          by_cases h1 : k < n5 ∧ k ≤ 30
          · exact .inr (Decidable.not_not.1 (fun h => hgo ⟨h1, h⟩))
          · exact .inl h1)
        have h3 : (¬ k < n5) ∨ (k < n5 ∧ ¬ k ≤ 30) ∨ (k < n5 ∧ k ≤ 30 ∧ st = none) := by
          by_cases h1 : k < n5
          · by_cases h2 : k ≤ 30
            · exact .inr (.inr ⟨h1, h2, Decidable.not_not.1 (fun h => hgo ⟨⟨h1, h2⟩, h⟩)⟩)
            · exact .inr (.inl ⟨h1, h2⟩)
          · exact .inl h1
        clear hend hes hgo
        rcases h3 with h | ⟨h, h'⟩ | ⟨h, h', hst0⟩
        · have hi1' : ¬ (k : Int) < (n5 : Int) := by omega
          go_wp2_with fail
          go_meet
          exact ⟨v2, ps, st, hend'.out, by omega, rsk, gxk⟩
        · have hi1' : (k : Int) < (n5 : Int) := by omega
          have hi2' : ¬ (k : Int) ≤ 30 := by omega
          go_wp2_with fail
          go_meet
          exact ⟨v2, ps, st, hend'.out, by omega, rsk, gxk⟩
        · have hi1' : (k : Int) < (n5 : Int) := by omega
          have hi2' : (k : Int) ≤ 30 := by omega
          subst hst0
          simp only [Option.isNone_none] at cb
          go_wp2_with fail
          go_meet
          exact ⟨v2, ps, none, hend'.out, by omega, rsk, gxk⟩
  case rest =>
  obtain ⟨v2, ps, st, hend0, hl31, rsk, gxk⟩ := hcut
  obtain ⟨w15, hwc⟩ : ∃ W, W = wc := ⟨_, rfl⟩
  subst hwc
  have hend' : Hid (EndP zs ps st) := hend0
  clear hend0 rs7 gx7
  obtain ⟨p2, hbr2, hpq0⟩ := id rsk
  have hpq2 : Hid _ := hpq0
  clear hpq0
  have rb1 := hbr2.cell 1
  have cb2 := hbr2.cell 2
  have rb0 := hbr2.cell 0
  simp at rb1 cb2 rb0
  clear hbr2
  obtain ⟨a2, cc2, hv2, rd2⟩ := rowM_form gxk.e
  subst hv2
  obtain ⟨x0, x1⟩ := gxk.x.duo
  go_upto_region 10 with fail
  go_cut [69] (fun s wx => s = .bool (!mOk zs) ∧ Below w15.heap.size w15 wx)
  case first =>
    cases hsv : st with
    | none =>
      rw [hsv] at cb2
      simp only [Option.isNone_none] at cb2
      have HF : Hid (mOk zs = false) := by show _ = _; unfold mOk; rw [← hend'.out.1, hsv]; rfl
      go_wp2_with fail
      go_meet
      exact ⟨by rw [HF.out]; rfl, Below.refl _ _⟩
    | some q =>
      have hpq := hpq2.out q hsv
      rw [hsv] at cb2
      simp only [Option.isNone_some] at cb2
      by_cases hpn : p2 = n
      · have hpn' : ((p2 : Int) == (n : Int)) = true := by simp [hpn]
        have hpn2 : ((p2 : Int) != (n : Int)) = false := by simp [hpn]
        have hsvn : (mP zs).2 = some zs.length := by rw [← hend'.out.1, hsv, ← hpq, hpn, HN.out]
        have hEs : ps = (mP zs).1 := by
          rcases hend'.out.2 with h0 | h0
          · rw [hsv] at h0
            simp at h0
          · exact h0
        have hcnt : mpB (i1 : Int) ps = true → n5 = ps.length := fun h0 => by
          have h1 : mpB ((m1 zs).1 : Int) (mP zs).1 = true := by rw [E1.out, ← hEs]; exact h0
          have := mOk_count h1
          rw [E5.out, ← hEs] at this
          exact this
        have hgo3 : Hid (mOk zs = mpB (i1 : Int) ps) := by
          show _ = _
          unfold mOk
          rw [hsvn, E1.out, ← hEs]
          simp
        clear hEs hsvn hsv hpq hpn
        by_cases hc5 : n5 = ps.length
        · have hc5' : ((n5 : Int) == (ps.length : Int)) = true := by simp [hc5]
          have hc52 : ((n5 : Int) != (ps.length : Int)) = false := by simp [hc5]
          have hcI := mapOkS (i1 : Int) a2 ps.length cc2 ps w15 ⟨rfl, by omega, rd2⟩
          clear hc5 hcnt rd2 hend' E1 E5 S1 S5 gxk rsk CN
          generalize mpB (i1 : Int) ps = ok at hcI hgo3
          go_wp2_with fail
          (with_reducible refine hcI.mono ?_)
          rintro e w16 ⟨rfl, b16⟩
          go_wp2_with fail
          go_meet
          exact ⟨by rw [hgo3.out], b16⟩
        · have hc5' : ((n5 : Int) == (ps.length : Int)) = false := by simp; omega
          have hc52 : ((n5 : Int) != (ps.length : Int)) = true := by simp; omega
          have HF : Hid (mOk zs = false) := by show _ = _; rw [hgo3.out]; cases hi : mpB _ _ with | false => rfl | true => exact absurd (hcnt hi) hc5
          clear hcnt rd2 hc5
          go_wp2_with fail
          go_meet
          exact ⟨by rw [HF.out]; rfl, Below.refl _ _⟩
      · have hpn' : ((p2 : Int) == (n : Int)) = false := by simp; omega
        have hpn2 : ((p2 : Int) != (n : Int)) = true := by simp; omega
        have HF : Hid (mOk zs = false) := by show _ = _; unfold mOk; rw [← hend'.out.1, hsv, ← hpq, HN.out, decide_eq_false (by simp [hpn])]; rfl
        clear hpq hsv rd2 hpn
        go_wp2_with fail
        go_meet
        exact ⟨by rw [HF.out]; rfl, Below.refl _ _⟩
  case rest =>
  obtain ⟨rfl, b16⟩ := hcut
  obtain ⟨w16, hwc⟩ : ∃ W, W = wc := ⟨_, rfl⟩
  subst hwc
  have gxn := gxk.keep b16
  have hPS : mOk zs = true → ps = (mP zs).1 := fun hok => by
    have hsvn : (mP zs).2 = some zs.length := by
      unfold mOk at hok
      simp at hok
      exact hok.1
    rcases hend'.out.2 with h0 | h0
    · have h1 := hend'.out.1
      rw [h0, hsvn] at h1
      simp at h1
    · exact h0
  clear gxk rsk rb0 rb1 cb2 CN S1 S5 E5 hie ze0 ze1 ze2 hpq2 hn5 b16 x0 x1 rd2 hend'
  have fz0 := gxn.res.frozen 0
  have fz1 := gxn.res.frozen 1
  obtain ⟨t0, t1⟩ := gxn.res.duo
  cases hok : mOk zs with
  | false =>
    have HG : Hid (GM w w16 X #[.int .i64 (i1 : Int), .slice a2 ps.length cc2] (.slice a2 ps.length cc2) ps) := gxn
    have HO : Hid _ := hok
    clear gxn hok hPS
    go_wp2
    have zf := (HG.out.res.set 0 (.int .i64 0)).set 1 (.slice none 0 0)
    have dd0 := zf.cell 0
    have dd1 := zf.cell 1
    simp at dd0 dd1
    refine bodyPost_ret (v := .tuple #[.agg #[.int .i64 0, .slice none 0 0], .bool false]) (by simp [results, Try.f13, go_sem, dd0, dd1]) rfl ?_
    exact ⟨.inr ⟨HO.out, rfl⟩, (HG.out.below.setCell (p := ⟨w.heap.size, 0, none⟩) (Nat.le_refl _) _).setCell (p := ⟨w.heap.size, 1, none⟩) (Nat.le_refl _) _⟩
  | true =>
    obtain ⟨x0, x1⟩ := gxn.x.duo
    have HF : Hid _ := rowM_set2 gxn.e gxn.res (.int .i64 (i1 : Int)) (.slice a2 ps.length cc2)
    have HG : Hid (GM w w16 X #[.int .i64 (i1 : Int), .slice a2 ps.length cc2] (.slice a2 ps.length cc2) ps) := gxn
    have HO : Hid _ := hok
    have hPs : ps = (mP zs).1 := hPS hok
    have HPS : Hid _ := hPs
    clear gxn hok hPs hPS
    go_wp2
    have zf := (HG.out.res.set 0 (.int .i64 (i1 : Int))).set 1 (.slice a2 ps.length cc2)
    have dd0 := zf.cell 0
    have dd1 := zf.cell 1
    simp at dd0 dd1
    refine bodyPost_ret (v := .tuple #[.agg #[.int .i64 (i1 : Int), .slice a2 ps.length cc2], .bool true]) (by simp [results, Try.f13, go_sem, dd0, dd1]) rfl ?_
    refine ⟨.inl ⟨HO.out, _, by rw [E1.out], ?_⟩, (HG.out.below.setCell (p := ⟨w.heap.size, 0, none⟩) (Nat.le_refl _) _).setCell (p := ⟨w.heap.size, 1, none⟩) (Nat.le_refl _) _⟩
    rw [← HPS.out]
    exact HF.out
theorem OwnPl.keep {w w' : World} {v : Value} {m : Nat} {ps : List PlD} (h : OwnPl w v m ps) (hb : Below w.heap.size w w') : OwnPl w' v m ps := OwnE.keep h hb
theorem OwnPl.gr {w w' : World} {v : Value} {m : Nat} {ps : List PlD} {r : Option Nat} (h : OwnPl w v m ps) (hg : w.grownBy w' r) (hne : ∀ g, v.ownBlock = some g → some g ≠ r) : OwnPl w' v m ps := OwnE.block h fun g hv => hg.block g (OwnE.lt h hv) (hne g hv)
/-- The map that is answered: the one that the bytes tell, or the zero one. -/
def mN (zs : List Int) : Int := if mOk zs = true then ((m1 zs).1 : Int) else 0
def mQ (zs : List Int) : List PlD := if mOk zs = true then (mP zs).1 else []
theorem mQ_len (zs : List Int) : (mQ zs).length ≤ 31 := by
  unfold mQ
  split
  · exact mP_len zs
  · simp
theorem MPost.out {B : Nat} {w' : World} {zs : List Int} {e : Ending} (h : MPost B w' zs e) : ∃ a c, e = .returned (.tuple #[.agg #[.int .i64 (mN zs), .slice a (mQ zs).length c], .bool (mOk zs)]) ∧ OwnPl w' (.slice a (mQ zs).length c) (mQ zs).length (mQ zs) ∧ ∀ g, (Value.slice a (mQ zs).length c).ownBlock = some g → B ≤ g := by
  unfold mN mQ
  rcases h with ⟨hok, v2, rfl, ho⟩ | ⟨hok, rfl⟩
  · rw [hok]
    simp only [if_true]
    obtain ⟨a, c, rfl, _⟩ := rowM_form ho
    refine ⟨a, c, rfl, ⟨ho.1, ?_⟩, fun g hg => (row_at ho hg).1⟩
    rcases ho.2 with h1 | ⟨g, c, cur, e, _, rest⟩
    · exact .inl h1
    · exact .inr ⟨g, c, cur, e, Nat.zero_le _, rest⟩
  · rw [hok]
    exact ⟨none, 0, rfl, ownE_nil plE _ _, fun g hg => by simp [Value.ownBlock] at hg⟩
theorem getMapIO (a : Option Addr) (n cap : Nat) (zs : List Int) (w : World) (hn : zs.length = n) (hs : n ≤ 1048576) (hcap : n ≤ cap) (hr : Rd w a zs) (hb : Byt zs) :
    Calls Try.prog 12 #[.slice a n cap] w fun e w' => (∃ a c, e = .returned (.tuple #[.agg #[.int .i64 (mN zs), .slice a (mQ zs).length c], .bool (mOk zs)]) ∧ OwnPl w' (.slice a (mQ zs).length c) (mQ zs).length (mQ zs) ∧ ∀ g, (Value.slice a (mQ zs).length c).ownBlock = some g → w.heap.size ≤ g) ∧ Below w.heap.size w w' :=
  (getMapI a n cap zs w hn hs hcap hr hb).mono fun _ _ ⟨h1, h2⟩ => ⟨h1.out, h2⟩
theorem getMapSO (a : Option Addr) (n cap : Nat) (zs : List Int) (w : World) (hn : zs.length = n) (hs : n ≤ 1048576) (hcap : n ≤ cap) (hr : Rd w a zs) (hb : Byt zs) :
    Calls Try.prog 13 #[.slice a n cap] w fun e w' => (∃ a c, e = .returned (.tuple #[.agg #[.int .i64 (mN zs), .slice a (mQ zs).length c], .bool (mOk zs)]) ∧ OwnPl w' (.slice a (mQ zs).length c) (mQ zs).length (mQ zs) ∧ ∀ g, (Value.slice a (mQ zs).length c).ownBlock = some g → w.heap.size ≤ g) ∧ Below w.heap.size w w' :=
  (getMapS a n cap zs w hn hs hcap hr hb).mono fun _ _ ⟨h1, h2⟩ => ⟨h1.out, h2⟩
end
end Go.Proofs.Ytjaicciilehlnaa
