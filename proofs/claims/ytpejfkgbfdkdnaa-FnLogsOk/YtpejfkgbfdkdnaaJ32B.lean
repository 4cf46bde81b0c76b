/-
  Joined: RecG, RecH, RowX.
-/
import Derived.Test.YtpejfkgbfdkdnaaJ25B
import Derived.Test.YtpejfkgbfdkdnaaJ26B
import Derived.Test.YtpejfkgbfdkdnaaJ29B
import Derived.Deep.OwnRows
namespace Go.Proofs.Ytpejfkgbfdkdnaa
section
open Go.RowKit
def rcA (zs : List Int) := rdN zs (some 0)
def rcB (zs : List Int) := rdN zs (rcA zs).2
def rcC (zs : List Int) := rdT zs (rcB zs).2
/-- The record that the bytes tell. -/
def rcD (zs : List Int) : RecD := ⟨((rcA zs).1 : Int), ((rcB zs).1 : Int), strZ (rcC zs).1⟩
/-- What stands ahead of the sum. -/
def rcAh (zs : List Int) : List Int := zs.take (zs.length - 4)
/-- It is there whole, has its sum, and is right. -/
def rcOk (zs : List Int) : Bool := decide (4 ≤ zs.length) && (sumB zs && (decide ((rcC (rcAh zs)).2 = some (rcAh zs).length) && recOk (rcD (rcAh zs))))
/-- What is answered: that record, in memory of its own, or the zero one. -/
def RPost (B : Nat) (w' : World) (zs : List Int) (e : Ending) : Prop :=
  (rcOk zs = true ∧ ∃ g c, e = .returned (.tuple #[.agg #[.int .i64 ((rcA (rcAh zs)).1 : Int), .int .i64 ((rcB (rcAh zs)).1 : Int), .slice (some ⟨g, 0, none⟩) (rcC (rcAh zs)).1.size c], .bool true]) ∧ B ≤ g ∧ OwnB w' g (rcC (rcAh zs)).1.size (strZ (rcC (rcAh zs)).1)) ∨
  (rcOk zs = false ∧ e = .returned (.tuple #[.agg #[.int .i64 0, .int .i64 0, .slice none 0 0], .bool false]))
theorem rcD_len (zs : List Int) (h : zs.length ≤ 1048576) : (rcD zs).body.length ≤ 4000000 := by
  show (strZ _).length ≤ _
  rw [strZ_len]
  have := rdT_size zs (rcB zs).2
  unfold rcC
  omega
/-- What is known while a record is read: the answer's cell, the record's box. -/
structure GRc (w0 W : World) (X : Nat) (xs : Array Value) : Prop where
  below : Below w0.heap.size w0 W
  res : Blk W w0.heap.size 46 #[.int .i64 0, .int .i64 0, .slice none 0 0]
  x : Blk W X 46 xs
  hX : w0.heap.size < X
theorem GRc.kp {w0 W W' : World} {X : Nat} {xs : Array Value} (h : GRc w0 W X xs) (k : KpT W W' [46]) (hb : Below w0.heap.size w0 W') : GRc w0 W' X xs :=
  ⟨hb, h.res.kp k (by decide), h.x.kp k (by decide), h.hX⟩
theorem GRc.keep {w0 W W' : World} {X : Nat} {xs : Array Value} (h : GRc w0 W X xs) (hb : Below W.heap.size W W') : GRc w0 W' X xs :=
  h.kp (KpT.below hb _) (h.below.trans (hb.mono h.below.size))
theorem GRc.setX {w0 W : World} {X : Nat} {xs : Array Value} (h : GRc w0 W X xs) (j : Nat) (v : Value) : GRc w0 (W.setCell ⟨X, j, none⟩ v) X (xs.setIfInBounds j v) :=
  ⟨h.below.setCell (p := ⟨X, j, none⟩) (Nat.le_of_lt h.hX) v, h.res.other (Nat.ne_of_lt h.hX) j v, h.x.set j v, h.hX⟩
theorem RS.kpr {W W' : World} {R : Nat} {a : Option Addr} {n cap : Nat} {st : Option Nat} (h : RS W R a n cap st) (g : W.grownBy W' (some R)) : KpT W W' [46] := by
  obtain ⟨p, hb, _⟩ := h
  exact KpT.grown g hb (by decide)
theorem RS.setR {W : World} {X R : Nat} {xs : Array Value} {a : Option Addr} {n cap : Nat} {st : Option Nat} (h : RS W R a n cap st) (hx : Blk W X 46 xs) (j : Nat) (v : Value) : RS (W.setCell ⟨X, j, none⟩ v) R a n cap st :=
  h.kp (KpT.grown (ts := [84]) (gr_setC W X j v) hx (by decide)) (by decide)
theorem RI.kpr {W W' : World} {H : Nat} {a : Option Addr} {n cap : Nat} {st : Option Nat} (h : RI W H a n cap st) (g : But W W' (some (H + 1)) (some (H + 2)) none) : KpT W W' [46] := by
  obtain ⟨p, _, b1, b2, _⟩ := h
  exact KpT.but g b1 b2 (by decide) (by decide)
theorem RI.setR {W : World} {X H : Nat} {xs : Array Value} {a : Option Addr} {n cap : Nat} {st : Option Nat} (h : RI W H a n cap st) (hx : Blk W X 46 xs) (j : Nat) (v : Value) : RI (W.setCell ⟨X, j, none⟩ v) H a n cap st :=
  h.kp (KpT.grown (ts := [22, 3, 4]) (gr_setC W X j v) hx (by decide)) (by decide) (by decide) (by decide)
theorem ownB_set3 {W : World} {H g n : Nat} {zs : List Int} {u0 u1 u2 : Value} (h : OwnB W g n zs) (hx : Blk W H 46 #[u0, u1, u2]) (v0 v1 v2 : Value) : OwnB (((W.setCell ⟨H, 0, none⟩ v0).setCell ⟨H, 1, none⟩ v1).setCell ⟨H, 2, none⟩ v2) g n zs :=
  h.kp (KpT.grown (ts := [5]) (set3_gr W H v0 v1 v2) hx (by decide)) (by decide)
theorem below_set3 {B : Nat} {w W : World} (h : Below B w W) (H : Nat) (hB : B ≤ H) (hw : B ≤ w.heap.size) (v0 v1 v2 : Value) : Below B w (((W.setCell ⟨H, 0, none⟩ v0).setCell ⟨H, 1, none⟩ v1).setCell ⟨H, 2, none⟩ v2) :=
  below_gro h hw (set3_gr W H v0 v1 v2) (fun k hk => by simp at hk; omega)
set_option maxRecDepth 100000 in
set_option maxHeartbeats 2000000 in
theorem getRecI_short (a : Option Addr) (n cap : Nat) (zs : List Int) (w : World) (hn : zs.length = n) (h4 : n < 4) :
    Calls Try.prog 47 #[.slice a n cap] w fun e w' => RPost w.heap.size w' zs e ∧ Below w.heap.size w w' := by
  have HO : Hid (rcOk zs = false) := by show _ = _; unfold rcOk; rw [decide_eq_false (by omega)]; rfl
  have B0 : Below w.heap.size w (w.alloc (.cells #[.int .i64 0, .int .i64 0, .slice none 0 0] 46)) := (Below.refl _ w).alloc (Nat.le_refl _) _
  have res0 : Blk (w.alloc (.cells #[.int .i64 0, .int .i64 0, .slice none 0 0] 46)) w.heap.size 46 #[.int .i64 0, .int .i64 0, .slice none 0 0] := Blk.new w _ _
  have h4' : ((n : Int) - 4) < 0 := by omega
  clear hn
  go_enter Try.func47, Try.ntmps47
  go_wp2_with fail
  refine (summed_no a n cap _ h4).mono ?_
  rintro e W0 ⟨rfl, hw⟩
  rw [← hw] at B0 res0
  clear hw
  have fz0 := res0.frozen 0
  have fz1 := res0.frozen 1
  have fz2 := res0.frozen 2
  obtain ⟨t0, t1, t2⟩ := res0.thr
  have HR : Hid _ := res0
  have HB : Hid _ := B0
  clear res0 B0
  go_wp2
  have zf := set3_blk HR.out (.int .i64 0) (.int .i64 0) (.slice none 0 0)
  obtain ⟨dd0, dd1, dd2⟩ := zf.thr
  refine bodyPost_ret (v := .tuple #[.agg #[.int .i64 0, .int .i64 0, .slice none 0 0], .bool false]) (by simp [results, Try.f47, go_sem, dd0, dd1, dd2]) rfl ?_
  exact ⟨.inr ⟨HO.out, rfl⟩, below_set3 HB.out w.heap.size (Nat.le_refl _) (Nat.le_refl _) _ _ _⟩
set_option maxRecDepth 100000 in
set_option maxHeartbeats 2000000 in
theorem getRecS_short (a : Option Addr) (n cap : Nat) (zs : List Int) (w : World) (hn : zs.length = n) (h4 : n < 4) :
    Calls Try.prog 33 #[.slice a n cap] w fun e w' => RPost w.heap.size w' zs e ∧ Below w.heap.size w w' := by
  have HO : Hid (rcOk zs = false) := by show _ = _; unfold rcOk; rw [decide_eq_false (by omega)]; rfl
  have B0 : Below w.heap.size w (w.alloc (.cells #[.int .i64 0, .int .i64 0, .slice none 0 0] 46)) := (Below.refl _ w).alloc (Nat.le_refl _) _
  have h4' : ((n : Int) - 4) < 0 := by omega
  clear hn
  go_enter Try.func33, Try.ntmps33
  go_wp2_with fail
  have HB : Hid _ := B0
  refine bodyPost_ret (v := .tuple #[.agg #[.int .i64 0, .int .i64 0, .slice none 0 0], .bool false]) (by simp [results, Try.f33, go_sem]) rfl ?_
  exact ⟨.inr ⟨HO.out, rfl⟩, HB.out⟩
set_option maxRecDepth 100000 in
set_option maxHeartbeats 8000000 in
theorem getRecI_long (b off m cap : Nat) (zs ms : List Int) (w : World) (hn : zs.length = m + 4) (hms : rcAh zs = ms) (hml : ms.length = m) (hmt : zs.take m = ms) (hs : m + 4 ≤ 1048576) (hcap : m + 4 ≤ cap) (hr : Rd w (some ⟨b, off, none⟩) zs) (hb : Byt zs) :
    Calls Try.prog 47 #[.slice (some ⟨b, off, none⟩) (m + 4) cap] w fun e w' => RPost w.heap.size w' zs e ∧ Below w.heap.size w w' := by
  have hrm : Rd w (some ⟨b, off, none⟩) ms := by rw [← hmt]; exact hr.tk m
  have hbm : Byt ms := by rw [← hmt]; exact hb.take m
  have HO1 : Hid (rcOk zs = (sumB zs && (decide ((rcC ms).2 = some m) && recOk (rcD ms)))) := by
    show _ = _
    unfold rcOk
    rw [hms, hml, decide_eq_true (by omega)]
    rfl
  have CS : Hid _ := fun (W : World) (hB : Below w.heap.size w W) => summed_yes b off cap m zs W hn hs hcap hb (hr.keep hB)
  have CN : Hid _ := fun (H : Nat) (W : World) (st : Option Nat) (h : RI W H (some ⟨b, off, none⟩) m m st) (hB : Below w.heap.size w W) => num_any H (some ⟨b, off, none⟩) m m ms st W hml (by omega) (Nat.le_refl _) (hrm.keep hB) hbm h
  have CT : Hid _ := fun (H : Nat) (W : World) (st : Option Nat) (h : RI W H (some ⟨b, off, none⟩) m m st) (hB : Below w.heap.size w W) => text_any H (some ⟨b, off, none⟩) m m ms st W hml (by omega) (Nat.le_refl _) (hrm.keep hB) hbm h
  have CE : Hid _ := fun (H : Nat) (W : World) (st : Option Nat) (h : RI W H (some ⟨b, off, none⟩) m m st) => atEnd_any H (some ⟨b, off, none⟩) m m st W (by omega) h
  have CF : Hid _ := fun (W : World) (a : Option Addr) (c : Nat) => recOkI (rcD ms) a c W (rcD_len ms (by omega))
  unfold RPost
  rw [hms]
  have B0 : Below w.heap.size w (w.alloc (.cells #[.int .i64 0, .int .i64 0, .slice none 0 0] 46)) := (Below.refl _ w).alloc (Nat.le_refl _) _
  have res0 : Blk (w.alloc (.cells #[.int .i64 0, .int .i64 0, .slice none 0 0] 46)) w.heap.size 46 #[.int .i64 0, .int .i64 0, .slice none 0 0] := Blk.new w _ _
  generalize rcOk zs = RO at *
  generalize sumB zs = SB at *
  clear hn hr hb hrm hbm hmt hms
  go_enter Try.func47, Try.ntmps47
  go_wp2_with fail
  obtain ⟨W0, hW0⟩ : ∃ W, w.alloc (.cells #[.int .i64 0, .int .i64 0, .slice none 0 0] 46) = W := ⟨_, rfl⟩
  rw [hW0] at B0 res0 ⊢
  clear hW0
  refine (CS.out W0 B0).mono ?_
  rintro e w0 ⟨rfl, b0⟩
  have B1 := B0.trans (b0.mono B0.size)
  have res1 := res0.keep b0
  clear B0 res0 b0 CS
  cases SB with
  | false =>
    have HO : Hid (RO = false) := by show _ = _; rw [HO1.out]; rfl
    clear CN CT CE CF HO1
    have fz0 := res1.frozen 0
    have fz1 := res1.frozen 1
    have fz2 := res1.frozen 2
    obtain ⟨t0, t1, t2⟩ := res1.thr
    have HR : Hid _ := res1
    have HB : Hid _ := B1
    clear res1 B1
    go_wp2
    have zf := set3_blk HR.out (.int .i64 0) (.int .i64 0) (.slice none 0 0)
    obtain ⟨dd0, dd1, dd2⟩ := zf.thr
    refine bodyPost_ret (v := .tuple #[.agg #[.int .i64 0, .int .i64 0, .slice none 0 0], .bool false]) (by simp [results, Try.f47, go_sem, dd0, dd1, dd2]) rfl ?_
    exact ⟨.inr ⟨HO.out, rfl⟩, below_set3 HB.out w.heap.size (Nat.le_refl _) (Nat.le_refl _) _ _ _⟩
  | true =>
  rw [Bool.true_and] at HO1
  go_wp2_with fail
  have hRd := readingOf_any (some ⟨b, off, none⟩) m m w0
  have hHw := res1.lt
  obtain ⟨H, hH⟩ : ∃ H, w0.heap.size = H := ⟨_, rfl⟩
  rw [hH] at hRd hHw
  refine hRd.mono ?_
  rintro e w1 ⟨rfl, rs1, b1⟩
  have B2 := B1.trans (b1.mono (by omega))
  have res2 := res1.keep (show Below w0.heap.size w0 w1 by rw [hH]; exact b1)
  clear res1 B1 b1 hRd hH
  have bX : Below w1.heap.size w1 (w1.alloc (.cells #[.int .i64 0, .int .i64 0, .slice none 0 0] 46)) := (Below.refl _ w1).alloc (Nat.le_refl _) _
  have gb0 : GRc w (w1.alloc (.cells #[.int .i64 0, .int .i64 0, .slice none 0 0] 46)) w1.heap.size #[.int .i64 0, .int .i64 0, .slice none 0 0] := ⟨B2.alloc B2.size _, res2.alloc _, Blk.new w1 _ _, res2.lt⟩
  have rb0 := rs1.keep bX
  go_wp2_with fail
  obtain ⟨W1, hW1⟩ : ∃ W, w1.alloc (.cells #[.int .i64 0, .int .i64 0, .slice none 0 0] 46) = W := ⟨_, rfl⟩
  obtain ⟨X, hX⟩ : ∃ X, w1.heap.size = X := ⟨_, rfl⟩
  rw [hW1] at gb0 rb0 ⊢
  rw [hX] at gb0 ⊢
  clear hW1 bX rs1 res2 B2
  refine (CN.out H W1 (some 0) rb0 gb0.below).mono ?_
  rintro e v1 ⟨rfl, ra1, gr1⟩
  have ga1 := gb0.kp (rb0.kpr gr1) (below_but gb0.below gr1 (Nat.le_refl _) (by omega) (by omega))
  clear gb0 rb0 gr1
  obtain ⟨i1, hi1⟩ : ∃ i, (rdN ms (some 0)).1 = i := ⟨_, rfl⟩
  obtain ⟨s1, hs1⟩ : ∃ i, (rdN ms (some 0)).2 = i := ⟨_, rfl⟩
  rw [hi1]
  rw [hs1] at ra1
  have E1 : Hid ((rcA ms).1 = i1) := hi1
  have S1 : Hid ((rcA ms).2 = s1) := hs1
  clear hi1 hs1
  have c1 := ga1.x.cell 0
  have f1 := ga1.x.frozen 0
  simp at c1
  have gb1 : GRc w (v1.setCell ⟨X, 0, none⟩ (.int .i64 (i1 : Int))) X #[.int .i64 (i1 : Int), .int .i64 0, .slice none 0 0] := ga1.setX 0 _
  have rb1 := ra1.setR ga1.x 0 (.int .i64 (i1 : Int))
  go_wp2_with fail
  obtain ⟨V1, hV1⟩ : ∃ W, v1.setCell ⟨X, 0, none⟩ (.int .i64 (i1 : Int)) = W := ⟨_, rfl⟩
  rw [hV1] at gb1 rb1 ⊢
  clear hV1 c1 f1 ga1 ra1
  refine (CN.out H V1 s1 rb1 gb1.below).mono ?_
  rintro e v2 ⟨rfl, ra2, gr2⟩
  have ga2 := gb1.kp (rb1.kpr gr2) (below_but gb1.below gr2 (Nat.le_refl _) (by omega) (by omega))
  clear gb1 rb1 gr2
  obtain ⟨i2, hi2⟩ : ∃ i, (rdN ms s1).1 = i := ⟨_, rfl⟩
  obtain ⟨s2, hs2⟩ : ∃ i, (rdN ms s1).2 = i := ⟨_, rfl⟩
  rw [hi2]
  rw [hs2] at ra2
  have E2 : Hid ((rcB ms).1 = i2) := by show _ = _; unfold rcB; rw [S1.out, hi2]
  have S2 : Hid ((rcB ms).2 = s2) := by show _ = _; unfold rcB; rw [S1.out, hs2]
  clear hi2 hs2
  have c1 := ga2.x.cell 1
  have f1 := ga2.x.frozen 1
  simp at c1
  have gb2 : GRc w (v2.setCell ⟨X, 1, none⟩ (.int .i64 (i2 : Int))) X #[.int .i64 (i1 : Int), .int .i64 (i2 : Int), .slice none 0 0] := ga2.setX 1 _
  have rb2 := ra2.setR ga2.x 1 (.int .i64 (i2 : Int))
  go_wp2_with fail
  obtain ⟨V2, hV2⟩ : ∃ W, v2.setCell ⟨X, 1, none⟩ (.int .i64 (i2 : Int)) = W := ⟨_, rfl⟩
  rw [hV2] at gb2 rb2 ⊢
  clear hV2 c1 f1 ga2 ra2
  refine (CT.out H V2 s2 rb2 gb2.below).mono ?_
  rintro e v3 ⟨rfl, ra3, gr3⟩
  have ga3 := gb2.kp (rb2.kpr gr3) (below_but gb2.below gr3 (Nat.le_refl _) (by omega) (by omega))
  clear gb2 rb2 gr3
  obtain ⟨i3, hi3⟩ : ∃ i, (rdT ms s2).1 = i := ⟨_, rfl⟩
  obtain ⟨s3, hs3⟩ : ∃ i, (rdT ms s2).2 = i := ⟨_, rfl⟩
  rw [hi3]
  rw [hs3] at ra3
  have E3 : Hid ((rcC ms).1 = i3) := by show _ = _; unfold rcC; rw [S2.out, hi3]
  have S3 : Hid ((rcC ms).2 = s3) := by show _ = _; unfold rcC; rw [S2.out, hs3]
  clear hi3 hs3
  obtain ⟨cD, WD, hcv, oD', bD⟩ := conv_str v3 i3
  have hgD := ga3.below.size
  have raD := ra3.keep bD
  have gaD := ga3.keep bD
  have c1 := gaD.x.cell 2
  have f1 := gaD.x.frozen 2
  simp at c1
  have gb3 : GRc w (WD.setCell ⟨X, 2, none⟩ (.slice (some ⟨v3.heap.size, 0, none⟩) i3.size cD)) X #[.int .i64 (i1 : Int), .int .i64 (i2 : Int), .slice (some ⟨v3.heap.size, 0, none⟩) i3.size cD] := gaD.setX 2 _
  have rb3 := raD.setR gaD.x 2 (.slice (some ⟨v3.heap.size, 0, none⟩) i3.size cD)
  have ob3 : OwnB (WD.setCell ⟨X, 2, none⟩ (.slice (some ⟨v3.heap.size, 0, none⟩) i3.size cD)) v3.heap.size i3.size (strZ i3) := oD'.kp (KpT.grown (ts := [5]) (gr_setC WD X 2 _) gaD.x (by decide)) (by decide)
  clear ga3 ra3 bD oD' raD gaD
  go_upto_region 9 with fail
  obtain ⟨V3, hV3⟩ : ∃ W, WD.setCell ⟨X, 2, none⟩ (.slice (some ⟨v3.heap.size, 0, none⟩) i3.size cD) = W := ⟨_, rfl⟩
  rw [hV3] at gb3 rb3 ob3 ⊢
  clear hV3 c1 f1 hcv
  obtain ⟨G, hG⟩ : ∃ G, v3.heap.size = G := ⟨_, rfl⟩
  rw [hG] at gb3 ob3 hgD ⊢
  clear hG
  have hD := CF.out V3 (some ⟨G, 0, none⟩) cD
  obtain ⟨ok, hok⟩ : ∃ ok, recOk (rcD ms) = ok := ⟨_, rfl⟩
  rw [hok] at hD HO1
  unfold recC rcD at hD
  simp only [E1.out, E2.out, E3.out, strZ_len] at hD
  rw [S3.out] at HO1
  clear hok
  have hcE := CE.out H V3 s3 rb3
  by_cases hE : s3 = some m
  · rw [decide_eq_true hE] at hcE HO1
    rw [Bool.true_and] at HO1
    clear hE
    obtain ⟨x0, x1, x2⟩ := gb3.x.thr
    cases ok with
    | false =>
      have HO : Hid (RO = false) := HO1
      clear HO1
      go_wp2_with fail
      refine hcE.mono ?_
      rintro e vE ⟨rfl, hw⟩
      obtain rfl := hw.symm
      go_wp2_with fail
      refine hD.mono ?_
      rintro e vF ⟨rfl, bF⟩
      have gbF := gb3.keep bF
      clear gb3 ob3 bF x0 x1 x2 hcE hD rb3
      have fz0 := gbF.res.frozen 0
      have fz1 := gbF.res.frozen 1
      have fz2 := gbF.res.frozen 2
      obtain ⟨t0, t1, t2⟩ := gbF.res.thr
      have HG : Hid _ := gbF
      clear gbF
      go_wp2
      have zf := set3_blk HG.out.res (.int .i64 0) (.int .i64 0) (.slice none 0 0)
      obtain ⟨dd0, dd1, dd2⟩ := zf.thr
      refine bodyPost_ret (v := .tuple #[.agg #[.int .i64 0, .int .i64 0, .slice none 0 0], .bool false]) (by simp [results, Try.f47, go_sem, dd0, dd1, dd2]) rfl ?_
      exact ⟨.inr ⟨HO.out, rfl⟩, below_set3 HG.out.below w.heap.size (Nat.le_refl _) (Nat.le_refl _) _ _ _⟩
    | true =>
      have HO : Hid (RO = true) := HO1
      clear HO1
      go_wp2_with fail
      refine hcE.mono ?_
      rintro e vE ⟨rfl, hw⟩
      obtain rfl := hw.symm
      go_wp2_with fail
      refine hD.mono ?_
      rintro e vF ⟨rfl, bF⟩
      have gbF := gb3.keep bF
      have obF := ob3.keep bF
      clear gb3 ob3 bF x0 x1 x2 hcE hD rb3
      have fz0 := gbF.res.frozen 0
      have fz1 := gbF.res.frozen 1
      have fz2 := gbF.res.frozen 2
      obtain ⟨t0, t1, t2⟩ := gbF.res.thr
      obtain ⟨x0, x1, x2⟩ := gbF.x.thr
      have HF : Hid _ := ownB_set3 obF gbF.res (.int .i64 (i1 : Int)) (.int .i64 (i2 : Int)) (.slice (some ⟨G, 0, none⟩) i3.size cD)
      have HG : Hid _ := gbF
      clear gbF obF
      go_wp2
      have zf := set3_blk HG.out.res (.int .i64 (i1 : Int)) (.int .i64 (i2 : Int)) (.slice (some ⟨G, 0, none⟩) i3.size cD)
      obtain ⟨dd0, dd1, dd2⟩ := zf.thr
      refine bodyPost_ret (v := .tuple #[.agg #[.int .i64 (i1 : Int), .int .i64 (i2 : Int), .slice (some ⟨G, 0, none⟩) i3.size cD], .bool true]) (by simp [results, Try.f47, go_sem, dd0, dd1, dd2]) rfl ?_
      refine ⟨.inl ⟨HO.out, G, cD, by rw [E1.out, E2.out, E3.out], hgD, ?_⟩, below_set3 HG.out.below w.heap.size (Nat.le_refl _) (Nat.le_refl _) _ _ _⟩
      rw [E3.out]
      exact HF.out
  · have HO : Hid (RO = false) := by show _ = _; rw [HO1.out, decide_eq_false hE]; rfl
    rw [decide_eq_false hE] at hcE
    clear HO1 hE hD
    go_wp2_with fail
    refine hcE.mono ?_
    rintro e vE ⟨rfl, hw⟩
    obtain rfl := hw.symm
    clear hcE rb3 ob3
    have fz0 := gb3.res.frozen 0
    have fz1 := gb3.res.frozen 1
    have fz2 := gb3.res.frozen 2
    obtain ⟨t0, t1, t2⟩ := gb3.res.thr
    have HG : Hid _ := gb3
    clear gb3
    go_wp2
    have zf := set3_blk HG.out.res (.int .i64 0) (.int .i64 0) (.slice none 0 0)
    obtain ⟨dd0, dd1, dd2⟩ := zf.thr
    refine bodyPost_ret (v := .tuple #[.agg #[.int .i64 0, .int .i64 0, .slice none 0 0], .bool false]) (by simp [results, Try.f47, go_sem, dd0, dd1, dd2]) rfl ?_
    exact ⟨.inr ⟨HO.out, rfl⟩, below_set3 HG.out.below w.heap.size (Nat.le_refl _) (Nat.le_refl _) _ _ _⟩
end

section
open Go.RowKit
def dig (p q r t : Nat) : Nat → Nat
  | 0 => p
  | 1 => q
  | 2 => r
  | _ => t
def beK (p q r t : Nat) : Nat → Nat
  | 0 => 0
  | k + 1 => beK p q r t k * 256 + dig p q r t k
theorem or_8 (X Z : Nat) (hX : X < 16777216) (hZ : Z ≤ 255) : bits .or .i64 ((X : Int) * 256) (Z : Int) = ((X * 256 + Z : Nat) : Int) := by
  have h1 := i64_or_nat (X * 256) Z (by omega) (by omega)
  rw [show ((X * 256 : Nat) : Int) = (X : Int) * 256 by simp] at h1
  rw [h1]
  have h2 : X * 256 ||| Z = X * 256 + Z := by
    have := Nat.two_pow_add_eq_or_of_lt (i := 8) (b := Z) (by omega) X
    rw [Nat.mul_comm]
    exact this.symm
  rw [h2]
theorem listR4 {l : List Int} (h : l.length = 4) (hb : Byt l) : ∃ p q r t : Nat, l = [(p : Int), (q : Int), (r : Int), (t : Int)] ∧ p ≤ 255 ∧ q ≤ 255 ∧ r ≤ 255 ∧ t ≤ 255 := by
  match l, h with
  | [a, b, c, d], _ =>
    have h1 := hb a (by simp)
    have h2 := hb b (by simp)
    have h3 := hb c (by simp)
    have h4 := hb d (by simp)
    refine ⟨a.toNat, b.toNat, c.toNat, d.toNat, ?_, by omega, by omega, by omega, by omega⟩
    rw [Int.toNat_of_nonneg h1.1, Int.toNat_of_nonneg h2.1, Int.toNat_of_nonneg h3.1, Int.toNat_of_nonneg h4.1]
theorem sum4_be {p q r t : Nat} {s : Int} (h : 0 ≤ s ∧ s < 4294967296) (_hp : p ≤ 255) (hq : q ≤ 255) (hr : r ≤ 255) (ht : t ≤ 255) : sum4 s = [(p : Int), (q : Int), (r : Int), (t : Int)] ↔ ((beK p q r t 4 : Nat) : Int) = s := by
  simp only [sum4, List.cons.injEq, and_true, beK, dig]
  omega
theorem sumB_be {zs ms : List Int} {m p q r t : Nat} (hb : Byt zs) (hn : zs.length = m + 4) (hmt : zs.take m = ms) (hd : zs.drop m = [(p : Int), (q : Int), (r : Int), (t : Int)]) (hp : p ≤ 255) (hq : q ≤ 255) (hr : r ≤ 255) (ht : t ≤ 255) : sumB zs = decide (((beK p q r t 4 : Nat) : Int) = sumOf ms) := by
  have hbm : Byt ms := by rw [← hmt]; exact hb.take m
  unfold sumB
  rw [hn, show m + 4 - 4 = m by omega, hmt]
  rw [decide_eq_decide, ← sum4_be (sumOf_lt ms hbm) hp hq hr ht]
  unfold summedOf
  conv => lhs; rw [← List.take_append_drop m zs, hmt, hd]
  exact List.append_right_inj ms
set_option maxRecDepth 100000 in
set_option maxHeartbeats 8000000 in
theorem getRecS_long (b off m cap : Nat) (zs ms : List Int) (w : World) (hn : zs.length = m + 4) (hms : rcAh zs = ms) (hml : ms.length = m) (hmt : zs.take m = ms) (hs : m + 4 ≤ 1048576) (hcap : m + 4 ≤ cap) (hr : Rd w (some ⟨b, off, none⟩) zs) (hb : Byt zs) :
    Calls Try.prog 33 #[.slice (some ⟨b, off, none⟩) (m + 4) cap] w fun e w' => RPost w.heap.size w' zs e ∧ Below w.heap.size w w' := by
  have hrm : Rd w (some ⟨b, off, none⟩) ms := by rw [← hmt]; exact hr.tk m
  have hbm : Byt ms := by rw [← hmt]; exact hb.take m
  have HO1 : Hid (rcOk zs = (sumB zs && (decide ((rcC ms).2 = some m) && recOk (rcD ms)))) := by
    show _ = _
    unfold rcOk
    rw [hms, hml, decide_eq_true (by omega)]
    rfl
  obtain ⟨p, q, r, t, hd, hp, hq, hr4, ht⟩ := listR4 (l := zs.drop m) (by rw [List.length_drop, hn]; omega) (hb.drop m)
  have HSB : Hid (sumB zs = decide (((beK p q r t 4 : Nat) : Int) = sumOf ms)) := sumB_be hb hn hmt hd hp hq hr4 ht
  have hcl : ∀ k, k < 4 → w.cell? ⟨b, off + (m + k), none⟩ = some (.int .u8 ((dig p q r t k : Nat) : Int)) := by
    intro k hk
    obtain ⟨b', off', e, _, hc⟩ := hr.lt (by intro h; rw [h] at hn; simp at hn)
    simp only [Option.some.injEq, Addr.mk.injEq, and_true] at e
    obtain ⟨rfl, rfl⟩ := e
    rw [hc (m + k) (by omega)]
    have : zs.getD (m + k) 0 = (zs.drop m).getD k 0 := by simp [List.getD_eq_getElem?_getD, List.getElem?_drop]
    rw [this, hd]
    match k, hk with
    | 0, _ => rfl
    | 1, _ => rfl
    | 2, _ => rfl
    | 3, _ => rfl
  have hdg : ∀ k, dig p q r t k ≤ 255 := by
    intro k
    match k with
    | 0 => exact hp
    | 1 => exact hq
    | 2 => exact hr4
    | k + 3 => exact ht
  have hbk : ∀ k, k < 4 → beK p q r t k < 16777216 := by
    intro k hk
    match k, hk with
    | 0, _ => simp [beK]
    | 1, _ => simp [beK, dig]; omega
    | 2, _ => simp [beK, dig]; omega
    | 3, _ => simp [beK, dig]; omega
  have hb4 : beK p q r t 4 < 4294967296 := by simp [beK, dig]; omega
  have hstep : ∀ k, beK p q r t (k + 1) = beK p q r t k * 256 + dig p q r t k := fun _ => rfl
  have CC : Hid _ := fun (W : World) (hB : Below w.heap.size w W) => specCrc_any (some ⟨b, off, none⟩) m cap ms W hml (by omega) (hrm.keep hB) hbm
  have CN : Hid _ := fun (W : World) (st : Option Nat) (h : RS W (w.heap.size + 1) (some ⟨b, off, none⟩) m cap st) (hB : Below w.heap.size w W) => l3Num_any (w.heap.size + 1) (some ⟨b, off, none⟩) m cap ms st W hml (by omega) (hrm.keep hB) hbm h
  have CT : Hid _ := fun (W : World) (st : Option Nat) (h : RS W (w.heap.size + 1) (some ⟨b, off, none⟩) m cap st) (hB : Below w.heap.size w W) => l3Text_any (w.heap.size + 1) (some ⟨b, off, none⟩) m cap ms st W hml (by omega) (by omega) (hrm.keep hB) hbm h
  have CF : Hid _ := fun (W : World) (a : Option Addr) (c : Nat) => recOkS (rcD ms) a c W (rcD_len ms (by omega))
  unfold RPost
  rw [hms]
  have B0 : Below w.heap.size w ((w.alloc (.cells #[.int .i64 0, .int .i64 0, .slice none 0 0] 46)).alloc (.cells #[.slice (some ⟨b, off, none⟩) m cap, .int .i64 0, .bool false] 84)) := ((Below.refl _ w).alloc (Nat.le_refl _) _).alloc (by simp) _
  have res0 : Blk ((w.alloc (.cells #[.int .i64 0, .int .i64 0, .slice none 0 0] 46)).alloc (.cells #[.slice (some ⟨b, off, none⟩) m cap, .int .i64 0, .bool false] 84)) w.heap.size 46 #[.int .i64 0, .int .i64 0, .slice none 0 0] := (Blk.new w _ _).alloc _
  have rs0 : RS ((w.alloc (.cells #[.int .i64 0, .int .i64 0, .slice none 0 0] 46)).alloc (.cells #[.slice (some ⟨b, off, none⟩) m cap, .int .i64 0, .bool false] 84)) (w.heap.size + 1) (some ⟨b, off, none⟩) m cap (some 0) := ⟨0, Blk.newAt (by simp), fun q hq => by cases hq; rfl⟩
  have hlt : b < w.heap.size := by
    obtain ⟨b', off', e, h1, _⟩ := hr.lt (by intro h; rw [h] at hn; simp at hn)
    simp only [Option.some.injEq, Addr.mk.injEq, and_true] at e
    omega
  have hcl0 : ∀ k, k < 4 → (w.alloc (.cells #[.int .i64 0, .int .i64 0, .slice none 0 0] 46)).cell? ⟨b, off + (m + k), none⟩ = some (.int .u8 ((dig p q r t k : Nat) : Int)) := fun k hk => by
    rw [← hcl k hk]
    exact ((Below.refl w.heap.size w).alloc (Nat.le_refl _) _).cell hlt
  generalize rcOk zs = RO at *
  generalize sumB zs = SB at *
  have HS : Hid (∀ k, beK p q r t (k + 1) = beK p q r t k * 256 + dig p q r t k) := hstep
  generalize hBK : beK p q r t = BK at *
  generalize hDG : dig p q r t = DG at *
  have hmm : ¬ (((m + 4 : Nat) : Int) - 4) < 0 := by omega
  have hm4 : ((m + 4 : Nat) : Int) - 4 = (m : Int) := by omega
  have hBK0 : BK 0 = 0 := by rw [← hBK]; rfl
  clear hn hr hb hrm hbm hmt hms hd hp hq hr4 ht hstep hBK hDG hcl
  go_enter Try.func33, Try.ntmps33
  go_wp2_with fail
  go_loop [5, 6] (fun x i => ∃ k X : Nat, k ≤ 4 ∧ i = .int .i64 ((m + k : Nat) : Int) ∧ x = .int .i64 X ∧ Hid (X = BK k)) (fun _ i => m + 4 - (intOf i).toNat)
  case atStart => exact ⟨0, 0, Nat.zero_le _, by simp, by simp, by show _ = _; rw [hBK0]⟩
  case round =>
  obtain ⟨k, X, hk, rfl, rfl, hXe⟩ := hrel
  by_cases hk4 : k < 4
  · have hcx := hcl0 k hk4
    have hlk := hbk k hk4
    have hdk := hdg k
    rw [← hXe.out] at hlk
    have hSk := HS.out k
    clear hcl0
    generalize DG k = Z at *
    have hO := or_8 X Z hlk hdk
    go_wp2
    go_round
    case rel => exact ⟨k + 1, X * 256 + Z, by omega, by go_num, val_int (by omega), by show _ = _; rw [hSk, hXe.out]⟩
    case measure => simp [intOf]; omega
  obtain rfl : k = 4 := by omega
  rw [← hXe.out] at hb4 HSB
  clear hcl0 hbk hdg HS hXe hBK0
  go_wp2_with fail
  obtain ⟨W0, hW0⟩ : ∃ W, (w.alloc (.cells #[.int .i64 0, .int .i64 0, .slice none 0 0] 46)).alloc (.cells #[.slice (some ⟨b, off, none⟩) m cap, .int .i64 0, .bool false] 84) = W := ⟨_, rfl⟩
  rw [hW0] at B0 res0 rs0 ⊢
  clear hW0
  refine (CN.out W0 (some 0) rs0 B0).mono ?_
  rintro e w1 ⟨rfl, rs1, gr1⟩
  have B1 := below_gr B0 gr1 (Nat.le_refl _) (by omega)
  have res1 := res0.kp (rs0.kpr gr1) (by decide)
  clear res0 rs0 gr1 B0
  obtain ⟨i1, hi1⟩ : ∃ i, (rdN ms (some 0)).1 = i := ⟨_, rfl⟩
  obtain ⟨s1, hs1⟩ : ∃ i, (rdN ms (some 0)).2 = i := ⟨_, rfl⟩
  rw [hi1]
  rw [hs1] at rs1
  have E1 : Hid ((rcA ms).1 = i1) := hi1
  have S1 : Hid ((rcA ms).2 = s1) := hs1
  clear hi1 hs1
  have bX : Below w1.heap.size w1 (w1.alloc (.cells #[.int .i64 (i1 : Int), .int .i64 0, .slice none 0 0] 46)) := (Below.refl _ w1).alloc (Nat.le_refl _) _
  have gb1 : GRc w (w1.alloc (.cells #[.int .i64 (i1 : Int), .int .i64 0, .slice none 0 0] 46)) w1.heap.size #[.int .i64 (i1 : Int), .int .i64 0, .slice none 0 0] := ⟨B1.alloc B1.size _, res1.alloc _, Blk.new w1 _ _, res1.lt⟩
  have rb1 := rs1.keep bX
  go_wp2_with fail
  obtain ⟨W1, hW1⟩ : ∃ W, w1.alloc (.cells #[.int .i64 (i1 : Int), .int .i64 0, .slice none 0 0] 46) = W := ⟨_, rfl⟩
  obtain ⟨Xb, hXb⟩ : ∃ X, w1.heap.size = X := ⟨_, rfl⟩
  rw [hW1] at gb1 rb1 ⊢
  rw [hXb] at gb1 ⊢
  clear hW1 bX rs1 res1 B1
  refine (CN.out W1 s1 rb1 gb1.below).mono ?_
  rintro e v2 ⟨rfl, ra2, gr2⟩
  have ga2 := gb1.kp (rb1.kpr gr2) (below_gr gb1.below gr2 (Nat.le_refl _) (by omega))
  clear gb1 rb1 gr2
  obtain ⟨i2, hi2⟩ : ∃ i, (rdN ms s1).1 = i := ⟨_, rfl⟩
  obtain ⟨s2, hs2⟩ : ∃ i, (rdN ms s1).2 = i := ⟨_, rfl⟩
  rw [hi2]
  rw [hs2] at ra2
  have E2 : Hid ((rcB ms).1 = i2) := by show _ = _; unfold rcB; rw [S1.out, hi2]
  have S2 : Hid ((rcB ms).2 = s2) := by show _ = _; unfold rcB; rw [S1.out, hs2]
  clear hi2 hs2
  have c1 := ga2.x.cell 1
  have f1 := ga2.x.frozen 1
  simp at c1
  have gb2 : GRc w (v2.setCell ⟨Xb, 1, none⟩ (.int .i64 (i2 : Int))) Xb #[.int .i64 (i1 : Int), .int .i64 (i2 : Int), .slice none 0 0] := ga2.setX 1 _
  have rb2 := ra2.setR ga2.x 1 (.int .i64 (i2 : Int))
  go_wp2_with fail
  obtain ⟨V2, hV2⟩ : ∃ W, v2.setCell ⟨Xb, 1, none⟩ (.int .i64 (i2 : Int)) = W := ⟨_, rfl⟩
  rw [hV2] at gb2 rb2 ⊢
  clear hV2 c1 f1 ga2 ra2
  refine (CT.out V2 s2 rb2 gb2.below).mono ?_
  rintro e v3 ⟨rfl, ra3, gr3⟩
  have ga3 := gb2.kp (rb2.kpr gr3) (below_gr gb2.below gr3 (Nat.le_refl _) (by omega))
  clear gb2 rb2 gr3
  obtain ⟨i3, hi3⟩ : ∃ i, (rdT ms s2).1 = i := ⟨_, rfl⟩
  obtain ⟨s3, hs3⟩ : ∃ i, (rdT ms s2).2 = i := ⟨_, rfl⟩
  rw [hi3]
  rw [hs3] at ra3
  have E3 : Hid ((rcC ms).1 = i3) := by show _ = _; unfold rcC; rw [S2.out, hi3]
  have S3 : Hid ((rcC ms).2 = s3) := by show _ = _; unfold rcC; rw [S2.out, hs3]
  clear hi3 hs3
  obtain ⟨cD, WD, hcv, oD', bD⟩ := conv_str v3 i3
  have hgD := ga3.below.size
  have raD := ra3.keep bD
  have gaD := ga3.keep bD
  have c1 := gaD.x.cell 2
  have f1 := gaD.x.frozen 2
  simp at c1
  have gb3 : GRc w (WD.setCell ⟨Xb, 2, none⟩ (.slice (some ⟨v3.heap.size, 0, none⟩) i3.size cD)) Xb #[.int .i64 (i1 : Int), .int .i64 (i2 : Int), .slice (some ⟨v3.heap.size, 0, none⟩) i3.size cD] := gaD.setX 2 _
  have rb3 := raD.setR gaD.x 2 (.slice (some ⟨v3.heap.size, 0, none⟩) i3.size cD)
  have ob3 : OwnB (WD.setCell ⟨Xb, 2, none⟩ (.slice (some ⟨v3.heap.size, 0, none⟩) i3.size cD)) v3.heap.size i3.size (strZ i3) := oD'.kp (KpT.grown (ts := [5]) (gr_setC WD Xb 2 _) gaD.x (by decide)) (by decide)
  clear ga3 ra3 bD oD' raD gaD
  go_upto_region 13 with fail
  obtain ⟨V3, hV3⟩ : ∃ W, WD.setCell ⟨Xb, 2, none⟩ (.slice (some ⟨v3.heap.size, 0, none⟩) i3.size cD) = W := ⟨_, rfl⟩
  rw [hV3] at gb3 rb3 ob3 ⊢
  clear hV3 c1 f1 hcv
  obtain ⟨G, hG⟩ : ∃ G, v3.heap.size = G := ⟨_, rfl⟩
  rw [hG] at gb3 ob3 hgD ⊢
  clear hG
  have hD := CF.out V3 (some ⟨G, 0, none⟩) cD
  obtain ⟨ok, hok⟩ : ∃ ok, recOk (rcD ms) = ok := ⟨_, rfl⟩
  rw [hok] at hD HO1
  unfold recC rcD at hD
  simp only [E1.out, E2.out, E3.out, strZ_len] at hD
  rw [S3.out] at HO1
  clear hok
  have hC := CC.out V3 gb3.below
  rw [show ((crcTo ms ^^^ 4294967295 : Nat) : Int) = sumOf ms from rfl] at hC
  generalize sumOf ms = sm at *
  obtain ⟨pp, hB6, hpp⟩ := rb3
  have b1 := hB6.cell 1
  have b2 := hB6.cell 2
  simp at b1 b2
  obtain ⟨x0, x1, x2⟩ := gb3.x.thr
  cases s3 with
  | none =>
    have HO : Hid (RO = false) := by show _ = _; rw [HO1.out]; simp
    simp at b2
    clear HO1 HSB hpp hB6 hC hD ob3
    have fz0 := gb3.res.frozen 0
    have fz1 := gb3.res.frozen 1
    have fz2 := gb3.res.frozen 2
    obtain ⟨t0, t1, t2⟩ := gb3.res.thr
    have HG : Hid _ := gb3
    clear gb3
    go_wp2
    have zf := set3_blk HG.out.res (.int .i64 0) (.int .i64 0) (.slice none 0 0)
    obtain ⟨dd0, dd1, dd2⟩ := zf.thr
    refine bodyPost_ret (v := .tuple #[.agg #[.int .i64 0, .int .i64 0, .slice none 0 0], .bool false]) (by simp [results, Try.f33, go_sem, dd0, dd1, dd2]) rfl ?_
    exact ⟨.inr ⟨HO.out, rfl⟩, below_set3 HG.out.below w.heap.size (Nat.le_refl _) (Nat.le_refl _) _ _ _⟩
  | some qq =>
    obtain rfl := hpp qq rfl
    simp at b2
    by_cases hE : pp = m
    · have hpn : ((pp : Int) != (m : Int)) = false := by simp [hE]
      subst hE
      by_cases hSM : (X : Int) = sm
      · have hxn : ((X : Int) != sm) = false := by simp [hSM]
        have hSB : SB = true := by rw [HSB.out, decide_eq_true hSM]
        subst hSB
        cases ok with
        | false =>
          have HO : Hid (RO = false) := by show _ = _; rw [HO1.out]; simp
          clear HO1 HSB hpp hB6
          go_wp2_with fail
          refine hC.mono ?_
          rintro e vE ⟨rfl, hw⟩
          obtain rfl := hw.symm
          go_wp2_with fail
          refine hD.mono ?_
          rintro e vF ⟨rfl, bF⟩
          have gbF := gb3.keep bF
          clear gb3 ob3 bF x0 x1 x2 b1 b2 hC hD
          have fz0 := gbF.res.frozen 0
          have fz1 := gbF.res.frozen 1
          have fz2 := gbF.res.frozen 2
          obtain ⟨t0, t1, t2⟩ := gbF.res.thr
          have HG : Hid _ := gbF
          clear gbF
          go_wp2
          have zf := set3_blk HG.out.res (.int .i64 0) (.int .i64 0) (.slice none 0 0)
          obtain ⟨dd0, dd1, dd2⟩ := zf.thr
          refine bodyPost_ret (v := .tuple #[.agg #[.int .i64 0, .int .i64 0, .slice none 0 0], .bool false]) (by simp [results, Try.f33, go_sem, dd0, dd1, dd2]) rfl ?_
          exact ⟨.inr ⟨HO.out, rfl⟩, below_set3 HG.out.below w.heap.size (Nat.le_refl _) (Nat.le_refl _) _ _ _⟩
        | true =>
          have HO : Hid (RO = true) := by show _ = _; rw [HO1.out]; simp
          clear HO1 HSB hpp hB6
          go_wp2_with fail
          refine hC.mono ?_
          rintro e vE ⟨rfl, hw⟩
          obtain rfl := hw.symm
          go_wp2_with fail
          refine hD.mono ?_
          rintro e vF ⟨rfl, bF⟩
          have gbF := gb3.keep bF
          have obF := ob3.keep bF
          clear gb3 ob3 bF x0 x1 x2 b1 b2 hC hD
          have fz0 := gbF.res.frozen 0
          have fz1 := gbF.res.frozen 1
          have fz2 := gbF.res.frozen 2
          obtain ⟨t0, t1, t2⟩ := gbF.res.thr
          obtain ⟨x0, x1, x2⟩ := gbF.x.thr
          have HF : Hid _ := ownB_set3 obF gbF.res (.int .i64 (i1 : Int)) (.int .i64 (i2 : Int)) (.slice (some ⟨G, 0, none⟩) i3.size cD)
          have HG : Hid _ := gbF
          clear gbF obF
          go_wp2
          have zf := set3_blk HG.out.res (.int .i64 (i1 : Int)) (.int .i64 (i2 : Int)) (.slice (some ⟨G, 0, none⟩) i3.size cD)
          obtain ⟨dd0, dd1, dd2⟩ := zf.thr
          refine bodyPost_ret (v := .tuple #[.agg #[.int .i64 (i1 : Int), .int .i64 (i2 : Int), .slice (some ⟨G, 0, none⟩) i3.size cD], .bool true]) (by simp [results, Try.f33, go_sem, dd0, dd1, dd2]) rfl ?_
          refine ⟨.inl ⟨HO.out, G, cD, by rw [E1.out, E2.out, E3.out], hgD, ?_⟩, below_set3 HG.out.below w.heap.size (Nat.le_refl _) (Nat.le_refl _) _ _ _⟩
          rw [E3.out]
          exact HF.out
      · have hxn : ((X : Int) != sm) = true := by simp [hSM]
        have HO : Hid (RO = false) := by show _ = _; rw [HO1.out, HSB.out, decide_eq_false hSM]; rfl
        clear HO1 HSB hpp hB6 hD ob3
        go_wp2_with fail
        refine hC.mono ?_
        rintro e vE ⟨rfl, hw⟩
        obtain rfl := hw.symm
        clear x0 x1 x2 b1 b2 hC
        have fz0 := gb3.res.frozen 0
        have fz1 := gb3.res.frozen 1
        have fz2 := gb3.res.frozen 2
        obtain ⟨t0, t1, t2⟩ := gb3.res.thr
        have HG : Hid _ := gb3
        clear gb3
        go_wp2
        have zf := set3_blk HG.out.res (.int .i64 0) (.int .i64 0) (.slice none 0 0)
        obtain ⟨dd0, dd1, dd2⟩ := zf.thr
        refine bodyPost_ret (v := .tuple #[.agg #[.int .i64 0, .int .i64 0, .slice none 0 0], .bool false]) (by simp [results, Try.f33, go_sem, dd0, dd1, dd2]) rfl ?_
        exact ⟨.inr ⟨HO.out, rfl⟩, below_set3 HG.out.below w.heap.size (Nat.le_refl _) (Nat.le_refl _) _ _ _⟩
    · have hpn : ((pp : Int) != (m : Int)) = true := by simp; omega
      have hpn2 : ¬ (pp : Int) = (m : Int) := by omega
      have HO : Hid (RO = false) := by show _ = _; rw [HO1.out]; simp [hE]
      clear HO1 HSB hpp hB6 hC hD ob3 hE
      have fz0 := gb3.res.frozen 0
      have fz1 := gb3.res.frozen 1
      have fz2 := gb3.res.frozen 2
      obtain ⟨t0, t1, t2⟩ := gb3.res.thr
      have HG : Hid _ := gb3
      clear gb3
      go_wp2
      have zf := set3_blk HG.out.res (.int .i64 0) (.int .i64 0) (.slice none 0 0)
      obtain ⟨dd0, dd1, dd2⟩ := zf.thr
      refine bodyPost_ret (v := .tuple #[.agg #[.int .i64 0, .int .i64 0, .slice none 0 0], .bool false]) (by simp [results, Try.f33, go_sem, dd0, dd1, dd2]) rfl ?_
      exact ⟨.inr ⟨HO.out, rfl⟩, below_set3 HG.out.below w.heap.size (Nat.le_refl _) (Nat.le_refl _) _ _ _⟩
/-- The record that is answered: the one that the bytes tell, or the zero one. -/
def rcR (zs : List Int) : RecD := if rcOk zs = true then rcD (rcAh zs) else ⟨0, 0, []⟩
theorem RPost.out {B : Nat} {w' : World} {zs : List Int} {e : Ending} (h : RPost B w' zs e) : ∃ a c, e = .returned (.tuple #[.agg (recC (rcR zs) a c), .bool (rcOk zs)]) ∧ RowB w' (.slice a (rcR zs).body.length c) (rcR zs).body.length (rcR zs).body ∧ ∀ g, (Value.slice a (rcR zs).body.length c).ownBlock = some g → B ≤ g := by
  unfold rcR
  rcases h with ⟨hok, g, c, rfl, hB, ho⟩ | ⟨hok, rfl⟩
  · rw [hok]
    have hl := ho.1
    refine ⟨some ⟨g, 0, none⟩, c, ?_, ?_, fun k hk => by simp [Value.ownBlock] at hk; omega⟩
    · simp only [if_true, recC, rcD, hl]
    · simp only [if_true, rcD, hl]
      obtain ⟨_, cur, fr, h3, h4, h5, h6⟩ := ho
      exact ⟨hl, .inr ⟨g, c, cur, fr, rfl, h3, h4, h5, .inl h6⟩⟩
  · rw [hok]
    refine ⟨none, 0, rfl, RowB.nil _, fun k hk => by simp [Value.ownBlock] at hk⟩
theorem getRecIO (a : Option Addr) (n cap : Nat) (zs : List Int) (w : World) (hn : zs.length = n) (hs : n ≤ 1048576) (hcap : n ≤ cap) (hr : Rd w a zs) (hb : Byt zs) :
    Calls Try.prog 47 #[.slice a n cap] w fun e w' => (∃ a c, e = .returned (.tuple #[.agg (recC (rcR zs) a c), .bool (rcOk zs)]) ∧ RowB w' (.slice a (rcR zs).body.length c) (rcR zs).body.length (rcR zs).body ∧ ∀ g, (Value.slice a (rcR zs).body.length c).ownBlock = some g → w.heap.size ≤ g) ∧ Below w.heap.size w w' := by
  by_cases h4 : n < 4
  · exact (getRecI_short a n cap zs w hn h4).mono fun _ _ ⟨h1, h2⟩ => ⟨h1.out, h2⟩
  · obtain ⟨b, off, rfl, _, _⟩ := hr.lt (by intro h; rw [h] at hn; simp at hn; omega)
    obtain ⟨m, rfl⟩ : ∃ m, n = m + 4 := ⟨n - 4, by omega⟩
    have hah : rcAh zs = zs.take m := by unfold rcAh; rw [hn]; rfl
    exact (getRecI_long b off m cap zs (zs.take m) w hn hah (by rw [List.length_take]; omega) rfl hs hcap hr hb).mono fun _ _ ⟨h1, h2⟩ => ⟨h1.out, h2⟩
theorem getRecSO (a : Option Addr) (n cap : Nat) (zs : List Int) (w : World) (hn : zs.length = n) (hs : n ≤ 1048576) (hcap : n ≤ cap) (hr : Rd w a zs) (hb : Byt zs) :
    Calls Try.prog 33 #[.slice a n cap] w fun e w' => (∃ a c, e = .returned (.tuple #[.agg (recC (rcR zs) a c), .bool (rcOk zs)]) ∧ RowB w' (.slice a (rcR zs).body.length c) (rcR zs).body.length (rcR zs).body ∧ ∀ g, (Value.slice a (rcR zs).body.length c).ownBlock = some g → w.heap.size ≤ g) ∧ Below w.heap.size w w' := by
  by_cases h4 : n < 4
  · exact (getRecS_short a n cap zs w hn h4).mono fun _ _ ⟨h1, h2⟩ => ⟨h1.out, h2⟩
  · obtain ⟨b, off, rfl, _, _⟩ := hr.lt (by intro h; rw [h] at hn; simp at hn; omega)
    obtain ⟨m, rfl⟩ : ∃ m, n = m + 4 := ⟨n - 4, by omega⟩
    have hah : rcAh zs = zs.take m := by unfold rcAh; rw [hn]; rfl
    exact (getRecS_long b off m cap zs (zs.take m) w hn hah (by rw [List.length_take]; omega) rfl hs hcap hr hb).mono fun _ _ ⟨h1, h2⟩ => ⟨h1.out, h2⟩
end

section
open Go.RowKit
theorem RowB.svs {w w' : World} {v : Value} {n : Nat} {zs : List Int} {F : List Nat} (h : RowB w v n zs) (k : Sv F w w') (hd : ∀ g, v.ownBlock = some g → g ∉ F) : RowB w' v n zs := h.block fun g hg => k.block g (h.at_ hg).1 (hd g hg)
end
end Go.Proofs.Ytpejfkgbfdkdnaa
