/-
  What both GetOp functions answer.
-/
import Derived.Test.YtbnkmmgichlfbaaRows
import Derived.Test.YtbnkmmgichlfbaaBase
import Derived.Test.YtbnkmmgichlfbaaName
import Derived.Test.YtbnkmmgichlfbaaPairs
import Derived.Test.YtbnkmmgichlfbaaInode
import Derived.Test.YtbnkmmgichlfbaaSix
import Derived.Test.YtbnkmmgichlfbaaPuts
import Derived.Test.YtbnkmmgichlfbaaMarkIno
import Derived.Test.YtbnkmmgichlfbaaKept
import Derived.Test.YtbnkmmgichlfbaaMarkG
import Derived.Test.YtbnkmmgichlfbaaOpM
import Derived.Test.YtbnkmmgichlfbaaOpPut
import Derived.Test.YtbnkmmgichlfbaaMarkGI
import Derived.Test.YtbnkmmgichlfbaaOpW
import Derived.Test.YtbnkmmgichlfbaaReader
import Derived.Test.YtbnkmmgichlfbaaGetM
import Derived.Test.YtbnkmmgichlfbaaClosI
import Derived.Test.YtbnkmmgichlfbaaGetS
import Derived.Test.YtbnkmmgichlfbaaGetX
import Derived.Test.YtbnkmmgichlfbaaSpecGet
import Derived.Test.YtbnkmmgichlfbaaImplGet
import Derived.WalkKit
import Derived.WalkSpells
import Derived.WalkLawsBesides
import Derived.Deep.QuietTactic
import Derived.BigQuiet
import Derived.OpenShut
import Derived.Laws.BitsAllLaws
import Derived.Maps.AppendAt
import Derived.Lib.SliceRun
import Derived.Lib.Strings
import Derived.Deep.RegionWith
import Derived.Laws.IdiomStrings
import Derived.Deep.Slices
import Derived.ProofKit
import Derived.ChangeOld
import Derived.Below
import Derived.Deep.DeepCutAuto
import Derived.Lib.AppendStr
import Derived.Lib.ConvBytes
import Derived.Deep.RegionHeld3
import Derived.Deep.AppendLies
import Derived.Laws.StructEq
import Derived.Laws.BytesString
import Derived.Deep.CutBlock
import Derived.Deep.RegionLaw
namespace Go.Proofs.Ytbnkmmgichlfbaa
open Go.RowKit
def o1 (zs : List Int) := rdN zs (some 0)
def o2 (zs : List Int) := rdN zs (o1 zs).2
def o3 (zs : List Int) := rdT zs (o2 zs).2
def o4 (zs : List Int) := rdT zs (o3 zs).2
def o5 (zs : List Int) := rdN zs (o4 zs).2
def o6 (zs : List Int) := rdT zs (o5 zs).2
/-- The operation that the bytes tell. -/
def oD (zs : List Int) : OpD := ⟨((o1 zs).1 : Int), ((o2 zs).1 : Int), (o3 zs).1, (o4 zs).1, ((o5 zs).1 : Int), strZ (o6 zs).1⟩
/-- It is there whole, and has a kind. -/
def oOk (zs : List Int) : Bool := decide ((o6 zs).2 = some zs.length) && opOk (oD zs)
theorem oOk_iff (zs : List Int) : oOk zs = (decide ((o6 zs).2 = some zs.length) && (decide (1 ≤ ((o1 zs).1 : Int)) && decide (((o1 zs).1 : Int) ≤ 14))) := by
  have h2 : (o2 zs).1 ≤ 1000000 := rdN_le zs _
  have h5 : (o5 zs).1 ≤ 1000000 := rdN_le zs _
  unfold oOk opOk oD
  have e2 : ((o2 zs).1 : Int) ≤ 1000000 := by omega
  have e5 : ((o5 zs).1 : Int) ≤ 1000000 := by omega
  have e3 : (0 : Int) ≤ ((o2 zs).1 : Int) := by omega
  have e6 : (0 : Int) ≤ ((o5 zs).1 : Int) := by omega
  simp only [decide_eq_true e2, decide_eq_true e5, decide_eq_true e3, decide_eq_true e6, Bool.and_true]
/-- What is answered: that operation, in memory of its own, or the zero one. -/
def OPost (B : Nat) (w' : World) (zs : List Int) (e : Ending) : Prop :=
  (oOk zs = true ∧ ∃ g c, e = .returned (.tuple #[.agg #[.int .i64 ((o1 zs).1 : Int), .int .i64 ((o2 zs).1 : Int), .string (o3 zs).1, .string (o4 zs).1, .int .i64 ((o5 zs).1 : Int), .slice (some ⟨g, 0, none⟩) (o6 zs).1.size c], .bool true]) ∧ B ≤ g ∧ OwnB w' g (o6 zs).1.size (strZ (o6 zs).1)) ∨
  (oOk zs = false ∧ e = .returned (.tuple #[.agg #[.int .i64 0, .int .i64 0, .string ⟨#[]⟩, .string ⟨#[]⟩, .int .i64 0, .slice none 0 0], .bool false]))
/-- What is known while an operation is read: the answer's cell, the operation's box. -/
structure GO (w0 W : World) (X : Nat) (xs : Array Value) : Prop where
  below : Below w0.heap.size w0 W
  res : Blk W w0.heap.size 27 #[.int .i64 0, .int .i64 0, .string ⟨#[]⟩, .string ⟨#[]⟩, .int .i64 0, .slice none 0 0]
  x : Blk W X 27 xs
  hX : w0.heap.size < X
theorem GO.kp {w0 W W' : World} {X : Nat} {xs : Array Value} (h : GO w0 W X xs) (k : KpT W W' [27]) (hb : Below w0.heap.size w0 W') : GO w0 W' X xs :=
  ⟨hb, h.res.kp k (by decide), h.x.kp k (by decide), h.hX⟩
theorem GO.keep {w0 W W' : World} {X : Nat} {xs : Array Value} (h : GO w0 W X xs) (hb : Below W.heap.size W W') : GO w0 W' X xs :=
  h.kp (KpT.below hb _) (h.below.trans (hb.mono h.below.size))
theorem GO.setX {w0 W : World} {X : Nat} {xs : Array Value} (h : GO w0 W X xs) (j : Nat) (v : Value) : GO w0 (W.setCell ⟨X, j, none⟩ v) X (xs.setIfInBounds j v) :=
  ⟨h.below.setCell (p := ⟨X, j, none⟩) (Nat.le_of_lt h.hX) v, h.res.other (Nat.ne_of_lt h.hX) j v, h.x.set j v, h.hX⟩
theorem RS.kpo {W W' : World} {R : Nat} {a : Option Addr} {n cap : Nat} {st : Option Nat} (h : RS W R a n cap st) (g : W.grownBy W' (some R)) : KpT W W' [27] := by
  obtain ⟨p, hb, _⟩ := h
  exact KpT.grown g hb (by decide)
theorem RS.setO {W : World} {X R : Nat} {xs : Array Value} {a : Option Addr} {n cap : Nat} {st : Option Nat} (h : RS W R a n cap st) (hx : Blk W X 27 xs) (j : Nat) (v : Value) : RS (W.setCell ⟨X, j, none⟩ v) R a n cap st :=
  h.kp (KpT.grown (ts := [46]) (gr_setC W X j v) hx (by decide)) (by decide)
theorem RI.kpo {W W' : World} {H : Nat} {a : Option Addr} {n cap : Nat} {st : Option Nat} (h : RI W H a n cap st) (g : But W W' (some (H + 1)) (some (H + 2)) none) : KpT W W' [27] := by
  obtain ⟨p, _, b1, b2, _⟩ := h
  exact KpT.but g b1 b2 (by decide) (by decide)
theorem RI.setO {W : World} {X H : Nat} {xs : Array Value} {a : Option Addr} {n cap : Nat} {st : Option Nat} (h : RI W H a n cap st) (hx : Blk W X 27 xs) (j : Nat) (v : Value) : RI (W.setCell ⟨X, j, none⟩ v) H a n cap st :=
  h.kp (KpT.grown (ts := [22, 3, 4]) (gr_setC W X j v) hx (by decide)) (by decide) (by decide) (by decide)
theorem ownB_set6 {W : World} {H g n : Nat} {zs : List Int} {u0 u1 u2 u3 u4 u5 : Value} (h : OwnB W g n zs) (hx : Blk W H 27 #[u0, u1, u2, u3, u4, u5]) (v0 v1 v2 v3 v4 v5 : Value) : OwnB ((((((W.setCell ⟨H, 0, none⟩ v0).setCell ⟨H, 1, none⟩ v1).setCell ⟨H, 2, none⟩ v2).setCell ⟨H, 3, none⟩ v3).setCell ⟨H, 4, none⟩ v4).setCell ⟨H, 5, none⟩ v5) g n zs :=
  h.kp (KpT.grown (ts := [5]) (set6_gr W H v0 v1 v2 v3 v4 v5) hx (by decide)) (by decide)
theorem below_set6 {B : Nat} {w W : World} (h : Below B w W) (H : Nat) (hB : B ≤ H) (hw : B ≤ w.heap.size) (v0 v1 v2 v3 v4 v5 : Value) : Below B w ((((((W.setCell ⟨H, 0, none⟩ v0).setCell ⟨H, 1, none⟩ v1).setCell ⟨H, 2, none⟩ v2).setCell ⟨H, 3, none⟩ v3).setCell ⟨H, 4, none⟩ v4).setCell ⟨H, 5, none⟩ v5) :=
  below_gro h hw (set6_gr W H v0 v1 v2 v3 v4 v5) (fun k hk => by simp at hk; omega)
set_option maxRecDepth 100000 in
set_option maxHeartbeats 8000000 in
theorem getOpI (a : Option Addr) (n cap : Nat) (zs : List Int) (w : World) (hn : zs.length = n) (hs : n ≤ 1048576) (hcap : n ≤ cap) (hr : Rd w a zs) (hb : Byt zs) :
    Calls Try.prog 19 #[.slice a n cap] w fun e w' => OPost w.heap.size w' zs e ∧ Below w.heap.size w w' := by
  have CN : Hid _ := fun (W : World) (st : Option Nat) (h : RI W (w.heap.size + 1) a n cap st) (hB : Below w.heap.size w W) => num_any (w.heap.size + 1) a n cap zs st W hn (by omega) hcap (hr.keep hB) hb h
  have CT : Hid _ := fun (W : World) (st : Option Nat) (h : RI W (w.heap.size + 1) a n cap st) (hB : Below w.heap.size w W) => text_any (w.heap.size + 1) a n cap zs st W hn (by omega) hcap (hr.keep hB) hb h
  have CE : Hid _ := fun (W : World) (st : Option Nat) (h : RI W (w.heap.size + 1) a n cap st) => atEnd_any (w.heap.size + 1) a n cap st W (by omega) h
  have CF : Hid _ := fun (W : World) (D : OpD) (a : Option Addr) (c : Nat) => opFits_any D a c W
  have HN : Hid (zs.length = n) := hn
  have B0 : Below w.heap.size w (w.alloc (.cells #[.int .i64 0, .int .i64 0, .string ⟨#[]⟩, .string ⟨#[]⟩, .int .i64 0, .slice none 0 0] 27)) := (Below.refl _ w).alloc (Nat.le_refl _) _
  have res0 : Blk (w.alloc (.cells #[.int .i64 0, .int .i64 0, .string ⟨#[]⟩, .string ⟨#[]⟩, .int .i64 0, .slice none 0 0] 27)) w.heap.size 27 #[.int .i64 0, .int .i64 0, .string ⟨#[]⟩, .string ⟨#[]⟩, .int .i64 0, .slice none 0 0] := Blk.new w _ _
  have hsz0 : (w.alloc (.cells #[.int .i64 0, .int .i64 0, .string ⟨#[]⟩, .string ⟨#[]⟩, .int .i64 0, .slice none 0 0] 27)).heap.size = w.heap.size + 1 := by simp
  clear hn hr hb
  go_enter Try.func19, Try.ntmps19
  go_wp2_with fail
  obtain ⟨W0, hW0⟩ : ∃ W, w.alloc (.cells #[.int .i64 0, .int .i64 0, .string ⟨#[]⟩, .string ⟨#[]⟩, .int .i64 0, .slice none 0 0] 27) = W := ⟨_, rfl⟩
  rw [hW0] at B0 res0 hsz0 ⊢
  clear hW0
  have hRd := readingOf_any a n cap W0
  rw [hsz0] at hRd
  refine hRd.mono ?_
  rintro e w1 ⟨rfl, rs1, b1⟩
  have B1 := B0.trans (b1.mono (Nat.le_succ _))
  have res1 := res0.keep (show Below W0.heap.size W0 w1 by rw [hsz0]; exact b1)
  clear res0 B0 b1 hRd hsz0
  have bX : Below w1.heap.size w1 (w1.alloc (.cells #[.int .i64 0, .int .i64 0, .string ⟨#[]⟩, .string ⟨#[]⟩, .int .i64 0, .slice none 0 0] 27)) := (Below.refl _ w1).alloc (Nat.le_refl _) _
  have gb0 : GO w (w1.alloc (.cells #[.int .i64 0, .int .i64 0, .string ⟨#[]⟩, .string ⟨#[]⟩, .int .i64 0, .slice none 0 0] 27)) w1.heap.size #[.int .i64 0, .int .i64 0, .string ⟨#[]⟩, .string ⟨#[]⟩, .int .i64 0, .slice none 0 0] := ⟨B1.alloc B1.size _, res1.alloc _, Blk.new w1 _ _, res1.lt⟩
  have rb0 := rs1.keep bX
  go_wp2_with fail
  obtain ⟨W1, hW1⟩ : ∃ W, w1.alloc (.cells #[.int .i64 0, .int .i64 0, .string ⟨#[]⟩, .string ⟨#[]⟩, .int .i64 0, .slice none 0 0] 27) = W := ⟨_, rfl⟩
  obtain ⟨X, hX⟩ : ∃ X, w1.heap.size = X := ⟨_, rfl⟩
  rw [hW1] at gb0 rb0 ⊢
  rw [hX] at gb0 ⊢
  clear hW1 bX rs1 res1 B1
  refine (CN.out W1 (some 0) rb0 gb0.below).mono ?_
  rintro e v1 ⟨rfl, ra1, gr1⟩
  have ga1 := gb0.kp (rb0.kpo gr1) (below_but gb0.below gr1 (Nat.le_refl _) (by omega) (by omega))
  clear gb0 rb0 gr1
  obtain ⟨i1, hi1⟩ : ∃ i, (rdN zs (some 0)).1 = i := ⟨_, rfl⟩
  obtain ⟨s1, hs1⟩ : ∃ i, (rdN zs (some 0)).2 = i := ⟨_, rfl⟩
  rw [hi1]
  rw [hs1] at ra1
  have E1 : Hid ((o1 zs).1 = i1) := by show _ = _; unfold o1; rw [hi1]
  have S1 : Hid ((o1 zs).2 = s1) := by show _ = _; unfold o1; rw [hs1]
  clear hi1 hs1
  have c1 := ga1.x.cell 0
  have f1 := ga1.x.frozen 0
  simp at c1
  have gb1 : GO w (v1.setCell ⟨X, 0, none⟩ (.int .i64 (i1 : Int))) X #[.int .i64 (i1 : Int), .int .i64 0, .string ⟨#[]⟩, .string ⟨#[]⟩, .int .i64 0, .slice none 0 0] := ga1.setX 0 _
  have rb1 := ra1.setO ga1.x 0 (.int .i64 (i1 : Int))
  go_wp2_with fail
  obtain ⟨V1, hV1⟩ : ∃ W, v1.setCell ⟨X, 0, none⟩ (.int .i64 (i1 : Int)) = W := ⟨_, rfl⟩
  rw [hV1] at gb1 rb1 ⊢
  clear hV1 c1 f1 ga1 ra1
  refine (CN.out V1 s1 rb1 gb1.below).mono ?_
  rintro e v2 ⟨rfl, ra2, gr2⟩
  have ga2 := gb1.kp (rb1.kpo gr2) (below_but gb1.below gr2 (Nat.le_refl _) (by omega) (by omega))
  clear gb1 rb1 gr2
  obtain ⟨i2, hi2⟩ : ∃ i, (rdN zs s1).1 = i := ⟨_, rfl⟩
  obtain ⟨s2, hs2⟩ : ∃ i, (rdN zs s1).2 = i := ⟨_, rfl⟩
  rw [hi2]
  rw [hs2] at ra2
  have E2 : Hid ((o2 zs).1 = i2) := by show _ = _; unfold o2; rw [S1.out, hi2]
  have S2 : Hid ((o2 zs).2 = s2) := by show _ = _; unfold o2; rw [S1.out, hs2]
  clear hi2 hs2
  have c1 := ga2.x.cell 1
  have f1 := ga2.x.frozen 1
  simp at c1
  have gb2 : GO w (v2.setCell ⟨X, 1, none⟩ (.int .i64 (i2 : Int))) X #[.int .i64 (i1 : Int), .int .i64 (i2 : Int), .string ⟨#[]⟩, .string ⟨#[]⟩, .int .i64 0, .slice none 0 0] := ga2.setX 1 _
  have rb2 := ra2.setO ga2.x 1 (.int .i64 (i2 : Int))
  go_wp2_with fail
  obtain ⟨V2, hV2⟩ : ∃ W, v2.setCell ⟨X, 1, none⟩ (.int .i64 (i2 : Int)) = W := ⟨_, rfl⟩
  rw [hV2] at gb2 rb2 ⊢
  clear hV2 c1 f1 ga2 ra2
  refine (CT.out V2 s2 rb2 gb2.below).mono ?_
  rintro e v3 ⟨rfl, ra3, gr3⟩
  have ga3 := gb2.kp (rb2.kpo gr3) (below_but gb2.below gr3 (Nat.le_refl _) (by omega) (by omega))
  clear gb2 rb2 gr3
  obtain ⟨i3, hi3⟩ : ∃ i, (rdT zs s2).1 = i := ⟨_, rfl⟩
  obtain ⟨s3, hs3⟩ : ∃ i, (rdT zs s2).2 = i := ⟨_, rfl⟩
  rw [hi3]
  rw [hs3] at ra3
  have E3 : Hid ((o3 zs).1 = i3) := by show _ = _; unfold o3; rw [S2.out, hi3]
  have S3 : Hid ((o3 zs).2 = s3) := by show _ = _; unfold o3; rw [S2.out, hs3]
  clear hi3 hs3
  have c1 := ga3.x.cell 2
  have f1 := ga3.x.frozen 2
  simp at c1
  have gb3 : GO w (v3.setCell ⟨X, 2, none⟩ (.string i3)) X #[.int .i64 (i1 : Int), .int .i64 (i2 : Int), .string i3, .string ⟨#[]⟩, .int .i64 0, .slice none 0 0] := ga3.setX 2 _
  have rb3 := ra3.setO ga3.x 2 (.string i3)
  go_wp2_with fail
  obtain ⟨V3, hV3⟩ : ∃ W, v3.setCell ⟨X, 2, none⟩ (.string i3) = W := ⟨_, rfl⟩
  rw [hV3] at gb3 rb3 ⊢
  clear hV3 c1 f1 ga3 ra3
  refine (CT.out V3 s3 rb3 gb3.below).mono ?_
  rintro e v4 ⟨rfl, ra4, gr4⟩
  have ga4 := gb3.kp (rb3.kpo gr4) (below_but gb3.below gr4 (Nat.le_refl _) (by omega) (by omega))
  clear gb3 rb3 gr4
  obtain ⟨i4, hi4⟩ : ∃ i, (rdT zs s3).1 = i := ⟨_, rfl⟩
  obtain ⟨s4, hs4⟩ : ∃ i, (rdT zs s3).2 = i := ⟨_, rfl⟩
  rw [hi4]
  rw [hs4] at ra4
  have E4 : Hid ((o4 zs).1 = i4) := by show _ = _; unfold o4; rw [S3.out, hi4]
  have S4 : Hid ((o4 zs).2 = s4) := by show _ = _; unfold o4; rw [S3.out, hs4]
  clear hi4 hs4
  have c1 := ga4.x.cell 3
  have f1 := ga4.x.frozen 3
  simp at c1
  have gb4 : GO w (v4.setCell ⟨X, 3, none⟩ (.string i4)) X #[.int .i64 (i1 : Int), .int .i64 (i2 : Int), .string i3, .string i4, .int .i64 0, .slice none 0 0] := ga4.setX 3 _
  have rb4 := ra4.setO ga4.x 3 (.string i4)
  go_wp2_with fail
  obtain ⟨V4, hV4⟩ : ∃ W, v4.setCell ⟨X, 3, none⟩ (.string i4) = W := ⟨_, rfl⟩
  rw [hV4] at gb4 rb4 ⊢
  clear hV4 c1 f1 ga4 ra4
  refine (CN.out V4 s4 rb4 gb4.below).mono ?_
  rintro e v5 ⟨rfl, ra5, gr5⟩
  have ga5 := gb4.kp (rb4.kpo gr5) (below_but gb4.below gr5 (Nat.le_refl _) (by omega) (by omega))
  clear gb4 rb4 gr5
  obtain ⟨i5, hi5⟩ : ∃ i, (rdN zs s4).1 = i := ⟨_, rfl⟩
  obtain ⟨s5, hs5⟩ : ∃ i, (rdN zs s4).2 = i := ⟨_, rfl⟩
  rw [hi5]
  rw [hs5] at ra5
  have E5 : Hid ((o5 zs).1 = i5) := by show _ = _; unfold o5; rw [S4.out, hi5]
  have S5 : Hid ((o5 zs).2 = s5) := by show _ = _; unfold o5; rw [S4.out, hs5]
  clear hi5 hs5
  have c1 := ga5.x.cell 4
  have f1 := ga5.x.frozen 4
  simp at c1
  have gb5 : GO w (v5.setCell ⟨X, 4, none⟩ (.int .i64 (i5 : Int))) X #[.int .i64 (i1 : Int), .int .i64 (i2 : Int), .string i3, .string i4, .int .i64 (i5 : Int), .slice none 0 0] := ga5.setX 4 _
  have rb5 := ra5.setO ga5.x 4 (.int .i64 (i5 : Int))
  go_wp2_with fail
  obtain ⟨V5, hV5⟩ : ∃ W, v5.setCell ⟨X, 4, none⟩ (.int .i64 (i5 : Int)) = W := ⟨_, rfl⟩
  rw [hV5] at gb5 rb5 ⊢
  clear hV5 c1 f1 ga5 ra5
  refine (CT.out V5 s5 rb5 gb5.below).mono ?_
  rintro e v6 ⟨rfl, ra6, gr6⟩
  have ga6 := gb5.kp (rb5.kpo gr6) (below_but gb5.below gr6 (Nat.le_refl _) (by omega) (by omega))
  clear gb5 rb5 gr6
  obtain ⟨i6, hi6⟩ : ∃ i, (rdT zs s5).1 = i := ⟨_, rfl⟩
  obtain ⟨s6, hs6⟩ : ∃ i, (rdT zs s5).2 = i := ⟨_, rfl⟩
  rw [hi6]
  rw [hs6] at ra6
  have E6 : Hid ((o6 zs).1 = i6) := by show _ = _; unfold o6; rw [S5.out, hi6]
  have S6 : Hid ((o6 zs).2 = s6) := by show _ = _; unfold o6; rw [S5.out, hs6]
  clear hi6 hs6
  obtain ⟨cD, WD, hcv, oD', bD⟩ := conv_str v6 i6
  have hgD := ga6.below.size
  have raD := ra6.keep bD
  have gaD := ga6.keep bD
  have c1 := gaD.x.cell 5
  have f1 := gaD.x.frozen 5
  simp at c1
  have gb6 : GO w (WD.setCell ⟨X, 5, none⟩ (.slice (some ⟨v6.heap.size, 0, none⟩) i6.size cD)) X #[.int .i64 (i1 : Int), .int .i64 (i2 : Int), .string i3, .string i4, .int .i64 (i5 : Int), .slice (some ⟨v6.heap.size, 0, none⟩) i6.size cD] := gaD.setX 5 _
  have rb6 := raD.setO gaD.x 5 (.slice (some ⟨v6.heap.size, 0, none⟩) i6.size cD)
  have ob6 : OwnB (WD.setCell ⟨X, 5, none⟩ (.slice (some ⟨v6.heap.size, 0, none⟩) i6.size cD)) v6.heap.size i6.size (strZ i6) := oD'.kp (KpT.grown (ts := [5]) (gr_setC WD X 5 _) gaD.x (by decide)) (by decide)
  clear ga6 ra6 bD oD' raD gaD
  go_upto_region 9 with fail
  obtain ⟨V6, hV6⟩ : ∃ W, WD.setCell ⟨X, 5, none⟩ (.slice (some ⟨v6.heap.size, 0, none⟩) i6.size cD) = W := ⟨_, rfl⟩
  rw [hV6] at gb6 rb6 ob6 ⊢
  clear hV6 c1 f1 hcv
  obtain ⟨G, hG⟩ : ∃ G, v6.heap.size = G := ⟨_, rfl⟩
  rw [hG] at gb6 ob6 hgD ⊢
  clear hG
  have hEnd : decide ((o6 zs).2 = some zs.length) = decide (s6 = some n) := by rw [S6.out, HN.out]
  have hKind : opOk (oD zs) = (decide (1 ≤ (i1 : Int)) && decide ((i1 : Int) ≤ 14)) := by
    have h := oOk_iff zs
    have h2 : (o2 zs).1 ≤ 1000000 := rdN_le zs _
    have h5 : (o5 zs).1 ≤ 1000000 := rdN_le zs _
    have e2 : ((o2 zs).1 : Int) ≤ 1000000 := by omega
    have e5 : ((o5 zs).1 : Int) ≤ 1000000 := by omega
    have e3 : (0 : Int) ≤ ((o2 zs).1 : Int) := by omega
    have e6 : (0 : Int) ≤ ((o5 zs).1 : Int) := by omega
    unfold opOk oD
    simp only [decide_eq_true e2, decide_eq_true e5, decide_eq_true e3, decide_eq_true e6, Bool.and_true, E1.out]
  have hcE := CE.out V6 s6 rb6
  by_cases hE : s6 = some n
  · have hD := CF.out V6 (oD zs) (some ⟨G, 0, none⟩) cD
    unfold opC at hD
    rw [hKind] at hD
    unfold oD at hD
    simp only [E1.out, E2.out, E3.out, E4.out, E5.out, E6.out, strZ_len] at hD
    rw [decide_eq_true hE] at hcE
    have hE' : Hid _ := hE
    clear hE
    obtain ⟨x0, x1, x2, x3, x4, x5⟩ := gb6.x.six
    cases hK : (decide (1 ≤ (i1 : Int)) && decide ((i1 : Int) ≤ 14)) with
    | false =>
      have HO : Hid (oOk zs = false) := by show _ = _; unfold oOk; rw [hEnd, hKind, hK, decide_eq_true hE'.out]; rfl
      rw [hK] at hD
      clear hEnd hKind hK
      go_wp2_with fail
      refine hcE.mono ?_
      rintro e vE ⟨rfl, hw⟩
      obtain rfl := hw.symm
      go_wp2_with fail
      refine hD.mono ?_
      rintro e vF ⟨rfl, bF⟩
      have gbF := gb6.keep bF
      have obF := ob6.keep bF
      clear gb6 ob6 bF x0 x1 x2 x3 x4 x5 hcE hD rb6
      have fz0 := gbF.res.frozen 0
      have fz1 := gbF.res.frozen 1
      have fz2 := gbF.res.frozen 2
      have fz3 := gbF.res.frozen 3
      have fz4 := gbF.res.frozen 4
      have fz5 := gbF.res.frozen 5
      obtain ⟨t0, t1, t2, t3, t4, t5⟩ := gbF.res.six
      have HG : Hid _ := gbF
      clear gbF
      go_wp2
      have zf := set6_blk HG.out.res (.int .i64 0) (.int .i64 0) (.string ⟨#[]⟩) (.string ⟨#[]⟩) (.int .i64 0) (.slice none 0 0)
      obtain ⟨dd0, dd1, dd2, dd3, dd4, dd5⟩ := zf.six
      refine bodyPost_ret (v := .tuple #[.agg #[.int .i64 0, .int .i64 0, .string ⟨#[]⟩, .string ⟨#[]⟩, .int .i64 0, .slice none 0 0], .bool false]) (by simp [results, Try.f19, go_sem, dd0, dd1, dd2, dd3, dd4, dd5]) rfl ?_
      exact ⟨.inr ⟨HO.out, rfl⟩, below_set6 HG.out.below w.heap.size (Nat.le_refl _) (Nat.le_refl _) _ _ _ _ _ _⟩
    | true =>
      have HO : Hid (oOk zs = true) := by show _ = _; unfold oOk; rw [hEnd, hKind, hK, decide_eq_true hE'.out]; rfl
      rw [hK] at hD
      clear hEnd hKind hK
      go_wp2_with fail
      refine hcE.mono ?_
      rintro e vE ⟨rfl, hw⟩
      obtain rfl := hw.symm
      go_wp2_with fail
      refine hD.mono ?_
      rintro e vF ⟨rfl, bF⟩
      have gbF := gb6.keep bF
      have obF := ob6.keep bF
      clear gb6 ob6 bF x0 x1 x2 x3 x4 x5 hcE hD rb6
      have fz0 := gbF.res.frozen 0
      have fz1 := gbF.res.frozen 1
      have fz2 := gbF.res.frozen 2
      have fz3 := gbF.res.frozen 3
      have fz4 := gbF.res.frozen 4
      have fz5 := gbF.res.frozen 5
      obtain ⟨t0, t1, t2, t3, t4, t5⟩ := gbF.res.six
      obtain ⟨x0, x1, x2, x3, x4, x5⟩ := gbF.x.six
      have HF : Hid _ := ownB_set6 obF gbF.res (.int .i64 (i1 : Int)) (.int .i64 (i2 : Int)) (.string i3) (.string i4) (.int .i64 (i5 : Int)) (.slice (some ⟨G, 0, none⟩) i6.size cD)
      have HG : Hid _ := gbF
      clear gbF obF
      go_wp2
      have zf := set6_blk HG.out.res (.int .i64 (i1 : Int)) (.int .i64 (i2 : Int)) (.string i3) (.string i4) (.int .i64 (i5 : Int)) (.slice (some ⟨G, 0, none⟩) i6.size cD)
      obtain ⟨dd0, dd1, dd2, dd3, dd4, dd5⟩ := zf.six
      refine bodyPost_ret (v := .tuple #[.agg #[.int .i64 (i1 : Int), .int .i64 (i2 : Int), .string i3, .string i4, .int .i64 (i5 : Int), .slice (some ⟨G, 0, none⟩) i6.size cD], .bool true]) (by simp [results, Try.f19, go_sem, dd0, dd1, dd2, dd3, dd4, dd5]) rfl ?_
      refine ⟨.inl ⟨HO.out, G, cD, by rw [E1.out, E2.out, E3.out, E4.out, E5.out, E6.out], hgD, ?_⟩, below_set6 HG.out.below w.heap.size (Nat.le_refl _) (Nat.le_refl _) _ _ _ _ _ _⟩
      rw [E6.out]
      exact HF.out
  · have HO : Hid (oOk zs = false) := by show _ = _; unfold oOk; rw [hEnd, decide_eq_false hE]; rfl
    rw [decide_eq_false hE] at hcE
    clear hEnd hKind hE
    go_wp2_with fail
    refine hcE.mono ?_
    rintro e vE ⟨rfl, hw⟩
    obtain rfl := hw.symm
    clear hcE rb6 ob6
    have fz0 := gb6.res.frozen 0
    have fz1 := gb6.res.frozen 1
    have fz2 := gb6.res.frozen 2
    have fz3 := gb6.res.frozen 3
    have fz4 := gb6.res.frozen 4
    have fz5 := gb6.res.frozen 5
    obtain ⟨t0, t1, t2, t3, t4, t5⟩ := gb6.res.six
    have HG : Hid _ := gb6
    clear gb6
    go_wp2
    have zf := set6_blk HG.out.res (.int .i64 0) (.int .i64 0) (.string ⟨#[]⟩) (.string ⟨#[]⟩) (.int .i64 0) (.slice none 0 0)
    obtain ⟨dd0, dd1, dd2, dd3, dd4, dd5⟩ := zf.six
    refine bodyPost_ret (v := .tuple #[.agg #[.int .i64 0, .int .i64 0, .string ⟨#[]⟩, .string ⟨#[]⟩, .int .i64 0, .slice none 0 0], .bool false]) (by simp [results, Try.f19, go_sem, dd0, dd1, dd2, dd3, dd4, dd5]) rfl ?_
    exact ⟨.inr ⟨HO.out, rfl⟩, below_set6 HG.out.below w.heap.size (Nat.le_refl _) (Nat.le_refl _) _ _ _ _ _ _⟩
set_option maxRecDepth 100000 in
set_option maxHeartbeats 8000000 in
theorem getOpS (a : Option Addr) (n cap : Nat) (zs : List Int) (w : World) (hn : zs.length = n) (hs : n ≤ 1048576) (hcap : n ≤ cap) (hr : Rd w a zs) (hb : Byt zs) :
    Calls Try.prog 17 #[.slice a n cap] w fun e w' => OPost w.heap.size w' zs e ∧ Below w.heap.size w w' := by
  have CN : Hid _ := fun (W : World) (st : Option Nat) (h : RS W (w.heap.size + 1) a n cap st) (hB : Below w.heap.size w W) => l3Num_any (w.heap.size + 1) a n cap zs st W hn (by omega) (hr.keep hB) hb h
  have CT : Hid _ := fun (W : World) (st : Option Nat) (h : RS W (w.heap.size + 1) a n cap st) (hB : Below w.heap.size w W) => l3Text_any (w.heap.size + 1) a n cap zs st W hn (by omega) hcap (hr.keep hB) hb h
  have HN : Hid (zs.length = n) := hn
  have B0 : Below w.heap.size w ((w.alloc (.cells #[.int .i64 0, .int .i64 0, .string ⟨#[]⟩, .string ⟨#[]⟩, .int .i64 0, .slice none 0 0] 27)).alloc (.cells #[.slice a n cap, .int .i64 0, .bool false] 46)) := ((Below.refl _ w).alloc (Nat.le_refl _) _).alloc (by simp) _
  have res0 : Blk ((w.alloc (.cells #[.int .i64 0, .int .i64 0, .string ⟨#[]⟩, .string ⟨#[]⟩, .int .i64 0, .slice none 0 0] 27)).alloc (.cells #[.slice a n cap, .int .i64 0, .bool false] 46)) w.heap.size 27 #[.int .i64 0, .int .i64 0, .string ⟨#[]⟩, .string ⟨#[]⟩, .int .i64 0, .slice none 0 0] := (Blk.new w _ _).alloc _
  have rs0 : RS ((w.alloc (.cells #[.int .i64 0, .int .i64 0, .string ⟨#[]⟩, .string ⟨#[]⟩, .int .i64 0, .slice none 0 0] 27)).alloc (.cells #[.slice a n cap, .int .i64 0, .bool false] 46)) (w.heap.size + 1) a n cap (some 0) := ⟨0, Blk.newAt (by simp), fun q hq => by cases hq; rfl⟩
  clear hn hr hb
  go_enter Try.func17, Try.ntmps17
  go_wp2_with fail
  obtain ⟨W0, hW0⟩ : ∃ W, (w.alloc (.cells #[.int .i64 0, .int .i64 0, .string ⟨#[]⟩, .string ⟨#[]⟩, .int .i64 0, .slice none 0 0] 27)).alloc (.cells #[.slice a n cap, .int .i64 0, .bool false] 46) = W := ⟨_, rfl⟩
  rw [hW0] at B0 res0 rs0 ⊢
  clear hW0
  refine (CN.out W0 (some 0) rs0 B0).mono ?_
  rintro e w1 ⟨rfl, rs1, gr1⟩
  have B1 := below_gr B0 gr1 (Nat.le_refl _) (by omega)
  have res1 := res0.kp (rs0.kpo gr1) (by decide)
  clear res0 rs0 gr1 B0
  obtain ⟨i1, hi1⟩ : ∃ i, (rdN zs (some 0)).1 = i := ⟨_, rfl⟩
  obtain ⟨s1, hs1⟩ : ∃ i, (rdN zs (some 0)).2 = i := ⟨_, rfl⟩
  rw [hi1]
  rw [hs1] at rs1
  have E1 : Hid ((o1 zs).1 = i1) := hi1
  have S1 : Hid ((o1 zs).2 = s1) := hs1
  clear hi1 hs1
  have bX : Below w1.heap.size w1 (w1.alloc (.cells #[.int .i64 (i1 : Int), .int .i64 0, .string ⟨#[]⟩, .string ⟨#[]⟩, .int .i64 0, .slice none 0 0] 27)) := (Below.refl _ w1).alloc (Nat.le_refl _) _
  have gb1 : GO w (w1.alloc (.cells #[.int .i64 (i1 : Int), .int .i64 0, .string ⟨#[]⟩, .string ⟨#[]⟩, .int .i64 0, .slice none 0 0] 27)) w1.heap.size #[.int .i64 (i1 : Int), .int .i64 0, .string ⟨#[]⟩, .string ⟨#[]⟩, .int .i64 0, .slice none 0 0] := ⟨B1.alloc B1.size _, res1.alloc _, Blk.new w1 _ _, res1.lt⟩
  have rb1 := rs1.keep bX
  go_wp2_with fail
  obtain ⟨W1, hW1⟩ : ∃ W, w1.alloc (.cells #[.int .i64 (i1 : Int), .int .i64 0, .string ⟨#[]⟩, .string ⟨#[]⟩, .int .i64 0, .slice none 0 0] 27) = W := ⟨_, rfl⟩
  obtain ⟨X, hX⟩ : ∃ X, w1.heap.size = X := ⟨_, rfl⟩
  rw [hW1] at gb1 rb1 ⊢
  rw [hX] at gb1 ⊢
  clear hW1 bX rs1 res1 B1
  refine (CN.out W1 s1 rb1 gb1.below).mono ?_
  rintro e v2 ⟨rfl, ra2, gr2⟩
  have ga2 := gb1.kp (rb1.kpo gr2) (below_gr gb1.below gr2 (Nat.le_refl _) (by omega))
  clear gb1 rb1 gr2
  obtain ⟨i2, hi2⟩ : ∃ i, (rdN zs s1).1 = i := ⟨_, rfl⟩
  obtain ⟨s2, hs2⟩ : ∃ i, (rdN zs s1).2 = i := ⟨_, rfl⟩
  rw [hi2]
  rw [hs2] at ra2
  have E2 : Hid ((o2 zs).1 = i2) := by show _ = _; unfold o2; rw [S1.out, hi2]
  have S2 : Hid ((o2 zs).2 = s2) := by show _ = _; unfold o2; rw [S1.out, hs2]
  clear hi2 hs2
  have c1 := ga2.x.cell 1
  have f1 := ga2.x.frozen 1
  simp at c1
  have gb2 : GO w (v2.setCell ⟨X, 1, none⟩ (.int .i64 (i2 : Int))) X #[.int .i64 (i1 : Int), .int .i64 (i2 : Int), .string ⟨#[]⟩, .string ⟨#[]⟩, .int .i64 0, .slice none 0 0] := ga2.setX 1 _
  have rb2 := ra2.setO ga2.x 1 (.int .i64 (i2 : Int))
  go_wp2_with fail
  obtain ⟨V2, hV2⟩ : ∃ W, v2.setCell ⟨X, 1, none⟩ (.int .i64 (i2 : Int)) = W := ⟨_, rfl⟩
  rw [hV2] at gb2 rb2 ⊢
  clear hV2 c1 f1 ga2 ra2
  refine (CT.out V2 s2 rb2 gb2.below).mono ?_
  rintro e v3 ⟨rfl, ra3, gr3⟩
  have ga3 := gb2.kp (rb2.kpo gr3) (below_gr gb2.below gr3 (Nat.le_refl _) (by omega))
  clear gb2 rb2 gr3
  obtain ⟨i3, hi3⟩ : ∃ i, (rdT zs s2).1 = i := ⟨_, rfl⟩
  obtain ⟨s3, hs3⟩ : ∃ i, (rdT zs s2).2 = i := ⟨_, rfl⟩
  rw [hi3]
  rw [hs3] at ra3
  have E3 : Hid ((o3 zs).1 = i3) := by show _ = _; unfold o3; rw [S2.out, hi3]
  have S3 : Hid ((o3 zs).2 = s3) := by show _ = _; unfold o3; rw [S2.out, hs3]
  clear hi3 hs3
  have c1 := ga3.x.cell 2
  have f1 := ga3.x.frozen 2
  simp at c1
  have gb3 : GO w (v3.setCell ⟨X, 2, none⟩ (.string i3)) X #[.int .i64 (i1 : Int), .int .i64 (i2 : Int), .string i3, .string ⟨#[]⟩, .int .i64 0, .slice none 0 0] := ga3.setX 2 _
  have rb3 := ra3.setO ga3.x 2 (.string i3)
  go_wp2_with fail
  obtain ⟨V3, hV3⟩ : ∃ W, v3.setCell ⟨X, 2, none⟩ (.string i3) = W := ⟨_, rfl⟩
  rw [hV3] at gb3 rb3 ⊢
  clear hV3 c1 f1 ga3 ra3
  refine (CT.out V3 s3 rb3 gb3.below).mono ?_
  rintro e v4 ⟨rfl, ra4, gr4⟩
  have ga4 := gb3.kp (rb3.kpo gr4) (below_gr gb3.below gr4 (Nat.le_refl _) (by omega))
  clear gb3 rb3 gr4
  obtain ⟨i4, hi4⟩ : ∃ i, (rdT zs s3).1 = i := ⟨_, rfl⟩
  obtain ⟨s4, hs4⟩ : ∃ i, (rdT zs s3).2 = i := ⟨_, rfl⟩
  rw [hi4]
  rw [hs4] at ra4
  have E4 : Hid ((o4 zs).1 = i4) := by show _ = _; unfold o4; rw [S3.out, hi4]
  have S4 : Hid ((o4 zs).2 = s4) := by show _ = _; unfold o4; rw [S3.out, hs4]
  clear hi4 hs4
  have c1 := ga4.x.cell 3
  have f1 := ga4.x.frozen 3
  simp at c1
  have gb4 : GO w (v4.setCell ⟨X, 3, none⟩ (.string i4)) X #[.int .i64 (i1 : Int), .int .i64 (i2 : Int), .string i3, .string i4, .int .i64 0, .slice none 0 0] := ga4.setX 3 _
  have rb4 := ra4.setO ga4.x 3 (.string i4)
  go_wp2_with fail
  obtain ⟨V4, hV4⟩ : ∃ W, v4.setCell ⟨X, 3, none⟩ (.string i4) = W := ⟨_, rfl⟩
  rw [hV4] at gb4 rb4 ⊢
  clear hV4 c1 f1 ga4 ra4
  refine (CN.out V4 s4 rb4 gb4.below).mono ?_
  rintro e v5 ⟨rfl, ra5, gr5⟩
  have ga5 := gb4.kp (rb4.kpo gr5) (below_gr gb4.below gr5 (Nat.le_refl _) (by omega))
  clear gb4 rb4 gr5
  obtain ⟨i5, hi5⟩ : ∃ i, (rdN zs s4).1 = i := ⟨_, rfl⟩
  obtain ⟨s5, hs5⟩ : ∃ i, (rdN zs s4).2 = i := ⟨_, rfl⟩
  rw [hi5]
  rw [hs5] at ra5
  have E5 : Hid ((o5 zs).1 = i5) := by show _ = _; unfold o5; rw [S4.out, hi5]
  have S5 : Hid ((o5 zs).2 = s5) := by show _ = _; unfold o5; rw [S4.out, hs5]
  clear hi5 hs5
  have c1 := ga5.x.cell 4
  have f1 := ga5.x.frozen 4
  simp at c1
  have gb5 : GO w (v5.setCell ⟨X, 4, none⟩ (.int .i64 (i5 : Int))) X #[.int .i64 (i1 : Int), .int .i64 (i2 : Int), .string i3, .string i4, .int .i64 (i5 : Int), .slice none 0 0] := ga5.setX 4 _
  have rb5 := ra5.setO ga5.x 4 (.int .i64 (i5 : Int))
  go_wp2_with fail
  obtain ⟨V5, hV5⟩ : ∃ W, v5.setCell ⟨X, 4, none⟩ (.int .i64 (i5 : Int)) = W := ⟨_, rfl⟩
  rw [hV5] at gb5 rb5 ⊢
  clear hV5 c1 f1 ga5 ra5
  refine (CT.out V5 s5 rb5 gb5.below).mono ?_
  rintro e v6 ⟨rfl, ra6, gr6⟩
  have ga6 := gb5.kp (rb5.kpo gr6) (below_gr gb5.below gr6 (Nat.le_refl _) (by omega))
  clear gb5 rb5 gr6
  obtain ⟨i6, hi6⟩ : ∃ i, (rdT zs s5).1 = i := ⟨_, rfl⟩
  obtain ⟨s6, hs6⟩ : ∃ i, (rdT zs s5).2 = i := ⟨_, rfl⟩
  rw [hi6]
  rw [hs6] at ra6
  have E6 : Hid ((o6 zs).1 = i6) := by show _ = _; unfold o6; rw [S5.out, hi6]
  have S6 : Hid ((o6 zs).2 = s6) := by show _ = _; unfold o6; rw [S5.out, hs6]
  clear hi6 hs6
  obtain ⟨cD, WD, hcv, oD', bD⟩ := conv_str v6 i6
  have hgD := ga6.below.size
  have raD := ra6.keep bD
  have gaD := ga6.keep bD
  have c1 := gaD.x.cell 5
  have f1 := gaD.x.frozen 5
  simp at c1
  have gb6 : GO w (WD.setCell ⟨X, 5, none⟩ (.slice (some ⟨v6.heap.size, 0, none⟩) i6.size cD)) X #[.int .i64 (i1 : Int), .int .i64 (i2 : Int), .string i3, .string i4, .int .i64 (i5 : Int), .slice (some ⟨v6.heap.size, 0, none⟩) i6.size cD] := gaD.setX 5 _
  have rb6 := raD.setO gaD.x 5 (.slice (some ⟨v6.heap.size, 0, none⟩) i6.size cD)
  have ob6 : OwnB (WD.setCell ⟨X, 5, none⟩ (.slice (some ⟨v6.heap.size, 0, none⟩) i6.size cD)) v6.heap.size i6.size (strZ i6) := oD'.kp (KpT.grown (ts := [5]) (gr_setC WD X 5 _) gaD.x (by decide)) (by decide)
  clear ga6 ra6 bD oD' raD gaD
  go_upto_region 8 with fail
  obtain ⟨V6, hV6⟩ : ∃ W, WD.setCell ⟨X, 5, none⟩ (.slice (some ⟨v6.heap.size, 0, none⟩) i6.size cD) = W := ⟨_, rfl⟩
  rw [hV6] at gb6 rb6 ob6 ⊢
  clear hV6 c1 f1 hcv
  obtain ⟨G, hG⟩ : ∃ G, v6.heap.size = G := ⟨_, rfl⟩
  rw [hG] at gb6 ob6 hgD ⊢
  clear hG
  have hEnd : decide ((o6 zs).2 = some zs.length) = decide (s6 = some n) := by rw [S6.out, HN.out]
  have hKind : opOk (oD zs) = (decide (1 ≤ (i1 : Int)) && decide ((i1 : Int) ≤ 14)) := by
    have h := oOk_iff zs
    have h2 : (o2 zs).1 ≤ 1000000 := rdN_le zs _
    have h5 : (o5 zs).1 ≤ 1000000 := rdN_le zs _
    have e2 : ((o2 zs).1 : Int) ≤ 1000000 := by omega
    have e5 : ((o5 zs).1 : Int) ≤ 1000000 := by omega
    have e3 : (0 : Int) ≤ ((o2 zs).1 : Int) := by omega
    have e6 : (0 : Int) ≤ ((o5 zs).1 : Int) := by omega
    unfold opOk oD
    simp only [decide_eq_true e2, decide_eq_true e5, decide_eq_true e3, decide_eq_true e6, Bool.and_true, E1.out]
  obtain ⟨p, hB6, hp⟩ := rb6
  have b1 := hB6.cell 1
  have b2 := hB6.cell 2
  simp at b1 b2
  have cI := fun W => l1In_any (i1 : Int) 1 14 W
  obtain ⟨x0, x1, x2, x3, x4, x5⟩ := gb6.x.six
  cases s6 with
  | none =>
    have HO : Hid (oOk zs = false) := by show _ = _; unfold oOk; rw [hEnd]; rfl
    simp at b2
    clear hEnd hKind hp cI hB6
    have fz0 := gb6.res.frozen 0
    have fz1 := gb6.res.frozen 1
    have fz2 := gb6.res.frozen 2
    have fz3 := gb6.res.frozen 3
    have fz4 := gb6.res.frozen 4
    have fz5 := gb6.res.frozen 5
    obtain ⟨t0, t1, t2, t3, t4, t5⟩ := gb6.res.six
    have HG : Hid _ := gb6
    clear gb6
    go_wp2
    have zf := set6_blk HG.out.res (.int .i64 0) (.int .i64 0) (.string ⟨#[]⟩) (.string ⟨#[]⟩) (.int .i64 0) (.slice none 0 0)
    obtain ⟨dd0, dd1, dd2, dd3, dd4, dd5⟩ := zf.six
    refine bodyPost_ret (v := .tuple #[.agg #[.int .i64 0, .int .i64 0, .string ⟨#[]⟩, .string ⟨#[]⟩, .int .i64 0, .slice none 0 0], .bool false]) (by simp [results, Try.f17, go_sem, dd0, dd1, dd2, dd3, dd4, dd5]) rfl ?_
    exact ⟨.inr ⟨HO.out, rfl⟩, below_set6 HG.out.below w.heap.size (Nat.le_refl _) (Nat.le_refl _) _ _ _ _ _ _⟩
  | some q =>
    obtain rfl := hp q rfl
    simp at b2
    by_cases hE : p = n
    · have hpn : ((p : Int) != (n : Int)) = false := by simp [hE]
      subst hE
      cases hK : (decide (1 ≤ (i1 : Int)) && decide ((i1 : Int) ≤ 14)) with
      | false =>
        have HO : Hid (oOk zs = false) := by show _ = _; unfold oOk; rw [hEnd, hKind, hK]; simp
        rw [hK] at cI
        clear hEnd hKind hK hp hB6
        go_wp2_with fail
        refine (cI _).mono ?_
        rintro e vE ⟨rfl, hw⟩
        obtain rfl := hw.symm
        clear x0 x1 x2 x3 x4 x5 b1 b2 cI
        have fz0 := gb6.res.frozen 0
        have fz1 := gb6.res.frozen 1
        have fz2 := gb6.res.frozen 2
        have fz3 := gb6.res.frozen 3
        have fz4 := gb6.res.frozen 4
        have fz5 := gb6.res.frozen 5
        obtain ⟨t0, t1, t2, t3, t4, t5⟩ := gb6.res.six
        have HG : Hid _ := gb6
        clear gb6
        go_wp2
        have zf := set6_blk HG.out.res (.int .i64 0) (.int .i64 0) (.string ⟨#[]⟩) (.string ⟨#[]⟩) (.int .i64 0) (.slice none 0 0)
        obtain ⟨dd0, dd1, dd2, dd3, dd4, dd5⟩ := zf.six
        refine bodyPost_ret (v := .tuple #[.agg #[.int .i64 0, .int .i64 0, .string ⟨#[]⟩, .string ⟨#[]⟩, .int .i64 0, .slice none 0 0], .bool false]) (by simp [results, Try.f17, go_sem, dd0, dd1, dd2, dd3, dd4, dd5]) rfl ?_
        exact ⟨.inr ⟨HO.out, rfl⟩, below_set6 HG.out.below w.heap.size (Nat.le_refl _) (Nat.le_refl _) _ _ _ _ _ _⟩
      | true =>
        have HO : Hid (oOk zs = true) := by show _ = _; unfold oOk; rw [hEnd, hKind, hK]; simp
        rw [hK] at cI
        clear hEnd hKind hK hp hB6
        go_wp2_with fail
        refine (cI _).mono ?_
        rintro e vE ⟨rfl, hw⟩
        obtain rfl := hw.symm
        clear x0 x1 x2 x3 x4 x5 b1 b2 cI
        have fz0 := gb6.res.frozen 0
        have fz1 := gb6.res.frozen 1
        have fz2 := gb6.res.frozen 2
        have fz3 := gb6.res.frozen 3
        have fz4 := gb6.res.frozen 4
        have fz5 := gb6.res.frozen 5
        obtain ⟨t0, t1, t2, t3, t4, t5⟩ := gb6.res.six
        obtain ⟨x0, x1, x2, x3, x4, x5⟩ := gb6.x.six
        have HF : Hid _ := ownB_set6 ob6 gb6.res (.int .i64 (i1 : Int)) (.int .i64 (i2 : Int)) (.string i3) (.string i4) (.int .i64 (i5 : Int)) (.slice (some ⟨G, 0, none⟩) i6.size cD)
        have HG : Hid _ := gb6
        clear gb6 ob6
        go_wp2
        have zf := set6_blk HG.out.res (.int .i64 (i1 : Int)) (.int .i64 (i2 : Int)) (.string i3) (.string i4) (.int .i64 (i5 : Int)) (.slice (some ⟨G, 0, none⟩) i6.size cD)
        obtain ⟨dd0, dd1, dd2, dd3, dd4, dd5⟩ := zf.six
        refine bodyPost_ret (v := .tuple #[.agg #[.int .i64 (i1 : Int), .int .i64 (i2 : Int), .string i3, .string i4, .int .i64 (i5 : Int), .slice (some ⟨G, 0, none⟩) i6.size cD], .bool true]) (by simp [results, Try.f17, go_sem, dd0, dd1, dd2, dd3, dd4, dd5]) rfl ?_
        refine ⟨.inl ⟨HO.out, G, cD, by rw [E1.out, E2.out, E3.out, E4.out, E5.out, E6.out], hgD, ?_⟩, below_set6 HG.out.below w.heap.size (Nat.le_refl _) (Nat.le_refl _) _ _ _ _ _ _⟩
        rw [E6.out]
        exact HF.out
    · have hpn : ((p : Int) != (n : Int)) = true := by simp; omega
      have hpn2 : ¬ (p : Int) = (n : Int) := by omega
      have HO : Hid (oOk zs = false) := by show _ = _; unfold oOk; rw [hEnd]; simp [hE]
      clear hEnd hKind hp hB6 cI hE
      have fz0 := gb6.res.frozen 0
      have fz1 := gb6.res.frozen 1
      have fz2 := gb6.res.frozen 2
      have fz3 := gb6.res.frozen 3
      have fz4 := gb6.res.frozen 4
      have fz5 := gb6.res.frozen 5
      obtain ⟨t0, t1, t2, t3, t4, t5⟩ := gb6.res.six
      have HG : Hid _ := gb6
      clear gb6
      go_wp2
      have zf := set6_blk HG.out.res (.int .i64 0) (.int .i64 0) (.string ⟨#[]⟩) (.string ⟨#[]⟩) (.int .i64 0) (.slice none 0 0)
      obtain ⟨dd0, dd1, dd2, dd3, dd4, dd5⟩ := zf.six
      refine bodyPost_ret (v := .tuple #[.agg #[.int .i64 0, .int .i64 0, .string ⟨#[]⟩, .string ⟨#[]⟩, .int .i64 0, .slice none 0 0], .bool false]) (by simp [results, Try.f17, go_sem, dd0, dd1, dd2, dd3, dd4, dd5]) rfl ?_
      exact ⟨.inr ⟨HO.out, rfl⟩, below_set6 HG.out.below w.heap.size (Nat.le_refl _) (Nat.le_refl _) _ _ _ _ _ _⟩
/-- The operation that is answered: the one that the bytes tell, or the zero one. -/
def oR (zs : List Int) : OpD := if oOk zs = true then oD zs else ⟨0, 0, ⟨#[]⟩, ⟨#[]⟩, 0, []⟩
theorem oR_len (zs : List Int) (h : zs.length ≤ 1048576) : (oR zs).data.length ≤ 1048576 := by
  unfold oR
  split
  · show (strZ _).length ≤ _
    rw [strZ_len]
    have := rdT_size zs (o5 zs).2
    unfold o6
    omega
  · simp
theorem OPost.out {B : Nat} {w' : World} {zs : List Int} {e : Ending} (h : OPost B w' zs e) : ∃ a c, e = .returned (.tuple #[.agg (opC (oR zs) a c), .bool (oOk zs)]) ∧ RowB w' (.slice a (oR zs).data.length c) (oR zs).data.length (oR zs).data ∧ ∀ g, (Value.slice a (oR zs).data.length c).ownBlock = some g → B ≤ g := by
  unfold oR
  rcases h with ⟨hok, g, c, rfl, hB, ho⟩ | ⟨hok, rfl⟩
  · rw [hok]
    have hl := ho.1
    refine ⟨some ⟨g, 0, none⟩, c, ?_, ?_, fun k hk => by simp [Value.ownBlock] at hk; omega⟩
    · simp only [if_true, opC, oD, hl]
    · simp only [if_true, oD, hl]
      obtain ⟨_, cur, fr, h3, h4, h5, h6⟩ := ho
      exact ⟨hl, .inr ⟨g, c, cur, fr, rfl, h3, h4, h5, .inl h6⟩⟩
  · rw [hok]
    refine ⟨none, 0, rfl, RowB.nil _, fun k hk => by simp [Value.ownBlock] at hk⟩
theorem getOpIO (a : Option Addr) (n cap : Nat) (zs : List Int) (w : World) (hn : zs.length = n) (hs : n ≤ 1048576) (hcap : n ≤ cap) (hr : Rd w a zs) (hb : Byt zs) :
    Calls Try.prog 19 #[.slice a n cap] w fun e w' => (∃ a c, e = .returned (.tuple #[.agg (opC (oR zs) a c), .bool (oOk zs)]) ∧ RowB w' (.slice a (oR zs).data.length c) (oR zs).data.length (oR zs).data ∧ ∀ g, (Value.slice a (oR zs).data.length c).ownBlock = some g → w.heap.size ≤ g) ∧ Below w.heap.size w w' :=
  (getOpI a n cap zs w hn hs hcap hr hb).mono fun _ _ ⟨h1, h2⟩ => ⟨h1.out, h2⟩
theorem getOpSO (a : Option Addr) (n cap : Nat) (zs : List Int) (w : World) (hn : zs.length = n) (hs : n ≤ 1048576) (hcap : n ≤ cap) (hr : Rd w a zs) (hb : Byt zs) :
    Calls Try.prog 17 #[.slice a n cap] w fun e w' => (∃ a c, e = .returned (.tuple #[.agg (opC (oR zs) a c), .bool (oOk zs)]) ∧ RowB w' (.slice a (oR zs).data.length c) (oR zs).data.length (oR zs).data ∧ ∀ g, (Value.slice a (oR zs).data.length c).ownBlock = some g → w.heap.size ≤ g) ∧ Below w.heap.size w w' :=
  (getOpS a n cap zs w hn hs hcap hr hb).mono fun _ _ ⟨h1, h2⟩ => ⟨h1.out, h2⟩
end Go.Proofs.Ytbnkmmgichlfbaa
