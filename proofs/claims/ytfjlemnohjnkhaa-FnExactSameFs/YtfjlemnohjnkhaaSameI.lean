/-
  Inodes compared: the program's SameInode and the specification's.
-/
import Derived.Test.YtfjlemnohjnkhaaRows
import Derived.Test.YtfjlemnohjnkhaaBase
import Derived.Test.YtfjlemnohjnkhaaName
import Derived.Test.YtfjlemnohjnkhaaPairs
import Derived.Test.YtfjlemnohjnkhaaInode
import Derived.Test.YtfjlemnohjnkhaaSzIno
import Derived.Test.YtfjlemnohjnkhaaSix
import Derived.Test.YtfjlemnohjnkhaaSameE
import Derived.Test.YtfjlemnohjnkhaaSameB
import Derived.Test.YtfjlemnohjnkhaaInoOk
import Derived.WalkKit
import Derived.WalkSpells
import Derived.WalkLawsBesides
import Derived.Deep.QuietTactic
import Derived.BigQuiet
import Derived.OpenShut
import Derived.Laws.BitsAllLaws
import Derived.Maps.AppendAt
import Derived.Lib.SliceRun
import Derived.Lib.Strings
import Derived.Deep.RegionWith
import Derived.Laws.IdiomStrings
import Derived.Deep.Slices
import Derived.ProofKit
import Derived.ChangeOld
import Derived.Below
import Derived.Laws.StructEq
import Derived.Laws.BytesString
import Derived.Deep.DeepCutAuto
namespace Go.Proofs.Ytfjlemnohjnkhaa
open Go.RowKit
/-- Both inodes are the same, part by part. -/
def sameOf (D E : InoD) : Bool := (D.ino == E.ino) && ((D.kind == E.kind) && ((D.links == E.links) && (decide (D.data = E.data) && (decide (D.ents = E.ents) && decide (D.attrs = E.attrs)))))
theorem two_boxes (w : World) (D E : InoD) (a1 a2 a3 b1 b2 b3 : Option Addr) (c1 c2 c3 d1 d2 d3 : Nat) :
    ∃ W, (w.alloc (.cells #[.int .i64 D.ino, .int .i64 D.kind, .int .i64 D.links, .slice a1 D.data.length c1, .slice a2 D.ents.length c2, .slice a3 D.attrs.length c3] 66)).alloc (.cells #[.int .i64 E.ino, .int .i64 E.kind, .int .i64 E.links, .slice b1 E.data.length d1, .slice b2 E.ents.length d2, .slice b3 E.attrs.length d3] 66) = W ∧ Below w.heap.size w W ∧ Box W w.heap.size 66 D a1 c1 a2 c2 a3 c3 ∧ Box W (w.heap.size + 1) 66 E b1 d1 b2 d2 b3 d3 := by
  refine ⟨_, rfl, ((Below.refl _ w).alloc (Nat.le_refl _) _).alloc (by simp) _, (Blk.new w 66 _).alloc _, ?_⟩
  have := Blk.new (w.alloc (.cells #[.int .i64 D.ino, .int .i64 D.kind, .int .i64 D.links, .slice a1 D.data.length c1, .slice a2 D.ents.length c2, .slice a3 D.attrs.length c3] 66)) 66 #[.int .i64 E.ino, .int .i64 E.kind, .int .i64 E.links, .slice b1 E.data.length d1, .slice b2 E.ents.length d2, .slice b3 E.attrs.length d3]
  simp only [World.size_alloc] at this
  exact this
set_option maxHeartbeats 2000000 in
theorem sameI (D E : InoD) (a1 a2 a3 b1 b2 b3 : Option Addr) (c1 c2 c3 d1 d2 d3 : Nat) (w : World) (hD : InoSmall D) (hE : InoSmall E) (hr : InoRd w D a1 a2 a3) (hr' : InoRd w E b1 b2 b3) :
    Calls Try.prog 55 #[inoV D a1 c1 a2 c2 a3 c3, inoV E b1 d1 b2 d2 b3 d3] w fun e w' => e = .returned (.bool (sameOf D E)) ∧ Below w.heap.size w w' := by
  obtain ⟨W0, hW0, B0, z0, y0⟩ := two_boxes w D E a1 a2 a3 b1 b2 b3 c1 c2 c3 d1 d2 d3
  have HW0 : Hid _ := hW0
  have i1 := hD.data
  have i2 := hD.ents
  have i3 := hD.attrs
  have j1 := hE.data
  have j2 := hE.ents
  have j3 := hE.attrs
  clear hW0
  unfold inoV
  cases h1 : (D.ino == E.ino) with
  | false =>
    have hf : Hid (sameOf D E = false) := by show _ = _; unfold sameOf; rw [h1]; rfl
    go_enter Try.func55, Try.ntmps55
    go_wp2
    go_ret
    exact ⟨ret_bool hf.out.symm, by rw [HW0.out]; exact B0⟩
  | true =>
  cases h2 : (D.kind == E.kind) with
  | false =>
    have hf : Hid (sameOf D E = false) := by show _ = _; unfold sameOf; rw [h1, h2]; rfl
    go_enter Try.func55, Try.ntmps55
    go_wp2
    go_ret
    exact ⟨ret_bool hf.out.symm, by rw [HW0.out]; exact B0⟩
  | true =>
  cases h3 : (D.links == E.links) with
  | false =>
    have hf : Hid (sameOf D E = false) := by show _ = _; unfold sameOf; rw [h1, h2, h3]; rfl
    go_enter Try.func55, Try.ntmps55
    go_wp2
    go_ret
    exact ⟨ret_bool hf.out.symm, by rw [HW0.out]; exact B0⟩
  | true =>
  have hf : Hid (sameOf D E = (decide (D.data = E.data) && (decide (D.ents = E.ents) && decide (D.attrs = E.attrs)))) := by show _ = _; unfold sameOf; rw [h1, h2, h3]; rfl
  go_enter Try.func55, Try.ntmps55
  go_wp2_with fail
  rw [HW0.out]
  refine (bytesEq_any a1 b1 _ _ c1 d1 D.data E.data W0 rfl rfl (hr.data.keep B0) (hr'.data.keep B0) hr.byt hr'.byt).mono ?_
  rintro e w1 ⟨rfl, rfl⟩
  obtain ⟨q0, q1, q2, q3, q4, q5⟩ := z0.six
  obtain ⟨p0, p1, p2, p3, p4, p5⟩ := y0.six
  cases h4 : decide (D.data = E.data) with
  | false =>
    go_wp2
    go_ret
    exact ⟨ret_bool (by rw [hf.out, h4]; rfl), B0⟩
  | true =>
  go_wp2_with fail
  refine (eqSE_any a2 b2 _ _ c2 d2 D.ents E.ents w1 rfl rfl (by omega) (by omega) (hr.ents.keep B0) (hr'.ents.keep B0)).mono ?_
  rintro e w2 ⟨rfl, hdr⟩
  have t2 : Below w1.heap.size w1 w2 := drewN_below hdr
  have B2 := B0.trans (t2.mono B0.size)
  have z2 := z0.keep t2
  have y2 := y0.keep t2
  clear q0 q1 q2 q3 q4 q5 p0 p1 p2 p3 p4 p5 hdr
  obtain ⟨q0, q1, q2, q3, q4, q5⟩ := z2.six
  obtain ⟨p0, p1, p2, p3, p4, p5⟩ := y2.six
  cases h5 : decide (D.ents = E.ents) with
  | false =>
    go_wp2
    go_ret
    exact ⟨ret_bool (by rw [hf.out, h4, h5]; rfl), B2⟩
  | true =>
  go_wp2_with fail
  refine (eqSA_any a3 b3 _ _ c3 d3 D.attrs E.attrs w2 rfl rfl (by omega) (by omega) (hr.attrs.keep B2) (hr'.attrs.keep B2)).mono ?_
  rintro e w3 ⟨rfl, hdr⟩
  have t3 : Below w2.heap.size w2 w3 := drewN_below hdr
  have B3 := B2.trans (t3.mono B2.size)
  clear hdr
  go_wp2
  go_ret
  exact ⟨ret_bool (by rw [hf.out, h4, h5]; rfl), B3⟩
end Go.Proofs.Ytfjlemnohjnkhaa
