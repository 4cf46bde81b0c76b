/-
  Joined: Trunc6, TruncI, ChgTruncate, WrapI, TruncT, UsageS, UsageI, BigW.
-/
import Derived.Test.YtbjfihabkpianaaGreatDoorJ00E
import Derived.Test.YtbjfihabkpianaaGreatDoorJ01E
import Derived.Test.YtbjfihabkpianaaGreatDoorJ02E
import Derived.Test.YtbjfihabkpianaaGreatDoorJ03E
import Derived.Test.YtbjfihabkpianaaGreatDoorJ04E
import Derived.Test.YtbjfihabkpianaaGreatDoorCopyIE
import Derived.Test.YtbjfihabkpianaaGreatDoorJ06E
import Derived.Test.YtbjfihabkpianaaGreatDoorJ07E
import Derived.Test.YtbjfihabkpianaaGreatDoorJ08E
import Derived.Test.YtbjfihabkpianaaGreatDoorEntsOkE
import Derived.Test.YtbjfihabkpianaaGreatDoorAttsOkE
import Derived.Test.YtbjfihabkpianaaGreatDoorAscIE
import Derived.Test.YtbjfihabkpianaaGreatDoorAscTE
import Derived.Test.YtbjfihabkpianaaGreatDoorInoOkE
import Derived.Test.YtbjfihabkpianaaGreatDoorAscAE
import Derived.Test.YtbjfihabkpianaaGreatDoorJ15E
import Derived.Test.YtbjfihabkpianaaGreatDoorTabOkSE
import Derived.Test.YtbjfihabkpianaaGreatDoorJ17E
import Derived.Test.YtbjfihabkpianaaGreatDoorNext7E
import Derived.Test.YtbjfihabkpianaaGreatDoorJ19E
import Derived.Test.YtbjfihabkpianaaGreatDoorTreeSE
import Derived.Test.YtbjfihabkpianaaGreatDoorJ21E
import Derived.Test.YtbjfihabkpianaaGreatDoorSetSE
import Derived.Test.YtbjfihabkpianaaGreatDoorJ23E
import Derived.Test.YtbjfihabkpianaaGreatDoorJ24E
import Derived.Test.YtbjfihabkpianaaGreatDoorJ25E
import Derived.Test.YtbjfihabkpianaaGreatDoorJ26E
import Derived.Test.YtbjfihabkpianaaGreatDoorJ27E
import Derived.Test.YtbjfihabkpianaaGreatDoorJ28E
import Derived.Test.YtbjfihabkpianaaGreatDoorSetIE
import Derived.Test.YtbjfihabkpianaaGreatDoorJ30E
import Derived.Test.YtbjfihabkpianaaGreatDoorJ31E
import Derived.Test.YtbjfihabkpianaaGreatDoorJ32E
import Derived.Test.YtbjfihabkpianaaGreatDoorDraw3E
import Derived.Test.YtbjfihabkpianaaGreatDoorJ34E
import Derived.Test.YtbjfihabkpianaaGreatDoorJ35E
import Derived.Test.YtbjfihabkpianaaGreatDoorJ36E
import Derived.Test.YtbjfihabkpianaaGreatDoorJ37E
import Derived.Test.YtbjfihabkpianaaGreatDoorGrownWE
import Derived.Test.YtbjfihabkpianaaGreatDoorJ40E
import Derived.WalkKit
import Derived.WalkSpells
import Derived.WalkLawsBesides
import Derived.Deep.QuietTactic
import Derived.BigQuiet
import Derived.OpenShut
import Derived.Laws.BitsAllLaws
import Derived.Maps.AppendAt
import Derived.Lib.SliceRun
import Derived.Lib.Strings
import Derived.Deep.RegionWith
import Derived.Laws.IdiomStrings
import Derived.Deep.Slices
import Derived.ProofKit
import Derived.ChangeOld
import Derived.Below
import Derived.Deep.DeepCutAuto
import Derived.Lib.AppendStr
import Derived.Lib.ConvBytes
import Derived.Deep.RegionHeld3
import Derived.Deep.AppendLies
import Derived.Deep.AppendSrc
import Derived.Maps.OwnSet
import Derived.Maps.OwnOps
import Derived.Deep.RegionLaw
import Derived.Lib.Slices
import Derived.Lib.Walk
import Derived.Lib.Bytealg
import Derived.Lib.IndexLaws
import Derived.Lib.BufferWrite
import Derived.Lib.UnsafeStr
import Derived.Laws.MakeOwn
import Derived.Laws.Strings3
import Derived.RangeFuncBox
import Derived.RangeFuncNested
import Derived.RangeFuncBound
import Derived.RangeFuncCalls
import Derived.RangeFuncLeaves
import Derived.Shelf.Abstract
import Derived.Shelf.RegionOpen
import Derived.OwnWalkIn
import Derived.TacticsInMore
import Derived.LoopNIn
import Derived.LoopIn
import Derived.Deep.CutBlock
import Derived.OwnWalk
import Derived.Deep.DeepAppendRoom
import Derived.Laws.BitsLemmas
import Derived.LaidEql
import Derived.Stop.Asserts
import Derived.RowKitTokens
import Derived.Shelf.SlGeneric
import Derived.Shelf.SlIterI.Nil
import Derived.Shelf.SortM.Plain
import Derived.Shelf.SortM.SortNone
import Derived.Ground.GgzProg
import Derived.Ground.SlgmProg
import Derived.Lib.AppendZerosOnto
import Derived.Laws.CopyRow
import Derived.KernelRfl
import Derived.Lib.Overlaps
import Derived.Laws.StructEq
import Derived.Laws.BytesString
import Derived.Lib.SlBytesConst
import Derived.Deep.OwnRows
namespace Go.Proofs.YtbjfihabkpianaaGreatDoor
section
open Go.RowKit
def cutD (d : List Int) (k : Nat) : List Int := (d ++ List.replicate (k - d.length) 0).take k
def truncD (nx : Int) (ds : List InoD) (s : ByteArray) (k : Int) : List InoD × Int :=
  if treeD nx ds = false ∨ (splitOf s.data.toList).isSome = false ∨ ¬ (0 ≤ k ∧ k ≤ 100) then (ds, 1)
  else if (fileD ds s).2 ≠ 0 then (ds, (fileD ds s).2)
  else (setD ds { (fileD ds s).1 with data := cutD (fileD ds s).1.data k.toNat }, 0)
end

section
open Go.RowKit
theorem sizeTo_len (d : List Int) (k : Nat) : (sizeTo d k).length = k := by unfold sizeTo; simp; omega
/-- What truncate answers. -/
def truncC (ds : List InoD) (p : ByteArray) (k : Int) : Int := if ¬ (0 ≤ k ∧ k ≤ 100) then 1 else (badK 2 ds p).2
def truncT (ds : List InoD) (p : ByteArray) (k : Int) : List InoD := setD ds { (badK 2 ds p).1 with data := sizeTo (badK 2 ds p).1.data k.toNat }
set_option maxRecDepth 100000 in
set_option maxHeartbeats 4000000 in
theorem truncM (a : Option Addr) (n cap : Nat) (nx : Int) (rs : List InoR) (p q : ByteArray) (k : Int) (da : Option Addr) (dn dc : Nat) (an av : ByteArray) (w : World) (ht : TR w a n rs) (hK : ∀ r ∈ rs, r.D.kind = 1 ∨ r.D.kind = 2) (hwf : ∀ r ∈ rs, (Lit.int .i64 r.D.ino).wf = true) (hwe : ∀ r ∈ rs, ∀ e ∈ r.D.ents, (Lit.int .i64 e.2).wf = true) (hs : p.size ≤ 4000000) (hD : ∀ r ∈ rs, r.D.data.length ≤ 100) :
    Calls Tryz.prog 157 #[.agg #[.slice a n cap, .int .i64 nx], .agg #[.string p, .string q, .int .i64 k, .slice da dn dc, .string an, .string av]] w fun e w' => EMeth w nx (truncT (rs.map InoR.D) p k) (truncC (rs.map InoR.D) p k) e w' := by
  have B0 : Below w.heap.size w (((w.alloc (.cells #[.slice a n cap, .int .i64 nx] 47)).alloc (.cells #[.string p, .string q, .int .i64 k, .slice da dn dc, .string an, .string av] 108)).alloc (.cells #[.slice none 0 0, .int .i64 0] 47)) := (((Below.refl _ w).alloc (Nat.le_refl _) _).alloc (by simp) _).alloc (by simp; omega) _
  have zT := ((Blk.new w 47 #[.slice a n cap, .int .i64 nx]).alloc (.cells #[.string p, .string q, .int .i64 k, .slice da dn dc, .string an, .string av] 108)).alloc (.cells #[.slice none 0 0, .int .i64 0] 47)
  have zC := (Blk.new (w.alloc (.cells #[.slice a n cap, .int .i64 nx] 47)) 108 #[.string p, .string q, .int .i64 k, .slice da dn dc, .string an, .string av]).alloc (.cells #[.slice none 0 0, .int .i64 0] 47)
  have zR := Blk.new ((w.alloc (.cells #[.slice a n cap, .int .i64 nx] 47)).alloc (.cells #[.string p, .string q, .int .i64 k, .slice da dn dc, .string an, .string av] 108)) 47 #[.slice none 0 0, .int .i64 0]
  simp only [World.size_alloc] at zC zR
  obtain ⟨ds, hds⟩ : ∃ ds, rs.map InoR.D = ds := ⟨_, rfl⟩
  rw [hds]
  have HDS : Hid _ := hds
  obtain ⟨CO, hCO⟩ : ∃ c, truncC ds p k = c := ⟨_, rfl⟩
  obtain ⟨TT, hTT⟩ : ∃ c, truncT ds p k = c := ⟨_, rfl⟩
  rw [hCO, hTT]
  unfold truncC at hCO
  unfold truncT at hTT
  have c2 := zC.cell 2
  have r0 := zR.cell 0
  have r1 := zR.cell 1
  have f0 := zR.frozen 0
  have f1 := zR.frozen 1
  simp at c2 r0 r1
  by_cases hk : ¬ (0 ≤ k ∧ k ≤ 100)
  · rw [if_pos hk] at hCO
    subst hCO
    have dd0 := zR.cell 0
    have dd1 := zR.cell 1
    simp at dd0 dd1
    have hend : Hid (EMeth w nx TT 1 (.returned (.tuple #[.agg #[.slice none 0 0, .int .i64 0], .iface 139 (.int .i64 1)])) (((w.alloc (.cells #[.slice a n cap, .int .i64 nx] 47)).alloc (.cells #[.string p, .string q, .int .i64 k, .slice da dn dc, .string an, .string av] 108)).alloc (.cells #[.slice none 0 0, .int .i64 0] 47))) := eMeth_no (by decide) B0
    clear zT zC zR B0 hTT HDS hds ht hK hwf hwe hD
    go_enter Tryz.func157, Tryz.ntmps157
    by_cases hk0 : k < 0
    · go_wp2
      refine bodyPost_ret (v := .tuple #[.agg #[.slice none 0 0, .int .i64 0], .iface 139 (.int .i64 1)]) (by simp [results, Tryz.f157, go_sem, dd0, dd1]) rfl ?_
      exact hend.out
    · have hk1 : k > 100 := by omega
      go_wp2
      refine bodyPost_ret (v := .tuple #[.agg #[.slice none 0 0, .int .i64 0], .iface 139 (.int .i64 1)]) (by simp [results, Tryz.f157, go_sem, dd0, dd1]) rfl ?_
      exact hend.out
  rw [if_neg hk] at hCO
  obtain ⟨kn, rfl⟩ : ∃ kn : Nat, k = (kn : Int) := ⟨k.toNat, by omega⟩
  have hkn : kn ≤ 100 := by omega
  have hk0 : ¬ (kn : Int) < 0 := by omega
  have hk1 : ¬ (kn : Int) > 100 := by omega
  rw [Int.toNat_natCast] at hTT
  clear hk
  have hcF := fun (W : World) (hW : Below w.heap.size w W) => fileI a n cap nx rs p W (ht.keep hW) hK hwf hwe hs
  have HSM : Hid _ := ht.small
  have HLEN : Hid _ := ht.len
  have HNN : Hid _ := ht.n
  have HRD : Hid _ := ht.rd
  have HWF : Hid _ := hwf
  have HD1 : Hid _ := hD
  rw [hds] at hcF
  have HMEM : Hid _ := @badK_mem 2 ds p
  obtain ⟨D, c, hDc⟩ : ∃ D c, badK 2 ds p = (D, c) := ⟨_, _, rfl⟩
  rw [hDc] at hcF hCO hTT HMEM
  dsimp only at hcF hCO hTT HMEM
  subst hCO
  have HTT : Hid _ := hTT
  have t0 := zT.cell 0
  have t1 := zT.cell 1
  have c0 := zC.cell 0
  simp at t0 t1 c0
  clear hDc hTT ht hK hwf hwe hds hD
  go_enter Tryz.func157, Tryz.ntmps157
  go_wp2_with fail
  obtain ⟨Wz, hWz⟩ : ∃ W, (((w.alloc (.cells #[.slice a n cap, .int .i64 nx] 47)).alloc (.cells #[.string p, .string q, .int .i64 (kn : Int), .slice da dn dc, .string an, .string av] 108)).alloc (.cells #[.slice none 0 0, .int .i64 0] 47)) = W := ⟨_, rfl⟩
  rw [hWz] at B0 zT zC zR c0 c2 r0 r1 f0 f1 t0 t1 ⊢
  clear hWz
  (with_reducible refine (hcF Wz B0).mono ?_)
  rintro e w2 ⟨b1, d1, b2, d2, b3, d3, rfl, g2, bb2⟩
  have zt := (zT.keep bb2).alloc (.cells #[.int .i64 D.ino, .int .i64 D.kind, .int .i64 D.links, .slice b1 D.data.length d1, .slice b2 D.ents.length d2, .slice b3 D.attrs.length d3] 68)
  have zc := (zC.keep bb2).alloc (.cells #[.int .i64 D.ino, .int .i64 D.kind, .int .i64 D.links, .slice b1 D.data.length d1, .slice b2 D.ents.length d2, .slice b3 D.attrs.length d3] 68)
  have zr := (zR.keep bb2).alloc (.cells #[.int .i64 D.ino, .int .i64 D.kind, .int .i64 D.links, .slice b1 D.data.length d1, .slice b2 D.ents.length d2, .slice b3 D.attrs.length d3] 68)
  have hb2 := B0.trans (bb2.mono B0.size)
  have hb3 := hb2.alloc hb2.size (.cells #[.int .i64 D.ino, .int .i64 D.kind, .int .i64 D.links, .slice b1 D.data.length d1, .slice b2 D.ents.length d2, .slice b3 D.attrs.length d3] 68)
  have hbA : Below w2.heap.size w2 (w2.alloc (.cells #[.int .i64 D.ino, .int .i64 D.kind, .int .i64 D.links, .slice b1 D.data.length d1, .slice b2 D.ents.length d2, .slice b3 D.attrs.length d3] 68)) := (Below.refl _ w2).alloc (Nat.le_refl _) _
  have zX := Blk.new w2 68 #[.int .i64 D.ino, .int .i64 D.kind, .int .i64 D.links, .slice b1 D.data.length d1, .slice b2 D.ents.length d2, .slice b3 D.attrs.length d3]
  have g3 := g2.keep (Nat.le_refl _) hbA
  have hsR : w.heap.size + 1 + 1 < w2.heap.size := (zR.keep bb2).lt
  have HBZ : Hid (w.heap.size ≤ Wz.heap.size) := B0.size
  obtain ⟨X, hX⟩ : ∃ X, w2.heap.size = X := ⟨_, rfl⟩
  obtain ⟨W3, hW3⟩ : ∃ W, w2.alloc (.cells #[.int .i64 D.ino, .int .i64 D.kind, .int .i64 D.links, .slice b1 D.data.length d1, .slice b2 D.ents.length d2, .slice b3 D.attrs.length d3] 68) = W := ⟨_, rfl⟩
  rw [hW3] at zt zc zr hb3 zX g3
  rw [hX] at zX g3
  have hX0 := hX
  have HZT : Hid _ := zt
  have HZC : Hid _ := zc
  have HZR : Hid _ := zr
  have HB3 : Hid _ := hb3
  have HG3 : Hid _ := g3
  have HZX : Hid _ := zX
  have r0 := zr.cell 0
  have r1 := zr.cell 1
  have f0 := zr.frozen 0
  have f1 := zr.frozen 1
  have c2 := zc.cell 2
  obtain ⟨x0, x1, x2, x3, x4, x5⟩ := zX.six
  have fx := zX.frozen 3
  simp at r0 r1 c2
  clear hcF zT zC zR g2 bb2 hb2 hbA B0 zt zc zr hb3 g3 zX
  by_cases hc0 : c = 0
  · subst hc0
    rw [errV_zero]
    have hDm := HMEM.out rfl
    obtain ⟨rD, hrD, hrDD⟩ : ∃ r ∈ rs, r.D = D := by
      rw [← HDS.out] at hDm
      obtain ⟨r, hr, h⟩ := List.mem_map.1 hDm
      exact ⟨r, hr, h⟩
    have hsD : InoSmall D := hrDD ▸ HSM.out rD hrD
    have hwD : (Lit.int .i64 D.ino).wf = true := hrDD ▸ HWF.out rD hrD
    have hcZ := sizedI 0 (.slice b1 D.data.length d1) D.data.length kn D.data W3 HG3.out.data (by have := hrDD ▸ HD1.out rD hrD; omega) (by omega) (Nat.zero_le _)
    have HSD : Hid _ := hsD
    have HWD : Hid _ := hwD
    clear hDm hrD hrDD hsD hwD
    go_wp2_with fail
    (with_reducible refine hcZ.mono ?_)
    rintro e w4 ⟨v4, rfl, o4, g4⟩
    obtain ⟨a4, c4, rfl⟩ := ownShape o4
    have zt4 := Blk.row HZT.out (by decide) HG3.out.data g4
    have zr4 := Blk.row HZR.out (by decide) HG3.out.data g4
    have zX4 := Blk.row HZX.out (by decide) HG3.out.data g4
    have hk4 : KpT W3 w4 [154, 106] := KpT.row g4 HG3.out.data (by decide)
    have hb4 : Below w.heap.size w w4 := HB3.out.grown g4 HB3.out.size (fun m hm => by have h1 := HG3.out.within m (.inl hm); have h2 := HBZ.out; omega)
    have fx4 := zX4.frozen 3
    have xx3 := zX4.cell 3
    simp at xx3
    have zX5 := zX4.set 3 (.slice a4 kn c4)
    have zt5 := zt4.other (B' := X) (by omega) 3 (.slice a4 kn c4)
    have zr5 := zr4.other (B' := X) (by omega) 3 (.slice a4 kn c4)
    have hk5 : KpT w4 (w4.setCell ⟨X, 3, none⟩ (.slice a4 kn c4)) [154, 106, 5] := KpT.grown (gr_setC w4 X 3 _) zX4 (by decide)
    have o5 : OwnV 0 (w4.setCell ⟨X, 3, none⟩ (.slice a4 kn c4)) (.slice a4 kn c4) kn (sizeTo D.data kn) := row_kp o4 hk5 (by decide)
    have g5 := inoG_data HG3.out (hk4.tr (fun B cur t fr h1 h2 => hk5 B cur t fr h1 (List.mem_append_left [5] h2))) o5 (byt_size HG3.out.byt kn)
    have hb5 := hb4.setCell (p := ⟨X, 3, none⟩) (show w.heap.size ≤ X by omega) (.slice a4 kn c4)
    obtain ⟨W5, hW5⟩ : ∃ W, w4.setCell ⟨X, 3, none⟩ (.slice a4 kn c4) = W := ⟨_, rfl⟩
    rw [hW5] at zX5 zt5 zr5 g5 hb5
    have hrd5 : InoRd W5 { D with data := sizeTo D.data kn } a4 b2 b3 := InoG.rds (B := 0) (T := W5.heap.size) (c1 := c4) (c2 := d2) (c3 := d3) (by show InoG W5 0 W5.heap.size _ (.slice a4 (sizeTo D.data kn).length c4) (.slice b2 D.ents.length d2) (.slice b3 D.attrs.length d3); rw [sizeTo_len]; exact g5)
    have hsx : InoSmall { D with data := sizeTo D.data kn } := ⟨by rw [sizeTo_len]; omega, HSD.out.ents, HSD.out.attrs, HSD.out.entsz, HSD.out.attrsz⟩
    have hcI := setI a n cap nx rs { D with data := sizeTo D.data kn } a4 b2 b3 c4 d2 d3 W5 HLEN.out HNN.out HWD.out HWF.out HSM.out hsx (RdI.keep HRD.out hb5) hrd5
    dsimp only at hcI
    rw [sizeTo_len] at hcI
    obtain ⟨x0, x1, x2, x3, x4, x5⟩ := zX5.six
    have t0 := zt5.cell 0
    have t1 := zt5.cell 1
    simp at t0 t1
    have HZR5 : Hid _ := zr5
    have HB5 : Hid _ := hb5
    clear hcZ o4 g4 hk4 hk5 o5 g5 hb4 hb5 hrd5 hsx zt4 zr4 zt5 zr5 zX5 r0 r1 f0 f1 c2
    go_wp2_with fail
    (with_reducible refine hcI.mono ?_)
    intro e w6 hp6
    obtain ⟨v6, rfl, ht6⟩ := hp6.tab
    rw [setD_eq, HDS.out] at ht6
    dsimp only at ht6
    rw [HTT.out] at ht6
    have ht6' := ht6
    obtain ⟨ra, rc, js, rfl, _, b6⟩ := ht6'
    obtain ⟨rn, hrn⟩ : ∃ rn, js.length = rn := ⟨_, rfl⟩
    rw [hrn] at ht6 ⊢
    have HFIN : Hid (EMeth w nx TT 0 (.returned (.tuple #[.agg #[.slice ra rn rc, .int .i64 nx], .nilIface])) ((w6.setCell ⟨w.heap.size + 1 + 1, 0, none⟩ (.slice ra rn rc)).setCell ⟨w.heap.size + 1 + 1, 1, none⟩ (.int .i64 nx))) := eMeth_yes ht6 HB5.out (by omega) HZR5.out
    have zr6 := Blk.keep HZR5.out b6
    have r0 := zr6.cell 0
    have r1 := zr6.cell 1
    have f0 := zr6.frozen 0
    have f1 := zr6.frozen 1
    simp at r0 r1
    have zf := blk2 zr6 (.slice ra rn rc) (.int .i64 nx)
    have dd0 := zf.cell 0
    have dd1 := zf.cell 1
    simp at dd0 dd1
    clear hcI hp6 ht6 zf zr6 b6 x0 x1 x2 x3 x4 x5 t0 t1 hrn
    go_wp2
    refine bodyPost_ret (v := .tuple #[.agg #[.slice ra rn rc, .int .i64 nx], .nilIface]) (by simp [results, Tryz.f157, go_sem, dd0, dd1]) rfl ?_
    exact HFIN.out
  · have hend : Hid (∀ W : World, Below W3.heap.size W3 W → EMeth w nx TT c (.returned (.tuple #[.agg #[.slice none 0 0, .int .i64 0], .iface 139 (.int .i64 c)])) ((W.setCell ⟨w.heap.size + 1 + 1, 0, none⟩ (.slice none 0 0)).setCell ⟨w.heap.size + 1 + 1, 1, none⟩ (.int .i64 0))) := fun W hW => eMeth_no hc0 (((HB3.out.trans (hW.mono HB3.out.size)).setCell (p := ⟨w.heap.size + 1 + 1, 0, none⟩) (by show _ ≤ w.heap.size + 1 + 1; omega) _).setCell (p := ⟨w.heap.size + 1 + 1, 1, none⟩) (by show _ ≤ w.heap.size + 1 + 1; omega) _)
    rw [errV_some hc0]
    have zf := blk2 HZR.out (.slice none 0 0) (.int .i64 0)
    have dd0 := zf.cell 0
    have dd1 := zf.cell 1
    simp at dd0 dd1
    clear hc0 zf x0 x1 x2 x3 x4 x5 fx
    go_wp2
    refine bodyPost_ret (v := .tuple #[.agg #[.slice none 0 0, .int .i64 0], .iface 139 (.int .i64 c)]) (by simp [results, Tryz.f157, go_sem, dd0, dd1]) rfl ?_
    exact hend.out W3 (Below.refl _ _)
end

section
open Go.RowKit
theorem idx_truncate (w : World) : (Instr.index 151 (.agg #[.func (.func 154) #[] #[], .func (.func 155) #[] #[], .func (.func 156) #[] #[], .func (.func 157) #[] #[], .func (.func 158) #[] #[], .func (.func 159) #[] #[], .func (.func 160) #[] #[], .func (.func 161) #[] #[], .func (.func 162) #[] #[]]) (.int .i64 3)).run Tryz.prog w = .ok (.func (.func 157) #[] #[]) w := by kernel_rfl
set_option maxRecDepth 100000 in
set_option maxHeartbeats 4000000 in
theorem changed_truncate (a : Option Addr) (n cap : Nat) (nx : Int) (rs : List InoR) (p q : ByteArray) (k : Int) (da : Option Addr) (dn dc : Nat) (an av : ByteArray) (w : World) (ht : TR w a n rs) (hwf : ∀ r ∈ rs, (Lit.int .i64 r.D.ino).wf = true) (het : EtCell w) (nx' : Int) (ds' : List InoD) (c : Int) (N : Int) (D : List InoD) (C : Int)
    (h1 : treeD nx (rs.map InoR.D) = false → N = nx ∧ D = rs.map InoR.D ∧ C = 1) (h2 : treeD nx (rs.map InoR.D) = true → c ≠ 0 → N = nx ∧ D = rs.map InoR.D ∧ C = c) (h3 : treeD nx (rs.map InoR.D) = true → c = 0 → N = nx' ∧ D = ds' ∧ C = 0)
    (hm : treeD nx (rs.map InoR.D) = true → ∀ W : World, Below w.heap.size w W → Calls Tryz.prog 157 #[.agg #[.slice a n cap, .int .i64 nx], .agg #[.string p, .string q, .int .i64 k, .slice da dn dc, .string an, .string av]] W fun e w' => EMeth W nx' ds' c e w') :
    Calls Tryz.prog 76 #[.agg #[.slice a n cap, .int .i64 nx], .int .i64 3, .agg #[.string p, .string q, .int .i64 k, .slice da dn dc, .string an, .string av]] w fun e w' => TabC w N D C e w' := by
  have B0 : Below w.heap.size w (((w.alloc (.cells #[.slice a n cap, .int .i64 nx] 47)).alloc (.cells #[.string p, .string q, .int .i64 k, .slice da dn dc, .string an, .string av] 108)).alloc (.cells #[.slice none 0 0, .int .i64 0] 47)) := (((Below.refl _ w).alloc (Nat.le_refl _) _).alloc (by simp) _).alloc (by simp; omega) _
  have zT := ((Blk.new w 47 #[.slice a n cap, .int .i64 nx]).alloc (.cells #[.string p, .string q, .int .i64 k, .slice da dn dc, .string an, .string av] 108)).alloc (.cells #[.slice none 0 0, .int .i64 0] 47)
  have zC := (Blk.new (w.alloc (.cells #[.slice a n cap, .int .i64 nx] 47)) 108 #[.string p, .string q, .int .i64 k, .slice da dn dc, .string an, .string av]).alloc (.cells #[.slice none 0 0, .int .i64 0] 47)
  have zR := Blk.new ((w.alloc (.cells #[.slice a n cap, .int .i64 nx] 47)).alloc (.cells #[.string p, .string q, .int .i64 k, .slice da dn dc, .string an, .string av] 108)) 47 #[.slice none 0 0, .int .i64 0]
  simp only [World.size_alloc] at zC zR
  have hcT := treeI a n cap nx rs _ (ht.keep B0) hwf
  go_enter Tryz.func76, Tryz.ntmps76
  go_wp2_with fail
  obtain ⟨W0, hW0⟩ : ∃ W, (((w.alloc (.cells #[.slice a n cap, .int .i64 nx] 47)).alloc (.cells #[.string p, .string q, .int .i64 k, .slice da dn dc, .string an, .string av] 108)).alloc (.cells #[.slice none 0 0, .int .i64 0] 47)) = W := ⟨_, rfl⟩
  rw [hW0] at B0 zT zC zR hcT ⊢
  clear hW0
  (with_reducible refine hcT.mono ?_)
  rintro e w1 ⟨rfl, b1⟩
  clear hcT
  have hb1 := B0.trans (b1.mono B0.size)
  have zt := zT.keep b1
  have zc := zC.keep b1
  have zr := zR.keep b1
  have HT1 : Hid _ := ht.keep hb1
  have HE1 : Hid _ := het.keep hb1
  clear zT zC zR b1 ht het B0
  have t0 := zt.cell 0
  have t1 := zt.cell 1
  simp at t0 t1
  cases htr : treeD nx (rs.map InoR.D) with
  | false =>
    obtain ⟨rfl, rfl, rfl⟩ := h1 htr
    have hcC := copyTab_any a n cap N rs w1 HT1.out.len HT1.out.n HT1.out.small HT1.out.rd
    have HB1 : Hid _ := hb1
    have HZR : Hid _ := zr
    clear h1 h2 h3 hm htr hb1
    go_wp2_with fail
    (with_reducible refine hcC.mono ?_)
    intro e w2 hp2
    obtain ⟨g, rfl, b2, hfin⟩ := copyT hp2 HB1.out (by omega) HZR.out
    have zr2 := Blk.keep HZR.out b2
    have r0 := zr2.cell 0
    have r1 := zr2.cell 1
    have f0 := zr2.frozen 0
    have f1 := zr2.frozen 1
    simp at r0 r1
    have HFIN : Hid _ := hfin w2 (Below.refl _ _) 1
    have zf := blk2 zr2 (.slice (some ⟨g, 0, none⟩) n n) (.int .i64 N)
    have dd0 := zf.cell 0
    have dd1 := zf.cell 1
    simp at dd0 dd1
    clear hcC hp2 hfin zr2 zt zc zr t0 t1 zf
    go_wp2
    refine bodyPost_ret (v := .tuple #[.agg #[.slice (some ⟨g, 0, none⟩) n n, .int .i64 N], .int .i64 1]) (by simp [results, Tryz.f76, go_sem, dd0, dd1]) rfl ?_
    exact HFIN.out
  | true =>
    have hmm := hm htr
    have c0 := zc.cell 0
    have c1 := zc.cell 1
    have c2 := zc.cell 2
    have c3 := zc.cell 3
    have c4 := zc.cell 4
    have c5 := zc.cell 5
    simp at c0 c1 c2 c3 c4 c5
    have HB1 : Hid _ := hb1
    have HZR : Hid _ := zr
    have HZT : Hid _ := zt
    have HZC : Hid _ := zc
    have HMM : Hid _ := hmm
    have HH2 : Hid _ := h2 htr
    have HH3 : Hid _ := h3 htr
    have cC := changesI w1.drew
    have hsz : w.heap.size + 1 + 1 < w1.heap.size := zr.lt
    have hK : Hid (∀ W : World, Below w1.heap.size w1 W → W.cell? ⟨w.heap.size, 0, none⟩ = some (.slice a n cap) ∧ W.cell? ⟨w.heap.size, 1, none⟩ = some (.int .i64 nx) ∧ W.cell? ⟨w.heap.size + 1, 0, none⟩ = some (.string p) ∧ W.cell? ⟨w.heap.size + 1, 1, none⟩ = some (.string q) ∧ W.cell? ⟨w.heap.size + 1, 2, none⟩ = some (.int .i64 k) ∧ W.cell? ⟨w.heap.size + 1, 3, none⟩ = some (.slice da dn dc) ∧ W.cell? ⟨w.heap.size + 1, 4, none⟩ = some (.string an) ∧ W.cell? ⟨w.heap.size + 1, 5, none⟩ = some (.string av)) := fun W hW => by
      have z1 := Blk.keep HZT.out hW
      have z2 := Blk.keep HZC.out hW
      exact ⟨z1.cell 0, z1.cell 1, z2.cell 0, z2.cell 1, z2.cell 2, z2.cell 3, z2.cell 4, z2.cell 5⟩
    clear h1 h2 h3 hm htr hmm zt zc zr hb1
    go_upto_region 3 with fail
    have n0 : w1.heap.size ≠ w.heap.size := by omega
    have n1 : w1.heap.size ≠ w.heap.size + 1 := by omega
    have cC2 := changesI (w1.alloc (.cells #[.slice none 0 0, .int .i64 0] 47)).drew
    have zW1 := Blk.new w1 47 #[.slice none 0 0, .int .i64 0]
    have hix := idx_truncate
    go_cut [8, 9] from 8 to 31 (fun bx er wx => ∃ (A : Nat) (ra : Option Addr) (rn rc : Nat) (rx : Int), bx = .pointer (some ⟨A, 0, none⟩) ∧ er = errV c ∧ Hid (CHR w1 nx' ds' c A (.slice ra rn rc) (.int .i64 rx) wx))
    case first =>
      go_region_held3 (fun W : World => W.cell? ⟨w.heap.size, 0, none⟩ = some (.slice a n cap) ∧ W.cell? ⟨w.heap.size, 1, none⟩ = some (.int .i64 nx) ∧ W.cell? ⟨w.heap.size + 1, 0, none⟩ = some (.string p) ∧ W.cell? ⟨w.heap.size + 1, 1, none⟩ = some (.string q) ∧ W.cell? ⟨w.heap.size + 1, 2, none⟩ = some (.int .i64 k) ∧ W.cell? ⟨w.heap.size + 1, 3, none⟩ = some (.slice da dn dc) ∧ W.cell? ⟨w.heap.size + 1, 4, none⟩ = some (.string an) ∧ W.cell? ⟨w.heap.size + 1, 5, none⟩ = some (.string av)) (go_keep) (first
        | (go_at_call 110; (with_reducible refine cC.mono ?_); rintro e w10 ⟨rfl, b10⟩; have B10 : Below w1.heap.size w1 w10 := (Below.refl _ w1).drew.trans b10; have K10 := hK.out w10 B10; obtain ⟨p0, p1, p2, p3, p4, p5, p6, p7⟩ := K10; have n2 : w10.heap.size ≠ w.heap.size := (by have := B10.size; omega); have n3 : w10.heap.size ≠ w.heap.size + 1 := (by have := B10.size; omega); have hm10 := HMM.out w10 (HB1.out.trans (B10.mono HB1.out.size)); have hm10a := HMM.out (w10.alloc (.cells #[.slice none 0 0, .int .i64 0] 47)) ((HB1.out.trans (B10.mono HB1.out.size)).alloc (by have := HB1.out.size; have := B10.size; omega) _))
        | (go_at_call 110; (with_reducible refine cC2.mono ?_); rintro e w11 ⟨rfl, b11⟩; have B11 : Below w1.heap.size w1 w11 := ((Below.refl _ w1).alloc (Nat.le_refl _) _).drew.trans (b11.mono (by show _ ≤ (w1.alloc _).heap.size; simp)); have K11 := hK.out w11 B11; obtain ⟨p0, p1, p2, p3, p4, p5, p6, p7⟩ := K11; have z11 : Blk w11 w1.heap.size 47 #[.slice none 0 0, .int .i64 0] := Blk.keep (Blk.drew zW1) b11; have hm11 := HMM.out w11 (HB1.out.trans (B11.mono HB1.out.size)))
        | (go_at_call 157; (with_reducible refine hm10.mono ?_); rintro e w12 ⟨ra, rn, rc, rx, rfl, b12, t12⟩; have B12 : Below w1.heap.size w1 w12 := B10.trans (b12.mono B10.size); have K12 := hK.out w12 B12; obtain ⟨q0, q1, q2, q3, q4, q5, q6, q7⟩ := K12)
        | (go_at_call 157; (with_reducible refine hm10a.mono ?_); rintro e w13 ⟨ra, rn, rc, rx, rfl, b13, t13⟩; have B13 : Below w1.heap.size w1 w13 := (B10.alloc B10.size _).trans (b13.mono (by have := B10.size; simp; omega)); have z13 := (Blk.new w10 47 #[.slice none 0 0, .int .i64 0]).keep b13; have u0 := z13.cell 0; have u1 := z13.cell 1; have x0 := z13.frozen 0; have x1 := z13.frozen 1; simp at u0 u1; have K13 := hK.out w13 B13; obtain ⟨q0, q1, q2, q3, q4, q5, q6, q7⟩ := K13)
        | (go_at_call 157; (with_reducible refine hm11.mono ?_); rintro e w14 ⟨ra, rn, rc, rx, rfl, b14, t14⟩; have B14 : Below w1.heap.size w1 w14 := B11.trans (b14.mono B11.size); have z14 := z11.keep b14; have u0 := z14.cell 0; have u1 := z14.cell 1; have x0 := z14.frozen 0; have x1 := z14.frozen 1; simp at u0 u1; have K14 := hK.out w14 B14; obtain ⟨q0, q1, q2, q3, q4, q5, q6, q7⟩ := K14))
      all_goals (go_wp2_with fail; go_meet)
      all_goals first
        | (have h := chr_new B12 b12 B10.size t12; exact ⟨_, _, _, _, _, rfl, rfl, h⟩)
        | (have h := chr_old B13 B10.size z13 (by simp) t13; exact ⟨_, _, _, _, _, rfl, rfl, h⟩)
        | (have h := chr_old B14 (Nat.le_refl _) z14 (Blk.lt z11) t14; exact ⟨_, _, _, _, _, rfl, rfl, h⟩)
        | fail
    case rest =>
      obtain ⟨A, ra, rn, rc, rx, rfl, rfl, hR⟩ := hcut
      obtain ⟨Wc, hwc⟩ : ∃ W, W = wc := ⟨_, rfl⟩
      subst hwc
      clear t0 t1 c0 c1 c2 c3 c4 c5 cC cC2 zW1 hK HMM n0 n1
      have zt := Blk.keep HZT.out hR.out.b
      have zr := Blk.keep HZR.out hR.out.b
      have hbc := HB1.out.trans (hR.out.b.mono HB1.out.size)
      have t0 := zt.cell 0
      have t1 := zt.cell 1
      simp at t0 t1
      by_cases hc0 : c = 0
      · obtain ⟨rfl, rfl, rfl⟩ := HH3.out hc0
        subst hc0
        rw [errV_zero]
        have HFIN : Hid _ := methT (hR.out.tab rfl) HB1.out (by omega) HZR.out Wc (Below.refl _ _)
        have a0 := hR.out.z.cell 0
        have a1 := hR.out.z.cell 1
        have r0 := zr.cell 0
        have r1 := zr.cell 1
        have f0 := zr.frozen 0
        have f1 := zr.frozen 1
        simp at a0 a1 r0 r1
        have zf := blk2 zr (.slice ra rn rc) (.int .i64 rx)
        have dd0 := zf.cell 0
        have dd1 := zf.cell 1
        simp at dd0 dd1
        clear zt zr zf hbc HH2 HH3 HT1 HE1 t0 t1
        go_wp2
        refine bodyPost_ret (v := .tuple #[.agg #[.slice ra rn rc, .int .i64 rx], .int .i64 0]) (by simp [results, Tryz.f76, go_sem, dd0, dd1]) rfl ?_
        exact HFIN.out
      · obtain ⟨rfl, rfl, rfl⟩ := HH2.out hc0
        rw [errV_some hc0]
        have hTc := HT1.out.keep hR.out.b
        have hEc := EtCell.keep HE1.out hR.out.b
        have hcC := copyTab_any a n cap N rs Wc hTc.len hTc.n hTc.small hTc.rd
        have HZ : Hid _ := zr
        have HBC : Hid _ := hbc
        have HEC : Hid _ := hEc
        have HC0 : Hid _ := hc0
        clear zt zr hbc HH2 HH3 HT1 HE1 hTc hEc hc0
        go_wp2_with fail
        (with_reducible refine hcC.mono ?_)
        intro e w2 hp2
        obtain ⟨g, rfl, b2, hfin⟩ := copyT hp2 HBC.out (by omega) HZ.out
        have hcO := codeOfI C w2 (EtCell.keep HEC.out b2)
        rw [errV_some HC0.out] at hcO
        clear hcC hp2 t0 t1
        go_wp2_with fail
        (with_reducible refine hcO.mono ?_)
        rintro e w3 ⟨rfl, b3⟩
        have zr3 := (Blk.keep HZ.out b2).keep b3
        have r0 := zr3.cell 0
        have r1 := zr3.cell 1
        have f0 := zr3.frozen 0
        have f1 := zr3.frozen 1
        simp at r0 r1
        have HFIN : Hid _ := hfin w3 b3 C
        have zf := blk2 zr3 (.slice (some ⟨g, 0, none⟩) n n) (.int .i64 N)
        have dd0 := zf.cell 0
        have dd1 := zf.cell 1
        simp at dd0 dd1
        clear hcO hfin zr3 zf
        go_wp2
        refine bodyPost_ret (v := .tuple #[.agg #[.slice (some ⟨g, 0, none⟩) n n, .int .i64 N], .int .i64 C]) (by simp [results, Tryz.f76, go_sem, dd0, dd1]) rfl ?_
        exact HFIN.out
end

section
open Go.RowKit
set_option maxRecDepth 100000 in
set_option maxHeartbeats 4000000 in
theorem wrap_Truncate (a : Option Addr) (n cap : Nat) (nx : Int) (s : ByteArray) (k : Int) (w : World) (N : Int) (D : List InoD) (C : Int)
    (hc : ∀ W : World, Below w.heap.size w W → Calls Tryz.prog 76 #[.agg #[.slice a n cap, .int .i64 nx], .int .i64 3, .agg #[.string s, .string ⟨#[]⟩, .int .i64 k, .slice none 0 0, .string ⟨#[]⟩, .string ⟨#[]⟩]] W fun e w' => TabC W N D C e w') :
    Calls Tryz.prog 43 #[.agg #[.slice a n cap, .int .i64 nx], .string s, .int .i64 k] w fun e w' => TabC w N D C e w' := by
  have B0 : Below w.heap.size w ((w.alloc (.cells #[.slice a n cap, .int .i64 nx] 47)).alloc (.cells #[.slice none 0 0, .int .i64 0] 47)) := ((Below.refl _ w).alloc (Nat.le_refl _) _).alloc (by simp) _
  have zR := Blk.new (w.alloc (.cells #[.slice a n cap, .int .i64 nx] 47)) 47 #[.slice none 0 0, .int .i64 0]
  simp only [World.size_alloc] at zR
  go_enter Tryz.func43, Tryz.ntmps43
  go_wp2_with fail
  obtain ⟨W0, hW0⟩ : ∃ W, ((w.alloc (.cells #[.slice a n cap, .int .i64 nx] 47)).alloc (.cells #[.slice none 0 0, .int .i64 0] 47)) = W := ⟨_, rfl⟩
  rw [hW0] at B0 zR ⊢
  clear hW0
  (with_reducible refine (hc W0 B0).mono ?_)
  intro e w2 hp
  obtain ⟨ra, rn, rc, rfl, zz, hfin⟩ := tabC_box hp B0 (by omega) zR
  have HFIN : Hid (TabC w N D C (.returned (.tuple #[.agg #[.slice ra rn rc, .int .i64 N], .int .i64 C])) ((w2.setCell ⟨w.heap.size + 1, 0, none⟩ (.slice ra rn rc)).setCell ⟨w.heap.size + 1, 1, none⟩ (.int .i64 N))) := hfin
  have r0 := zz.cell 0
  have r1 := zz.cell 1
  have f0 := zz.frozen 0
  have f1 := zz.frozen 1
  simp at r0 r1
  have zf := blk2 zz (.slice ra rn rc) (.int .i64 N)
  have dd0 := zf.cell 0
  have dd1 := zf.cell 1
  simp at dd0 dd1
  clear hp hfin zf zz zR B0 hc
  go_wp2
  refine bodyPost_ret (v := .tuple #[.agg #[.slice ra rn rc, .int .i64 N], .int .i64 C]) (by simp [results, Tryz.f43, go_sem, dd0, dd1]) rfl ?_
  exact HFIN.out
end

section
open Go.RowKit
theorem truncateI (a : Option Addr) (n cap : Nat) (nx : Int) (rs : List InoR) (s : ByteArray) (k : Int) (w : World) (ht : TR w a n rs) (hwf : ∀ r ∈ rs, (Lit.int .i64 r.D.ino).wf = true) (het : EtCell w) (hs : s.size ≤ 4000000) :
    Calls Tryz.prog 43 #[.agg #[.slice a n cap, .int .i64 nx], .string s, .int .i64 k] w fun e w' => TabC w nx (truncD nx (rs.map InoR.D) s k).1 (truncD nx (rs.map InoR.D) s k).2 e w' := by
  refine wrap_Truncate a n cap nx s k w nx _ _ (fun W hW => ?_)
  refine changed_truncate a n cap nx rs s ⟨#[]⟩ k none 0 0 ⟨#[]⟩ ⟨#[]⟩ W (ht.keep hW) hwf (het.keep hW) nx (truncT (rs.map InoR.D) s k) (truncC (rs.map InoR.D) s k) nx _ _ ?_ ?_ ?_ ?_
  · intro h
    unfold truncD
    rw [h, if_pos (.inl rfl)]
    exact ⟨rfl, rfl, rfl⟩
  · intro h hc
    have hk := (tree_facts h).1
    have hb := badK_file (ds := rs.map InoR.D) (fun D hD => by obtain ⟨r, hr, rfl⟩ := List.mem_map.1 hD; exact hk r hr) s
    unfold truncC at hc
    unfold truncD truncC
    rw [hb] at hc ⊢
    by_cases hr : ¬ (0 ≤ k ∧ k ≤ 100)
    · rw [if_pos hr, if_pos (.inr (.inr hr))]
      exact ⟨rfl, rfl, rfl⟩
    · rw [if_neg hr] at hc ⊢
      cases hsp : (splitOf s.data.toList).isSome with
      | false =>
        rw [if_pos (.inr (.inl rfl)), file_form hsp]
        exact ⟨rfl, rfl, rfl⟩
      | true =>
        rw [if_neg (by simp [h]; omega), if_pos hc]
        exact ⟨rfl, rfl, rfl⟩
  · intro h hc
    have hk := (tree_facts h).1
    have hb := badK_file (ds := rs.map InoR.D) (fun D hD => by obtain ⟨r, hr, rfl⟩ := List.mem_map.1 hD; exact hk r hr) s
    unfold truncC at hc
    unfold truncD truncT
    rw [hb] at hc ⊢
    by_cases hr : ¬ (0 ≤ k ∧ k ≤ 100)
    · rw [if_pos hr] at hc
      exact absurd hc (by decide)
    · rw [if_neg hr] at hc
      cases hsp : (splitOf s.data.toList).isSome with
      | false => rw [file_form hsp] at hc; exact absurd hc (by decide)
      | true =>
        rw [if_neg (by simp [h]; omega), if_neg (by simp [hc])]
        exact ⟨rfl, rfl, rfl⟩
  · intro h W' hW'
    obtain ⟨f1, f2, f3⟩ := tree_facts h
    have hd := tree_data h
    exact truncM a n cap nx rs s ⟨#[]⟩ k none 0 0 ⟨#[]⟩ ⟨#[]⟩ W' ((ht.keep hW).keep hW') f1 f2 f3 hs (fun r hr => hd r.D (List.mem_map_of_mem hr))
end

section
open Go.RowKit
def attU (l : List (ByteArray × ByteArray)) : Nat := (l.map fun e => e.1.size + e.2.size).sum
def restU (ds : List InoD) : Nat := (ds.map fun D => D.data.length + attU D.attrs).sum
/-- What a table uses. -/
def usageD (ds : List InoD) : Nat := ds.length * 32 + restU ds
theorem attU_snoc {l : List (ByteArray × ByteArray)} {k : Nat} {q : ByteArray × ByteArray} (h : l[k]? = some q) : attU (l.take (k + 1)) = attU (l.take k) + (q.1.size + q.2.size) := by
  unfold attU
  rw [List.take_add_one, h]
  simp
theorem restU_snoc {ds : List InoD} {k : Nat} {D : InoD} (h : ds[k]? = some D) : restU (ds.take (k + 1)) = restU (ds.take k) + (D.data.length + attU D.attrs) := by
  unfold restU
  rw [List.take_add_one, h]
  simp
end

section
open Go.RowKit
set_option maxRecDepth 100000 in
set_option maxHeartbeats 4000000 in
theorem usageI (a : Option Addr) (n cap : Nat) (nx : Int) (rs : List InoR) (w : World) (ht : TR w a n rs) :
    Calls Tryz.prog 44 #[.agg #[.slice a n cap, .int .i64 nx]] w fun e w' => e = .returned (.int .i64 (usageD (rs.map InoR.D) : Nat)) ∧ Below w.heap.size w w' := by
  have B0 : Below w.heap.size w (w.alloc (.cells #[.slice a n cap, .int .i64 nx] 47)) := (Below.refl _ w).alloc (Nat.le_refl _) _
  have z0 := Blk.new w 47 #[.slice a n cap, .int .i64 nx]
  have ht0 := ht.keep B0
  have HB : Hid _ := B0
  have HT : Hid _ := ht0
  have hln : Hid (rs.length = n) := ht.len
  have hn1 := ht.n
  obtain ⟨R, hR⟩ : ∃ R, usageD (rs.map InoR.D) = R := ⟨_, rfl⟩
  rw [hR]
  have HR : Hid _ := hR
  clear ht ht0 hR B0
  go_enter Tryz.func44, Tryz.ntmps44
  have t0 := z0.cell 0
  simp at t0
  have hw32 : IntKind.i64.wrap ((n : Int) * 32) = ((n * 32 : Nat) : Int) := by
    rw [show ((n * 32 : Nat) : Int) = (n : Int) * 32 by omega]
    exact wrap_small _ (by omega) (by omega)
  go_wp2
  obtain ⟨W0, hW0⟩ : ∃ W, w.alloc (.cells #[.slice a n cap, .int .i64 nx] 47) = W := ⟨_, rfl⟩
  rw [hW0] at z0 HB HT ⊢
  clear hW0 z0 t0
  go_loopw [3, 15] (fun c i wr => ∃ k m : Nat, k ≤ n ∧ i = .int .i64 k ∧ c = .int .i64 ((n * 32 + m : Nat) : Int) ∧ m ≤ k * 2199024304160 ∧ Hid (restU ((rs.map InoR.D).take k) = m) ∧ Hid (Below W0.heap.size W0 wr)) (fun _ i _ => n - (intOf i).toNat)
  case atStart => exact ⟨0, 0, Nat.zero_le _, rfl, by go_num, Nat.zero_le _, rfl, Below.refl _ _⟩
  case round =>
    obtain ⟨k, m, hk, rfl, rfl, hm, hlk, hB⟩ := hrel
    have hm2 : m ≤ 2305844108758876160 := by
      have : k * 2199024304160 ≤ 1048576 * 2199024304160 := Nat.mul_le_mul_right _ (by omega)
      omega
    by_cases hkn : k < n
    · have hki : (k : Int) < (n : Int) := by omega
      have hk0 : (0 : Int) ≤ (k : Int) := by omega
      obtain ⟨r, hrk⟩ : ∃ r, rs[k]? = some r := ⟨_, List.getElem?_eq_getElem (by rw [hln.out]; exact hkn)⟩
      have hTr := HT.out.keep hB.out
      obtain ⟨b, off, rfl, hlt, hc⟩ := RdI.lt hTr.rd (by intro h; rw [h] at hrk; simp at hrk)
      obtain ⟨x6, xr⟩ := hc k r hrk
      have hsm := hTr.small r (List.mem_of_getElem? hrk)
      have hds := hsm.data
      have hes := hsm.attrs
      have hnx : Hid (restU ((rs.map InoR.D).take (k + 1)) = m + (r.D.data.length + attU r.D.attrs)) := by
        show _ = _
        rw [restU_snoc (D := r.D) (by simp [hrk]), hlk.out]
      obtain ⟨es, hes'⟩ : ∃ es, r.D.attrs = es := ⟨_, rfl⟩
      have hre : RdP wr r.a3 (aP es) := by rw [← hes']; exact xr.attrs
      have HSZ : Hid (∀ q ∈ es, q.1.size ≤ 1048576 ∧ q.2.size ≤ 1048576) := by rw [← hes']; exact hsm.attrsz
      obtain ⟨x0, x1, x2, x3, x4, x5⟩ := x6
      rw [hes'] at x5 hes hnx
      obtain ⟨n3, hn3⟩ : ∃ n3, es.length = n3 := ⟨_, rfl⟩
      rw [hn3] at x5 hes
      have HN : Hid _ := hn3
      generalize r.D.ino = i1 at x0
      generalize r.D.kind = i2 at x1
      generalize r.D.links = i3 at x2
      generalize r.D.data.length = n1 at x3 hds hnx
      generalize r.D.ents.length = n2 at x4
      have bx := Blk.new wr 68 #[.int .i64 i1, .int .i64 i2, .int .i64 i3, .slice r.a1 n1 r.c1, .slice r.a2 n2 r.c2, .slice r.a3 n3 r.c3]
      have hbA : Below wr.heap.size wr (wr.alloc (.cells #[.int .i64 i1, .int .i64 i2, .int .i64 i3, .slice r.a1 n1 r.c1, .slice r.a2 n2 r.c2, .slice r.a3 n3 r.c3] 68)) := (Below.refl _ wr).alloc (Nat.le_refl _) _
      have HE : Hid _ := RdP.keep hre hbA
      have HBA : Hid (Below W0.heap.size W0 (wr.alloc (.cells #[.int .i64 i1, .int .i64 i2, .int .i64 i3, .slice r.a1 n1 r.c1, .slice r.a2 n2 r.c2, .slice r.a3 n3 r.c3] 68))) := hB.out.trans (hbA.mono hB.out.size)
      have y3 := bx.cell 3
      have y5 := bx.cell 5
      simp at y3 y5
      have HBX : Hid _ := bx
      clear hc xr hsm hrk hlk hes' hn3 hre hTr bx hbA
      go_wp2
      obtain ⟨Wb, hWb⟩ : ∃ W, wr.alloc (.cells #[.int .i64 i1, .int .i64 i2, .int .i64 i3, .slice r.a1 n1 r.c1, .slice r.a2 n2 r.c2, .slice r.a3 n3 r.c3] 68) = W := ⟨_, rfl⟩
      rw [hWb] at HE HBA HBX ⊢
      clear hWb y3 y5 x0 x1 x2 x3 x4 x5
      clear HBX
      go_loopw [3, 27] (fun c j wi => ∃ p q : Nat, p ≤ n3 ∧ j = .int .i64 p ∧ c = .int .i64 ((n * 32 + (m + (n1 + q)) : Nat) : Int) ∧ q ≤ p * 2097152 ∧ Hid (attU (es.take p) = q) ∧ Hid (Below Wb.heap.size Wb wi)) (fun _ j _ => n3 - (intOf j).toNat)
      case atStart => exact ⟨0, 0, Nat.zero_le _, rfl, by go_num, Nat.zero_le _, rfl, Below.refl _ _⟩
      case round =>
        obtain ⟨p, q, hp, rfl, rfl, hq, hcq, hBi⟩ := hrel
        have hq2 : q ≤ 2199023255552 := by
          have : p * 2097152 ≤ 1048576 * 2097152 := Nat.mul_le_mul_right _ (by omega)
          omega
        by_cases hpn : p < n3
        · have hpi : (p : Int) < (n3 : Int) := by omega
          have hp0 : (0 : Int) ≤ (p : Int) := by omega
          have hpl : p < es.length := by rw [HN.out]; exact hpn
          obtain ⟨eb, eo, hea, helt, hec⟩ := RdP.lt (RdP.keep HE.out hBi.out) (by intro h; have := congrArg List.length h; rw [aP_length] at this; simp at this; rw [this] at hpl; simp at hpl)
          have hx := hec p (by rw [aP_length]; exact hpl)
          rw [aP_at es p hpl] at hx
          have hsn := attU_snoc (List.getElem?_eq_getElem hpl)
          have hss := HSZ.out es[p] (List.getElem_mem hpl)
          obtain ⟨zn, hz⟩ : ∃ z, es[p].1 = z := ⟨_, rfl⟩
          obtain ⟨u, hu⟩ : ∃ u, es[p].2 = u := ⟨_, rfl⟩
          rw [hz, hu] at hx hsn hss
          rw [hcq.out] at hsn
          obtain ⟨x1, x2⟩ := hx
          dsimp only at x1 x2
          obtain ⟨s1, s2⟩ := hss
          rw [hea]
          have bA : Below wr.heap.size wr (wr.alloc (.cells #[.string zn, .string u] 106)) := (Below.refl _ wr).alloc (Nat.le_refl _) _
          have HBI : Hid (Below Wb.heap.size Wb (wr.alloc (.cells #[.string zn, .string u] 106))) := hBi.out.trans (bA.mono hBi.out.size)
          clear bA
          have hs1 : Hid (attU (es.take (p + 1)) = q + (zn.size + u.size)) := hsn
          clear hec hz hu hcq hsn
          generalize hzn : zn.size = sn at s1 hs1
          generalize hun : u.size = su at s2 hs1
          go_wp2
          go_roundw
          case rel => exact ⟨p + 1, q + (sn + su), by omega, by go_num, by go_num, by omega, hs1, HBI⟩
          case measure => simp [intOf]; omega
        · have hpi : ¬ (p : Int) < (n3 : Int) := by omega
          have hfin : Hid (restU ((rs.map InoR.D).take (k + 1)) = m + (n1 + q)) := by
            show _ = _
            rw [hnx.out, ← hcq.out, List.take_of_length_le (by rw [HN.out]; omega)]
          have hB2 : Hid _ := HBA.out.trans (hBi.out.mono HBA.out.size)
          go_wp2
          go_roundw
          case rel => exact ⟨k + 1, m + (n1 + q), by omega, by go_num, by go_num, by omega, hfin, hB2⟩
          case measure => simp [intOf]; omega
    · have hki : ¬ (k : Int) < (n : Int) := by omega
      have hend : Hid (((n * 32 + m : Nat) : Int) = (R : Int)) := by
        have h1 := hlk.out
        rw [List.take_of_length_le (by rw [List.length_map, hln.out]; omega)] at h1
        have h2 := HR.out
        unfold usageD at h2; rw [h1, List.length_map, hln.out] at h2
        show _ = _
        rw [h2]
      have hfb : Hid _ := HB.out.trans (hB.out.mono HB.out.size)
      go_wp2
      go_ret
      exact ⟨ret_int hend.out, hfb.out⟩
end

section
open Go.RowKit
def pF : ByteArray := ⟨#[47, 102]⟩
def nF : ByteArray := ⟨#[102]⟩
/-- A table with one file. -/
def bX (F : List Int) : List InoD := [⟨1, 2, 0, [], [(nF, 2)], []⟩, ⟨2, 1, 1, F, [], []⟩]
set_option maxRecDepth 100000 in
theorem bX_make : makeD 2 tab1 pF 1 = (3, bX [], 0) := by kernel_rfl
set_option maxRecDepth 100000 in
theorem bX_good : goodB 3 (bX []) = true := by kernel_rfl
theorem bX_sk (F : List Int) : (bX F).map sk = bX [] := rfl
theorem bX_mem {F : List Int} {p : InoD → Prop} (h1 : p ⟨1, 2, 0, [], [(nF, 2)], []⟩) (h2 : p ⟨2, 1, 1, F, [], []⟩) : ∀ D ∈ bX F, p D := by
  intro D hD
  simp only [bX, List.mem_cons, List.not_mem_nil, or_false] at hD
  rcases hD with rfl | rfl
  · exact h1
  · exact h2
theorem bX_tree {F : List Int} (hF : F.length ≤ 100) : treeD 3 (bX F) = true :=
  tree_sk (by rw [bX_sk]; exact (goodB_small bX_good).2.2) (bX_mem ⟨by simp, .inr rfl⟩ ⟨hF, .inl rfl⟩)
theorem bX_small {F : List Int} (hF : F.length ≤ 100) : ∀ D ∈ bX F, InoSmall D := bX_mem (smallB_ok (by decide)) (small_file hF)
set_option maxRecDepth 100000 in
theorem bX_split : (splitOf pF.data.toList).isSome = true := by kernel_rfl
set_option maxRecDepth 100000 in
theorem bX_file (F : List Int) : fileD (bX F) pF = (⟨2, 1, 1, F, [], []⟩, 0) := by kernel_rfl
set_option maxRecDepth 100000 in
theorem bX_stat (F : List Int) : statD (bX F) pF = (⟨2, 1, 1, F, [], []⟩, 0) := by kernel_rfl
set_option maxRecDepth 100000 in
theorem bX_set (F G : List Int) : setD (bX F) ⟨2, 1, 1, G, [], []⟩ = bX G := by kernel_rfl
theorem bX_write {k j : Nat} (h : k + j = 100) : writeD 3 (bX []) pF (k : Int) (List.replicate j 0) = (bX (List.replicate 100 0), 0) := by
  rw [write_eq (bX_tree (by simp)) bX_split (bX_file []) (by simp; omega), bX_set, writeB_nil, List.replicate_append_replicate, h]
theorem bX_full {k j : Nat} (hk : k ≤ 100) (h : k + j = 101) : (writeD 3 (bX (List.replicate 100 0)) pF (k : Int) (List.replicate j 0)).2 = 5 := by
  unfold writeD
  rw [bX_file, if_neg (by rw [bX_tree (by simp), bX_split]; simp; omega), if_pos ⟨rfl, by rw [List.length_replicate]; omega⟩]
theorem bX_cut {k : Nat} (hk : k ≤ 100) : truncD 3 (bX (List.replicate 100 0)) pF (k : Int) = (bX (List.replicate k 0), 0) := by
  unfold truncD
  rw [bX_file, if_neg (by rw [bX_tree (by simp), bX_split]; simp; omega), if_neg (by simp)]
  dsimp only
  rw [Int.toNat_natCast, bX_set]
  unfold cutD
  rw [List.length_replicate, show k - 100 = 0 by omega, List.replicate_zero, List.append_nil, List.take_replicate, Nat.min_eq_left hk]
theorem bX_usage : usageD (bX (List.replicate 100 0)) = 164 := by
  unfold usageD bX
  rfl
theorem rd_made (W : World) (k : Nat) : Rd (W.alloc (.cells (madeCells #[.int .u8 0] k) 5)) (some ⟨W.heap.size, 0, none⟩) (List.replicate k 0) := by
  refine .inr ⟨W.heap.size, 0, rfl, fun i hi => ?_⟩
  rw [List.length_replicate] at hi
  rw [cell_of_row (W.alloc (.cells (madeCells #[.int .u8 0] k) 5)) W.heap.size (0 + i) (madeCells #[.int .u8 0] k) 5 (0, 0) (heap_alloc_new W _), Nat.zero_add]
  have h1 : (List.replicate k (0 : Int)).getD i 0 = 0 := by rw [List.getD_eq_getElem?_getD, List.getElem?_replicate, if_pos hi]; rfl
  rw [h1]
  have h2 : i < (madeCells #[Value.int .u8 0] k).size := by simpa [madeCells] using hi
  rw [Array.getElem?_eq_getElem h2]
  simp [madeCells, Nat.mod_one]
/-- Behind what was refused: a code. -/
def KRC (c : Int) (w0 : World) (s : Value) (wx : World) : Prop := s = .int .i64 c ∧ Hid (Below w0.heap.size w0 wx)
theorem krc_al {c : Int} {w0 w9 : World} (h : Below w0.heap.size w0 w9) (o : Obj) : KRC c w0 (.int .i64 c) (w9.alloc o) := ⟨rfl, below_al h o⟩
theorem krc_two {c : Int} {w0 w9 : World} {X : Nat} (h : Below w0.heap.size w0 w9) (hX : w0.heap.size ≤ X) (u v : Value) : KRC c w0 (.int .i64 c) ((w9.setCell ⟨X, 0, none⟩ u).setCell ⟨X, 1, none⟩ v) := ⟨rfl, below_two h hX u v⟩
set_option maxRecDepth 100000 in
set_option maxHeartbeats 16000000 in
theorem walkFnBigFile (a : Option Addr) (n cap : Nat) (zs : List Int) (w : World) (hr : ByteRow w a n cap zs) (het : EtCell w) :
    Calls Tryz.prog 10 #[.slice a n cap] w fun e w' => e = .returned (.bool true) ∧ Below w.heap.size w w' := by
  by_cases hbig : (1048576 : Int) < (n : Int)
  · have hd : decide ((1048576 : Int) < (n : Int)) = true := decide_eq_true hbig
    have hc := big8_any a n cap w
    rw [hd] at hc
    go_enter Tryz.func10, Tryz.ntmps10
    go_wp2_with fail
    (with_reducible refine hc.mono ?_)
    rintro e w1 ⟨rfl, hw1⟩
    obtain rfl := hw1.symm
    go_wp2
    go_ret
    exact ⟨rfl, Below.refl _ _⟩
  have hd : decide ((1048576 : Int) < (n : Int)) = false := decide_eq_false hbig
  have hc := big8_any a n cap w
  rw [hd] at hc
  have HET : Hid _ := het
  have hn20 : n ≤ 1048576 := by omega
  obtain ⟨ys, hyl, hyr, hyb⟩ := rd_of_row hr
  obtain ⟨v, hv⟩ : ∃ v, atV8 ys n 2 = v := ⟨_, rfl⟩
  have hv255 : v ≤ 255 := by rw [← hv]; exact atV8_le ys n 2 hyb
  have hA : Calls Tryz.prog 31 #[.slice a n cap, .int .i64 2] w fun e w' => e = .returned (.int .i64 (v : Int)) ∧ w' = w := by
    have h := at8_any a n cap ys 2 w hyl hn20 (by omega) hyr hyb
    rw [hv] at h
    exact h
  obtain ⟨k, hk⟩ : ∃ k, v % 101 = k := ⟨_, rfl⟩
  have hk100 : k ≤ 100 := by omega
  have hmod : (v : Int) % 101 = (k : Int) := by omega
  have hmod2 : Int.tmod (v : Int) 101 = (k : Int) := by rw [Int.tmod_eq_emod_of_nonneg (by omega)]; exact hmod
  obtain ⟨j, hj⟩ : ∃ j, k + j = 100 := ⟨100 - k, by omega⟩
  have hsub : (100 : Int) - (k : Int) = (j : Int) := by omega
  obtain ⟨j2, hj2⟩ : ∃ x, j + 1 = x := ⟨_, rfl⟩
  have hsu1 : (j : Int) + 1 = (j2 : Int) := by omega
  have hmk1 := fun W : World => run_make_row' (P := Tryz.prog) 42 5 (.int .u8 0) 1 Tryz.underlying42 Tryz.info5 rfl .i64 .i64 j (by omega) (by omega) W
  have hmk2 := fun W : World => run_make_row' (P := Tryz.prog) 42 5 (.int .u8 0) 1 Tryz.underlying42 Tryz.info5 rfl .i64 .i64 j2 (by omega) (by omega) W
  have hwj : IntKind.i64.wrap (j : Int) = (j : Int) := by rw [IntKind.wrap_i64]; omega
  have hwj1 : IntKind.i64.wrap (j2 : Int) = (j2 : Int) := by rw [IntKind.wrap_i64]; omega
  have HJ : Hid _ := hj
  have HJ2 : Hid _ := hj2
  clear hd hbig het hk hv hr hyl hyr hyb hj hj2
  go_enter Tryz.func10, Tryz.ntmps10
  go_wp2_with fail
  (with_reducible refine hc.mono ?_)
  rintro e w1 ⟨rfl, hw1⟩
  obtain rfl := hw1.symm
  clear hc
  go_wp2_with fail
  (with_reducible refine hA.mono ?_)
  rintro e w1 ⟨rfl, hw1⟩
  obtain rfl := hw1.symm
  clear hA
  go_wp2_with fail
  refine (tabNewI w).mono ?_
  rintro e w2 ⟨g1, rfl, hg1, o1, b2⟩
  have hT1 : TR w2 (some ⟨g1, 0, none⟩) 1 [ino1] := ⟨rfl, by omega, fun r hr => by simp at hr; subst hr; exact ino1_small, o1.rds fun r hr => by simp at hr; subst hr; exact ino1_rd w2⟩
  have hcD := makeFileI (some ⟨g1, 0, none⟩) 1 1 2 [ino1] pF w2 hT1 (fun r hr => by simp at hr; subst hr; decide) (EtCell.keep HET.out b2) (by decide)
  rw [show makeD 2 (List.map InoR.D [ino1]) pF 1 = (3, bX [], 0) from bX_make] at hcD
  dsimp only at hcD
  unfold pF at hcD
  go_wp2_with fail
  (with_reducible refine hcD.mono ?_)
  intro e w3 hp3
  obtain ⟨a3, n3, c3, rs3, rfl, hT3, hR3, b3⟩ := hp3.open (bX_small (by simp)) (by show (2 : Nat) ≤ _; omega)
  have bA : Below w3.heap.size w3 (w3.alloc (.cells #[.slice a3 n3 c3, .int .i64 3] 47)) := (Below.refl _ w3).alloc (Nat.le_refl _) _
  have C3 := b2.trans (b3.mono b2.size)
  have D3 : Below w.heap.size w (w3.alloc (.cells #[.slice a3 n3 c3, .int .i64 3] 47)) := C3.trans (bA.mono C3.size)
  have zb := Blk.new w3 47 #[.slice a3 n3 c3, .int .i64 3]
  have hTr := (hT3 _ bA).1
  have hwT : w.heap.size ≤ w3.heap.size := C3.size
  clear hp3 hT3 bA b2 b3 hcD hT1 o1 C3 hg1
  go_upto_region 5 with fail
  obtain ⟨V3, hV3⟩ : ∃ W, w3.alloc (.cells #[.slice a3 n3 c3, .int .i64 3] 47) = W := ⟨_, rfl⟩
  obtain ⟨T, hT⟩ : ∃ X, w3.heap.size = X := ⟨_, rfl⟩
  rw [hV3] at D3 zb hTr ⊢
  rw [hT] at zb hwT ⊢
  clear hV3 hT
  have hwf := (tree_facts (nx := 3) (rs := rs3) (by rw [hR3]; exact bX_tree (by simp))).2.1
  have HWr : Hid (∀ W : World, Below V3.heap.size V3 W → Rd W (some ⟨V3.heap.size, 0, none⟩) (List.replicate j 0) → Calls Tryz.prog 33 #[.agg #[.slice a3 n3 c3, .int .i64 3], .string ⟨#[47, 102]⟩, .int .i64 (k : Int), .slice (some ⟨V3.heap.size, 0, none⟩) j j] W fun e w4 => Back W T (.slice a3 n3 c3) (.int .i64 3) 3 (bX (List.replicate 100 0)) e w4) := fun W hW hR => wrBack (p := pF) (zb.keep hW) (hTr.keep hW) hR3 hwf (EtCell.keep HET.out (D3.trans (hW.mono D3.size))) (by decide) (by simp) (by have := HJ.out; omega) hR (fun z hz => by simp at hz; omega) (bX_write HJ.out) (bX_small (by simp)) (by show (2 : Nat) ≤ _; omega)
  have z0 := zb.cell 0
  have z1 := zb.cell 1
  simp at z0 z1
  have hTl := zb.lt
  have nT1 : ¬ T = V3.heap.size := by omega
  have nT2 : ¬ V3.heap.size = T := by omega
  have hD3s := D3.size
  have HD3 : Hid _ := D3
  clear zb hTr hR3 hwf D3
  go_cut [6] (fun s wx => GRW w T w.heap.size 3 (bX (List.replicate 100 0)) s wx)
  case first =>
    have q1 := hmk1 V3.drew
    have q2 := hmk1 V3
    have rdm1 := rd_made V3.drew j
    generalize madeCells #[Value.int .u8 0] j = CC at q1 q2 rdm1
    have R1 : Hid (Rd (V3.drew.alloc (.cells CC 5)) (some ⟨V3.heap.size, 0, none⟩) (List.replicate j 0)) := rdm1
    have R2 : Hid (Rd (V3.alloc (.cells CC 5)).drew (some ⟨V3.heap.size, 0, none⟩) (List.replicate j 0)) := rdm1
    clear hmk1 hmk2 rdm1
    go_region_with (go_at_call 33; ((with_reducible refine (HWr.out _ (by first | with_reducible exact (Below.refl _ _).drew.alloc (Nat.le_refl _) _ | with_reducible exact ((Below.refl _ _).alloc (Nat.le_refl _) _).drew) (by first | with_reducible exact R1.out | with_reducible exact R2.out)).mono ?_); rintro e w9 ⟨a9, n9, c9, rfl, htb9, zc9, bb9⟩; have hs9 := bb9.size; (try simp at hs9); have y0 := zc9.cell 0; have y1 := zc9.cell 1; have f0 := zc9.frozen 0; have f1 := zc9.frozen 1; (simp at y0 y1); have HT9 : Hid _ := htb9 w.heap.size (by simp <;> omega); have B9 : Hid (Below w.heap.size w w9) := HD3.out.trans (((by first | with_reducible exact (Below.refl _ _).drew.alloc (Nat.le_refl _) _ | with_reducible exact ((Below.refl _ _).alloc (Nat.le_refl _) _).drew : Below V3.heap.size V3 _).trans (bb9.mono (by simp))).mono hD3s); clear htb9 zc9 bb9))
    all_goals (go_wp2_with fail; go_meet; exact ⟨rfl, HT9, below_two B9.out hwT _ _⟩)
  case rest =>
  obtain ⟨rfl, hTX, D4⟩ := hcut
  obtain ⟨V4, hwc⟩ : ∃ W, W = wc := ⟨_, rfl⟩
  subst hwc
  clear z0 z1 hTl nT1 nT2 HWr HD3 hD3s
  obtain ⟨at4, nt4, ct4, rt4, zb, hTr, hRr, t1, t2, t3⟩ := TB.tree (TBX.tb hTX.out) (bX_tree (by simp))
  have HEW : Hid (∀ W : World, Below V4.heap.size V4 W → EtCell W) := fun W hW => EtCell.keep HET.out (D4.out.trans (hW.mono D4.out.size))
  have HWr : Hid (∀ W : World, Below V4.heap.size V4 W → ∀ g : Nat, Rd W (some ⟨g, 0, none⟩) (List.replicate j2 0) → Calls Tryz.prog 33 #[.agg #[.slice at4 nt4 ct4, .int .i64 3], .string ⟨#[47, 102]⟩, .int .i64 (k : Int), .slice (some ⟨g, 0, none⟩) j2 j2] W fun e w' => ∃ a4 n4 c4 m4, e = .returned (.tuple #[.agg #[.slice a4 n4 c4, .int .i64 m4], .int .i64 5]) ∧ Below W.heap.size W w') := fun W hW g hg => by
    have h := writeAtI at4 nt4 ct4 3 rt4 pF (k : Int) (some ⟨g, 0, none⟩) j2 j2 (List.replicate j2 0) W (hTr.keep hW) t2 (HEW.out W hW) (by decide) (by simp) (by have := HJ.out; have := HJ2.out; omega) hg (fun z hz => by simp at hz; omega)
    rw [hRr, bX_full hk100 (by have := HJ.out; have := HJ2.out; omega)] at h
    exact h.mono fun e w' ⟨a4, c4, js, h1, _, h3⟩ => ⟨a4, _, c4, _, h1, h3⟩
  have HTc : Hid (∀ W : World, Below V4.heap.size V4 W → Calls Tryz.prog 43 #[.agg #[.slice at4 nt4 ct4, .int .i64 3], .string ⟨#[47, 102]⟩, .int .i64 (k : Int)] W fun e w' => TabC W 3 (bX (List.replicate k 0)) 0 e w') := fun W hW => by
    have h := truncateI at4 nt4 ct4 3 rt4 pF (k : Int) W (hTr.keep hW) t2 (HEW.out W hW) (by decide)
    rw [hRr, bX_cut hk100] at h
    exact h
  have HUs : Hid (∀ W : World, Below V4.heap.size V4 W → Calls Tryz.prog 44 #[.agg #[.slice at4 nt4 ct4, .int .i64 3]] W fun e w' => e = .returned (.int .i64 164) ∧ Below W.heap.size W w') := fun W hW => by
    have h := usageI at4 nt4 ct4 3 rt4 W (hTr.keep hW)
    rw [hRr, bX_usage] at h
    exact h
  have HZ : Hid (∀ W : World, Below V4.heap.size V4 W → W.cell? ⟨T, 0, none⟩ = some (.slice at4 nt4 ct4) ∧ W.cell? ⟨T, 1, none⟩ = some (.int .i64 3)) := fun W hW => ⟨(zb.keep hW).cell 0, (zb.keep hW).cell 1⟩
  have hTl : T < V4.heap.size := zb.lt
  clear hTX zb hTr hRr t1 t2 t3
  obtain ⟨z0, z1⟩ := HZ.out V4 (Below.refl _ _)
  go_upto_region 6 with fail
  go_cut [8] (fun s wx => KRC 5 V4 s wx)
  case first =>
    have nT1 : ¬ T = V4.heap.size := by omega
    have nT2 : ¬ V4.heap.size = T := by omega
    have nT3 : ¬ T = V4.heap.size + 1 := by omega
    have nT4 : ¬ V4.heap.size + 1 = T := by omega
    have e0 : Below V4.heap.size V4 V4 := Below.refl _ _
    have q1 := hmk2 V4.drew
    have q2 := hmk2 V4
    have q3 := hmk2 (V4.drew.alloc (.cells #[.slice none 0 0, .int .i64 0] 47))
    have q4 := hmk2 (V4.alloc (.cells #[.slice none 0 0, .int .i64 0] 47))
    have q5 := hmk2 (V4.alloc (.cells #[.slice none 0 0, .int .i64 0] 47)).drew
    have RM : Hid (∀ W : World, Rd (W.alloc (.cells (madeCells #[.int .u8 0] j2) 5)) (some ⟨W.heap.size, 0, none⟩) (List.replicate j2 0)) := fun W => rd_made W j2
    generalize madeCells #[Value.int .u8 0] j2 = CC at q1 q2 q3 q4 q5 RM
    clear hmk1 hmk2
    have RM2 : ∀ W : World, Rd ((W.alloc (.cells #[.slice none 0 0, .int .i64 0] 47)).alloc (.cells CC 5)) (some ⟨W.heap.size + 1, 0, none⟩) (List.replicate j2 0) := fun W => by
      have h := RM.out (W.alloc (.cells #[.slice none 0 0, .int .i64 0] 47))
      rw [World.size_alloc] at h
      exact h
    have RA1 : Rd ((V4.drew.alloc (.cells #[.slice none 0 0, .int .i64 0] 47)).alloc (.cells CC 5)) (some ⟨V4.heap.size + 1, 0, none⟩) (List.replicate j2 0) := RM2 V4.drew
    have RA2 : Rd ((V4.alloc (.cells #[.slice none 0 0, .int .i64 0] 47)).drew.alloc (.cells CC 5)) (some ⟨V4.heap.size + 1, 0, none⟩) (List.replicate j2 0) := RM2 V4.drew
    have RA3 : Rd ((V4.alloc (.cells #[.slice none 0 0, .int .i64 0] 47)).alloc (.cells CC 5)).drew (some ⟨V4.heap.size + 1, 0, none⟩) (List.replicate j2 0) := RM2 V4.drew
    have RB1 : Rd ((V4.drew.alloc (.cells CC 5)).alloc (.cells #[.slice none 0 0, .int .i64 0] 47)) (some ⟨V4.heap.size, 0, none⟩) (List.replicate j2 0) := (RM.out V4.drew).keep ((Below.refl _ _).alloc (Nat.le_refl _) _)
    have RB2 : Rd ((V4.alloc (.cells CC 5)).drew.alloc (.cells #[.slice none 0 0, .int .i64 0] 47)) (some ⟨V4.heap.size, 0, none⟩) (List.replicate j2 0) := RB1
    have RB3 : Rd ((V4.alloc (.cells CC 5)).alloc (.cells #[.slice none 0 0, .int .i64 0] 47)).drew (some ⟨V4.heap.size, 0, none⟩) (List.replicate j2 0) := RB1
    have KA1 : Hid (∀ W' : World, Below ((V4.drew.alloc (.cells #[.slice none 0 0, .int .i64 0] 47)).alloc (.cells CC 5)).heap.size ((V4.drew.alloc (.cells #[.slice none 0 0, .int .i64 0] 47)).alloc (.cells CC 5)) W' → Blk W' (V4.heap.size) 47 #[.slice none 0 0, .int .i64 0]) := fun W' h => Blk.keep ((Blk.new V4.drew _ _).alloc _) h
    have KA2 : Hid (∀ W' : World, Below ((V4.alloc (.cells #[.slice none 0 0, .int .i64 0] 47)).drew.alloc (.cells CC 5)).heap.size ((V4.alloc (.cells #[.slice none 0 0, .int .i64 0] 47)).drew.alloc (.cells CC 5)) W' → Blk W' (V4.heap.size) 47 #[.slice none 0 0, .int .i64 0]) := KA1
    have KA3 : Hid (∀ W' : World, Below (((V4.alloc (.cells #[.slice none 0 0, .int .i64 0] 47)).alloc (.cells CC 5)).drew).heap.size (((V4.alloc (.cells #[.slice none 0 0, .int .i64 0] 47)).alloc (.cells CC 5)).drew) W' → Blk W' (V4.heap.size) 47 #[.slice none 0 0, .int .i64 0]) := KA1
    have KB1 : Hid (∀ W' : World, Below ((V4.drew.alloc (.cells CC 5)).alloc (.cells #[.slice none 0 0, .int .i64 0] 47)).heap.size ((V4.drew.alloc (.cells CC 5)).alloc (.cells #[.slice none 0 0, .int .i64 0] 47)) W' → Blk W' (V4.heap.size + 1) 47 #[.slice none 0 0, .int .i64 0]) := fun W' h => Blk.keep (Blk.newAt (by simp)) h
    have KB2 : Hid (∀ W' : World, Below ((V4.alloc (.cells CC 5)).drew.alloc (.cells #[.slice none 0 0, .int .i64 0] 47)).heap.size ((V4.alloc (.cells CC 5)).drew.alloc (.cells #[.slice none 0 0, .int .i64 0] 47)) W' → Blk W' (V4.heap.size + 1) 47 #[.slice none 0 0, .int .i64 0]) := KB1
    have KB3 : Hid (∀ W' : World, Below (((V4.alloc (.cells CC 5)).alloc (.cells #[.slice none 0 0, .int .i64 0] 47)).drew).heap.size (((V4.alloc (.cells CC 5)).alloc (.cells #[.slice none 0 0, .int .i64 0] 47)).drew) W' → Blk W' (V4.heap.size + 1) 47 #[.slice none 0 0, .int .i64 0]) := KB1
    have HRA : Hid _ := And.intro RA1 (And.intro RA2 (And.intro RA3 (And.intro RB1 (And.intro RB2 RB3))))
    clear RM2 RA1 RA2 RA3 RB1 RB2 RB3
    go_region_with (go_at_call 33; (obtain ⟨RA1, RA2, RA3, RB1, RB2, RB3⟩ := HRA.out); (with_reducible refine (HWr.out _ (by first | with_reducible exact below_al e0.drew _ | with_reducible exact (below_al e0 _).drew | with_reducible exact below_al (below_al e0.drew _) _ | with_reducible exact (below_al (below_al e0 _) _).drew | with_reducible exact below_al (below_al e0 _).drew _) _ (by first | with_reducible exact RM.out V4.drew | with_reducible exact (RM.out V4).keep (Below.refl _ _).drew | with_reducible exact RA1 | with_reducible exact RA2 | with_reducible exact RA3 | with_reducible exact RB1 | with_reducible exact RB2 | with_reducible exact RB3)).mono ?_); rintro e w9 ⟨a9, n9, c9, m9, rfl, b9⟩; clear RA1 RA2 RA3 RB1 RB2 RB3; have E9 : Below V4.heap.size V4 w9 := below_tr (by first | with_reducible exact below_al e0.drew _ | with_reducible exact (below_al e0 _).drew | with_reducible exact below_al (below_al e0.drew _) _ | with_reducible exact (below_al (below_al e0 _) _).drew | with_reducible exact below_al (below_al e0 _).drew _) b9; have hs9 := b9.size; (try simp at hs9); (first | (with_reducible (have kA := KA1.out w9 b9)) | (with_reducible (have kA := KA2.out w9 b9)) | (with_reducible (have kA := KA3.out w9 b9)) | (with_reducible (have kB := KB1.out w9 b9)) | (with_reducible (have kB := KB2.out w9 b9)) | (with_reducible (have kB := KB3.out w9 b9)) | skip); (try (have p1kA := kA.cell 0; have p2kA := kA.cell 1; (simp at p1kA p2kA); have f1kA := kA.frozen 0; have f2kA := kA.frozen 1)); (try (have p1kB := kB.cell 0; have p2kB := kB.cell 1; (simp at p1kB p2kB); have f1kB := kB.frozen 0; have f2kB := kB.frozen 1)))
    all_goals (go_wp2_with fail; go_meet; first | (with_reducible exact krc_al E9 _) | (with_reducible exact krc_two E9 (Nat.le_refl _) _ _) | (with_reducible exact krc_two E9 (Nat.le_succ _) _ _) | fail)
  case rest =>
  obtain ⟨rfl, E5⟩ := hcut
  obtain ⟨V5, hwc⟩ : ∃ W, W = wc := ⟨_, rfl⟩
  subst hwc
  clear z0 z1 HWr hmk1 hmk2
  obtain ⟨z0, z1⟩ := HZ.out V5 E5.out
  go_wp2_with fail
  (with_reducible refine (HTc.out V5 E5.out).mono ?_)
  intro e w6 hp6
  have lk : (List.replicate k (0 : Int)).length ≤ 100 := by rw [List.length_replicate]; omega
  obtain ⟨a6, n6, c6, rs6, rfl, hT6, hR6, b6⟩ := hp6.open (bX_small lk) (by show (2 : Nat) ≤ _; omega)
  have bA : Below w6.heap.size w6 (w6.alloc (.cells #[.slice a6 n6 c6, .int .i64 3] 47)) := (Below.refl _ w6).alloc (Nat.le_refl _) _
  have E6 : Below V4.heap.size V4 (w6.alloc (.cells #[.slice a6 n6 c6, .int .i64 3] 47)) := (E5.out.trans (b6.mono E5.out.size)).trans (bA.mono (Nat.le_trans E5.out.size b6.size))
  obtain ⟨t1, t2, t3⟩ := tree_facts (nx := 3) (rs := rs6) (by rw [hR6]; exact bX_tree lk)
  have hst : statD (rs6.map InoR.D) pF = (⟨2, 1, 1, List.replicate k 0, [], []⟩, 0) := by rw [hR6]; exact bX_stat _
  have hcR := readI a6 n6 c6 3 rs6 pF 1000 _ (hT6 _ bA).1 t1 t2 t3 (HEW.out _ E6) (by decide) (by omega) (by rw [hst]; dsimp only; omega)
  have hrd : readD (rs6.map InoR.D) pF 1000 = (List.replicate k 0, 0) := by
    unfold readD
    rw [hst]
    simp only [ne_eq, not_true_eq_false, if_false]
    rw [if_neg (by decide), List.take_of_length_le (by omega)]
  rw [hrd] at hcR
  dsimp only at hcR
  rw [show ((1000 : Nat) : Int) = 1000 from rfl] at hcR
  unfold EBytes at hcR
  rw [List.length_replicate] at hcR
  unfold pF at hcR
  have zX := Blk.new w6 47 #[.slice a6 n6 c6, .int .i64 3]
  clear hrd hst t1 t2 t3 hT6 hR6 hp6 b6 z0 z1 E5 lk bA HTc
  have z0 := zX.cell 0
  have z1 := zX.cell 1
  simp at z0 z1
  go_wp2_with fail
  (with_reducible refine hcR.mono ?_)
  rintro e w7 ⟨ar, cr, rfl, _, b7⟩
  have E7 := E6.trans (b7.mono E6.size)
  clear z0 z1 zX E6 b7 hcR
  obtain ⟨z0, z1⟩ := HZ.out w7 E7
  go_wp2_with fail
  (with_reducible refine (HUs.out w7 E7).mono ?_)
  rintro e w8 ⟨rfl, b8⟩
  have HF : Hid (Below w.heap.size w w8) := D4.out.trans ((E7.trans (b8.mono E7.size)).mono D4.out.size)
  clear z0 z1 E7 b8 HUs HZ HEW D4
  go_wp2
  go_ret
  exact ⟨rfl, HF.out⟩
end
end Go.Proofs.YtbjfihabkpianaaGreatDoor
