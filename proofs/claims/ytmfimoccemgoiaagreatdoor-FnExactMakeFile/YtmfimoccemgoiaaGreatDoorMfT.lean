/-
  Joined: Make6, WrapI, MakeMe, ChgMakeFile, MakeT, FnExactMakeFileW.
-/
import Derived.Test.YtmfimoccemgoiaaGreatDoorJ00B
import Derived.Test.YtmfimoccemgoiaaGreatDoorJ01B
import Derived.Test.YtmfimoccemgoiaaGreatDoorEqInoB
import Derived.Test.YtmfimoccemgoiaaGreatDoorJ03B
import Derived.Test.YtmfimoccemgoiaaGreatDoorEqTabB
import Derived.Test.YtmfimoccemgoiaaGreatDoorJ05B
import Derived.Test.YtmfimoccemgoiaaGreatDoorJ06B
import Derived.Test.YtmfimoccemgoiaaGreatDoorJ07B
import Derived.Test.YtmfimoccemgoiaaGreatDoorJ08B
import Derived.Test.YtmfimoccemgoiaaGreatDoorCopyIB
import Derived.Test.YtmfimoccemgoiaaGreatDoorJ10B
import Derived.Test.YtmfimoccemgoiaaGreatDoorJ11B
import Derived.Test.YtmfimoccemgoiaaGreatDoorSetSB
import Derived.Test.YtmfimoccemgoiaaGreatDoorJ13B
import Derived.Test.YtmfimoccemgoiaaGreatDoorSetIB
import Derived.Test.YtmfimoccemgoiaaGreatDoorJ15B
import Derived.Test.YtmfimoccemgoiaaGreatDoorJ16B
import Derived.Test.YtmfimoccemgoiaaGreatDoorJ17B
import Derived.Test.YtmfimoccemgoiaaGreatDoorEntsOkB
import Derived.Test.YtmfimoccemgoiaaGreatDoorAttsOkB
import Derived.Test.YtmfimoccemgoiaaGreatDoorAscIB
import Derived.Test.YtmfimoccemgoiaaGreatDoorAscTB
import Derived.Test.YtmfimoccemgoiaaGreatDoorInoOkB
import Derived.Test.YtmfimoccemgoiaaGreatDoorAscAB
import Derived.Test.YtmfimoccemgoiaaGreatDoorJ24B
import Derived.Test.YtmfimoccemgoiaaGreatDoorTabOkSB
import Derived.Test.YtmfimoccemgoiaaGreatDoorJ26B
import Derived.Test.YtmfimoccemgoiaaGreatDoorNext7B
import Derived.Test.YtmfimoccemgoiaaGreatDoorJ28B
import Derived.Test.YtmfimoccemgoiaaGreatDoorTreeSB
import Derived.Test.YtmfimoccemgoiaaGreatDoorJ30B
import Derived.Test.YtmfimoccemgoiaaGreatDoorJ31B
import Derived.Test.YtmfimoccemgoiaaGreatDoorJ32B
import Derived.Test.YtmfimoccemgoiaaGreatDoorJ33B
import Derived.Test.YtmfimoccemgoiaaGreatDoorJ34B
import Derived.Test.YtmfimoccemgoiaaGreatDoorJ35B
import Derived.Test.YtmfimoccemgoiaaGreatDoorJ36B
import Derived.Test.YtmfimoccemgoiaaGreatDoorJ37B
import Derived.Test.YtmfimoccemgoiaaGreatDoorJ38B
import Derived.Test.YtmfimoccemgoiaaGreatDoorJ39B
import Derived.WalkKit
import Derived.WalkSpells
import Derived.WalkLawsBesides
import Derived.Deep.QuietTactic
import Derived.BigQuiet
import Derived.OpenShut
import Derived.Laws.BitsAllLaws
import Derived.Maps.AppendAt
import Derived.Lib.SliceRun
import Derived.Lib.Strings
import Derived.Deep.RegionWith
import Derived.Laws.IdiomStrings
import Derived.Deep.Slices
import Derived.ProofKit
import Derived.ChangeOld
import Derived.Below
import Derived.Deep.RegionHeld3
import Derived.Deep.DeepCutAuto
import Derived.Lib.AppendStr
import Derived.Lib.ConvBytes
import Derived.Deep.AppendLies
import Derived.Deep.AppendSrc
import Derived.Maps.OwnSet
import Derived.Maps.OwnOps
import Derived.Deep.RegionLaw
import Derived.Lib.Slices
import Derived.Lib.Walk
import Derived.Lib.Bytealg
import Derived.Lib.IndexLaws
import Derived.Lib.BufferWrite
import Derived.Lib.UnsafeStr
import Derived.Laws.MakeOwn
import Derived.Laws.Strings3
import Derived.OwnWalk
import Derived.Deep.DeepAppendRoom
import Derived.RangeFuncBox
import Derived.RangeFuncNested
import Derived.RangeFuncBound
import Derived.RangeFuncCalls
import Derived.RangeFuncLeaves
import Derived.Shelf.Abstract
import Derived.Shelf.RegionOpen
import Derived.OwnWalkIn
import Derived.TacticsInMore
import Derived.LoopNIn
import Derived.LoopIn
import Derived.Deep.CutBlock
import Derived.LaidEql
import Derived.Stop.Asserts
import Derived.RowKitTokens
import Derived.Shelf.SlGeneric
import Derived.Shelf.SlIterI.Nil
import Derived.Shelf.SortM.Plain
import Derived.Shelf.SortM.SortNone
import Derived.Ground.GgzProg
import Derived.Ground.SlgmProg
import Derived.Lib.AppendZerosOnto
import Derived.Laws.CopyRow
import Derived.Laws.BitsLemmas
import Derived.Lib.Overlaps
import Derived.Laws.StructEq
import Derived.Laws.BytesString
import Derived.Deep.OwnRows
namespace Go.Proofs.YtmfimoccemgoiaaGreatDoor
section
open Go.RowKit
set_option maxRecDepth 100000 in
set_option maxHeartbeats 2000000 in
theorem makeFileS (a : Option Addr) (n cap : Nat) (nx : Int) (rs : List InoR) (s : ByteArray) (w : World) (ht : TR w a n rs) (hs : s.size ≤ 4000000) :
    Calls Tryz.prog 22 #[.agg #[.slice a n cap, .int .i64 nx], .string s] w fun e w' => TabC w (makeD nx (rs.map InoR.D) s 1).1 (makeD nx (rs.map InoR.D) s 1).2.1 (makeD nx (rs.map InoR.D) s 1).2.2 e w' := by
  have B0 : Below w.heap.size w ((w.alloc (.cells #[.slice a n cap, .int .i64 nx] 28)).alloc (.cells #[.slice none 0 0, .int .i64 0] 28)) := ((Below.refl _ w).alloc (Nat.le_refl _) _).alloc (by simp) _
  have zR := Blk.new (w.alloc (.cells #[.slice a n cap, .int .i64 nx] 28)) 28 #[.slice none 0 0, .int .i64 0]
  simp only [World.size_alloc] at zR
  obtain ⟨x, l, q, hm⟩ : ∃ x l q, makeD nx (rs.map InoR.D) s 1 = (x, l, q) := ⟨_, _, _, rfl⟩
  rw [hm]
  dsimp only
  go_enter Tryz.func22, Tryz.ntmps22
  go_wp2_with fail
  obtain ⟨W0, hW0⟩ : ∃ W, (w.alloc (.cells #[.slice a n cap, .int .i64 nx] 28)).alloc (.cells #[.slice none 0 0, .int .i64 0] 28) = W := ⟨_, rfl⟩
  rw [hW0] at B0 zR ⊢
  clear hW0
  have hc := makeS a n cap nx rs s 1 W0 (ht.keep B0) hs
  rw [hm] at hc
  dsimp only at hc
  clear hm ht
  (with_reducible refine hc.mono ?_)
  rintro e w1 ⟨b, cc, js, rfl, q1, b1⟩
  clear hc
  have z1 := zR.keep b1
  obtain ⟨m, hm⟩ : ∃ m, js.length = m := ⟨_, rfl⟩
  rw [hm] at q1 ⊢
  have r0 := z1.cell 0
  have r1 := z1.cell 1
  have f0 := z1.frozen 0
  have f1 := z1.frozen 1
  simp at r0 r1
  have HQ : Hid _ := And.intro z1 (q1.boxed (B0.trans (b1.mono B0.size)) (R := w.heap.size + 1) (by omega) zR.lt (.slice b m cc) (.int .i64 x))
  have HM : Hid _ := hm
  clear q1 b1 z1 zR B0 hm
  go_wp2
  have zf := blk2 HQ.out.1 (.slice b m cc) (.int .i64 x)
  have dd0 := zf.cell 0
  have dd1 := zf.cell 1
  simp at dd0 dd1
  refine bodyPost_ret (v := .tuple #[.agg #[.slice b m cc, .int .i64 x], .int .i64 q]) (by simp [results, Tryz.f22, go_sem, dd0, dd1]) rfl ?_
  have := HM.out
  subst this
  exact ⟨b, cc, js, rfl, HQ.out.2.1, HQ.out.2.2⟩
end

section
open Go.RowKit
set_option maxRecDepth 100000 in
set_option maxHeartbeats 4000000 in
theorem wrap_MakeFile (a : Option Addr) (n cap : Nat) (nx : Int) (s : ByteArray) (w : World) (N : Int) (D : List InoD) (C : Int)
    (hc : ∀ W : World, Below w.heap.size w W → Calls Tryz.prog 61 #[.agg #[.slice a n cap, .int .i64 nx], .int .i64 1, .agg #[.string s, .string ⟨#[]⟩, .int .i64 0, .slice none 0 0, .string ⟨#[]⟩, .string ⟨#[]⟩]] W fun e w' => TabC W N D C e w') :
    Calls Tryz.prog 23 #[.agg #[.slice a n cap, .int .i64 nx], .string s] w fun e w' => TabC w N D C e w' := by
  have B0 : Below w.heap.size w ((w.alloc (.cells #[.slice a n cap, .int .i64 nx] 28)).alloc (.cells #[.slice none 0 0, .int .i64 0] 28)) := ((Below.refl _ w).alloc (Nat.le_refl _) _).alloc (by simp) _
  have zR := Blk.new (w.alloc (.cells #[.slice a n cap, .int .i64 nx] 28)) 28 #[.slice none 0 0, .int .i64 0]
  simp only [World.size_alloc] at zR
  go_enter Tryz.func23, Tryz.ntmps23
  go_wp2_with fail
  obtain ⟨W0, hW0⟩ : ∃ W, ((w.alloc (.cells #[.slice a n cap, .int .i64 nx] 28)).alloc (.cells #[.slice none 0 0, .int .i64 0] 28)) = W := ⟨_, rfl⟩
  rw [hW0] at B0 zR ⊢
  clear hW0
  (with_reducible refine (hc W0 B0).mono ?_)
  intro e w2 hp
  obtain ⟨ra, rn, rc, rfl, zz, hfin⟩ := tabC_box hp B0 (by omega) zR
  have HFIN : Hid (TabC w N D C (.returned (.tuple #[.agg #[.slice ra rn rc, .int .i64 N], .int .i64 C])) ((w2.setCell ⟨w.heap.size + 1, 0, none⟩ (.slice ra rn rc)).setCell ⟨w.heap.size + 1, 1, none⟩ (.int .i64 N))) := hfin
  have r0 := zz.cell 0
  have r1 := zz.cell 1
  have f0 := zz.frozen 0
  have f1 := zz.frozen 1
  simp at r0 r1
  have zf := blk2 zz (.slice ra rn rc) (.int .i64 N)
  have dd0 := zf.cell 0
  have dd1 := zf.cell 1
  simp at dd0 dd1
  clear hp hfin zf zz zR B0 hc
  go_wp2
  refine bodyPost_ret (v := .tuple #[.agg #[.slice ra rn rc, .int .i64 N], .int .i64 C]) (by simp [results, Tryz.f23, go_sem, dd0, dd1]) rfl ?_
  exact HFIN.out
end

section
open Go.RowKit
theorem eMeth_box {w W V : World} {nx : Int} {ds : List InoD} {c : Int} {e : Ending} {R : Nat} {u0 u1 : Value} (h : EMeth W nx ds c e V) (hb : Below w.heap.size w W) (hR : w.heap.size ≤ R) (hz : Blk W R 28 #[u0, u1]) : ∃ (a : Option Addr) (m cc : Nat) (rx : Int), e = .returned (.tuple #[.agg #[.slice a m cc, .int .i64 rx], errV c]) ∧ Blk V R 28 #[u0, u1] ∧ EMeth w nx ds c (.returned (.tuple #[.agg #[.slice a m cc, .int .i64 rx], errV c])) ((V.setCell ⟨R, 0, none⟩ (.slice a m cc)).setCell ⟨R, 1, none⟩ (.int .i64 rx)) := by
  obtain ⟨a, m, cc, rx, rfl, hB, ht⟩ := h
  refine ⟨a, m, cc, rx, rfl, hz.keep hB, a, m, cc, rx, rfl, ((hb.trans (hB.mono hb.size)).setCell (p := ⟨R, 0, none⟩) hR _).setCell (p := ⟨R, 1, none⟩) hR _, fun h0 => ?_⟩
  obtain ⟨a', c', js, hv, hq, hbV⟩ := ht h0
  have h1 := hq.boxed (hb.trans (hbV.mono hb.size)) hR hz.lt (.slice a m cc) (.int .i64 rx)
  exact ⟨a', c', js, hv, h1.1, h1.2⟩
set_option maxRecDepth 100000 in
set_option maxHeartbeats 4000000 in
theorem makeFileM (a : Option Addr) (n cap : Nat) (nx : Int) (rs : List InoR) (p q : ByteArray) (k : Int) (da : Option Addr) (dn dc : Nat) (an av : ByteArray) (w : World) (ht : TR w a n rs) (htr : treeD nx (rs.map InoR.D) = true) (hs : p.size ≤ 1048576) (hps : (strB (parentOf p.data.toList).1).size ≤ 1048576) (hnz : (strB (parentOf p.data.toList).2.1).size ≤ 1048576) :
    Calls Tryz.prog 168 #[.agg #[.slice a n cap, .int .i64 nx], .agg #[.string p, .string q, .int .i64 k, .slice da dn dc, .string an, .string av]] w fun e w' => EMeth w (nx + 1) (makeT nx (rs.map InoR.D) p 1) (makeC nx (rs.map InoR.D) p) e w' := by
  have B0 : Below w.heap.size w (((w.alloc (.cells #[.slice a n cap, .int .i64 nx] 28)).alloc (.cells #[.string p, .string q, .int .i64 k, .slice da dn dc, .string an, .string av] 77)).alloc (.cells #[.slice none 0 0, .int .i64 0] 28)) := (((Below.refl _ w).alloc (Nat.le_refl _) _).alloc (by simp) _).alloc (by simp; omega) _
  have zT := ((Blk.new w 28 #[.slice a n cap, .int .i64 nx]).alloc (.cells #[.string p, .string q, .int .i64 k, .slice da dn dc, .string an, .string av] 77)).alloc (.cells #[.slice none 0 0, .int .i64 0] 28)
  have zC := (Blk.new (w.alloc (.cells #[.slice a n cap, .int .i64 nx] 28)) 77 #[.string p, .string q, .int .i64 k, .slice da dn dc, .string an, .string av]).alloc (.cells #[.slice none 0 0, .int .i64 0] 28)
  have zR := Blk.new ((w.alloc (.cells #[.slice a n cap, .int .i64 nx] 28)).alloc (.cells #[.string p, .string q, .int .i64 k, .slice da dn dc, .string an, .string av] 77)) 28 #[.slice none 0 0, .int .i64 0]
  simp only [World.size_alloc] at zC zR
  have hcM := makeInodeI a n cap nx rs p 1 _ (ht.keep B0) htr (by simp) hs hps hnz
  generalize makeT nx (rs.map InoR.D) p 1 = TT at hcM ⊢
  generalize makeC nx (rs.map InoR.D) p = CO at hcM ⊢
  have t0 := zT.cell 0
  have t1 := zT.cell 1
  have c0 := zC.cell 0
  simp at t0 t1 c0
  clear ht htr
  go_enter Tryz.func168, Tryz.ntmps168
  go_wp2_with fail
  obtain ⟨Wz, hWz⟩ : ∃ W, (((w.alloc (.cells #[.slice a n cap, .int .i64 nx] 28)).alloc (.cells #[.string p, .string q, .int .i64 k, .slice da dn dc, .string an, .string av] 77)).alloc (.cells #[.slice none 0 0, .int .i64 0] 28)) = W := ⟨_, rfl⟩
  rw [hWz] at hcM B0 zR ⊢
  clear hWz zT zC t0 t1 c0
  (with_reducible refine hcM.mono ?_)
  intro e w2 hp
  obtain ⟨ra, rn, rc, rx, rfl, zz, hfin⟩ := eMeth_box hp B0 (show w.heap.size ≤ w.heap.size + 1 + 1 by omega) zR
  have HFIN : Hid (EMeth w (nx + 1) TT CO (.returned (.tuple #[.agg #[.slice ra rn rc, .int .i64 rx], errV CO])) ((w2.setCell ⟨w.heap.size + 1 + 1, 0, none⟩ (.slice ra rn rc)).setCell ⟨w.heap.size + 1 + 1, 1, none⟩ (.int .i64 rx))) := hfin
  have r0 := zz.cell 0
  have r1 := zz.cell 1
  have f0 := zz.frozen 0
  have f1 := zz.frozen 1
  simp at r0 r1
  have zf := blk2 zz (.slice ra rn rc) (.int .i64 rx)
  have dd0 := zf.cell 0
  have dd1 := zf.cell 1
  simp at dd0 dd1
  obtain ⟨ev, hev⟩ : ∃ v, errV CO = v := ⟨_, rfl⟩
  rw [hev] at HFIN ⊢
  clear hp hfin zf zz zR B0 hcM hev
  go_wp2
  refine bodyPost_ret (v := .tuple #[.agg #[.slice ra rn rc, .int .i64 rx], ev]) (by simp [results, Tryz.f168, go_sem, dd0, dd1]) rfl ?_
  exact HFIN.out
end

section
open Go.RowKit
theorem idx_makeFile (w : World) : (Instr.index 138 (.agg #[.func (.func 167) #[] #[], .func (.func 168) #[] #[], .func (.func 169) #[] #[], .func (.func 170) #[] #[], .func (.func 171) #[] #[], .func (.func 172) #[] #[], .func (.func 173) #[] #[], .func (.func 174) #[] #[], .func (.func 175) #[] #[]]) (.int .i64 1)).run Tryz.prog w = .ok (.func (.func 168) #[] #[]) w := by kernel_rfl
set_option maxRecDepth 100000 in
set_option maxHeartbeats 4000000 in
theorem changed_makeFile (a : Option Addr) (n cap : Nat) (nx : Int) (rs : List InoR) (p q : ByteArray) (k : Int) (da : Option Addr) (dn dc : Nat) (an av : ByteArray) (w : World) (ht : TR w a n rs) (hwf : ∀ r ∈ rs, (Lit.int .i64 r.D.ino).wf = true) (het : EtCell w) (nx' : Int) (ds' : List InoD) (c : Int) (N : Int) (D : List InoD) (C : Int)
    (h1 : treeD nx (rs.map InoR.D) = false → N = nx ∧ D = rs.map InoR.D ∧ C = 1) (h2 : treeD nx (rs.map InoR.D) = true → c ≠ 0 → N = nx ∧ D = rs.map InoR.D ∧ C = c) (h3 : treeD nx (rs.map InoR.D) = true → c = 0 → N = nx' ∧ D = ds' ∧ C = 0)
    (hm : treeD nx (rs.map InoR.D) = true → ∀ W : World, Below w.heap.size w W → Calls Tryz.prog 168 #[.agg #[.slice a n cap, .int .i64 nx], .agg #[.string p, .string q, .int .i64 k, .slice da dn dc, .string an, .string av]] W fun e w' => EMeth W nx' ds' c e w') :
    Calls Tryz.prog 61 #[.agg #[.slice a n cap, .int .i64 nx], .int .i64 1, .agg #[.string p, .string q, .int .i64 k, .slice da dn dc, .string an, .string av]] w fun e w' => TabC w N D C e w' := by
  have B0 : Below w.heap.size w (((w.alloc (.cells #[.slice a n cap, .int .i64 nx] 28)).alloc (.cells #[.string p, .string q, .int .i64 k, .slice da dn dc, .string an, .string av] 77)).alloc (.cells #[.slice none 0 0, .int .i64 0] 28)) := (((Below.refl _ w).alloc (Nat.le_refl _) _).alloc (by simp) _).alloc (by simp; omega) _
  have zT := ((Blk.new w 28 #[.slice a n cap, .int .i64 nx]).alloc (.cells #[.string p, .string q, .int .i64 k, .slice da dn dc, .string an, .string av] 77)).alloc (.cells #[.slice none 0 0, .int .i64 0] 28)
  have zC := (Blk.new (w.alloc (.cells #[.slice a n cap, .int .i64 nx] 28)) 77 #[.string p, .string q, .int .i64 k, .slice da dn dc, .string an, .string av]).alloc (.cells #[.slice none 0 0, .int .i64 0] 28)
  have zR := Blk.new ((w.alloc (.cells #[.slice a n cap, .int .i64 nx] 28)).alloc (.cells #[.string p, .string q, .int .i64 k, .slice da dn dc, .string an, .string av] 77)) 28 #[.slice none 0 0, .int .i64 0]
  simp only [World.size_alloc] at zC zR
  have hcT := treeI a n cap nx rs _ (ht.keep B0) hwf
  go_enter Tryz.func61, Tryz.ntmps61
  go_wp2_with fail
  obtain ⟨W0, hW0⟩ : ∃ W, (((w.alloc (.cells #[.slice a n cap, .int .i64 nx] 28)).alloc (.cells #[.string p, .string q, .int .i64 k, .slice da dn dc, .string an, .string av] 77)).alloc (.cells #[.slice none 0 0, .int .i64 0] 28)) = W := ⟨_, rfl⟩
  rw [hW0] at B0 zT zC zR hcT ⊢
  clear hW0
  (with_reducible refine hcT.mono ?_)
  rintro e w1 ⟨rfl, b1⟩
  clear hcT
  have hb1 := B0.trans (b1.mono B0.size)
  have zt := zT.keep b1
  have zc := zC.keep b1
  have zr := zR.keep b1
  have HT1 : Hid _ := ht.keep hb1
  have HE1 : Hid _ := het.keep hb1
  clear zT zC zR b1 ht het B0
  have t0 := zt.cell 0
  have t1 := zt.cell 1
  simp at t0 t1
  cases htr : treeD nx (rs.map InoR.D) with
  | false =>
    obtain ⟨rfl, rfl, rfl⟩ := h1 htr
    have hcC := copyTab_any a n cap N rs w1 HT1.out.len HT1.out.n HT1.out.small HT1.out.rd
    have HB1 : Hid _ := hb1
    have HZR : Hid _ := zr
    clear h1 h2 h3 hm htr hb1
    go_wp2_with fail
    (with_reducible refine hcC.mono ?_)
    intro e w2 hp2
    obtain ⟨g, rfl, b2, hfin⟩ := copyT hp2 HB1.out (by omega) HZR.out
    have zr2 := Blk.keep HZR.out b2
    have r0 := zr2.cell 0
    have r1 := zr2.cell 1
    have f0 := zr2.frozen 0
    have f1 := zr2.frozen 1
    simp at r0 r1
    have HFIN : Hid _ := hfin w2 (Below.refl _ _) 1
    have zf := blk2 zr2 (.slice (some ⟨g, 0, none⟩) n n) (.int .i64 N)
    have dd0 := zf.cell 0
    have dd1 := zf.cell 1
    simp at dd0 dd1
    clear hcC hp2 hfin zr2 zt zc zr t0 t1 zf
    go_wp2
    refine bodyPost_ret (v := .tuple #[.agg #[.slice (some ⟨g, 0, none⟩) n n, .int .i64 N], .int .i64 1]) (by simp [results, Tryz.f61, go_sem, dd0, dd1]) rfl ?_
    exact HFIN.out
  | true =>
    have hmm := hm htr
    have c0 := zc.cell 0
    have c1 := zc.cell 1
    have c2 := zc.cell 2
    have c3 := zc.cell 3
    have c4 := zc.cell 4
    have c5 := zc.cell 5
    simp at c0 c1 c2 c3 c4 c5
    have HB1 : Hid _ := hb1
    have HZR : Hid _ := zr
    have HZT : Hid _ := zt
    have HZC : Hid _ := zc
    have HMM : Hid _ := hmm
    have HH2 : Hid _ := h2 htr
    have HH3 : Hid _ := h3 htr
    have cC := changesI w1.drew
    have hsz : w.heap.size + 1 + 1 < w1.heap.size := zr.lt
    have hK : Hid (∀ W : World, Below w1.heap.size w1 W → W.cell? ⟨w.heap.size, 0, none⟩ = some (.slice a n cap) ∧ W.cell? ⟨w.heap.size, 1, none⟩ = some (.int .i64 nx) ∧ W.cell? ⟨w.heap.size + 1, 0, none⟩ = some (.string p) ∧ W.cell? ⟨w.heap.size + 1, 1, none⟩ = some (.string q) ∧ W.cell? ⟨w.heap.size + 1, 2, none⟩ = some (.int .i64 k) ∧ W.cell? ⟨w.heap.size + 1, 3, none⟩ = some (.slice da dn dc) ∧ W.cell? ⟨w.heap.size + 1, 4, none⟩ = some (.string an) ∧ W.cell? ⟨w.heap.size + 1, 5, none⟩ = some (.string av)) := fun W hW => by
      have z1 := Blk.keep HZT.out hW
      have z2 := Blk.keep HZC.out hW
      exact ⟨z1.cell 0, z1.cell 1, z2.cell 0, z2.cell 1, z2.cell 2, z2.cell 3, z2.cell 4, z2.cell 5⟩
    clear h1 h2 h3 hm htr hmm zt zc zr hb1
    go_upto_region 3 with fail
    have n0 : w1.heap.size ≠ w.heap.size := by omega
    have n1 : w1.heap.size ≠ w.heap.size + 1 := by omega
    have cC2 := changesI (w1.alloc (.cells #[.slice none 0 0, .int .i64 0] 28)).drew
    have zW1 := Blk.new w1 28 #[.slice none 0 0, .int .i64 0]
    have hix := idx_makeFile
    go_cut [8, 9] from 8 to 31 (fun bx er wx => ∃ (A : Nat) (ra : Option Addr) (rn rc : Nat) (rx : Int), bx = .pointer (some ⟨A, 0, none⟩) ∧ er = errV c ∧ Hid (CHR w1 nx' ds' c A (.slice ra rn rc) (.int .i64 rx) wx))
    case first =>
      go_region_held3 (fun W : World => W.cell? ⟨w.heap.size, 0, none⟩ = some (.slice a n cap) ∧ W.cell? ⟨w.heap.size, 1, none⟩ = some (.int .i64 nx) ∧ W.cell? ⟨w.heap.size + 1, 0, none⟩ = some (.string p) ∧ W.cell? ⟨w.heap.size + 1, 1, none⟩ = some (.string q) ∧ W.cell? ⟨w.heap.size + 1, 2, none⟩ = some (.int .i64 k) ∧ W.cell? ⟨w.heap.size + 1, 3, none⟩ = some (.slice da dn dc) ∧ W.cell? ⟨w.heap.size + 1, 4, none⟩ = some (.string an) ∧ W.cell? ⟨w.heap.size + 1, 5, none⟩ = some (.string av)) (go_keep) (first
        | (go_at_call 111; (with_reducible refine cC.mono ?_); rintro e w10 ⟨rfl, b10⟩; have B10 : Below w1.heap.size w1 w10 := (Below.refl _ w1).drew.trans b10; have K10 := hK.out w10 B10; obtain ⟨p0, p1, p2, p3, p4, p5, p6, p7⟩ := K10; have n2 : w10.heap.size ≠ w.heap.size := (by have := B10.size; omega); have n3 : w10.heap.size ≠ w.heap.size + 1 := (by have := B10.size; omega); have hm10 := HMM.out w10 (HB1.out.trans (B10.mono HB1.out.size)); have hm10a := HMM.out (w10.alloc (.cells #[.slice none 0 0, .int .i64 0] 28)) ((HB1.out.trans (B10.mono HB1.out.size)).alloc (by have := HB1.out.size; have := B10.size; omega) _))
        | (go_at_call 111; (with_reducible refine cC2.mono ?_); rintro e w11 ⟨rfl, b11⟩; have B11 : Below w1.heap.size w1 w11 := ((Below.refl _ w1).alloc (Nat.le_refl _) _).drew.trans (b11.mono (by show _ ≤ (w1.alloc _).heap.size; simp)); have K11 := hK.out w11 B11; obtain ⟨p0, p1, p2, p3, p4, p5, p6, p7⟩ := K11; have z11 : Blk w11 w1.heap.size 28 #[.slice none 0 0, .int .i64 0] := Blk.keep (Blk.drew zW1) b11; have hm11 := HMM.out w11 (HB1.out.trans (B11.mono HB1.out.size)))
        | (go_at_call 168; (with_reducible refine hm10.mono ?_); rintro e w12 ⟨ra, rn, rc, rx, rfl, b12, t12⟩; have B12 : Below w1.heap.size w1 w12 := B10.trans (b12.mono B10.size); have K12 := hK.out w12 B12; obtain ⟨q0, q1, q2, q3, q4, q5, q6, q7⟩ := K12)
        | (go_at_call 168; (with_reducible refine hm10a.mono ?_); rintro e w13 ⟨ra, rn, rc, rx, rfl, b13, t13⟩; have B13 : Below w1.heap.size w1 w13 := (B10.alloc B10.size _).trans (b13.mono (by have := B10.size; simp; omega)); have z13 := (Blk.new w10 28 #[.slice none 0 0, .int .i64 0]).keep b13; have u0 := z13.cell 0; have u1 := z13.cell 1; have x0 := z13.frozen 0; have x1 := z13.frozen 1; simp at u0 u1; have K13 := hK.out w13 B13; obtain ⟨q0, q1, q2, q3, q4, q5, q6, q7⟩ := K13)
        | (go_at_call 168; (with_reducible refine hm11.mono ?_); rintro e w14 ⟨ra, rn, rc, rx, rfl, b14, t14⟩; have B14 : Below w1.heap.size w1 w14 := B11.trans (b14.mono B11.size); have z14 := z11.keep b14; have u0 := z14.cell 0; have u1 := z14.cell 1; have x0 := z14.frozen 0; have x1 := z14.frozen 1; simp at u0 u1; have K14 := hK.out w14 B14; obtain ⟨q0, q1, q2, q3, q4, q5, q6, q7⟩ := K14))
      all_goals (go_wp2_with fail; go_meet)
      all_goals first
        | (have h := chr_new B12 b12 B10.size t12; exact ⟨_, _, _, _, _, rfl, rfl, h⟩)
        | (have h := chr_old B13 B10.size z13 (by simp) t13; exact ⟨_, _, _, _, _, rfl, rfl, h⟩)
        | (have h := chr_old B14 (Nat.le_refl _) z14 (Blk.lt z11) t14; exact ⟨_, _, _, _, _, rfl, rfl, h⟩)
        | fail
    case rest =>
      obtain ⟨A, ra, rn, rc, rx, rfl, rfl, hR⟩ := hcut
      obtain ⟨Wc, hwc⟩ : ∃ W, W = wc := ⟨_, rfl⟩
      subst hwc
      clear t0 t1 c0 c1 c2 c3 c4 c5 cC cC2 zW1 hK HMM n0 n1
      have zt := Blk.keep HZT.out hR.out.b
      have zr := Blk.keep HZR.out hR.out.b
      have hbc := HB1.out.trans (hR.out.b.mono HB1.out.size)
      have t0 := zt.cell 0
      have t1 := zt.cell 1
      simp at t0 t1
      by_cases hc0 : c = 0
      · obtain ⟨rfl, rfl, rfl⟩ := HH3.out hc0
        subst hc0
        rw [errV_zero]
        have HFIN : Hid _ := methT (hR.out.tab rfl) HB1.out (by omega) HZR.out Wc (Below.refl _ _)
        have a0 := hR.out.z.cell 0
        have a1 := hR.out.z.cell 1
        have r0 := zr.cell 0
        have r1 := zr.cell 1
        have f0 := zr.frozen 0
        have f1 := zr.frozen 1
        simp at a0 a1 r0 r1
        have zf := blk2 zr (.slice ra rn rc) (.int .i64 rx)
        have dd0 := zf.cell 0
        have dd1 := zf.cell 1
        simp at dd0 dd1
        clear zt zr zf hbc HH2 HH3 HT1 HE1 t0 t1
        go_wp2
        refine bodyPost_ret (v := .tuple #[.agg #[.slice ra rn rc, .int .i64 rx], .int .i64 0]) (by simp [results, Tryz.f61, go_sem, dd0, dd1]) rfl ?_
        exact HFIN.out
      · obtain ⟨rfl, rfl, rfl⟩ := HH2.out hc0
        rw [errV_some hc0]
        have hTc := HT1.out.keep hR.out.b
        have hEc := EtCell.keep HE1.out hR.out.b
        have hcC := copyTab_any a n cap N rs Wc hTc.len hTc.n hTc.small hTc.rd
        have HZ : Hid _ := zr
        have HBC : Hid _ := hbc
        have HEC : Hid _ := hEc
        have HC0 : Hid _ := hc0
        clear zt zr hbc HH2 HH3 HT1 HE1 hTc hEc hc0
        go_wp2_with fail
        (with_reducible refine hcC.mono ?_)
        intro e w2 hp2
        obtain ⟨g, rfl, b2, hfin⟩ := copyT hp2 HBC.out (by omega) HZ.out
        have hcO := codeOfI C w2 (EtCell.keep HEC.out b2)
        rw [errV_some HC0.out] at hcO
        clear hcC hp2 t0 t1
        go_wp2_with fail
        (with_reducible refine hcO.mono ?_)
        rintro e w3 ⟨rfl, b3⟩
        have zr3 := (Blk.keep HZ.out b2).keep b3
        have r0 := zr3.cell 0
        have r1 := zr3.cell 1
        have f0 := zr3.frozen 0
        have f1 := zr3.frozen 1
        simp at r0 r1
        have HFIN : Hid _ := hfin w3 b3 C
        have zf := blk2 zr3 (.slice (some ⟨g, 0, none⟩) n n) (.int .i64 N)
        have dd0 := zf.cell 0
        have dd1 := zf.cell 1
        simp at dd0 dd1
        clear hcO hfin zr3 zf
        go_wp2
        refine bodyPost_ret (v := .tuple #[.agg #[.slice (some ⟨g, 0, none⟩) n n, .int .i64 N], .int .i64 C]) (by simp [results, Tryz.f61, go_sem, dd0, dd1]) rfl ?_
        exact HFIN.out
end

section
open Go.RowKit
theorem spot_dir {ds : List InoD} (hK : ∀ D ∈ ds, D.kind = 1 ∨ D.kind = 2) (hI : ∀ D ∈ ds, D.ino ≠ 0) (s : ByteArray) : spotD ds s 0 = if (dirFor ds s).2 ≠ 0 then (inoZ.D, ⟨#[]⟩, (dirFor ds s).2) else if 10 ≤ (dirFor ds s).1.ents.length then (inoZ.D, ⟨#[]⟩, 5) else ((dirFor ds s).1, strB (parentOf s.data.toList).2.1, 0) := by
  unfold spotD dirFor badK
  by_cases h1 : (parentOf s.data.toList).2.2 = false
  · simp [h1]
  · by_cases h2 : (statD ds (strB (parentOf s.data.toList).1)).2 = 0
    · have hm := stat_in h2
      have hi := hI _ hm
      rcases hK _ hm with h3 | h3
      · simp [h1, h2, h3]
      · by_cases h4 : entOf (strB (parentOf s.data.toList).2.1) (statD ds (strB (parentOf s.data.toList).1)).1.ents = 0
        · by_cases h5 : 10 ≤ (statD ds (strB (parentOf s.data.toList).1)).1.ents.length
          · simp [h1, h2, h3, h4, h5, hi]
          · simp [h1, h2, h3, h4, h5]
        · simp [h1, h2, h3, h4]
    · simp [h1, h2]
theorem make_no {nx : Int} {ds : List InoD} {s : ByteArray} {kd : Int} (h : treeD nx ds = true) (hK : ∀ D ∈ ds, D.kind = 1 ∨ D.kind = 2) (hI : ∀ D ∈ ds, D.ino ≠ 0) (hc : makeC nx ds s ≠ 0) : makeD nx ds s kd = (nx, ds, makeC nx ds s) := by
  unfold makeC at hc ⊢
  unfold makeD
  rw [spot_dir hK hI s]
  by_cases h0 : (dirFor ds s).2 = 0
  · by_cases h5 : 10 ≤ (dirFor ds s).1.ents.length
    · simp [h, h0, h5]
    · by_cases h6 : 30 ≤ ds.length ∨ 1000 ≤ nx
      · simp [h, h0, h5, h6]
      · exfalso
        apply hc
        simp only [not_or] at h6
        simp [h0, h5, h6.1, h6.2]
  · simp [h, h0]
theorem make_yes {nx : Int} {ds : List InoD} {s : ByteArray} {kd : Int} (h : treeD nx ds = true) (hK : ∀ D ∈ ds, D.kind = 1 ∨ D.kind = 2) (hI : ∀ D ∈ ds, D.ino ≠ 0) (hc : makeC nx ds s = 0) : makeD nx ds s kd = (nx + 1, makeT nx ds s kd, 0) := by
  unfold makeC at hc
  unfold makeD makeT
  rw [spot_dir hK hI s]
  by_cases h0 : (dirFor ds s).2 = 0
  · by_cases h5 : 10 ≤ (dirFor ds s).1.ents.length
    · simp [h0, h5] at hc
    · by_cases h6 : 30 ≤ ds.length ∨ 1000 ≤ nx
      · simp [h0, h5, h6] at hc
      · simp [h, h0, h5, h6]
  · simp [h0] at hc
theorem tree_ino {nx : Int} {ds : List InoD} (h : treeD nx ds = true) : ∀ D ∈ ds, D.ino ≠ 0 := fun D hD => by
  have h3 := ((tabD_ok (treeD_parts h).1).2.2.2.2.1 D hD).1
  unfold inoOk at h3
  simp only [Bool.and_eq_true, decide_eq_true_eq] at h3
  omega
theorem tree_kind {nx : Int} {rs : List InoR} (h : treeD nx (rs.map InoR.D) = true) : ∀ D ∈ rs.map InoR.D, D.kind = 1 ∨ D.kind = 2 := fun D hD => by
  obtain ⟨r, hr, rfl⟩ := List.mem_map.1 hD
  exact (tree_facts h).1 r hr
theorem makeFileI (a : Option Addr) (n cap : Nat) (nx : Int) (rs : List InoR) (s : ByteArray) (w : World) (ht : TR w a n rs) (hwf : ∀ r ∈ rs, (Lit.int .i64 r.D.ino).wf = true) (het : EtCell w) (hs : s.size ≤ 1048576) :
    Calls Tryz.prog 23 #[.agg #[.slice a n cap, .int .i64 nx], .string s] w fun e w' => TabC w (makeD nx (rs.map InoR.D) s 1).1 (makeD nx (rs.map InoR.D) s 1).2.1 (makeD nx (rs.map InoR.D) s 1).2.2 e w' := by
  refine wrap_MakeFile a n cap nx s w _ _ _ (fun W hW => ?_)
  refine changed_makeFile a n cap nx rs s ⟨#[]⟩ 0 none 0 0 ⟨#[]⟩ ⟨#[]⟩ W (ht.keep hW) hwf (het.keep hW) (nx + 1) (makeT nx (rs.map InoR.D) s 1) (makeC nx (rs.map InoR.D) s) _ _ _ ?_ ?_ ?_ ?_
  · intro h
    unfold makeD
    rw [h, if_pos rfl]
    exact ⟨rfl, rfl, rfl⟩
  · intro h hc
    rw [make_no h (tree_kind h) (tree_ino h) hc]
    exact ⟨rfl, rfl, rfl⟩
  · intro h hc
    rw [make_yes h (tree_kind h) (tree_ino h) hc]
    exact ⟨rfl, rfl, rfl⟩
  · intro h W' hW'
    exact makeFileM a n cap nx rs s ⟨#[]⟩ 0 none 0 0 ⟨#[]⟩ ⟨#[]⟩ W' ((ht.keep hW).keep hW') h hs (Nat.le_trans (parent_size s) hs) (by have := (parent_small s.data.toList).2; rw [strB_size]; omega)
theorem out_make (s : ByteArray) (nx : Int) (rs : List InoR) (h : ∀ r ∈ rs, InoSmall r.D) (hc : rs.length + cntI rs ≤ 1048576) (_ : s.size ≤ 1048576) {kd : Int} : Fit (makeD nx (rs.map InoR.D) s kd).2.1 := by
  have hf := fit_same h hc
  cases htr : treeD nx (rs.map InoR.D) with
  | false =>
    unfold makeD
    rw [htr, if_pos rfl]
    exact hf
  | true =>
    by_cases hC : makeC nx (rs.map InoR.D) s = 0
    · rw [make_yes htr (tree_kind htr) (tree_ino htr) hC]
      have ht := tree_tiny htr hf.small
      have h0 : (dirFor (rs.map InoR.D) s).2 = 0 ∧ (dirFor (rs.map InoR.D) s).1.ents.length < 10 := by
        unfold makeC at hC
        split at hC
        · rename_i h1
          exact absurd hC h1
        · rename_i h1
          split at hC
          · exact absurd hC (by decide)
          · rename_i h2
            exact ⟨Classical.byContradiction fun c => h1 c, by omega⟩
      have hD := dirFor_ok (show dirFor (rs.map InoR.D) s = ((dirFor (rs.map InoR.D) s).1, 0) from Prod.ext rfl h0.1)
      have hm : (dirFor (rs.map InoR.D) s).1 ∈ rs.map InoR.D := by
        have := @badK_mem 1 (rs.map InoR.D) (strB (parentOf s.data.toList).1)
        rw [hD.1] at this
        exact this rfl
      have hn : (strB (parentOf s.data.toList).2.1).size ≤ 1048576 := by have := (parent_small s.data.toList).2; rw [strB_size]; omega
      have hT := ht _ hm
      have h30 := (tree_more htr).2.2
      dsimp only
      unfold makeT
      refine fit_tiny (fun D hD => ?_) (Nat.le_trans (setD_lenC _ _) (by have := setD_lenC (rs.map InoR.D) { (dirFor (rs.map InoR.D) s).1 with ents := insBy (fun q => gtS (strB (parentOf s.data.toList).2.1) q.1) (dirFor (rs.map InoR.D) s).1.ents (strB (parentOf s.data.toList).2.1, nx) }; omega))
      rcases setD_memC hD with rfl | hD
      · exact ⟨⟨Nat.zero_le _, Nat.zero_le _, Nat.zero_le _, fun _ h => (List.not_mem_nil h).elim, fun _ h => (List.not_mem_nil h).elim⟩, Nat.zero_le _, Nat.zero_le _, Nat.zero_le _⟩
      · rcases setD_memC hD with rfl | hD
        · refine ⟨putEnt_small hT.small _ _ hn (by omega), hT.data, ?_, hT.attrs⟩
          show (insBy _ _ _).length ≤ 11
          rw [insBy_len]
          omega
        · exact ht D hD
    · rw [make_no htr (tree_kind htr) (tree_ino htr) hC]
      exact hf
end

section
open Go.RowKit
set_option maxRecDepth 100000 in
set_option maxHeartbeats 16000000 in
theorem walkFnExactMakeFile (a : Option Addr) (cap : Nat) (nx : Int) (rs : List InoR) (s : ByteArray) (w : World) (hm : rs.length ≤ maxLen) (hi : ∀ r ∈ rs, InoIn r.D) (hr : RdI w a rs) (_hz0 : s.size ≤ maxLen) (het : EtCell w) :
    Calls Tryz.prog 4 #[.agg #[.slice a rs.length cap, .int .i64 nx], .string s] w fun e w' => e = .returned (.bool true) ∧ Below w.heap.size w w' := by
  obtain ⟨n, hn⟩ : ∃ n, rs.length = n := ⟨_, rfl⟩
  rw [hn] at hm ⊢
  have zb0 : ZT w (w.alloc (.cells #[.slice a n cap, .int .i64 nx] 24)) #[.slice a n cap, .int .i64 nx] := ⟨(Below.refl _ w).alloc (Nat.le_refl _) _, Blk.new w _ _⟩
  by_cases hl0 : 1048576 < s.size
  · have hli : (s.size : Int) > 1048576 := by omega
    have HB : Hid _ := zb0.below
    clear zb0
    go_enter Tryz.func4, Tryz.ntmps4
    go_wp2
    go_ret
    exact ⟨rfl, HB.out⟩
  have hli0 : ¬ (s.size : Int) > 1048576 := by omega
  go_enter Tryz.func4, Tryz.ntmps4
  go_wp2_with fail
  obtain ⟨W0, hW0⟩ : ∃ W, w.alloc (.cells #[.slice a n cap, .int .i64 nx] 24) = W := ⟨_, rfl⟩
  rw [hW0] at zb0 ⊢
  clear hW0
  refine (szTab_w a n cap 1048576 nx rs W0 hn hm (by omega) hi (hr.keep zb0.below)).mono ?_
  rintro e w1 ⟨hsz, b1⟩
  have zb1 := zb0.keep b1
  clear zb0 b1
  rcases hsz with rfl | ⟨v, hv, rfl, hn1, hsm⟩
  · go_wp2
    go_ret
    exact ⟨rfl, zb1.below⟩
  have hx0 : ¬ (v : Int) < 0 := by omega
  have hwf : ∀ r ∈ rs, (Lit.int .i64 r.D.ino).wf = true := fun r h => (hi r h).ino
  have HS : Hid _ := hsm
  have hcn : n + cntI rs ≤ 1048576 := by omega
  have CA : Hid (∀ W : World, Below w.heap.size w W → _) := fun (W : World) (h : Below w.heap.size w W) => toTab_j a n cap nx rs W hn hn1 HS.out (hr.keep h)
  have hfit : Fit (makeD nx (rs.map InoR.D) s 1).2.1 := out_make s nx rs HS.out (by rw [hn]; exact hcn) (by omega)
  have HET : Hid _ := het
  have cS := fun (W : World) (B g : Nat) (ts : List InoR) (h : TabQ W B g n rs ts) => makeFileS (some ⟨g, 0, none⟩) n n nx ts s W ⟨h.tlen, hn1, h.cpd.small HS.out, h.rd⟩ (by omega)
  have cI := fun (W : World) (B g : Nat) (ts : List InoR) (h : TabQ W B g n rs ts) (hb : Below w.heap.size w W) => makeFileI (some ⟨g, 0, none⟩) n n nx ts s W ⟨h.tlen, hn1, h.cpd.small HS.out, h.rd⟩ (fun r hr => by
    have h1 : r.D ∈ ts.map InoR.D := List.mem_map_of_mem hr
    rw [h.cpd.1] at h1
    obtain ⟨q, hq, hqr⟩ := List.mem_map.1 h1
    rw [← hqr]
    exact hwf q hq) (EtCell.keep HET.out hb) (by omega)
  have cS' : ∀ (W : World) (B g : Nat) (ts : List InoR), TabQ W B g n rs ts → Calls Tryz.prog 22 #[.agg #[.slice (some ⟨g, 0, none⟩) n n, .int .i64 nx], .string s] W fun e w' => TabC W (makeD nx (rs.map InoR.D) s 1).1 (makeD nx (rs.map InoR.D) s 1).2.1 (makeD nx (rs.map InoR.D) s 1).2.2 e w' := fun W B g ts h => by
    have := cS W B g ts h
    rw [h.cpd.1] at this
    exact this
  have cI' : ∀ (W : World) (B g : Nat) (ts : List InoR), TabQ W B g n rs ts → Below w.heap.size w W → Calls Tryz.prog 23 #[.agg #[.slice (some ⟨g, 0, none⟩) n n, .int .i64 nx], .string s] W fun e w' => TabC W (makeD nx (rs.map InoR.D) s 1).1 (makeD nx (rs.map InoR.D) s 1).2.1 (makeD nx (rs.map InoR.D) s 1).2.2 e w' := fun W B g ts h hb => by
    have := cI W B g ts h hb
    rw [h.cpd.1] at this
    exact this
  clear cS cI
  obtain ⟨NX, hNX⟩ : ∃ x, (makeD nx (rs.map InoR.D) s 1).1 = x := ⟨_, rfl⟩
  rw [hNX] at cS' cI'
  obtain ⟨CO, hCO⟩ : ∃ x, (makeD nx (rs.map InoR.D) s 1).2.2 = x := ⟨_, rfl⟩
  rw [hCO] at cS' cI'
  obtain ⟨ds, hds⟩ : ∃ x, (makeD nx (rs.map InoR.D) s 1).2.1 = x := ⟨_, rfl⟩
  rw [hds] at cS' cI' hfit
  obtain ⟨m, hml⟩ : ∃ m, ds.length = m := ⟨_, rfl⟩
  have hfc := hfit.cnt
  rw [hml] at hfc
  have hmb : m ≤ 2000000 := by omega
  have hdsm : ∀ r ∈ ds.map lift, InoSmall r.D := fun r hr => by
    obtain ⟨D, hD, rfl⟩ := List.mem_map.1 hr
    exact hfit.small D hD
  have hjl : ∀ (B : Nat) (W : World) (v : Value) (js : List InoJ), DQA B W v (ds.map lift) js → js.length = m := fun B W v js h => by have := h.len; rw [List.length_map] at this; omega
  have cK := fun (W : World) (g Lo Hi : Nat) (js : List InoJ) (h1 : (js.map InoJ.r).map InoR.D = rs.map InoR.D) (hap : ApJ g Lo Hi js) (hH : Hi ≤ W.heap.size) (hown : OwnI W g n n (js.map InoJ.r)) (hG : ∀ (i : Nat) (j : InoJ), js[i]? = some j → j.G W) => markTab_any nx g n n Lo Hi 1 js W (by have := congrArg List.length h1; simp at this; omega) (Nat.le_refl _) (by omega) (by have := q_bound4 h1 hn (by omega); omega) hap hH hown hG
  have cE : ∀ (W : World) (B B' : Nat) (a a' : Option Addr) (c c' : Nat) (js js' : List InoJ), DQA B W (.slice a m c) (ds.map lift) js → DQA B' W (.slice a' m c') (ds.map lift) js' → js.length = m → js'.length = m → Calls Tryz.prog 19 #[.agg #[.slice a m c, .int .i64 NX], .agg #[.slice a' m c', .int .i64 NX]] W fun e w' => e = .returned (.bool true) ∧ Below W.heap.size W w' := fun W B B' a a' c c' js js' h h' h1 h2 => eqVA NX (by omega) hdsm h h' h1 h2
  have cQ : ∀ (js : List InoJ) (W : World) (B : Nat) (v : Value), DQA B W v (ds.map lift) js → qAt 1 js m ≤ 9999990 := fun js W B v h => by have := q_bound4 (n := m) h.ds (by rw [List.length_map]; exact hml) (by omega); omega
  have CS : Hid _ := cS'
  have CI : Hid _ := cI'
  have CE : Hid _ := cE
  have CQ : Hid _ := cQ
  have CK : Hid _ := cK
  have CJ : Hid _ := hjl
  have hcoe : (CO != CO) = false := by simp
  have hcof : (CO == CO) = true := by simp
  clear cS' cI' cE cQ cK hr hn hsm hwf hi hm hv hcn hdsm hml hfit hfc hCO hds hjl het
  have t0 := zb1.t.cell 0
  have t1 := zb1.t.cell 1
  simp at t0 t1
  go_wp2_with fail
  (with_reducible refine (CA.out w1 zb1.below).mono ?_)
  rintro e w2 ⟨gA, jA, rfl, qA, _, b2⟩
  have zb2 := zb1.keep b2
  clear zb1 b2 t0 t1
  go_wp2_with fail
  (with_reducible refine (CS.out w2 _ gA _ qA).mono ?_)
  rintro e w3 ⟨aS, eS, jS, rfl, gS, b3⟩
  have hjS := CJ.out _ _ _ _ gS
  rw [hjS] at gS ⊢
  have b3' : Below w3.heap.size w3 (w3.alloc (.cells #[.slice aS m eS, .int .i64 NX] 28)) := (Below.refl _ w3).alloc (Nat.le_refl _) _
  have qs3 : QS (w3.alloc (.cells #[.slice aS m eS, .int .i64 NX] 28)) w3.heap.size w2.heap.size w3.heap.size (w3.heap.size + 1) aS m eS NX (ds.map lift) jS := ⟨Blk.new w3 _ _, gS.keep b3', hjS, gS.apV, by omega, by omega, by simp⟩
  have zb3 := zb2.keep (below_tr b3 b3')
  have hz2 := zb2.t.lt
  have hs3 := b3.size
  clear zb2 b3 b3' qA gS
  have t0 := zb3.t.cell 0
  have t1 := zb3.t.cell 1
  simp at t0 t1
  go_wp2_with fail
  obtain ⟨W3, hW3⟩ : ∃ W, w3.alloc (.cells #[.slice aS m eS, .int .i64 NX] 28) = W := ⟨_, rfl⟩
  obtain ⟨TS, hTS⟩ : ∃ X, w3.heap.size = X := ⟨_, rfl⟩
  obtain ⟨BS, hBS⟩ : ∃ X, w2.heap.size = X := ⟨_, rfl⟩
  rw [hW3] at qs3 zb3 t0 t1 ⊢
  rw [hTS] at qs3 hs3 ⊢
  rw [hBS] at qs3 hs3 hz2
  clear hW3 hTS hBS
  have HZL : Hid (w.heap.size + 1 ≤ W3.heap.size) := by have := qs3.tT; show _ ≤ _; omega
  (with_reducible refine (CA.out W3 zb3.below).mono ?_)
  rintro e w4 ⟨gB, jB, rfl, qB, jsB, b4⟩
  have b4' : Below w4.heap.size w4 (w4.alloc (.cells #[.slice (some ⟨gB, 0, none⟩) n n, .int .i64 nx] 28)) := (Below.refl _ w4).alloc (Nat.le_refl _) _
  have bb4 := below_tr b4 b4'
  have hs4 := b4.size
  have qt4 : QT (w4.alloc (.cells #[.slice (some ⟨gB, 0, none⟩) n n, .int .i64 nx] 28)) w4.heap.size W3.heap.size gB n W3.heap.size w4.heap.size nx rs jB := ⟨Blk.new w4 _ _, qB.keep b4', jsB.keep b4', jsB.ap (Nat.lt_succ_self _) qB.at_ qB.own.lt, Nat.le_refl _⟩
  have zb4 := zb3.keep bb4
  have qs4 := qs3.keep bb4
  have hU := qs3.tT
  have hs4' : w4.heap.size + 1 ≤ (w4.alloc (.cells #[.slice (some ⟨gB, 0, none⟩) n n, .int .i64 nx] 28)).heap.size := by simp
  clear zb3 qs3 b4 b4' bb4 qB jsB t0 t1
  obtain ⟨u0, u1⟩ := qt4.two
  go_wp2_with fail
  obtain ⟨W4, hW4⟩ : ∃ W, w4.alloc (.cells #[.slice (some ⟨gB, 0, none⟩) n n, .int .i64 nx] 28) = W := ⟨_, rfl⟩
  obtain ⟨XB, hXB⟩ : ∃ X, w4.heap.size = X := ⟨_, rfl⟩
  obtain ⟨Lo, hLo⟩ : ∃ X, W3.heap.size = X := ⟨_, rfl⟩
  rw [hW4] at qt4 zb4 qs4 hs4' u0 u1 ⊢
  rw [hXB] at qt4 hs4 hs4' u0 u1 ⊢
  rw [hLo] at qt4 hs4 hU
  clear hW4 hXB
  (with_reducible refine (CI.out W4 _ gB _ qt4.tq zb4.below).mono ?_)
  rintro e w6 ⟨aI, eI, jI, rfl, gI, b6⟩
  have hjI := CJ.out _ _ _ _ gI
  rw [hjI] at gI ⊢
  have b6' : Below w6.heap.size w6 (w6.alloc (.cells #[.slice aI m eI, .int .i64 NX] 28)) := (Below.refl _ w6).alloc (Nat.le_refl _) _
  have bb6 := below_tr b6 b6'
  have hs6 := b6.size
  have qi6 : QS (w6.alloc (.cells #[.slice aI m eI, .int .i64 NX] 28)) w6.heap.size W4.heap.size w6.heap.size (w6.heap.size + 1) aI m eI NX (ds.map lift) jI := ⟨Blk.new w6 _ _, gI.keep b6', hjI, gI.apV, by omega, by omega, by simp⟩
  have zb6 := zb4.keep bb6
  have qs6 := qs4.keep bb6
  have qt6 := qt4.keep bb6
  clear zb4 qs4 qt4 b6 b6' bb6 gI u0 u1
  obtain ⟨u0, u1⟩ := qi6.two
  obtain ⟨v0, v1⟩ := qs6.two
  go_wp2_with fail
  obtain ⟨W6, hW6⟩ : ∃ W, w6.alloc (.cells #[.slice aI m eI, .int .i64 NX] 28) = W := ⟨_, rfl⟩
  obtain ⟨TI, hTI⟩ : ∃ X, w6.heap.size = X := ⟨_, rfl⟩
  obtain ⟨BI, hBI⟩ : ∃ X, W4.heap.size = X := ⟨_, rfl⟩
  rw [hW6] at qi6 zb6 qs6 qt6 u0 u1 v0 v1 ⊢
  rw [hTI] at qi6 hs6 u0 u1 ⊢
  rw [hBI] at qi6 hs6 hs4'
  clear hW6 hTI
  (with_reducible refine (CE.out W6 BI BS _ _ _ _ jI jS qi6.q qs6.q qi6.len qs6.len).mono ?_)
  rintro e w7 ⟨rfl, b7⟩
  have zb7 := zb6.keep b7
  have qs7 := qs6.keep b7
  have qt7 := qt6.keep b7
  have qi7 := qi6.keep b7
  clear zb6 qs6 qt6 qi6 b7 u0 u1 v0 v1
  have t0 := zb7.t.cell 0
  have t1 := zb7.t.cell 1
  simp at t0 t1
  obtain ⟨u0, u1⟩ := qt7.two
  have zb7d := zb7.keep (Below.refl w7.heap.size w7).drew
  have qt7d := qt7.keep (Below.refl w7.heap.size w7).drew
  go_upto_region 12 with fail
  go_region_held3 (fun W : World => W.cell? ⟨XB, 0, none⟩ = some (.slice (some ⟨gB, 0, none⟩) n n) ∧ W.cell? ⟨XB, 1, none⟩ = some (.int .i64 nx) ∧ W.cell? ⟨w.heap.size, 0, none⟩ = some (.slice a n cap) ∧ W.cell? ⟨w.heap.size, 1, none⟩ = some (.int .i64 nx)) (go_keep) (first
    | (go_at_call 17; (with_reducible refine (CA.out _ zb7d.below).mono ?_); rintro e wA ⟨gC, jC, rfl, qC, _, b9⟩; have qAA := (qt7d.keep b9).tq; obtain ⟨s0, s1⟩ := (qt7d.keep b9).two; have s2 := (zb7d.keep b9).t.cell 0; have s3 := (zb7d.keep b9).t.cell 1; (simp at s2 s3))
    | (go_at_call 19; (with_reducible refine (eqTabQ _ _ gB gC n n n nx rs _ _ _ hn1 HS.out qAA qC).mono ?_); rintro e wB ⟨rfl, b10⟩; obtain ⟨s4, s5⟩ := ((qt7d.keep b9).keep b10).two; have s6 := ((zb7d.keep b9).keep b10).t.cell 0; have s7 := ((zb7d.keep b9).keep b10).t.cell 1; (simp at s6 s7))
    | fail)
  have bR : Below w7.heap.size w7 wB := below_tr (below_tr (Below.refl w7.heap.size w7).drew b9) b10
  have zb8 := zb7.keep bR
  have qs8 := qs7.keep bR
  have qt8 := qt7.keep bR
  have qi8 := qi7.keep bR
  clear zb7 qs7 qt7 qi7 bR b9 b10 zb7d qt7d qC qAA s0 s1 s2 s3 s4 s5 s6 s7 u0 u1 t0 t1
  obtain ⟨u0, u1⟩ := qt8.two
  have hXBl := qt8.box.lt
  have hqi := qi8.tT
  have hcp := qt8.tq.cpd.1
  go_wp2_with fail
  refine (CK.out wB gB Lo XB jB hcp qt8.ap (by omega) qt8.tq.own qt8.jq.G).mono ?_
  rintro e w10 ⟨rfl, hTL⟩
  have hout := hTL.out
  have hs10 := hout.size
  have hbs : w.heap.size + 1 ≤ Lo := by rw [← hLo]; exact HZL.out
  have zb10 := zb8.outs hout hbs
  have qs10 := qs8.outs hout (by omega)
  have qi10 := qi8.outsHi hout (by omega) (by omega)
  obtain ⟨qk, hqk⟩ : ∃ q, qAt 1 jB n = q := ⟨_, rfl⟩
  have hqm0 : ¬ (qk : Int) < 0 := by omega
  rw [hqk]
  clear zb8 qs8 qt8 qi8 hTL hout u0 u1 hqk
  obtain ⟨u0, u1⟩ := qi10.two
  obtain ⟨v0, v1⟩ := qs10.two
  go_wp2_with fail
  (with_reducible refine (CE.out w10 BI BS _ _ _ _ jI jS qi10.q qs10.q qi10.len qs10.len).mono ?_)
  rintro e w11 ⟨rfl, b11⟩
  have zb11 := zb10.keep b11
  have qs11 := qs10.keep b11
  have qi11 := qi10.keep b11
  clear zb10 qs10 qi10 b11 u0 u1 v0 v1
  obtain ⟨u0, u1⟩ := qi11.two
  have hqI := CQ.out jI _ _ _ qi11.q
  have hIl := qi11.box.lt
  have hqi11 := qi11.tT
  go_wp2_with fail
  (with_reducible refine (markVA (T := TI) NX hmb hqI qi11.q qi11.len (by omega) qi11.ap).mono ?_)
  rintro e w11c ⟨rfl, mG, hout⟩
  have hs11c := hout.size
  have zb11c := zb11.outs hout (by omega)
  have qs11c := qs11.outs hout (by omega)
  have xI := qi11.box.outs hout (by omega)
  have cH : ∀ W : World, TI ≤ W.heap.size → TV W BI TI aI m eI jI → _ := fun W hT h => heldV NX hmb hqI qi11.len hT h
  obtain ⟨mm, hmm⟩ : ∃ q, qAt 1 jI m = q := ⟨_, rfl⟩
  rw [hmm] at cH ⊢
  have CH : Hid _ := cH
  clear zb11 qs11 qi11 hout u0 u1 cH hqI hmm
  have u0 := xI.cell 0
  have u1 := xI.cell 1
  simp at u0 u1
  go_wp2_with fail
  (with_reducible refine (CH.out w11c (by omega) mG).mono ?_)
  rintro e w12 ⟨rfl, b13⟩
  have zb12 := zb11c.keep b13
  have qs12 := qs11c.keep b13
  have mG12 := mG.keep (by omega) b13
  have xI12 := xI.keep b13
  have hs12 := b13.size
  have hmm0 : ¬ (mm : Int) < 0 := by omega
  have hmme : ((mm : Int) != (mm : Int)) = false := by simp
  have hmmf : ((mm : Int) == (mm : Int)) = true := by simp
  clear zb11c qs11c mG xI b13 u0 u1
  have t0 := zb12.t.cell 0
  have t1 := zb12.t.cell 1
  simp at t0 t1
  go_wp2_with fail
  (with_reducible refine (CA.out w12 zb12.below).mono ?_)
  rintro e w14 ⟨gD, jD, rfl, qD, _, b14⟩
  have zb14 := zb12.keep b14
  have qs14 := qs12.keep b14
  have mG14 := mG12.keep (by omega) b14
  have xI14 := xI12.keep b14
  have hs14 := b14.size
  clear zb12 qs12 mG12 xI12 b14 t0 t1
  go_wp2_with fail
  (with_reducible refine (CI.out w14 _ gD _ qD zb14.below).mono ?_)
  rintro e w15 ⟨aJ, eJ, jJ, rfl, gJ, b15⟩
  have hjJ := CJ.out _ _ _ _ gJ
  rw [hjJ] at gJ ⊢
  have b15' : Below w15.heap.size w15 (w15.alloc (.cells #[.slice aJ m eJ, .int .i64 NX] 28)) := (Below.refl _ w15).alloc (Nat.le_refl _) _
  have bb15 := below_tr b15 b15'
  have qj : QS (w15.alloc (.cells #[.slice aJ m eJ, .int .i64 NX] 28)) w15.heap.size w14.heap.size w15.heap.size (w15.heap.size + 1) aJ m eJ NX (ds.map lift) jJ := ⟨Blk.new w15 _ _, gJ.keep b15', hjJ, gJ.apV, by omega, by omega, by simp⟩
  have zb15 := zb14.keep bb15
  have qs15 := qs14.keep bb15
  have mG15 := mG14.keep (by omega) bb15
  have xI15 := xI14.keep bb15
  have hs15 := bb15.size
  clear zb14 qs14 mG14 xI14 b15 b15' bb15 gJ qD
  obtain ⟨u0, u1⟩ := qj.two
  obtain ⟨v0, v1⟩ := qs15.two
  go_wp2_with fail
  obtain ⟨W15, hW15⟩ : ∃ W, w15.alloc (.cells #[.slice aJ m eJ, .int .i64 NX] 28) = W := ⟨_, rfl⟩
  rw [hW15] at qj zb15 qs15 mG15 xI15 hs15 u0 u1 v0 v1 ⊢
  clear hW15
  (with_reducible refine (CE.out W15 _ BS _ _ _ _ jJ jS qj.q qs15.q qj.len qs15.len).mono ?_)
  rintro e w16 ⟨rfl, b16⟩
  have zb16 := zb15.keep b16
  have mG16 := mG15.keep (by omega) b16
  have xI16 := xI15.keep b16
  have hs16 := b16.size
  clear zb15 qs15 qj mG15 xI15 b16 u0 u1 v0 v1
  have u0 := xI16.cell 0
  have u1 := xI16.cell 1
  simp at u0 u1
  go_wp2_with fail
  (with_reducible refine (CH.out w16 (by omega) mG16).mono ?_)
  rintro e w17 ⟨rfl, b17⟩
  have zb17 := zb16.keep b17
  have HEND : Hid _ := zb17.below
  clear zb16 mG16 xI16 b17 u0 u1 zb17
  go_wp2
  go_ret
  exact ⟨rfl, HEND.out⟩
end
end Go.Proofs.YtmfimoccemgoiaaGreatDoor
