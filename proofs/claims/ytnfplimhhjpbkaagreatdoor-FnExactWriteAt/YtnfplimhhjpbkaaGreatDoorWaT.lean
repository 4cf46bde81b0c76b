/-
  Joined: Write6, WriteI, WrapI, TruncT, ChgWriteAt, WriteT, FnExactWriteAtW.
-/
import Derived.Test.YtnfplimhhjpbkaaGreatDoorJ00T
import Derived.Test.YtnfplimhhjpbkaaGreatDoorJ01T
import Derived.Test.YtnfplimhhjpbkaaGreatDoorJ02T
import Derived.Test.YtnfplimhhjpbkaaGreatDoorEqInoT
import Derived.Test.YtnfplimhhjpbkaaGreatDoorJ04T
import Derived.Test.YtnfplimhhjpbkaaGreatDoorJ05T
import Derived.Test.YtnfplimhhjpbkaaGreatDoorEqTabT
import Derived.Test.YtnfplimhhjpbkaaGreatDoorJ07T
import Derived.Test.YtnfplimhhjpbkaaGreatDoorJ08T
import Derived.Test.YtnfplimhhjpbkaaGreatDoorJ09T
import Derived.Test.YtnfplimhhjpbkaaGreatDoorJ10T
import Derived.Test.YtnfplimhhjpbkaaGreatDoorJ11T
import Derived.Test.YtnfplimhhjpbkaaGreatDoorJ12T
import Derived.Test.YtnfplimhhjpbkaaGreatDoorCloneTT
import Derived.Test.YtnfplimhhjpbkaaGreatDoorCopyIT
import Derived.Test.YtnfplimhhjpbkaaGreatDoorJ15T
import Derived.Test.YtnfplimhhjpbkaaGreatDoorJ16T
import Derived.Test.YtnfplimhhjpbkaaGreatDoorCopyTT
import Derived.Test.YtnfplimhhjpbkaaGreatDoorSetST
import Derived.Test.YtnfplimhhjpbkaaGreatDoorJ19T
import Derived.Test.YtnfplimhhjpbkaaGreatDoorSetIT
import Derived.Test.YtnfplimhhjpbkaaGreatDoorJ21T
import Derived.Test.YtnfplimhhjpbkaaGreatDoorJ22T
import Derived.Test.YtnfplimhhjpbkaaGreatDoorJ23T
import Derived.Test.YtnfplimhhjpbkaaGreatDoorJ24T
import Derived.Test.YtnfplimhhjpbkaaGreatDoorEntsOkT
import Derived.Test.YtnfplimhhjpbkaaGreatDoorAttsOkT
import Derived.Test.YtnfplimhhjpbkaaGreatDoorAscIT
import Derived.Test.YtnfplimhhjpbkaaGreatDoorAscTT
import Derived.Test.YtnfplimhhjpbkaaGreatDoorInoOkT
import Derived.Test.YtnfplimhhjpbkaaGreatDoorAscAT
import Derived.Test.YtnfplimhhjpbkaaGreatDoorJ31T
import Derived.Test.YtnfplimhhjpbkaaGreatDoorTabOkST
import Derived.Test.YtnfplimhhjpbkaaGreatDoorJ33T
import Derived.Test.YtnfplimhhjpbkaaGreatDoorPutIT
import Derived.Test.YtnfplimhhjpbkaaGreatDoorNext7T
import Derived.Test.YtnfplimhhjpbkaaGreatDoorJ36T
import Derived.Test.YtnfplimhhjpbkaaGreatDoorTreeST
import Derived.Test.YtnfplimhhjpbkaaGreatDoorJ38T
import Derived.Test.YtnfplimhhjpbkaaGreatDoorJ39T
import Derived.Test.YtnfplimhhjpbkaaGreatDoorJ40T
import Derived.Test.YtnfplimhhjpbkaaGreatDoorJ41T
import Derived.Test.YtnfplimhhjpbkaaGreatDoorJ42T
import Derived.Test.YtnfplimhhjpbkaaGreatDoorJ43T
import Derived.Test.YtnfplimhhjpbkaaGreatDoorJ44T
import Derived.Test.YtnfplimhhjpbkaaGreatDoorJ45T
import Derived.Test.YtnfplimhhjpbkaaGreatDoorJ46T
import Derived.Test.YtnfplimhhjpbkaaGreatDoorJ47T
import Derived.WalkKit
import Derived.WalkSpells
import Derived.WalkLawsBesides
import Derived.Deep.QuietTactic
import Derived.BigQuiet
import Derived.OpenShut
import Derived.Laws.BitsAllLaws
import Derived.Maps.AppendAt
import Derived.Lib.SliceRun
import Derived.Lib.Strings
import Derived.Deep.RegionWith
import Derived.Laws.IdiomStrings
import Derived.Deep.Slices
import Derived.ProofKit
import Derived.ChangeOld
import Derived.Below
import Derived.Deep.RegionHeld3
import Derived.Deep.DeepCutAuto
import Derived.Lib.AppendStr
import Derived.Lib.ConvBytes
import Derived.Deep.AppendLies
import Derived.Deep.AppendSrc
import Derived.Maps.OwnSet
import Derived.Maps.OwnOps
import Derived.Deep.RegionLaw
import Derived.Lib.Slices
import Derived.Lib.Walk
import Derived.Lib.Bytealg
import Derived.Lib.IndexLaws
import Derived.Lib.BufferWrite
import Derived.Lib.UnsafeStr
import Derived.Laws.MakeOwn
import Derived.Laws.Strings3
import Derived.OwnWalk
import Derived.Deep.DeepAppendRoom
import Derived.RangeFuncBox
import Derived.RangeFuncNested
import Derived.RangeFuncBound
import Derived.RangeFuncCalls
import Derived.RangeFuncLeaves
import Derived.Shelf.Abstract
import Derived.Shelf.RegionOpen
import Derived.OwnWalkIn
import Derived.TacticsInMore
import Derived.LoopNIn
import Derived.LoopIn
import Derived.Deep.CutBlock
import Derived.Laws.BitsLemmas
import Derived.Lib.AppendZerosOnto
import Derived.Laws.CopyRow
import Derived.LaidEql
import Derived.Stop.Asserts
import Derived.RowKitTokens
import Derived.Shelf.SlGeneric
import Derived.Shelf.SlIterI.Nil
import Derived.Shelf.SortM.Plain
import Derived.Shelf.SortM.SortNone
import Derived.Ground.GgzProg
import Derived.Ground.SlgmProg
namespace Go.Proofs.YtnfplimhhjpbkaaGreatDoor
section
open Go.RowKit
theorem dxl_dr {w W3 wr : World} {B X : Nat} {D : InoD} {v : Value} {k : Nat} {zs : List Int} {s2 s3 : Value} (h : DXL w W3 wr B X D v k zs s2 s3) : DXL w W3 wr.drew B X D v k zs s2 s3 := ⟨h.x, h.row, h.kp, h.below.drew, h.hX, h.hB⟩
def growB (d : List Int) (m : Nat) : List Int := d ++ List.replicate (m - d.length) 0
def writeB (d : List Int) (o : Nat) (dz : List Int) : List Int := (growB d (o + dz.length)).take o ++ dz ++ (growB d (o + dz.length)).drop (o + dz.length)
def writeD (nx : Int) (ds : List InoD) (s : ByteArray) (off : Int) (dz : List Int) : List InoD × Int :=
  if treeD nx ds = false ∨ (splitOf s.data.toList).isSome = false ∨ ¬ (0 ≤ off ∧ off ≤ 100) then (ds, 1)
  else if (fileD ds s).2 = 0 ∧ 100 - off < (dz.length : Int) then (ds, 5)
  else if (fileD ds s).2 ≠ 0 then (ds, (fileD ds s).2)
  else (setD ds { (fileD ds s).1 with data := writeB (fileD ds s).1.data off.toNat dz }, 0)
def stepB (e : List Int) (o : Nat) (dz : List Int) (i : Nat) : List Int := e.take o ++ dz.take i ++ e.drop (o + i)
theorem stepB_zero (e : List Int) (o : Nat) (dz : List Int) : stepB e o dz 0 = e := by simp [stepB]
theorem stepB_len (e : List Int) (o : Nat) (dz : List Int) (i : Nat) (hi : i ≤ dz.length) (ho : o + dz.length ≤ e.length) : (stepB e o dz i).length = e.length := by
  unfold stepB
  simp
  omega
theorem stepB_set (e : List Int) (o : Nat) (dz : List Int) (i : Nat) (z : Int) (hz : dz[i]? = some z) (ho : o + dz.length ≤ e.length) : (stepB e o dz i).set (o + i) z = stepB e o dz (i + 1) := by
  have hi := (List.getElem?_eq_some_iff.1 hz).1
  unfold stepB
  have h1 : (e.take o ++ dz.take i).length = o + i := by simp; omega
  rw [List.set_append_right _ _ (by omega), h1, Nat.sub_self, List.take_add_one, hz]
  have h2 : e.drop (o + i) = e[o + i] :: e.drop (o + i + 1) := List.drop_eq_getElem_cons (by omega)
  rw [h2, List.set_cons_zero]
  simp [Nat.add_assoc]
theorem stepB_end (d : List Int) (o : Nat) (dz : List Int) : stepB (growB d (o + dz.length)) o dz dz.length = writeB d o dz := by
  unfold stepB writeB
  rw [List.take_length]
theorem byt_step {e dz : List Int} (he : Byt e) (hd : Byt dz) (o i : Nat) : Byt (stepB e o dz i) := fun z hz => by
  unfold stepB at hz
  rcases List.mem_append.1 hz with hz | hz
  · rcases List.mem_append.1 hz with hz | hz
    · exact he z (List.mem_of_mem_take hz)
    · exact hd z (List.mem_of_mem_take hz)
  · exact he z (List.mem_of_mem_drop hz)
set_option maxRecDepth 100000 in
set_option maxHeartbeats 8000000 in
theorem writeS (a : Option Addr) (n cap : Nat) (nx : Int) (rs : List InoR) (s : ByteArray) (off : Int) (da : Option Addr) (dn dc : Nat) (dz : List Int) (w : World) (ht : TR w a n rs) (hs : s.size ≤ 4000000) (hdl : dz.length = dn) (hdn2 : dn ≤ 1048576) (hdr : Rd w da dz) (hdb : Byt dz) :
    Calls Tryz.prog 48 #[.agg #[.slice a n cap, .int .i64 nx], .string s, .int .i64 off, .slice da dn dc] w fun e w' => TabC w nx (writeD nx (rs.map InoR.D) s off dz).1 (writeD nx (rs.map InoR.D) s off dz).2 e w' := by
  have B0 : Below w.heap.size w ((w.alloc (.cells #[.slice a n cap, .int .i64 nx] 26)).alloc (.cells #[.slice none 0 0, .int .i64 0] 26)) := ((Below.refl _ w).alloc (Nat.le_refl _) _).alloc (by simp) _
  have zT : Blk ((w.alloc (.cells #[.slice a n cap, .int .i64 nx] 26)).alloc (.cells #[.slice none 0 0, .int .i64 0] 26)) w.heap.size 26 #[.slice a n cap, .int .i64 nx] := (Blk.new w _ _).alloc _
  have zR := Blk.new (w.alloc (.cells #[.slice a n cap, .int .i64 nx] 26)) 26 #[.slice none 0 0, .int .i64 0]
  simp only [World.size_alloc] at zR
  obtain ⟨ds, hds⟩ : ∃ ds, rs.map InoR.D = ds := ⟨_, rfl⟩
  have hdn : ds.length = n := by rw [← hds, List.length_map, ht.len]
  have hp : Hid (∀ (e : Ending) (w' : World) (l : List InoD) (q : Int), writeD nx ds s off dz = (l, q) → TabC w nx l q e w' → TabC w nx (writeD nx ds s off dz).1 (writeD nx ds s off dz).2 e w') := fun e w' l q h hh => by rw [h]; exact hh
  rw [hds]
  generalize TabC w nx (writeD nx ds s off dz).1 (writeD nx ds s off dz).2 = P at hp ⊢
  have hmd : writeD nx ds s off dz = writeD nx ds s off dz := rfl
  conv at hmd => rhs; unfold writeD
  have HDS : Hid _ := hds
  have HDN : Hid _ := hdn
  have HT : Hid _ := ht
  have HSm : Hid (∀ F ∈ ds, InoSmall F) := by
    intro F hF
    exact ht.smallD F (by rw [hds]; exact hF)
  have hn1 := ht.n
  have href : Hid (∀ (W : World) (q : Int), Below w.heap.size w W → Blk W (w.heap.size + 1) 26 #[.slice none 0 0, .int .i64 0] → writeD nx ds s off dz = (ds, q) → Calls Tryz.prog 63 #[.agg #[.slice a n cap, .int .i64 nx]] W fun e V => ∃ (b : Option Addr) (m cc : Nat), e = .returned (.agg #[.slice b m cc, .int .i64 nx]) ∧ Blk V (w.heap.size + 1) 26 #[.slice none 0 0, .int .i64 0] ∧ P (.returned (.tuple #[.agg #[.slice b m cc, .int .i64 nx], .int .i64 q])) ((V.setCell ⟨w.heap.size + 1, 0, none⟩ (.slice b m cc)).setCell ⟨w.heap.size + 1, 1, none⟩ (.int .i64 nx))) := fun W q hb hz hq => by
    have hT := HT.out.keep hb
    refine (l4CopyS a n cap nx rs W hT.len hT.n hT.small hT.rd).mono fun e V h => ?_
    obtain ⟨b, m, cc, h1, h2, h3⟩ := copyC h hb (Nat.le_succ _) hz
    rw [HDS.out] at h3
    exact ⟨b, m, cc, h1, h2, hp.out _ _ _ _ hq (h3 q)⟩
  have hset : Hid (∀ (W V : World) (v : Value) (l : List InoD), TabAt W nx l v V → Below w.heap.size w W → Blk W (w.heap.size + 1) 26 #[.slice none 0 0, .int .i64 0] → writeD nx ds s off dz = (l, 0) → ∃ (b : Option Addr) (m cc : Nat), v = .agg #[.slice b m cc, .int .i64 nx] ∧ Blk V (w.heap.size + 1) 26 #[.slice none 0 0, .int .i64 0] ∧ P (.returned (.tuple #[.agg #[.slice b m cc, .int .i64 nx], .int .i64 0])) ((V.setCell ⟨w.heap.size + 1, 0, none⟩ (.slice b m cc)).setCell ⟨w.heap.size + 1, 1, none⟩ (.int .i64 nx))) := fun W V v l h hb hz hq => by
    obtain ⟨b, cc, js, rfl, hQ, hbV⟩ := h
    refine ⟨b, js.length, cc, rfl, hz.keep hbV, hp.out _ _ _ _ hq ?_⟩
    have := hQ.boxed (hb.trans (hbV.mono hb.size)) (R := w.heap.size + 1) (by omega) hz.lt (.slice b js.length cc) (.int .i64 nx)
    exact ⟨b, cc, js, rfl, this.1, this.2⟩
  go_enter Tryz.func48, Tryz.ntmps48
  go_wp2_with fail
  obtain ⟨W0, hW0⟩ : ∃ W, (w.alloc (.cells #[.slice a n cap, .int .i64 nx] 26)).alloc (.cells #[.slice none 0 0, .int .i64 0] 26) = W := ⟨_, rfl⟩
  rw [hW0] at B0 zT zR ⊢
  clear hW0 ht hds hdn
  rw [hdl] at hmd
  have HDL : Hid _ := hdl
  have HDR : Hid _ := hdr
  clear hdl hdr
  have hsp := splitB s W0 hs
  refine hsp.mono ?_
  rintro e w1 ⟨sa, sm, sc, rfl, bb1⟩
  clear hsp
  generalize (splitOf s.data.toList).isSome = K1 at hmd ⊢
  have hB0 := B0
  have zr0 := zR
  have zt0 := zT
  clear B0 zR zT
  have hB1 := hB0.trans (bb1.mono hB0.size)
  have zr1 := zr0.keep bb1
  have zt1 := zt0.keep bb1
  clear hB0 zr0 zt0 bb1

  have t0 := zt1.cell 0
  have t1 := zt1.cell 1
  simp at t0 t1
  have hcT := treeS a n cap nx rs w1 (HT.out.keep hB1)
  rw [HDS.out] at hcT
  go_wp2_with fail
  (with_reducible refine hcT.mono ?_)
  rintro e w2 ⟨rfl, bb2⟩
  clear hcT t0 t1
  have hB2 := hB1.trans (bb2.mono hB1.size)
  have zr2 := zr1.keep bb2
  have zt2 := zt1.keep bb2
  clear hB1 zr1 zt1 bb2

  have t0 := zt2.cell 0
  have t1 := zt2.cell 1
  simp at t0 t1
  cases htr : treeD nx ds with
  | false =>
    rw [htr, if_pos (.inl rfl)] at hmd
    have hcC := href.out w2 1 hB2 zr2 hmd
    clear hmd zr2 zt2 htr
    go_wp2_with fail
    (with_reducible refine hcC.mono ?_)
    rintro e wz ⟨b, m, cc, rfl, zz, hPz⟩
    have HPP : Hid _ := hPz
    have HZZ : Hid _ := zz
    have rr0 := zz.cell 0
    have rr1 := zz.cell 1
    have rf0 := zz.frozen 0
    have rf1 := zz.frozen 1
    simp at rr0 rr1
    clear zz hPz hcC t0 t1
    go_wp2
    have zf := blk2 HZZ.out (.slice b m cc) (.int .i64 nx)
    have dd0 := zf.cell 0
    have dd1 := zf.cell 1
    simp at dd0 dd1
    refine bodyPost_ret (v := .tuple #[.agg #[.slice b m cc, .int .i64 nx], .int .i64 1]) (by simp [results, Tryz.f48, go_sem, dd0, dd1]) rfl ?_
    exact HPP.out

  | true =>
    have hok := tabD_ok (treeD_parts htr).1
    have HOK : Hid _ := hok
    rw [htr] at hmd
    clear htr hok
    cases K1 with
    | false =>
      rw [if_pos (.inr (.inl rfl))] at hmd
      have hcC := href.out w2 1 hB2 zr2 hmd
      clear hmd zr2 zt2
      go_wp2_with fail
      (with_reducible refine hcC.mono ?_)
      rintro e wz ⟨b, m, cc, rfl, zz, hPz⟩
      have HPP : Hid _ := hPz
      have HZZ : Hid _ := zz
      have rr0 := zz.cell 0
      have rr1 := zz.cell 1
      have rf0 := zz.frozen 0
      have rf1 := zz.frozen 1
      simp at rr0 rr1
      clear zz hPz hcC t0 t1
      go_wp2
      have zf := blk2 HZZ.out (.slice b m cc) (.int .i64 nx)
      have dd0 := zf.cell 0
      have dd1 := zf.cell 1
      simp at dd0 dd1
      refine bodyPost_ret (v := .tuple #[.agg #[.slice b m cc, .int .i64 nx], .int .i64 1]) (by simp [results, Tryz.f48, go_sem, dd0, dd1]) rfl ?_
      exact HPP.out

    | true =>
      have hcN := l1In_any off 0 100 w2
      go_wp2_with fail
      (with_reducible refine hcN.mono ?_)
      rintro e w3 ⟨rfl, hw3⟩
      obtain rfl := hw3.symm
      clear hcN
      by_cases hin : 0 ≤ off ∧ off ≤ 100
      · have hinb : (decide (0 ≤ off) && decide (off ≤ 100)) = true := by simp [hin.1, hin.2]
        rw [hinb]
        rw [if_neg (by simp [hin.1, hin.2])] at hmd
        have hcS := fileS a n cap nx rs s w2 (HT.out.keep hB2) hs
        rw [HDS.out] at hcS
        obtain ⟨D, c, hDc⟩ : ∃ D c, fileD ds s = (D, c) := ⟨_, _, rfl⟩
        rw [hDc] at hmd hcS
        dsimp only at hmd hcS
        have HDC : Hid _ := hDc
        have hrl : w.heap.size + 1 < w2.heap.size := zr2.lt
        clear hDc hinb
        go_wp2_with fail
        (with_reducible refine hcS.mono ?_)
        rintro e w4 ⟨b1, d1, b2, d2, b3, d3, rfl, g4, bb4⟩
        clear hcS t0 t1
        have hs34 := bb4.size
        have zr4 := (zr2.keep bb4).alloc (.cells #[.int .i64 D.ino, .int .i64 D.kind, .int .i64 D.links, .slice b1 D.data.length d1, .slice b2 D.ents.length d2, .slice b3 D.attrs.length d3] 66)
        have zt4 := (zt2.keep bb4).alloc (.cells #[.int .i64 D.ino, .int .i64 D.kind, .int .i64 D.links, .slice b1 D.data.length d1, .slice b2 D.ents.length d2, .slice b3 D.attrs.length d3] 66)
        have hb4' := hB2.trans (bb4.mono hB2.size)
        have hB4 := hb4'.alloc hb4'.size (.cells #[.int .i64 D.ino, .int .i64 D.kind, .int .i64 D.links, .slice b1 D.data.length d1, .slice b2 D.ents.length d2, .slice b3 D.attrs.length d3] 66)
        have zX := Blk.new w4 66 #[.int .i64 D.ino, .int .i64 D.kind, .int .i64 D.links, .slice b1 D.data.length d1, .slice b2 D.ents.length d2, .slice b3 D.attrs.length d3]
        have g5 := g4.keep (Nat.le_refl _) ((Below.refl _ w4).alloc (Nat.le_refl _) (.cells #[.int .i64 D.ino, .int .i64 D.kind, .int .i64 D.links, .slice b1 D.data.length d1, .slice b2 D.ents.length d2, .slice b3 D.attrs.length d3] 66))
        have hlt : w4.heap.size < (w4.alloc (.cells #[.int .i64 D.ino, .int .i64 D.kind, .int .i64 D.links, .slice b1 D.data.length d1, .slice b2 D.ents.length d2, .slice b3 D.attrs.length d3] 66)).heap.size := by simp
        obtain ⟨W4, hW4⟩ : ∃ W, w4.alloc (.cells #[.int .i64 D.ino, .int .i64 D.kind, .int .i64 D.links, .slice b1 D.data.length d1, .slice b2 D.ents.length d2, .slice b3 D.attrs.length d3] 66) = W := ⟨_, rfl⟩
        rw [hW4] at zr4 zt4 hB4 zX g5 hlt
        have t0 := zt4.cell 0
        have t1 := zt4.cell 1
        simp at t0 t1
        clear hb4' g4 bb4 hB2 zr2 zt2
        by_cases hc0 : c = 0
        · subst hc0
          obtain ⟨O, rfl⟩ : ∃ O : Nat, off = (O : Int) := ⟨off.toNat, by omega⟩
          have hO : O ≤ 100 := by omega
          have hw1 : IntKind.i64.wrap (100 - (O : Int)) = 100 - (O : Int) := wrap_small _ (by omega) (by omega)
          by_cases hfu : 100 - (O : Int) < (dn : Int)
          · rw [if_pos ⟨rfl, hfu⟩] at hmd
            have hfd : decide (100 - (O : Int) < (dn : Int)) = true := decide_eq_true hfu
            have hcC := href.out W4 5 hB4 zr4 hmd
            clear hmd zr4 zt4 hB4 zX g5
            go_wp2_with fail
            (with_reducible refine hcC.mono ?_)
            rintro e wz ⟨b, m, cc, rfl, zz, hPz⟩
            have HPP : Hid _ := hPz
            have HZZ : Hid _ := zz
            have rr0 := zz.cell 0
            have rr1 := zz.cell 1
            have rf0 := zz.frozen 0
            have rf1 := zz.frozen 1
            simp at rr0 rr1
            clear zz hPz hcC t0 t1
            go_wp2
            have zf := blk2 HZZ.out (.slice b m cc) (.int .i64 nx)
            have dd0 := zf.cell 0
            have dd1 := zf.cell 1
            simp at dd0 dd1
            refine bodyPost_ret (v := .tuple #[.agg #[.slice b m cc, .int .i64 nx], .int .i64 5]) (by simp [results, Tryz.f48, go_sem, dd0, dd1]) rfl ?_
            exact HPP.out

          · rw [if_neg (by simp [hfu]), if_neg (by simp), Int.toNat_natCast] at hmd
            have hfd : decide (100 - (O : Int) < (dn : Int)) = false := decide_eq_false hfu
            obtain ⟨N, hN⟩ : ∃ N, O + dn = N := ⟨_, rfl⟩
            have hN100 : N ≤ 100 := by omega
            have hw2 : (O : Int) + (dn : Int) = (N : Int) := by omega
            have hDs : InoSmall D := HSm.out D (fileD_mem HDC.out).1
            have hD1 := (ok_parts (HOK.out.2.2.2.2.1 D (fileD_mem HDC.out).1).1).2.2.2.2.1
            have dx0 : DXL w W4 W4 w2.heap.size w4.heap.size D (.slice b1 D.data.length d1) D.data.length (D.data ++ List.replicate 0 0) (.slice b2 D.ents.length d2) (.slice b3 D.attrs.length d3) := ⟨zX, by rw [List.replicate_zero, List.append_nil]; exact row_raise g5.data (fun g hg => (g5.within g (.inl hg)).1), fun _ _ _ _ _ _ => rfl, hB4, by omega, by omega⟩
            have HMD : Hid _ := hmd
            have HG5 : Hid _ := g5
            have HZ4 : Hid _ := zr4
            have HT4 : Hid _ := zt4
            have hws : w2.heap.size ≤ W4.heap.size := by omega
            obtain ⟨X, hX⟩ : ∃ X, w4.heap.size = X := ⟨_, rfl⟩
            have HX : Hid _ := hX
            have hXl : w2.heap.size ≤ X := by omega
            rw [hX] at dx0 hlt
            clear hmd zr4 zt4 hB4 g5 zX t0 t1
            go_wp2
            clear hX
            go_loopw [54] (fun _ wr => ∃ (k : Nat) (v : Value), D.data.length ≤ k ∧ k ≤ D.data.length + N ∧ (k ≤ N ∨ k = D.data.length) ∧ DXL w W4 wr w2.heap.size X D v k (D.data ++ List.replicate (k - D.data.length) 0) (.slice b2 D.ents.length d2) (.slice b3 D.attrs.length d3) ∧ w2.heap.size ≤ wr.heap.size) (fun _ wr => N - lenAt wr X)
            case atStart => exact ⟨D.data.length, _, Nat.le_refl _, by omega, .inr rfl, by rw [Nat.sub_self]; exact dx0, hws⟩
            case round =>
              obtain ⟨k, v, hk1, hk2, hk3, dx, hwr⟩ := hrel
              clear dx0
              obtain ⟨va, vc, rfl, hkc, hrd⟩ := dx.form
              have x3 := dx.x.cell 3
              have xf := dx.x.frozen 3
              simp at x3
              by_cases hkN : k < N
              · have hki : (k : Int) < (N : Int) := by omega
                have hap := app_zero dx (by omega) hwr
                have hlk : lenAt wr X = k := by unfold lenAt; rw [x3]
                clear hrd
                go_wp2_with (at_builtin; refine wpList_run _ rfl (.tmp 63) (.tmp 64) 22 rfl (.slice va k vc) (.slice (some ⟨wr.heap.size, 0, none⟩) 1 1) rfl rfl _ hap ?_; rintro v5 V5 ⟨g6, c6, rfl, zx6, dx6⟩; have y3 := zx6.cell 3; have yf := zx6.frozen 3; simp at y3)
                have hz6 := dx6.x.cell 3
                simp at hz6
                have hl6 : lenAt (V5.setCell ⟨X, 3, none⟩ (.slice (some ⟨g6, 0, none⟩) (k + 1) c6)) X = k + 1 := by unfold lenAt; rw [hz6]
                have hsz : w2.heap.size ≤ (V5.setCell ⟨X, 3, none⟩ (.slice (some ⟨g6, 0, none⟩) (k + 1) c6)).heap.size := by
                  have := dx6.x.lt
                  omega
                have HD6 : Hid _ := dx6
                have HL6 : Hid _ := hl6
                have HLK : Hid _ := hlk
                clear hap dx dx6 zx6 hz6 hl6 hlk x3 xf y3 yf
                go_roundw
                all_goals first
                  | (case rel => exact ⟨k + 1, _, by omega, by omega, .inl (by omega), by rw [show k + 1 - D.data.length = (k - D.data.length) + 1 by omega, ← rep_snoc]; exact HD6.out, hsz⟩)
                  | (case rel => (repeat apply Exists.intro); exact ⟨⟨k + 1, _, by omega, by omega, .inl (by omega), by rw [show k + 1 - D.data.length = (k - D.data.length) + 1 by omega, ← rep_snoc]; exact HD6.out, hsz⟩, rfl⟩)
                  | (case measure => rw [HL6.out, HLK.out]; omega)
                  | fail
              · have hki : ¬ (k : Int) < (N : Int) := by omega
                have hkd : D.data ++ List.replicate (k - D.data.length) 0 = growB D.data (O + dn) := by
                  unfold growB
                  rw [hN, show k - D.data.length = N - D.data.length by omega]
                rw [hkd] at dx hrd
                have hel : (growB D.data (O + dn)).length = k := by rw [← hkd]; simp; omega
                have hbz : Byt (growB D.data (O + dn)) := byt_zero (HG5.out.byt) _
                obtain ⟨U, hU⟩ : ∃ U, U = wr := ⟨_, rfl⟩
                subst hU
                clear hkd xf
                obtain ⟨E, hE⟩ : ∃ E, growB D.data (O + dn) = E := ⟨_, rfl⟩
                rw [hE] at dx hrd hel hbz
                have HEE : Hid _ := hE
                have HEL : Hid _ := hel
                have hNk : N ≤ k := by omega
                have dxs : DXL w W4 U w2.heap.size X D (.slice va k vc) k (stepB E O dz 0) (.slice b2 D.ents.length d2) (.slice b3 D.attrs.length d3) := by rw [stepB_zero]; exact dx
                clear dx hrd hE hel
                go_wp2
                clear x3
                go_loopw [14] (fun i wr => ∃ p : Nat, p ≤ dn ∧ i = .int .i64 p ∧ DXL w W4 wr w2.heap.size X D (.slice va k vc) k (stepB E O dz p) (.slice b2 D.ents.length d2) (.slice b3 D.attrs.length d3)) (fun i _ => dn - (intOf i).toNat)
                case atStart => exact ⟨0, Nat.zero_le _, rfl, dxs⟩
                case round =>
                  obtain ⟨p, hp, rfl, dx⟩ := hrel
                  clear dxs
                  have x3 := dx.x.cell 3
                  simp at x3
                  by_cases hpn : p < dn
                  · have hpi : (p : Int) < (dn : Int) := by omega
                    have hp0 : (0 : Int) ≤ (p : Int) := by omega
                    have hpl : p < dz.length := by rw [HDL.out]; exact hpn
                    obtain ⟨z, hz⟩ : ∃ z, dz[p]? = some z := ⟨_, List.getElem?_eq_getElem hpl⟩
                    obtain ⟨db, doff, rfl, hdlt, hdc⟩ := Rd.lt HDR.out (by intro h; rw [h] at hpl; simp at hpl)
                    have q0 : wr.cell? ⟨db, doff + p, none⟩ = some (.int .u8 z) := by
                      have := (dx.below.cell (p := ⟨db, doff + p, none⟩) hdlt).trans (hdc p hpl)
                      rw [this, List.getD_eq_getElem?_getD, hz]
                      rfl
                    have hst := stepB_set E O dz p z hz (by rw [HEL.out, HDL.out]; omega)
                    obtain ⟨g, rfl⟩ : ∃ g, va = some ⟨g, 0, none⟩ := by
                      rcases dx.row.2 with ⟨h1, h2⟩ | ⟨g, c', cur, h1, _⟩
                      · omega
                      · simp at h1
                        exact ⟨g, h1.1⟩
                    have hgX := dx.ne (g := g) rfl
                    have hgB := (row_at dx.row (g := g) rfl).1
                    have hgd : g ≠ db := by have := dx.hB; omega
                    have hsl := stepB_len E O dz p (by omega) (by rw [HEL.out, HDL.out]; omega)
                    rw [HEL.out] at hsl
                    have r0 := World.ownsRow.cellAt dx.row (O + p) (by omega)
                    have rf := World.ownsRow.frozenAt dx.row (O + p)
                    obtain ⟨V, hV⟩ : ∃ V, ((stepB E O dz p).map (Value.int .u8))[O + p]? = some V := ⟨_, List.getElem?_eq_getElem (by rw [List.length_map, hsl]; omega)⟩
                    rw [hV] at r0
                    have hdx := dx.put (O + p) z
                    rw [hst] at hdx
                    have ha0 : (0 : Int) ≤ (O : Int) + (p : Int) := by omega
                    have hai : (O : Int) + (p : Int) < (k : Int) := by omega
                    have hwk : IntKind.i64.wrap ((O : Int) + (p : Int)) = (O : Int) + (p : Int) := wrap_small _ ha0 (by omega)
                    have htn : ((O : Int) + (p : Int)).toNat = O + p := by omega
                    have HDX : Hid _ := hdx
                    have hgX' : g ≠ X := fun e => hgX e.symm
                    clear hdc hz hst hV hsl dx hdx
                    go_wp2
                    go_region_held3 (fun W : World => W.cell? ⟨X, 3, none⟩ = some (.slice (some ⟨g, 0, none⟩) k vc) ∧ W.cell? ⟨db, doff + p, none⟩ = some (.int .u8 z)) (go_keep) (fail)
                    all_goals go_wp2
                    all_goals go_roundw
                    all_goals first
                      | (case rel => exact ⟨p + 1, by omega, by go_num, dxl_dr HDX.out⟩)
                      | (case rel => (repeat apply Exists.intro); exact ⟨⟨p + 1, by omega, by go_num, dxl_dr HDX.out⟩, rfl⟩)
                      | (case measure => simp [intOf]; omega)
                      | fail
                  · have hpi : ¬ (p : Int) < (dn : Int) := by omega
                    have hpd : p = dn := by omega
                    obtain ⟨va2, vc2, hv2, _, hrd⟩ := dx.form
                    simp only [Value.slice.injEq, true_and] at hv2
                    obtain ⟨rfl, rfl⟩ := hv2
                    have hfin : stepB E O dz p = writeB D.data O dz := by
                      rw [← stepB_end, HDL.out, HEE.out, hpd]
                    have hbw : Byt (stepB E O dz p) := byt_step hbz hdb O p
                    rw [hfin] at hrd hbw
                    have hwl : (writeB D.data O dz).length = k := by rw [← hfin]; exact dx.len
                    have hBV := dx.below
                    have kpV := dx.kp
                    have zXV := dx.x
                    have zrV : Blk wr (w.heap.size + 1) 26 #[.slice none 0 0, .int .i64 0] := Blk.kp HZ4.out kpV (by decide)
                    have ztV : Blk wr w.heap.size 26 #[.slice a n cap, .int .i64 nx] := Blk.kp HT4.out kpV (by decide)
                    obtain ⟨F, hF⟩ : ∃ F, ({ D with data := writeB D.data O dz } : InoD) = F := ⟨_, rfl⟩
                    have hFr : InoRd wr F va b2 b3 := by
                      rw [← hF]
                      exact inoRd_kp kpV HG5.out hrd hbw
                    have hFl : k = F.data.length := by
                      rw [← hF]
                      exact hwl.symm
                    have hFs : InoSmall F := by
                      refine ⟨by omega, ?_, ?_, ?_, ?_⟩
                      · rw [← hF]; exact hDs.ents
                      · rw [← hF]; exact hDs.attrs
                      · rw [← hF]; exact hDs.entsz
                      · rw [← hF]; exact hDs.attrsz
                    have e2 : D.ino = F.ino ∧ D.kind = F.kind ∧ D.links = F.links ∧ D.ents.length = F.ents.length ∧ D.attrs.length = F.attrs.length := by rw [← hF]; exact ⟨rfl, rfl, rfl, rfl, rfl⟩
                    have HMF : Hid (writeD nx ds s (O : Int) dz = (setD ds F, 0)) := by show _ = _; rw [HMD.out, hF]
                    have hcF := setT a n cap nx rs F va b2 b3 vc d2 d3 wr (HT.out.keep hBV) hFs hFr
                    rw [HDS.out, ← e2.1, ← e2.2.1, ← e2.2.2.1, ← hFl, ← e2.2.2.2.1, ← e2.2.2.2.2] at hcF
                    obtain ⟨j0, j1, j2, j3, j4, j5⟩ := zXV.six
                    have p0 := ztV.cell 0
                    have p1 := ztV.cell 1
                    simp at p0 p1
                    have HBW : Hid _ := hBV
                    have HZW : Hid _ := zrV
                    clear dx hrd hbw zXV kpV hBV zrV ztV hF hFr hFl hFs e2 HMD hfin hwl hpd x3
                    go_wp2_with fail
                    (with_reducible refine hcF.mono ?_)
                    rintro e wz ⟨v, rfl, tAz⟩
                    obtain ⟨b, m, cc, rfl, zz, hPz⟩ := hset.out _ _ _ _ tAz HBW.out HZW.out HMF.out
                    have HPP : Hid _ := hPz
                    have HZZ : Hid _ := zz
                    have rr0 := zz.cell 0
                    have rr1 := zz.cell 1
                    have rf0 := zz.frozen 0
                    have rf1 := zz.frozen 1
                    simp at rr0 rr1
                    clear zz hPz hcF tAz j0 j1 j2 j3 j4 j5 p0 p1
                    go_wp2
                    have zf := blk2 HZZ.out (.slice b m cc) (.int .i64 nx)
                    have dd0 := zf.cell 0
                    have dd1 := zf.cell 1
                    simp at dd0 dd1
                    refine bodyPost_ret (v := .tuple #[.agg #[.slice b m cc, .int .i64 nx], .int .i64 0]) (by simp [results, Tryz.f48, go_sem, dd0, dd1]) rfl ?_
                    exact HPP.out

        · rw [if_neg (by simp [hc0]), if_pos hc0] at hmd
          have hcC := href.out W4 c hB4 zr4 hmd
          have hcb : (c != 0) = true := by simpa using hc0
          have hcb' : (c == 0) = false := by simpa using hc0
          clear hmd zr4 zt4 hB4 zX g5
          go_wp2_with fail
          (with_reducible refine hcC.mono ?_)
          rintro e wz ⟨b, m, cc, rfl, zz, hPz⟩
          have HPP : Hid _ := hPz
          have HZZ : Hid _ := zz
          have rr0 := zz.cell 0
          have rr1 := zz.cell 1
          have rf0 := zz.frozen 0
          have rf1 := zz.frozen 1
          simp at rr0 rr1
          clear zz hPz hcC t0 t1
          go_wp2
          have zf := blk2 HZZ.out (.slice b m cc) (.int .i64 nx)
          have dd0 := zf.cell 0
          have dd1 := zf.cell 1
          simp at dd0 dd1
          refine bodyPost_ret (v := .tuple #[.agg #[.slice b m cc, .int .i64 nx], .int .i64 c]) (by simp [results, Tryz.f48, go_sem, dd0, dd1]) rfl ?_
          exact HPP.out

      · have hinb : (decide (0 ≤ off) && decide (off ≤ 100)) = false := by
          by_cases h0 : 0 ≤ off
          · have : ¬ off ≤ 100 := fun h => hin ⟨h0, h⟩
            simp [h0, this]
          · simp [h0]
        rw [hinb]
        rw [if_pos (.inr (.inr hin))] at hmd
        have hcC := href.out w2 1 hB2 zr2 hmd
        clear hmd zr2 zt2
        go_wp2_with fail
        (with_reducible refine hcC.mono ?_)
        rintro e wz ⟨b, m, cc, rfl, zz, hPz⟩
        have HPP : Hid _ := hPz
        have HZZ : Hid _ := zz
        have rr0 := zz.cell 0
        have rr1 := zz.cell 1
        have rf0 := zz.frozen 0
        have rf1 := zz.frozen 1
        simp at rr0 rr1
        clear zz hPz hcC t0 t1
        go_wp2
        have zf := blk2 HZZ.out (.slice b m cc) (.int .i64 nx)
        have dd0 := zf.cell 0
        have dd1 := zf.cell 1
        simp at dd0 dd1
        refine bodyPost_ret (v := .tuple #[.agg #[.slice b m cc, .int .i64 nx], .int .i64 1]) (by simp [results, Tryz.f48, go_sem, dd0, dd1]) rfl ?_
        exact HPP.out
end

section
open Go.RowKit
theorem copy_none (W : World) (ty : TypeId) (a' da : Option Addr) (k c' dc : Nat) : (Builtin.copy_ #[22, 22] ty #[.slice a' k c', .slice da 0 dc]).run Tryz.prog W = .ok (goInt 0) W := by
  obtain ⟨i0, hi, hz0, hz1, hz2⟩ := info_parts Tryz.info5
  cases a' <;> cases da <;> simp [Builtin.copy_, run_underlying Tryz.underlying22, Builtin.lenOf, Builtin.firstCells, sizeOf, typeInfo, hi, loadCells, loadCellsFrom, storeCells]
theorem copy_some (W : World) (g o m cap dCap : Nat) (b off sLen sCap : Nat) (zs dz : List Int) (ho : OwnV 0 W (.slice (some ⟨g, 0, none⟩) m cap) m zs) (hr : ∀ i, i < dz.length → W.cell? ⟨b, off + i, none⟩ = some (.int .u8 (dz.getD i 0))) (hd : dz.length = sLen) (hfit : o + sLen ≤ m) :
    ∃ w', (∀ ty, (Builtin.copy_ #[22, 22] ty #[.slice (some ⟨g, o, none⟩) (m - o) dCap, .slice (some ⟨b, off, none⟩) sLen sCap]).run Tryz.prog W = .ok (goInt sLen) w') ∧ OwnV 0 w' (.slice (some ⟨g, 0, none⟩) m cap) m (stepB zs o dz dz.length) ∧ W.grownBy w' (some g) := by
  obtain ⟨i0, hi, hz0, hz1, hz2⟩ := info_parts Tryz.info5
  rcases ho.2 with ⟨h0, _⟩ | ⟨g', c', cur, h0, _, hh, hmc, hcm, hcs, htk⟩
  · cases h0
  cases h0
  have hzl := ho.len
  obtain ⟨R, hR⟩ : ∃ R, cur.toList = zs.map (Value.int .u8) ++ R := ⟨cur.toList.drop m, by rw [Nat.mul_one] at htk; rw [← htk, List.take_append_drop]⟩
  have hcl : (dz.map (Value.int .u8)).length = sLen := by rw [List.length_map, hd]
  have hl := run_loadCells_list (P := Tryz.prog) W ⟨b, off, none⟩ (dz.map (Value.int .u8)) (fun j v hj => by
    have hjl : j < dz.length := by have := (List.getElem?_eq_some_iff.1 hj).1; rw [List.length_map] at this; exact this
    rw [Addr.add_lit]
    have := hr j hjl
    rw [this]
    rw [List.getElem?_map, List.getElem?_eq_getElem hjl] at hj
    rw [List.getD_eq_getElem?_getD, List.getElem?_eq_getElem hjl]
    exact hj)
  have hst := run_storeCells_at Tryz.prog g o 5 (dz.map (Value.int .u8)) 0 cur W hh (by rw [hcl, hcs]; simp; omega) (fun v hv => by obtain ⟨z, _, rfl⟩ := List.mem_map.1 hv; rfl)
  rw [hcl] at hl
  have hmin : Nat.min sLen (m - o) = sLen := Nat.min_eq_left (by omega)
  refine ⟨W.setRow g (cur.toList.take o ++ dz.map (Value.int .u8) ++ cur.toList.drop (o + (dz.map (Value.int .u8)).length)).toArray, fun ty => ?_, ⟨?_, .inr ⟨g, cap, _, rfl, Nat.zero_le _, setRow_heap W g cur _ _ _ hh, hmc, hcm, ?_, ?_⟩⟩, gr_row W g _⟩
  · simp [Builtin.copy_, run_underlying Tryz.underlying22, Builtin.lenOf, Builtin.firstCells, sizeOf, typeInfo, hi, hz1, hmin, hl, hst]
  · rw [List.length_map, stepB_len _ _ _ _ (Nat.le_refl _) (by omega)]
    omega
  · rw [hcl]
    have h1 : cur.toList.length = cur.size := Array.length_toList
    simp
    omega
  · have e1 : cur.toList.take o = (zs.take o).map (Value.int .u8) := by rw [hR, List.take_append_of_le_length (by rw [List.length_map]; omega), List.map_take]
    have e2 : cur.toList.drop (o + sLen) = (zs.drop (o + sLen)).map (Value.int .u8) ++ R := by rw [hR, List.drop_append_of_le_length (by rw [List.length_map]; omega), List.map_drop]
    rw [hcl, e1, e2]
    have e3 : (stepB zs o dz dz.length).map (Value.int .u8) = (zs.take o).map (Value.int .u8) ++ dz.map (Value.int .u8) ++ (zs.drop (o + sLen)).map (Value.int .u8) := by
      unfold stepB
      rw [List.take_length, hd, List.map_append, List.map_append]
    rw [e3, ← List.append_assoc, Nat.mul_one]
    exact List.take_left' (by simp; omega)
theorem own_up {W : World} {B n : Nat} {v : Value} {zs : List Int} (ho : OwnV 0 W v n zs) (hlo : ∀ g, v.ownBlock = some g → B ≤ g) : OwnV B W v n zs := by
  refine ⟨ho.1, ?_⟩
  rcases ho.2 with hn | ⟨g, cap, cur, hv, _, rest⟩
  · exact .inl hn
  · exact .inr ⟨g, cap, cur, hv, hlo g (by rw [hv]; rfl), rest⟩
/-- What writeAt answers. -/
def writeC (ds : List InoD) (p : ByteArray) (k : Int) (dz : List Int) : Int := if ¬ (0 ≤ k ∧ k ≤ 100) then 1 else if (badK 2 ds p).2 ≠ 0 then (badK 2 ds p).2 else if k + (dz.length : Int) > 100 then 5 else 0
def writeT (ds : List InoD) (p : ByteArray) (k : Int) (dz : List Int) : List InoD := setD ds { (badK 2 ds p).1 with data := stepB (sizeTo (badK 2 ds p).1.data (max (k.toNat + dz.length) (badK 2 ds p).1.data.length)) k.toNat dz dz.length }
set_option maxRecDepth 100000 in
set_option maxHeartbeats 4000000 in
theorem writeM (a : Option Addr) (n cap : Nat) (nx : Int) (rs : List InoR) (p q : ByteArray) (k : Int) (da : Option Addr) (dn dc : Nat) (an av : ByteArray) (w : World) (ht : TR w a n rs) (hK : ∀ r ∈ rs, r.D.kind = 1 ∨ r.D.kind = 2) (hwf : ∀ r ∈ rs, (Lit.int .i64 r.D.ino).wf = true) (hwe : ∀ r ∈ rs, ∀ e ∈ r.D.ents, (Lit.int .i64 e.2).wf = true) (hs : p.size ≤ 4000000) (hD : ∀ r ∈ rs, r.D.data.length ≤ 100) (dz : List Int) (hdl : dz.length = dn) (hdn : dn ≤ 1048576) (hdr : Rd w da dz) (hdb : Byt dz) :
    Calls Tryz.prog 180 #[.agg #[.slice a n cap, .int .i64 nx], .agg #[.string p, .string q, .int .i64 k, .slice da dn dc, .string an, .string av]] w fun e w' => EMeth w nx (writeT (rs.map InoR.D) p k dz) (writeC (rs.map InoR.D) p k dz) e w' := by
  have B0 : Below w.heap.size w (((w.alloc (.cells #[.slice a n cap, .int .i64 nx] 26)).alloc (.cells #[.string p, .string q, .int .i64 k, .slice da dn dc, .string an, .string av] 96)).alloc (.cells #[.slice none 0 0, .int .i64 0] 26)) := (((Below.refl _ w).alloc (Nat.le_refl _) _).alloc (by simp) _).alloc (by simp; omega) _
  have zT := ((Blk.new w 26 #[.slice a n cap, .int .i64 nx]).alloc (.cells #[.string p, .string q, .int .i64 k, .slice da dn dc, .string an, .string av] 96)).alloc (.cells #[.slice none 0 0, .int .i64 0] 26)
  have zC := (Blk.new (w.alloc (.cells #[.slice a n cap, .int .i64 nx] 26)) 96 #[.string p, .string q, .int .i64 k, .slice da dn dc, .string an, .string av]).alloc (.cells #[.slice none 0 0, .int .i64 0] 26)
  have zR := Blk.new ((w.alloc (.cells #[.slice a n cap, .int .i64 nx] 26)).alloc (.cells #[.string p, .string q, .int .i64 k, .slice da dn dc, .string an, .string av] 96)) 26 #[.slice none 0 0, .int .i64 0]
  simp only [World.size_alloc] at zC zR
  obtain ⟨ds, hds⟩ : ∃ ds, rs.map InoR.D = ds := ⟨_, rfl⟩
  rw [hds]
  have HDS : Hid _ := hds
  obtain ⟨CO, hCO⟩ : ∃ c, writeC ds p k dz = c := ⟨_, rfl⟩
  obtain ⟨TT, hTT⟩ : ∃ c, writeT ds p k dz = c := ⟨_, rfl⟩
  rw [hCO, hTT]
  unfold writeC at hCO
  unfold writeT at hTT
  have c2 := zC.cell 2
  have r0 := zR.cell 0
  have r1 := zR.cell 1
  have f0 := zR.frozen 0
  have f1 := zR.frozen 1
  simp at c2 r0 r1
  by_cases hk : ¬ (0 ≤ k ∧ k ≤ 100)
  · rw [if_pos hk] at hCO
    subst hCO
    have dd0 := zR.cell 0
    have dd1 := zR.cell 1
    simp at dd0 dd1
    have hend : Hid (EMeth w nx TT 1 (.returned (.tuple #[.agg #[.slice none 0 0, .int .i64 0], .iface 136 (.int .i64 1)])) (((w.alloc (.cells #[.slice a n cap, .int .i64 nx] 26)).alloc (.cells #[.string p, .string q, .int .i64 k, .slice da dn dc, .string an, .string av] 96)).alloc (.cells #[.slice none 0 0, .int .i64 0] 26))) := eMeth_no (by decide) B0
    clear zT zC zR B0 hTT HDS hds ht hK hwf hwe hD
    go_enter Tryz.func180, Tryz.ntmps180
    by_cases hk0 : k < 0
    · go_wp2
      refine bodyPost_ret (v := .tuple #[.agg #[.slice none 0 0, .int .i64 0], .iface 136 (.int .i64 1)]) (by simp [results, Tryz.f180, go_sem, dd0, dd1]) rfl ?_
      exact hend.out
    · have hk1 : k > 100 := by omega
      go_wp2
      refine bodyPost_ret (v := .tuple #[.agg #[.slice none 0 0, .int .i64 0], .iface 136 (.int .i64 1)]) (by simp [results, Tryz.f180, go_sem, dd0, dd1]) rfl ?_
      exact hend.out
  rw [if_neg hk] at hCO
  obtain ⟨kn, rfl⟩ : ∃ kn : Nat, k = (kn : Int) := ⟨k.toNat, by omega⟩
  have hkn : kn ≤ 100 := by omega
  have hk0 : ¬ (kn : Int) < 0 := by omega
  have hk1 : ¬ (kn : Int) > 100 := by omega
  rw [Int.toNat_natCast] at hTT
  clear hk
  have hcF := fun (W : World) (hW : Below w.heap.size w W) => fileI a n cap nx rs p W (ht.keep hW) hK hwf hwe hs
  have HSM : Hid _ := ht.small
  have HLEN : Hid _ := ht.len
  have HNN : Hid _ := ht.n
  have HRD : Hid _ := ht.rd
  have HWF : Hid _ := hwf
  have HD1 : Hid _ := hD
  rw [hds] at hcF
  have HMEM : Hid _ := @badK_mem 2 ds p
  obtain ⟨D, c, hDc⟩ : ∃ D c, badK 2 ds p = (D, c) := ⟨_, _, rfl⟩
  rw [hDc] at hcF hCO hTT HMEM
  dsimp only at hcF hCO hTT HMEM
  have HTT : Hid _ := hTT
  have t0 := zT.cell 0
  have t1 := zT.cell 1
  have c0 := zC.cell 0
  simp at t0 t1 c0
  have HDR : Hid _ := hdr
  have HDL : Hid _ := hdl
  have HDB : Hid _ := hdb
  clear hDc hTT ht hK hwf hwe hds hD hdr hdl hdb
  go_enter Tryz.func180, Tryz.ntmps180
  go_wp2_with fail
  obtain ⟨Wz, hWz⟩ : ∃ W, (((w.alloc (.cells #[.slice a n cap, .int .i64 nx] 26)).alloc (.cells #[.string p, .string q, .int .i64 (kn : Int), .slice da dn dc, .string an, .string av] 96)).alloc (.cells #[.slice none 0 0, .int .i64 0] 26)) = W := ⟨_, rfl⟩
  rw [hWz] at B0 zT zC zR c0 c2 r0 r1 f0 f1 t0 t1 ⊢
  clear hWz
  (with_reducible refine (hcF Wz B0).mono ?_)
  rintro e w2 ⟨b1, d1, b2, d2, b3, d3, rfl, g2, bb2⟩
  have zt := (zT.keep bb2).alloc (.cells #[.int .i64 D.ino, .int .i64 D.kind, .int .i64 D.links, .slice b1 D.data.length d1, .slice b2 D.ents.length d2, .slice b3 D.attrs.length d3] 66)
  have zc := (zC.keep bb2).alloc (.cells #[.int .i64 D.ino, .int .i64 D.kind, .int .i64 D.links, .slice b1 D.data.length d1, .slice b2 D.ents.length d2, .slice b3 D.attrs.length d3] 66)
  have zr := (zR.keep bb2).alloc (.cells #[.int .i64 D.ino, .int .i64 D.kind, .int .i64 D.links, .slice b1 D.data.length d1, .slice b2 D.ents.length d2, .slice b3 D.attrs.length d3] 66)
  have hb2 := B0.trans (bb2.mono B0.size)
  have hb3 := hb2.alloc hb2.size (.cells #[.int .i64 D.ino, .int .i64 D.kind, .int .i64 D.links, .slice b1 D.data.length d1, .slice b2 D.ents.length d2, .slice b3 D.attrs.length d3] 66)
  have hbA : Below w2.heap.size w2 (w2.alloc (.cells #[.int .i64 D.ino, .int .i64 D.kind, .int .i64 D.links, .slice b1 D.data.length d1, .slice b2 D.ents.length d2, .slice b3 D.attrs.length d3] 66)) := (Below.refl _ w2).alloc (Nat.le_refl _) _
  have zX := Blk.new w2 66 #[.int .i64 D.ino, .int .i64 D.kind, .int .i64 D.links, .slice b1 D.data.length d1, .slice b2 D.ents.length d2, .slice b3 D.attrs.length d3]
  have g3 := g2.keep (Nat.le_refl _) hbA
  have hsR : w.heap.size + 1 + 1 < w2.heap.size := (zR.keep bb2).lt
  have HBZ : Hid (w.heap.size ≤ Wz.heap.size) := B0.size
  obtain ⟨X, hX⟩ : ∃ X, w2.heap.size = X := ⟨_, rfl⟩
  obtain ⟨W3, hW3⟩ : ∃ W, w2.alloc (.cells #[.int .i64 D.ino, .int .i64 D.kind, .int .i64 D.links, .slice b1 D.data.length d1, .slice b2 D.ents.length d2, .slice b3 D.attrs.length d3] 66) = W := ⟨_, rfl⟩
  rw [hW3] at zt zc zr hb3 zX g3
  rw [hX] at zX g3
  have hX0 := hX
  have HZT : Hid _ := zt
  have HZC : Hid _ := zc
  have HZR : Hid _ := zr
  have HB3 : Hid _ := hb3
  have HG3 : Hid _ := g3
  have HZX : Hid _ := zX
  have r0 := zr.cell 0
  have r1 := zr.cell 1
  have f0 := zr.frozen 0
  have f1 := zr.frozen 1
  have c2 := zc.cell 2
  have c3 := zc.cell 3
  obtain ⟨x0, x1, x2, x3, x4, x5⟩ := zX.six
  have fx := zX.frozen 3
  simp at r0 r1 c2 c3
  clear hcF zT zC zR g2 bb2 hb2 hbA B0 zt zc zr hb3 g3 zX
  by_cases hc0 : c = 0
  · subst hc0
    rw [if_neg (by simp)] at hCO
    rw [errV_zero]
    have HZCc := Blk.cell HZC.out 3
    simp at HZCc
    have hDm := HMEM.out rfl
    obtain ⟨rD, hrD, hrDD⟩ : ∃ r ∈ rs, r.D = D := by
      rw [← HDS.out] at hDm
      obtain ⟨r, hr, h⟩ := List.mem_map.1 hDm
      exact ⟨r, hr, h⟩
    have hsD : InoSmall D := hrDD ▸ HSM.out rD hrD
    have hwD : (Lit.int .i64 D.ino).wf = true := hrDD ▸ HWF.out rD hrD
    by_cases hfull : (kn : Int) + (dn : Int) > 100
    · rw [if_pos (by rw [HDL.out]; exact hfull)] at hCO
      subst hCO
      have hend : Hid (EMeth w nx TT 5 (.returned (.tuple #[.agg #[.slice none 0 0, .int .i64 0], .iface 136 (.int .i64 5)])) ((W3.setCell ⟨w.heap.size + 1 + 1, 0, none⟩ (.slice none 0 0)).setCell ⟨w.heap.size + 1 + 1, 1, none⟩ (.int .i64 0))) := eMeth_no (by decide) ((HB3.out.setCell (p := ⟨w.heap.size + 1 + 1, 0, none⟩) (by show _ ≤ w.heap.size + 1 + 1; omega) _).setCell (p := ⟨w.heap.size + 1 + 1, 1, none⟩) (by show _ ≤ w.heap.size + 1 + 1; omega) _)
      have zf := blk2 HZR.out (.slice none 0 0) (.int .i64 0)
      have dd0 := zf.cell 0
      have dd1 := zf.cell 1
      simp at dd0 dd1
      clear zf hDm hrD hrDD hsD hwD
      go_wp2
      refine bodyPost_ret (v := .tuple #[.agg #[.slice none 0 0, .int .i64 0], .iface 136 (.int .i64 5)]) (by simp [results, Tryz.f180, go_sem, dd0, dd1]) rfl ?_
      exact hend.out
    rw [if_neg (by rw [HDL.out]; exact hfull)] at hCO
    subst hCO
    have hdl1 : D.data.length ≤ 100 := by rw [← hrDD]; exact HD1.out rD hrD
    obtain ⟨mx, hmx⟩ : ∃ k, max (kn + dn) D.data.length = k := ⟨_, rfl⟩
    have hcZ := sizedI w.heap.size (.slice b1 D.data.length d1) D.data.length mx D.data W3 (own_up HG3.out.data (fun m hm => by have h1 := HG3.out.within m (.inl hm); have h2 := HBZ.out; omega)) (by omega) (by omega) HB3.out.size
    have HSD : Hid _ := hsD
    have HWD : Hid _ := hwD
    have hmi : max ((kn : Int) + (dn : Int)) (D.data.length : Int) = (mx : Int) := by omega
    have HMX : Hid _ := hmx
    have hmb : kn + dn ≤ mx ∧ mx ≤ 100 := by omega
    clear hmx
    clear hDm hrD hrDD hsD hwD
    go_wp2_with fail
    (with_reducible refine hcZ.mono ?_)
    rintro e w4 ⟨v4, rfl, oB, g4⟩
    have o4 : OwnV 0 w4 v4 mx (sizeTo D.data mx) := row_lower oB (Nat.zero_le _)
    obtain ⟨a4, c4, rfl⟩ := ownShape o4
    have zt4 := Blk.row HZT.out (by decide) HG3.out.data g4
    have zc4 := Blk.row HZC.out (by decide) HG3.out.data g4
    have zr4 := Blk.row HZR.out (by decide) HG3.out.data g4
    have zX4 := Blk.row HZX.out (by decide) HG3.out.data g4
    have hk4 : KpT W3 w4 [86, 89] := KpT.row g4 HG3.out.data (by decide)
    have hb4 : Below w.heap.size w w4 := HB3.out.grown g4 HB3.out.size (fun m hm => by have h1 := HG3.out.within m (.inl hm); have h2 := HBZ.out; omega)
    have fx4 := zX4.frozen 3
    have xx3 := zX4.cell 3
    simp at xx3
    have zX5 := zX4.set 3 (.slice a4 mx c4)
    have zt5 := zt4.other (B' := X) (by omega) 3 (.slice a4 mx c4)
    have zc5 := zc4.other (B' := X) (by omega) 3 (.slice a4 mx c4)
    have zr5 := zr4.other (B' := X) (by omega) 3 (.slice a4 mx c4)
    have hk5 : KpT w4 (w4.setCell ⟨X, 3, none⟩ (.slice a4 mx c4)) [86, 89, 5] := KpT.grown (gr_setC w4 X 3 _) zX4 (by decide)
    have o5 : OwnV 0 (w4.setCell ⟨X, 3, none⟩ (.slice a4 mx c4)) (.slice a4 mx c4) mx (sizeTo D.data mx) := row_kp o4 hk5 (by decide)
    have hkk : KpT W3 (w4.setCell ⟨X, 3, none⟩ (.slice a4 mx c4)) [86, 89] := hk4.tr (fun B cur t fr h1 h2 => hk5 B cur t fr h1 (List.mem_append_left [5] h2))
    have hb5 := hb4.setCell (p := ⟨X, 3, none⟩) (show w.heap.size ≤ X by omega) (.slice a4 mx c4)
    have hlo : ∀ g, (Value.slice a4 mx c4).ownBlock = some g → w.heap.size ≤ g := fun g hg => (World.ownsRow.lt oB g hg).1
    obtain ⟨W5, hW5⟩ : ∃ W, w4.setCell ⟨X, 3, none⟩ (.slice a4 mx c4) = W := ⟨_, rfl⟩
    rw [hW5] at zX5 zt5 zc5 zr5 o5 hkk hb5
    have HX5 : Hid _ := zX5
    have HT5 : Hid _ := zt5
    have HR5 : Hid _ := zr5
    have HK5 : Hid _ := hkk
    have HB5 : Hid _ := hb5
    have HO5 : Hid _ := o5
    have HLO : Hid _ := hlo
    have HDR5 : Hid (Rd W5 da dz) := Rd.keep HDR.out hb5
    obtain ⟨x0, x1, x2, x3, x4, x5⟩ := zX5.six
    have c2 := zc5.cell 2
    have c3 := zc5.cell 3
    simp at c2 c3
    have HCAP : Hid (mx ≤ c4 ∨ (a4 = none ∧ mx = 0 ∧ c4 = 0)) := by
      show _ ∨ _
      rcases o5.2 with ⟨h0, h1⟩ | ⟨g', c', cur, h0, _, _, h3, _⟩
      · simp at h0
        exact .inr ⟨h0.1, h1, h0.2.2⟩
      · simp at h0
        obtain ⟨_, rfl⟩ := h0
        exact .inl h3
    have hkn0 : (0 : Int) ≤ (kn : Int) := by omega
    have hknm : (kn : Int) ≤ (mx : Int) := by omega
    clear hcZ o4 g4 hk4 hk5 hb4 hb5 hkk zt4 zc4 zr4 zt5 zc5 zr5 zX5 zX4 r0 r1 f0 f1 o5 hlo oB
    go_upto_region 10 with fail
    go_cut [56] (fun _ wx => Hid (OwnV 0 wx (.slice a4 mx c4) mx (stepB (sizeTo D.data mx) kn dz dz.length) ∧ W5.grownBy wx (Value.slice a4 mx c4).ownBlock))
    case first =>
      by_cases hdz : dz = []
      · have hd0 : dn = 0 := by rw [← HDL.out, hdz]; rfl
        have HH : Hid (OwnV 0 W5.drew (.slice a4 mx c4) mx (stepB (sizeTo D.data mx) kn dz dz.length) ∧ W5.grownBy W5.drew (Value.slice a4 mx c4).ownBlock) := by
          refine ⟨?_, ⟨rfl, rfl, rfl, Nat.le_refl _, fun _ _ _ => rfl⟩⟩
          rw [hdz]
          show OwnV 0 W5 _ _ (stepB _ _ [] 0)
          rw [stepB_zero]
          exact HO5.out
        rcases HO5.out.2 with ⟨h0, h1⟩ | ⟨g, c', cur, h0, _, _, hmc, _⟩
        · simp at h0
          obtain ⟨rfl, -, rfl⟩ := h0
          subst h1
          have hk00 : kn = 0 := by omega
          subst hd0
          subst hk00
          clear hdz
          go_region_law (first
            | (refine step_copy_run rfl _ _ 22 22 rfl _ _ rfl rfl (copy_none _ _ _ _ _ _ _) ?_)
            | fail)
          all_goals (go_wp2_with fail; go_meet; exact HH)
        · simp at h0
          obtain ⟨rfl, rfl⟩ := h0
          subst hd0
          clear hdz
          rcases Nat.lt_or_ge kn c4 with hkc | hkc
          · have hkci : (kn : Int) < (c4 : Int) := by omega
            have hkcl : (kn : Int) ≤ (c4 : Int) := by omega
            clear hmc
            go_region_law (first
              | (refine step_copy_run rfl _ _ 22 22 rfl _ _ rfl rfl (copy_none _ _ _ _ _ _ _) ?_)
              | fail)
            all_goals (go_wp2_with fail; go_meet; exact HH)
          · obtain rfl : mx = c4 := by omega
            obtain rfl : kn = mx := by omega
            clear hmc hkc
            go_region_law (first
              | (refine step_copy_run rfl _ _ 22 22 rfl _ _ rfl rfl (copy_none _ _ _ _ _ _ _) ?_)
              | fail)
            all_goals (go_wp2_with fail; go_meet; exact HH)
      · obtain ⟨b, off, rfl, hlt, hc⟩ := Rd.lt HDR5.out hdz
        have hdp : 0 < dn := by rw [← HDL.out]; exact List.length_pos_iff.2 hdz
        rcases HO5.out.2 with ⟨h0, h1⟩ | ⟨g, c', cur, h0, _, _, hmc, _⟩
        · omega
        simp at h0
        obtain ⟨rfl, rfl⟩ := h0
        obtain ⟨w', hrun, oW, gW⟩ := copy_some W5.drew g kn mx c4 (c4 - kn) b off dn dc (sizeTo D.data mx) dz HO5.out hc HDL.out (by omega)
        have HH : Hid (OwnV 0 w' (.slice (some ⟨g, 0, none⟩) mx c4) mx (stepB (sizeTo D.data mx) kn dz dz.length) ∧ W5.grownBy w' (some g)) := ⟨oW, (show W5.grownBy W5.drew (some g) from ⟨rfl, rfl, rfl, Nat.le_refl _, fun _ _ _ => rfl⟩).trans gW⟩
        have hkci : (kn : Int) < (c4 : Int) := by omega
        have hkcl : (kn : Int) ≤ (c4 : Int) := by omega
        have hne : ¬ c4 = kn := by omega
        have hne' : ¬ kn = c4 := by omega
        clear hc hdz oW gW hmc
        go_region_law (first
          | (refine step_copy_run rfl _ _ 22 22 rfl (.slice (some ⟨g, kn, none⟩) (mx - kn) (c4 - kn)) (.slice (some ⟨b, off, none⟩) dn dc) (by first | rfl | simp [Act.eval, Act.put, hne, hne']) (by first | rfl | simp [Act.eval, Act.put, hne, hne']) (hrun _) ?_)
          | fail)
        all_goals (go_wp2_with fail; go_meet; exact HH)
    case rest =>
      obtain ⟨Wc, hwc⟩ : ∃ W, W = wc := ⟨_, rfl⟩
      subst hwc
      obtain ⟨oc, gc⟩ := hcut.out
      have hsl : (stepB (sizeTo D.data mx) kn dz dz.length).length = mx := oc.len
      have HBy : Hid (Byt (stepB (sizeTo D.data mx) kn dz dz.length)) := byt_step (byt_size HG3.out.byt mx) HDB.out _ _
      have zX6 := Blk.row HX5.out (by decide) HO5.out gc
      have zt6 := Blk.row HT5.out (by decide) HO5.out gc
      have zr6 := Blk.row HR5.out (by decide) HO5.out gc
      have hk6 : KpT W5 Wc [86, 89] := KpT.row gc HO5.out (by decide)
      have g6 := inoG_data HG3.out (KpT.tr HK5.out hk6) oc HBy.out
      have hb6 : Below w.heap.size w Wc := HB5.out.grown gc HB5.out.size (fun m hm => HLO.out m hm)
      have hTTd : stepB (sizeTo D.data (max (kn + dz.length) D.data.length)) kn dz dz.length = stepB (sizeTo D.data mx) kn dz dz.length := by rw [HDL.out, HMX.out]
      rw [hTTd] at HTT
      obtain ⟨dd, hdd⟩ : ∃ l, stepB (sizeTo D.data mx) kn dz dz.length = l := ⟨_, rfl⟩
      rw [hdd] at HTT g6 hsl
      have hrd6 : InoRd Wc { D with data := dd } a4 b2 b3 := InoG.rds (B := 0) (T := Wc.heap.size) (c1 := c4) (c2 := d2) (c3 := d3) (by show InoG Wc 0 Wc.heap.size _ (.slice a4 dd.length c4) (.slice b2 D.ents.length d2) (.slice b3 D.attrs.length d3); rw [hsl]; exact g6)
      have hsx : InoSmall { D with data := dd } := ⟨by show dd.length ≤ _; rw [hsl]; omega, HSD.out.ents, HSD.out.attrs, HSD.out.entsz, HSD.out.attrsz⟩
      have hcI := setI a n cap nx rs { D with data := dd } a4 b2 b3 c4 d2 d3 Wc HLEN.out HNN.out HWD.out HWF.out HSM.out hsx (RdI.keep HRD.out hb6) hrd6
      dsimp only at hcI
      rw [hsl] at hcI
      obtain ⟨x0, x1, x2, x3, x4, x5⟩ := zX6.six
      have t0 := zt6.cell 0
      have t1 := zt6.cell 1
      simp at t0 t1
      have HZR5 : Hid _ := zr6
      have HB6 : Hid _ := hb6
      clear oc gc hk6 g6 hb6 hrd6 hsx zt6 zr6 zX6 hsl hdd hTTd c2 c3 HCAP
      go_wp2_with fail
      (with_reducible refine hcI.mono ?_)
      intro e w6 hp6
      obtain ⟨v6, rfl, ht6⟩ := hp6.tab
      rw [setD_eq, HDS.out] at ht6
      dsimp only at ht6
      rw [HTT.out] at ht6
      have ht6' := ht6
      obtain ⟨ra, rc, js, rfl, _, b6⟩ := ht6'
      obtain ⟨rn, hrn⟩ : ∃ rn, js.length = rn := ⟨_, rfl⟩
      rw [hrn] at ht6 ⊢
      have HFIN : Hid (EMeth w nx TT 0 (.returned (.tuple #[.agg #[.slice ra rn rc, .int .i64 nx], .nilIface])) ((w6.setCell ⟨w.heap.size + 1 + 1, 0, none⟩ (.slice ra rn rc)).setCell ⟨w.heap.size + 1 + 1, 1, none⟩ (.int .i64 nx))) := eMeth_yes ht6 HB6.out (by omega) HZR5.out
      have zr7 := Blk.keep HZR5.out b6
      have r0 := zr7.cell 0
      have r1 := zr7.cell 1
      have f0 := zr7.frozen 0
      have f1 := zr7.frozen 1
      simp at r0 r1
      have zf := blk2 zr7 (.slice ra rn rc) (.int .i64 nx)
      have dd0 := zf.cell 0
      have dd1 := zf.cell 1
      simp at dd0 dd1
      clear hcI hp6 ht6 zf zr7 b6 x0 x1 x2 x3 x4 x5 t0 t1 hrn
      go_wp2
      refine bodyPost_ret (v := .tuple #[.agg #[.slice ra rn rc, .int .i64 nx], .nilIface]) (by simp [results, Tryz.f180, go_sem, dd0, dd1]) rfl ?_
      exact HFIN.out
  · rw [if_pos hc0] at hCO
    subst hCO
    have hend : Hid (∀ W : World, Below W3.heap.size W3 W → EMeth w nx TT c (.returned (.tuple #[.agg #[.slice none 0 0, .int .i64 0], .iface 136 (.int .i64 c)])) ((W.setCell ⟨w.heap.size + 1 + 1, 0, none⟩ (.slice none 0 0)).setCell ⟨w.heap.size + 1 + 1, 1, none⟩ (.int .i64 0))) := fun W hW => eMeth_no hc0 (((HB3.out.trans (hW.mono HB3.out.size)).setCell (p := ⟨w.heap.size + 1 + 1, 0, none⟩) (by show _ ≤ w.heap.size + 1 + 1; omega) _).setCell (p := ⟨w.heap.size + 1 + 1, 1, none⟩) (by show _ ≤ w.heap.size + 1 + 1; omega) _)
    rw [errV_some hc0]
    have zf := blk2 HZR.out (.slice none 0 0) (.int .i64 0)
    have dd0 := zf.cell 0
    have dd1 := zf.cell 1
    simp at dd0 dd1
    clear hc0 zf x0 x1 x2 x3 x4 x5 fx
    go_wp2
    refine bodyPost_ret (v := .tuple #[.agg #[.slice none 0 0, .int .i64 0], .iface 136 (.int .i64 c)]) (by simp [results, Tryz.f180, go_sem, dd0, dd1]) rfl ?_
    exact hend.out W3 (Below.refl _ _)
end

section
open Go.RowKit
set_option maxRecDepth 100000 in
set_option maxHeartbeats 4000000 in
theorem wrap_WriteAt (a : Option Addr) (n cap : Nat) (nx : Int) (s : ByteArray) (k : Int) (da : Option Addr) (dn dc : Nat) (w : World) (N : Int) (D : List InoD) (C : Int)
    (hc : ∀ W : World, Below w.heap.size w W → Calls Tryz.prog 81 #[.agg #[.slice a n cap, .int .i64 nx], .int .i64 2, .agg #[.string s, .string ⟨#[]⟩, .int .i64 k, .slice da dn dc, .string ⟨#[]⟩, .string ⟨#[]⟩]] W fun e w' => TabC W N D C e w') :
    Calls Tryz.prog 50 #[.agg #[.slice a n cap, .int .i64 nx], .string s, .int .i64 k, .slice da dn dc] w fun e w' => TabC w N D C e w' := by
  have B0 : Below w.heap.size w ((w.alloc (.cells #[.slice a n cap, .int .i64 nx] 26)).alloc (.cells #[.slice none 0 0, .int .i64 0] 26)) := ((Below.refl _ w).alloc (Nat.le_refl _) _).alloc (by simp) _
  have zR := Blk.new (w.alloc (.cells #[.slice a n cap, .int .i64 nx] 26)) 26 #[.slice none 0 0, .int .i64 0]
  simp only [World.size_alloc] at zR
  go_enter Tryz.func50, Tryz.ntmps50
  go_wp2_with fail
  obtain ⟨W0, hW0⟩ : ∃ W, ((w.alloc (.cells #[.slice a n cap, .int .i64 nx] 26)).alloc (.cells #[.slice none 0 0, .int .i64 0] 26)) = W := ⟨_, rfl⟩
  rw [hW0] at B0 zR ⊢
  clear hW0
  (with_reducible refine (hc W0 B0).mono ?_)
  intro e w2 hp
  obtain ⟨ra, rn, rc, rfl, zz, hfin⟩ := tabC_box hp B0 (by omega) zR
  have HFIN : Hid (TabC w N D C (.returned (.tuple #[.agg #[.slice ra rn rc, .int .i64 N], .int .i64 C])) ((w2.setCell ⟨w.heap.size + 1, 0, none⟩ (.slice ra rn rc)).setCell ⟨w.heap.size + 1, 1, none⟩ (.int .i64 N))) := hfin
  have r0 := zz.cell 0
  have r1 := zz.cell 1
  have f0 := zz.frozen 0
  have f1 := zz.frozen 1
  simp at r0 r1
  have zf := blk2 zz (.slice ra rn rc) (.int .i64 N)
  have dd0 := zf.cell 0
  have dd1 := zf.cell 1
  simp at dd0 dd1
  clear hp hfin zf zz zR B0 hc
  go_wp2
  refine bodyPost_ret (v := .tuple #[.agg #[.slice ra rn rc, .int .i64 N], .int .i64 C]) (by simp [results, Tryz.f50, go_sem, dd0, dd1]) rfl ?_
  exact HFIN.out
end

section
open Go.RowKit
theorem stat_form {ds : List InoD} {s : ByteArray} (h : (splitOf s.data.toList).isSome = false) : (statD ds s).2 = 1 := by
  have h0 : splitOf s.data.toList = none := by simpa using h
  unfold statD walkP
  rw [h0]
  rfl
theorem file_form {ds : List InoD} {s : ByteArray} (h : (splitOf s.data.toList).isSome = false) : (fileD ds s).2 = 1 := by
  have h1 := stat_form (ds := ds) h
  unfold fileD
  rw [h1, if_neg (by simp)]
  exact h1
theorem stat_in {ds : List InoD} {s : ByteArray} (h : (statD ds s).2 = 0) : (statD ds s).1 ∈ ds := by
  revert h
  unfold statD
  split
  · split
    · intro h; simp at h
    · rename_i D hD
      intro _
      exact (look_mem hD).1
  · rename_i hc
    intro h
    exact absurd h hc
theorem file_in {ds : List InoD} {s : ByteArray} (h : (fileD ds s).2 = 0) : (fileD ds s).1 ∈ ds := by
  unfold fileD at h ⊢
  split at h
  · simp at h
  · rename_i hc
    rw [if_neg hc]
    exact stat_in h
end

section
open Go.RowKit
theorem idx_writeAt (w : World) : (Instr.index 149 (.agg #[.func (.func 178) #[] #[], .func (.func 179) #[] #[], .func (.func 180) #[] #[], .func (.func 181) #[] #[], .func (.func 182) #[] #[], .func (.func 183) #[] #[], .func (.func 184) #[] #[], .func (.func 185) #[] #[], .func (.func 186) #[] #[]]) (.int .i64 2)).run Tryz.prog w = .ok (.func (.func 180) #[] #[]) w := by kernel_rfl
set_option maxRecDepth 100000 in
set_option maxHeartbeats 4000000 in
theorem changed_writeAt (a : Option Addr) (n cap : Nat) (nx : Int) (rs : List InoR) (p q : ByteArray) (k : Int) (da : Option Addr) (dn dc : Nat) (an av : ByteArray) (w : World) (ht : TR w a n rs) (hwf : ∀ r ∈ rs, (Lit.int .i64 r.D.ino).wf = true) (het : EtCell w) (nx' : Int) (ds' : List InoD) (c : Int) (N : Int) (D : List InoD) (C : Int)
    (h1 : treeD nx (rs.map InoR.D) = false → N = nx ∧ D = rs.map InoR.D ∧ C = 1) (h2 : treeD nx (rs.map InoR.D) = true → c ≠ 0 → N = nx ∧ D = rs.map InoR.D ∧ C = c) (h3 : treeD nx (rs.map InoR.D) = true → c = 0 → N = nx' ∧ D = ds' ∧ C = 0)
    (hm : treeD nx (rs.map InoR.D) = true → ∀ W : World, Below w.heap.size w W → Calls Tryz.prog 180 #[.agg #[.slice a n cap, .int .i64 nx], .agg #[.string p, .string q, .int .i64 k, .slice da dn dc, .string an, .string av]] W fun e w' => EMeth W nx' ds' c e w') :
    Calls Tryz.prog 81 #[.agg #[.slice a n cap, .int .i64 nx], .int .i64 2, .agg #[.string p, .string q, .int .i64 k, .slice da dn dc, .string an, .string av]] w fun e w' => TabC w N D C e w' := by
  have B0 : Below w.heap.size w (((w.alloc (.cells #[.slice a n cap, .int .i64 nx] 26)).alloc (.cells #[.string p, .string q, .int .i64 k, .slice da dn dc, .string an, .string av] 96)).alloc (.cells #[.slice none 0 0, .int .i64 0] 26)) := (((Below.refl _ w).alloc (Nat.le_refl _) _).alloc (by simp) _).alloc (by simp; omega) _
  have zT := ((Blk.new w 26 #[.slice a n cap, .int .i64 nx]).alloc (.cells #[.string p, .string q, .int .i64 k, .slice da dn dc, .string an, .string av] 96)).alloc (.cells #[.slice none 0 0, .int .i64 0] 26)
  have zC := (Blk.new (w.alloc (.cells #[.slice a n cap, .int .i64 nx] 26)) 96 #[.string p, .string q, .int .i64 k, .slice da dn dc, .string an, .string av]).alloc (.cells #[.slice none 0 0, .int .i64 0] 26)
  have zR := Blk.new ((w.alloc (.cells #[.slice a n cap, .int .i64 nx] 26)).alloc (.cells #[.string p, .string q, .int .i64 k, .slice da dn dc, .string an, .string av] 96)) 26 #[.slice none 0 0, .int .i64 0]
  simp only [World.size_alloc] at zC zR
  have hcT := treeI a n cap nx rs _ (ht.keep B0) hwf
  go_enter Tryz.func81, Tryz.ntmps81
  go_wp2_with fail
  obtain ⟨W0, hW0⟩ : ∃ W, (((w.alloc (.cells #[.slice a n cap, .int .i64 nx] 26)).alloc (.cells #[.string p, .string q, .int .i64 k, .slice da dn dc, .string an, .string av] 96)).alloc (.cells #[.slice none 0 0, .int .i64 0] 26)) = W := ⟨_, rfl⟩
  rw [hW0] at B0 zT zC zR hcT ⊢
  clear hW0
  (with_reducible refine hcT.mono ?_)
  rintro e w1 ⟨rfl, b1⟩
  clear hcT
  have hb1 := B0.trans (b1.mono B0.size)
  have zt := zT.keep b1
  have zc := zC.keep b1
  have zr := zR.keep b1
  have HT1 : Hid _ := ht.keep hb1
  have HE1 : Hid _ := het.keep hb1
  clear zT zC zR b1 ht het B0
  have t0 := zt.cell 0
  have t1 := zt.cell 1
  simp at t0 t1
  cases htr : treeD nx (rs.map InoR.D) with
  | false =>
    obtain ⟨rfl, rfl, rfl⟩ := h1 htr
    have hcC := copyTab_any a n cap N rs w1 HT1.out.len HT1.out.n HT1.out.small HT1.out.rd
    have HB1 : Hid _ := hb1
    have HZR : Hid _ := zr
    clear h1 h2 h3 hm htr hb1
    go_wp2_with fail
    (with_reducible refine hcC.mono ?_)
    intro e w2 hp2
    obtain ⟨g, rfl, b2, hfin⟩ := copyT hp2 HB1.out (by omega) HZR.out
    have zr2 := Blk.keep HZR.out b2
    have r0 := zr2.cell 0
    have r1 := zr2.cell 1
    have f0 := zr2.frozen 0
    have f1 := zr2.frozen 1
    simp at r0 r1
    have HFIN : Hid _ := hfin w2 (Below.refl _ _) 1
    have zf := blk2 zr2 (.slice (some ⟨g, 0, none⟩) n n) (.int .i64 N)
    have dd0 := zf.cell 0
    have dd1 := zf.cell 1
    simp at dd0 dd1
    clear hcC hp2 hfin zr2 zt zc zr t0 t1 zf
    go_wp2
    refine bodyPost_ret (v := .tuple #[.agg #[.slice (some ⟨g, 0, none⟩) n n, .int .i64 N], .int .i64 1]) (by simp [results, Tryz.f81, go_sem, dd0, dd1]) rfl ?_
    exact HFIN.out
  | true =>
    have hmm := hm htr
    have c0 := zc.cell 0
    have c1 := zc.cell 1
    have c2 := zc.cell 2
    have c3 := zc.cell 3
    have c4 := zc.cell 4
    have c5 := zc.cell 5
    simp at c0 c1 c2 c3 c4 c5
    have HB1 : Hid _ := hb1
    have HZR : Hid _ := zr
    have HZT : Hid _ := zt
    have HZC : Hid _ := zc
    have HMM : Hid _ := hmm
    have HH2 : Hid _ := h2 htr
    have HH3 : Hid _ := h3 htr
    have cC := changesI w1.drew
    have hsz : w.heap.size + 1 + 1 < w1.heap.size := zr.lt
    have hK : Hid (∀ W : World, Below w1.heap.size w1 W → W.cell? ⟨w.heap.size, 0, none⟩ = some (.slice a n cap) ∧ W.cell? ⟨w.heap.size, 1, none⟩ = some (.int .i64 nx) ∧ W.cell? ⟨w.heap.size + 1, 0, none⟩ = some (.string p) ∧ W.cell? ⟨w.heap.size + 1, 1, none⟩ = some (.string q) ∧ W.cell? ⟨w.heap.size + 1, 2, none⟩ = some (.int .i64 k) ∧ W.cell? ⟨w.heap.size + 1, 3, none⟩ = some (.slice da dn dc) ∧ W.cell? ⟨w.heap.size + 1, 4, none⟩ = some (.string an) ∧ W.cell? ⟨w.heap.size + 1, 5, none⟩ = some (.string av)) := fun W hW => by
      have z1 := Blk.keep HZT.out hW
      have z2 := Blk.keep HZC.out hW
      exact ⟨z1.cell 0, z1.cell 1, z2.cell 0, z2.cell 1, z2.cell 2, z2.cell 3, z2.cell 4, z2.cell 5⟩
    clear h1 h2 h3 hm htr hmm zt zc zr hb1
    go_upto_region 3 with fail
    have n0 : w1.heap.size ≠ w.heap.size := by omega
    have n1 : w1.heap.size ≠ w.heap.size + 1 := by omega
    have cC2 := changesI (w1.alloc (.cells #[.slice none 0 0, .int .i64 0] 26)).drew
    have zW1 := Blk.new w1 26 #[.slice none 0 0, .int .i64 0]
    have hix := idx_writeAt
    go_cut [8, 9] from 8 to 31 (fun bx er wx => ∃ (A : Nat) (ra : Option Addr) (rn rc : Nat) (rx : Int), bx = .pointer (some ⟨A, 0, none⟩) ∧ er = errV c ∧ Hid (CHR w1 nx' ds' c A (.slice ra rn rc) (.int .i64 rx) wx))
    case first =>
      go_region_held3 (fun W : World => W.cell? ⟨w.heap.size, 0, none⟩ = some (.slice a n cap) ∧ W.cell? ⟨w.heap.size, 1, none⟩ = some (.int .i64 nx) ∧ W.cell? ⟨w.heap.size + 1, 0, none⟩ = some (.string p) ∧ W.cell? ⟨w.heap.size + 1, 1, none⟩ = some (.string q) ∧ W.cell? ⟨w.heap.size + 1, 2, none⟩ = some (.int .i64 k) ∧ W.cell? ⟨w.heap.size + 1, 3, none⟩ = some (.slice da dn dc) ∧ W.cell? ⟨w.heap.size + 1, 4, none⟩ = some (.string an) ∧ W.cell? ⟨w.heap.size + 1, 5, none⟩ = some (.string av)) (go_keep) (first
        | (go_at_call 132; (with_reducible refine cC.mono ?_); rintro e w10 ⟨rfl, b10⟩; have B10 : Below w1.heap.size w1 w10 := (Below.refl _ w1).drew.trans b10; have K10 := hK.out w10 B10; obtain ⟨p0, p1, p2, p3, p4, p5, p6, p7⟩ := K10; have n2 : w10.heap.size ≠ w.heap.size := (by have := B10.size; omega); have n3 : w10.heap.size ≠ w.heap.size + 1 := (by have := B10.size; omega); have hm10 := HMM.out w10 (HB1.out.trans (B10.mono HB1.out.size)); have hm10a := HMM.out (w10.alloc (.cells #[.slice none 0 0, .int .i64 0] 26)) ((HB1.out.trans (B10.mono HB1.out.size)).alloc (by have := HB1.out.size; have := B10.size; omega) _))
        | (go_at_call 132; (with_reducible refine cC2.mono ?_); rintro e w11 ⟨rfl, b11⟩; have B11 : Below w1.heap.size w1 w11 := ((Below.refl _ w1).alloc (Nat.le_refl _) _).drew.trans (b11.mono (by show _ ≤ (w1.alloc _).heap.size; simp)); have K11 := hK.out w11 B11; obtain ⟨p0, p1, p2, p3, p4, p5, p6, p7⟩ := K11; have z11 : Blk w11 w1.heap.size 26 #[.slice none 0 0, .int .i64 0] := Blk.keep (Blk.drew zW1) b11; have hm11 := HMM.out w11 (HB1.out.trans (B11.mono HB1.out.size)))
        | (go_at_call 180; (with_reducible refine hm10.mono ?_); rintro e w12 ⟨ra, rn, rc, rx, rfl, b12, t12⟩; have B12 : Below w1.heap.size w1 w12 := B10.trans (b12.mono B10.size); have K12 := hK.out w12 B12; obtain ⟨q0, q1, q2, q3, q4, q5, q6, q7⟩ := K12)
        | (go_at_call 180; (with_reducible refine hm10a.mono ?_); rintro e w13 ⟨ra, rn, rc, rx, rfl, b13, t13⟩; have B13 : Below w1.heap.size w1 w13 := (B10.alloc B10.size _).trans (b13.mono (by have := B10.size; simp; omega)); have z13 := (Blk.new w10 26 #[.slice none 0 0, .int .i64 0]).keep b13; have u0 := z13.cell 0; have u1 := z13.cell 1; have x0 := z13.frozen 0; have x1 := z13.frozen 1; simp at u0 u1; have K13 := hK.out w13 B13; obtain ⟨q0, q1, q2, q3, q4, q5, q6, q7⟩ := K13)
        | (go_at_call 180; (with_reducible refine hm11.mono ?_); rintro e w14 ⟨ra, rn, rc, rx, rfl, b14, t14⟩; have B14 : Below w1.heap.size w1 w14 := B11.trans (b14.mono B11.size); have z14 := z11.keep b14; have u0 := z14.cell 0; have u1 := z14.cell 1; have x0 := z14.frozen 0; have x1 := z14.frozen 1; simp at u0 u1; have K14 := hK.out w14 B14; obtain ⟨q0, q1, q2, q3, q4, q5, q6, q7⟩ := K14))
      all_goals (go_wp2_with fail; go_meet)
      all_goals first
        | (have h := chr_new B12 b12 B10.size t12; exact ⟨_, _, _, _, _, rfl, rfl, h⟩)
        | (have h := chr_old B13 B10.size z13 (by simp) t13; exact ⟨_, _, _, _, _, rfl, rfl, h⟩)
        | (have h := chr_old B14 (Nat.le_refl _) z14 (Blk.lt z11) t14; exact ⟨_, _, _, _, _, rfl, rfl, h⟩)
        | fail
    case rest =>
      obtain ⟨A, ra, rn, rc, rx, rfl, rfl, hR⟩ := hcut
      obtain ⟨Wc, hwc⟩ : ∃ W, W = wc := ⟨_, rfl⟩
      subst hwc
      clear t0 t1 c0 c1 c2 c3 c4 c5 cC cC2 zW1 hK HMM n0 n1
      have zt := Blk.keep HZT.out hR.out.b
      have zr := Blk.keep HZR.out hR.out.b
      have hbc := HB1.out.trans (hR.out.b.mono HB1.out.size)
      have t0 := zt.cell 0
      have t1 := zt.cell 1
      simp at t0 t1
      by_cases hc0 : c = 0
      · obtain ⟨rfl, rfl, rfl⟩ := HH3.out hc0
        subst hc0
        rw [errV_zero]
        have HFIN : Hid _ := methT (hR.out.tab rfl) HB1.out (by omega) HZR.out Wc (Below.refl _ _)
        have a0 := hR.out.z.cell 0
        have a1 := hR.out.z.cell 1
        have r0 := zr.cell 0
        have r1 := zr.cell 1
        have f0 := zr.frozen 0
        have f1 := zr.frozen 1
        simp at a0 a1 r0 r1
        have zf := blk2 zr (.slice ra rn rc) (.int .i64 rx)
        have dd0 := zf.cell 0
        have dd1 := zf.cell 1
        simp at dd0 dd1
        clear zt zr zf hbc HH2 HH3 HT1 HE1 t0 t1
        go_wp2
        refine bodyPost_ret (v := .tuple #[.agg #[.slice ra rn rc, .int .i64 rx], .int .i64 0]) (by simp [results, Tryz.f81, go_sem, dd0, dd1]) rfl ?_
        exact HFIN.out
      · obtain ⟨rfl, rfl, rfl⟩ := HH2.out hc0
        rw [errV_some hc0]
        have hTc := HT1.out.keep hR.out.b
        have hEc := EtCell.keep HE1.out hR.out.b
        have hcC := copyTab_any a n cap N rs Wc hTc.len hTc.n hTc.small hTc.rd
        have HZ : Hid _ := zr
        have HBC : Hid _ := hbc
        have HEC : Hid _ := hEc
        have HC0 : Hid _ := hc0
        clear zt zr hbc HH2 HH3 HT1 HE1 hTc hEc hc0
        go_wp2_with fail
        (with_reducible refine hcC.mono ?_)
        intro e w2 hp2
        obtain ⟨g, rfl, b2, hfin⟩ := copyT hp2 HBC.out (by omega) HZ.out
        have hcO := codeOfI C w2 (EtCell.keep HEC.out b2)
        rw [errV_some HC0.out] at hcO
        clear hcC hp2 t0 t1
        go_wp2_with fail
        (with_reducible refine hcO.mono ?_)
        rintro e w3 ⟨rfl, b3⟩
        have zr3 := (Blk.keep HZ.out b2).keep b3
        have r0 := zr3.cell 0
        have r1 := zr3.cell 1
        have f0 := zr3.frozen 0
        have f1 := zr3.frozen 1
        simp at r0 r1
        have HFIN : Hid _ := hfin w3 b3 C
        have zf := blk2 zr3 (.slice (some ⟨g, 0, none⟩) n n) (.int .i64 N)
        have dd0 := zf.cell 0
        have dd1 := zf.cell 1
        simp at dd0 dd1
        clear hcO hfin zr3 zf
        go_wp2
        refine bodyPost_ret (v := .tuple #[.agg #[.slice (some ⟨g, 0, none⟩) n n, .int .i64 N], .int .i64 C]) (by simp [results, Tryz.f81, go_sem, dd0, dd1]) rfl ?_
        exact HFIN.out
end

section
open Go.RowKit
theorem size_grow (d : List Int) (m : Nat) : sizeTo d (max m d.length) = growB d m := by
  rw [sizeTo_gt (Nat.le_max_right _ _)]
  unfold growB
  have : max m d.length - d.length = m - d.length := by omega
  rw [this]
theorem write_data (d : List Int) (o : Nat) (dz : List Int) : stepB (sizeTo d (max (o + dz.length) d.length)) o dz dz.length = writeB d o dz := by
  rw [size_grow, stepB_end]
theorem write_len (d : List Int) (o : Nat) (dz : List Int) : (writeB d o dz).length = max (o + dz.length) d.length := by
  unfold writeB growB
  simp
  omega
theorem writeAtI (a : Option Addr) (n cap : Nat) (nx : Int) (rs : List InoR) (s : ByteArray) (k : Int) (da : Option Addr) (dn dc : Nat) (dz : List Int) (w : World) (ht : TR w a n rs) (hwf : ∀ r ∈ rs, (Lit.int .i64 r.D.ino).wf = true) (het : EtCell w) (hs : s.size ≤ 4000000) (hdl : dz.length = dn) (hdn : dn ≤ 1048576) (hdr : Rd w da dz) (hdb : Byt dz) :
    Calls Tryz.prog 50 #[.agg #[.slice a n cap, .int .i64 nx], .string s, .int .i64 k, .slice da dn dc] w fun e w' => TabC w nx (writeD nx (rs.map InoR.D) s k dz).1 (writeD nx (rs.map InoR.D) s k dz).2 e w' := by
  refine wrap_WriteAt a n cap nx s k da dn dc w nx _ _ (fun W hW => ?_)
  refine changed_writeAt a n cap nx rs s ⟨#[]⟩ k da dn dc ⟨#[]⟩ ⟨#[]⟩ W (ht.keep hW) hwf (het.keep hW) nx (writeT (rs.map InoR.D) s k dz) (writeC (rs.map InoR.D) s k dz) nx _ _ ?_ ?_ ?_ ?_
  · intro h
    unfold writeD
    rw [h, if_pos (.inl rfl)]
    exact ⟨rfl, rfl, rfl⟩
  · intro h hc
    have hk := (tree_facts h).1
    have hb := badK_file (ds := rs.map InoR.D) (fun D hD => by obtain ⟨r, hr, rfl⟩ := List.mem_map.1 hD; exact hk r hr) s
    unfold writeC at hc
    unfold writeD writeC
    rw [hb] at hc ⊢
    by_cases hr : ¬ (0 ≤ k ∧ k ≤ 100)
    · rw [if_pos hr, if_pos (.inr (.inr hr))]
      exact ⟨rfl, rfl, rfl⟩
    · rw [if_neg hr] at hc ⊢
      cases hsp : (splitOf s.data.toList).isSome with
      | false =>
        rw [if_pos (.inr (.inl rfl)), file_form hsp]
        exact ⟨rfl, rfl, rfl⟩
      | true =>
        rw [if_neg (by simp [h]; omega)]
        by_cases h0 : (fileD (rs.map InoR.D) s).2 = 0
        · by_cases hf : k + (dz.length : Int) > 100
          · have hf' : 100 - k < (dz.length : Int) := by omega
            refine ⟨rfl, ?_, ?_⟩ <;> simp [h0, hf, hf']
          · rw [if_neg (by simp [h0]), if_neg hf] at hc
            exact absurd rfl hc
        · refine ⟨rfl, ?_, ?_⟩ <;> simp [h0]
  · intro h hc
    have hk := (tree_facts h).1
    have hb := badK_file (ds := rs.map InoR.D) (fun D hD => by obtain ⟨r, hr, rfl⟩ := List.mem_map.1 hD; exact hk r hr) s
    unfold writeC at hc
    unfold writeD writeT
    rw [hb] at hc ⊢
    by_cases hr : ¬ (0 ≤ k ∧ k ≤ 100)
    · rw [if_pos hr] at hc
      exact absurd hc (by decide)
    · rw [if_neg hr] at hc
      by_cases h0 : (fileD (rs.map InoR.D) s).2 = 0
      · rw [if_neg (by simp [h0])] at hc
        cases hsp : (splitOf s.data.toList).isSome with
        | false => rw [file_form hsp] at h0; exact absurd h0 (by decide)
        | true =>
          by_cases hf : k + (dz.length : Int) > 100
          · rw [if_pos hf] at hc
            exact absurd hc (by decide)
          · rw [if_neg (by simp [h]; omega), if_neg (by omega), if_neg (by simp [h0]), write_data]
            exact ⟨rfl, rfl, rfl⟩
      · rw [if_pos h0] at hc
        exact absurd hc h0
  · intro h W' hW'
    obtain ⟨f1, f2, f3⟩ := tree_facts h
    have hd := tree_data h
    exact writeM a n cap nx rs s ⟨#[]⟩ k da dn dc ⟨#[]⟩ ⟨#[]⟩ W' ((ht.keep hW).keep hW') f1 f2 f3 hs (fun r hr => hd r.D (List.mem_map_of_mem hr)) dz hdl hdn ((hdr.keep hW).keep hW') hdb
theorem out_write (s : ByteArray) (k : Int) (dz : List Int) (nx : Int) (rs : List InoR) (h : ∀ r ∈ rs, InoSmall r.D) (hc : rs.length + cntI rs ≤ 1048576) (_ : s.size ≤ 4000000) : Fit (writeD nx (rs.map InoR.D) s k dz).1 := by
  have hf := fit_same h hc
  unfold writeD
  split
  · exact hf
  · rename_i hn
    have htr : treeD nx (rs.map InoR.D) = true := by
      cases ht : treeD nx (rs.map InoR.D) with
      | true => rfl
      | false => exact absurd (.inl ht) hn
    have hk : 0 ≤ k ∧ k ≤ 100 := Classical.byContradiction fun c => hn (.inr (.inr c))
    split
    · exact hf
    · rename_i hfu
      split
      · exact hf
      · rename_i hc0
        have h0 : (fileD (rs.map InoR.D) s).2 = 0 := Classical.byContradiction fun c => hc0 c
        have hl : k + (dz.length : Int) ≤ 100 := Classical.byContradiction fun c => hfu ⟨h0, by omega⟩
        have ht := tree_tiny htr hf.small
        have hm := ht _ (file_in h0)
        have hdl := hm.data
        refine fit_tiny (fun D hD => ?_) ?_
        · rcases setD_memC hD with rfl | hD
          · exact ⟨⟨by show (writeB _ _ _).length ≤ _; rw [write_len]; omega, hm.small.ents, hm.small.attrs, hm.small.entsz, hm.small.attrsz⟩, by show (writeB _ _ _).length ≤ _; rw [write_len]; omega, hm.ents, hm.attrs⟩
          · exact ht D hD
        · have h2 := (tabD_ok (treeD_parts htr).1).2.1
          exact Nat.le_trans (setD_lenC _ _) (by omega)
end

section
open Go.RowKit
/-- What the frame tells of a slice of bytes that came in. -/
def ByteRow (w : World) (a : Option Addr) (len cap : Nat) (zs : List Int) : Prop :=
  (a = none ∧ len = 0 ∧ cap = 0 ∧ zs = []) ∨ ∃ x, a = some x ∧ len ≤ cap ∧ cap ≤ maxLen ∧ zs.length = cap ∧ (∀ i, i < zs.length → w.cell? (x.add i) = some (.int .u8 (zs.getD i 0))) ∧ ∀ n ∈ zs, (Lit.int .u8 n).wf = true
theorem own_outs {W W' : World} {g n c Lo Hi : Nat} {zs : List Int} (h : Own W g n c zs) (k : Out Lo Hi W W') (hg : g < Lo ∨ Hi ≤ g) : Own W' g n c zs := by
  have hlt := h.lt
  refine ⟨h.1, ?_⟩
  rcases h.2 with ⟨h', _⟩ | ⟨g', cap', cur, h', hb', hgg, rest⟩
  · simp at h'
  · refine .inr ⟨g', cap', cur, h', hb', ?_, rest⟩
    simp only [Value.slice.injEq, Option.some.injEq, Addr.mk.injEq, and_true, true_and] at h'
    obtain ⟨rfl, rfl⟩ := h'
    rw [k.block g hlt hg]; exact hgg
theorem qAt_one (js : List InoJ) (n : Nat) : 1 ≤ qAt 1 js n := by unfold qAt; omega
set_option maxRecDepth 100000 in
set_option maxHeartbeats 16000000 in
theorem walkFnExactWriteAt (a : Option Addr) (cap : Nat) (nx : Int) (rs : List InoR) (s : ByteArray) (k : Int) (da : Option Addr) (dn dc : Nat) (dz0 : List Int) (w : World) (hm : rs.length ≤ maxLen) (hi : ∀ r ∈ rs, InoIn r.D) (hr : RdI w a rs) (_hz0 : s.size ≤ maxLen) (_hz1 : (Lit.int .i64 k).wf = true) (hz2 : ByteRow w da dn dc dz0) (het : EtCell w) :
    Calls Tryz.prog 8 #[.agg #[.slice a rs.length cap, .int .i64 nx], .string s, .int .i64 k, .slice da dn dc] w fun e w' => e = .returned (.bool true) ∧ Below w.heap.size w w' := by
  obtain ⟨n, hn⟩ : ∃ n, rs.length = n := ⟨_, rfl⟩
  rw [hn] at hm ⊢
  obtain ⟨dz, hdl, hdr, hdb⟩ := rd_of_row hz2
  clear hz2
  have zb0 : ZT w (w.alloc (.cells #[.slice a n cap, .int .i64 nx] 49)) #[.slice a n cap, .int .i64 nx] := ⟨(Below.refl _ w).alloc (Nat.le_refl _) _, Blk.new w _ _⟩
  by_cases hl0 : 1048576 < s.size
  · have hli : (s.size : Int) > 1048576 := by omega
    have HB : Hid _ := zb0.below
    clear zb0
    go_enter Tryz.func8, Tryz.ntmps8
    go_wp2
    go_ret
    exact ⟨rfl, HB.out⟩
  have hli0 : ¬ (s.size : Int) > 1048576 := by omega
  by_cases hl1 : 1048576 < dn
  · have hlj : (dn : Int) > 1048576 := by omega
    have HB : Hid _ := zb0.below
    clear zb0
    go_enter Tryz.func8, Tryz.ntmps8
    go_wp2
    go_ret
    exact ⟨rfl, HB.out⟩
  have hli1 : ¬ (dn : Int) > 1048576 := by omega
  have hdn : dn ≤ 1048576 := by omega
  go_enter Tryz.func8, Tryz.ntmps8
  go_wp2_with fail
  obtain ⟨W0, hW0⟩ : ∃ W, w.alloc (.cells #[.slice a n cap, .int .i64 nx] 49) = W := ⟨_, rfl⟩
  rw [hW0] at zb0 ⊢
  clear hW0
  refine (szTab_w a n cap 1048576 nx rs W0 hn hm (by omega) hi (hr.keep zb0.below)).mono ?_
  rintro e w1 ⟨hsz, b1⟩
  have zb1 := zb0.keep b1
  clear zb0 b1
  rcases hsz with rfl | ⟨v, hv, rfl, hn1, hsm⟩
  · go_wp2
    go_ret
    exact ⟨rfl, zb1.below⟩
  have hx0 : ¬ (v : Int) < 0 := by omega
  have hwf : ∀ r ∈ rs, (Lit.int .i64 r.D.ino).wf = true := fun r h => (hi r h).ino
  have HS : Hid _ := hsm
  have hcn : n + cntI rs ≤ 1048576 := by omega
  have CA : Hid (∀ W : World, Below w.heap.size w W → _) := fun (W : World) (h : Below w.heap.size w W) => toTab_j a n cap nx rs W hn hn1 HS.out (hr.keep h)
  have CT : Hid (∀ W : World, Below w.heap.size w W → Calls Tryz.prog 49 #[.slice da dn dc] W fun e w' => e = .returned (.slice (some ⟨W.heap.size, 0, none⟩) dn dn) ∧ Own w' W.heap.size dn dn dz ∧ Below W.heap.size W w') := fun W hW => toByteS_any da dn dc dz W hdl hdn (hdr.keep hW)
  have HDL : Hid _ := hdl
  have HDB : Hid _ := hdb
  have hfit : Fit (writeD nx (rs.map InoR.D) s k dz).1 := out_write s k dz nx rs HS.out (by rw [hn]; exact hcn) (by omega)
  have HET : Hid _ := het
  have cS := fun (W : World) (B g : Nat) (ts : List InoR) (gd : Nat) (h : TabQ W B g n rs ts) (hd : Own W gd dn dn dz) => writeS (some ⟨g, 0, none⟩) n n nx ts s k (some ⟨gd, 0, none⟩) dn dn dz W ⟨h.tlen, hn1, h.cpd.small HS.out, h.rd⟩ (by omega) HDL.out hdn hd.rd HDB.out
  have cI := fun (W : World) (B g : Nat) (ts : List InoR) (gd : Nat) (h : TabQ W B g n rs ts) (hd : Own W gd dn dn dz) (hb : Below w.heap.size w W) => writeAtI (some ⟨g, 0, none⟩) n n nx ts s k (some ⟨gd, 0, none⟩) dn dn dz W ⟨h.tlen, hn1, h.cpd.small HS.out, h.rd⟩ (fun r hr => by
    have h1 : r.D ∈ ts.map InoR.D := List.mem_map_of_mem hr
    rw [h.cpd.1] at h1
    obtain ⟨q, hq, hqr⟩ := List.mem_map.1 h1
    rw [← hqr]
    exact hwf q hq) (EtCell.keep HET.out hb) (by omega) HDL.out hdn hd.rd HDB.out
  have cS' : ∀ (W : World) (B g : Nat) (ts : List InoR) (gd : Nat), TabQ W B g n rs ts → Own W gd dn dn dz → Calls Tryz.prog 48 #[.agg #[.slice (some ⟨g, 0, none⟩) n n, .int .i64 nx], .string s, .int .i64 k, .slice (some ⟨gd, 0, none⟩) dn dn] W fun e w' => TabC W nx (writeD nx (rs.map InoR.D) s k dz).1 (writeD nx (rs.map InoR.D) s k dz).2 e w' := fun W B g ts gd h hd => by
    have := cS W B g ts gd h hd
    rw [h.cpd.1] at this
    exact this
  have cI' : ∀ (W : World) (B g : Nat) (ts : List InoR) (gd : Nat), TabQ W B g n rs ts → Own W gd dn dn dz → Below w.heap.size w W → Calls Tryz.prog 50 #[.agg #[.slice (some ⟨g, 0, none⟩) n n, .int .i64 nx], .string s, .int .i64 k, .slice (some ⟨gd, 0, none⟩) dn dn] W fun e w' => TabC W nx (writeD nx (rs.map InoR.D) s k dz).1 (writeD nx (rs.map InoR.D) s k dz).2 e w' := fun W B g ts gd h hd hb => by
    have := cI W B g ts gd h hd hb
    rw [h.cpd.1] at this
    exact this
  clear cS cI
  obtain ⟨CO, hCO⟩ : ∃ x, (writeD nx (rs.map InoR.D) s k dz).2 = x := ⟨_, rfl⟩
  rw [hCO] at cS' cI'
  obtain ⟨ds, hds⟩ : ∃ x, (writeD nx (rs.map InoR.D) s k dz).1 = x := ⟨_, rfl⟩
  rw [hds] at cS' cI' hfit
  obtain ⟨m, hml⟩ : ∃ m, ds.length = m := ⟨_, rfl⟩
  have hfc := hfit.cnt
  rw [hml] at hfc
  have hmb : m ≤ 2000000 := by omega
  have hdsm : ∀ r ∈ ds.map lift, InoSmall r.D := fun r hr => by
    obtain ⟨D, hD, rfl⟩ := List.mem_map.1 hr
    exact hfit.small D hD
  have hjl : ∀ (B : Nat) (W : World) (v : Value) (js : List InoJ), DQA B W v (ds.map lift) js → js.length = m := fun B W v js h => by have := h.len; rw [List.length_map] at this; omega
  have cK := fun (W : World) (g Lo Hi : Nat) (js : List InoJ) (h1 : (js.map InoJ.r).map InoR.D = rs.map InoR.D) (hap : ApJ g Lo Hi js) (hH : Hi ≤ W.heap.size) (hown : OwnI W g n n (js.map InoJ.r)) (hG : ∀ (i : Nat) (j : InoJ), js[i]? = some j → j.G W) => markTab_any nx g n n Lo Hi 1 js W (by have := congrArg List.length h1; simp at this; omega) (Nat.le_refl _) (by omega) (by have := q_bound4 h1 hn (by omega); omega) hap hH hown hG
  have cE : ∀ (W : World) (B B' : Nat) (a a' : Option Addr) (c c' : Nat) (js js' : List InoJ), DQA B W (.slice a m c) (ds.map lift) js → DQA B' W (.slice a' m c') (ds.map lift) js' → js.length = m → js'.length = m → Calls Tryz.prog 44 #[.agg #[.slice a m c, .int .i64 nx], .agg #[.slice a' m c', .int .i64 nx]] W fun e w' => e = .returned (.bool true) ∧ Below W.heap.size W w' := fun W B B' a a' c c' js js' h h' h1 h2 => eqVA nx (by omega) hdsm h h' h1 h2
  have cQ : ∀ (js : List InoJ) (W : World) (B : Nat) (v : Value), DQA B W v (ds.map lift) js → qAt 1 js m ≤ 9999990 := fun js W B v h => by have := q_bound4 (n := m) h.ds (by rw [List.length_map]; exact hml) (by omega); omega
  have CS : Hid _ := cS'
  have CI : Hid _ := cI'
  have CE : Hid _ := cE
  have CQ : Hid _ := cQ
  have CK : Hid _ := cK
  have CQ4 : Hid (∀ js : List InoJ, (js.map InoJ.r).map InoR.D = rs.map InoR.D → qAt 1 js n ≤ 4000000) := fun js h1 => q_bound4 h1 hn (by omega)
  have CJ : Hid _ := hjl
  have hcoe : (CO != CO) = false := by simp
  have hcof : (CO == CO) = true := by simp
  clear cS' cI' cE cQ cK hr hn hsm hwf hi hm hv hcn hdsm hml hfit hfc hCO hds hjl het hdl hdr hdb
  have t0 := zb1.t.cell 0
  have t1 := zb1.t.cell 1
  simp at t0 t1
  go_wp2_with fail
  (with_reducible refine (CA.out w1 zb1.below).mono ?_)
  rintro e w2a ⟨gA, jA, rfl, qA0, _, b2⟩
  have zb2a := zb1.keep b2
  clear zb1 b2 t0 t1
  go_wp2_with fail
  (with_reducible refine (CT.out w2a zb2a.below).mono ?_)
  rintro e w2 ⟨rfl, oA, b2⟩
  have zb2 := zb2a.keep b2
  have qA := qA0.keep b2
  clear zb2a b2 qA0
  go_wp2_with fail
  (with_reducible refine (CS.out w2 _ gA _ _ qA oA).mono ?_)
  rintro e w3 ⟨aS, eS, jS, rfl, gS, b3⟩
  have hjS := CJ.out _ _ _ _ gS
  rw [hjS] at gS ⊢
  have b3' : Below w3.heap.size w3 (w3.alloc (.cells #[.slice aS m eS, .int .i64 nx] 26)) := (Below.refl _ w3).alloc (Nat.le_refl _) _
  have qs3 : QS (w3.alloc (.cells #[.slice aS m eS, .int .i64 nx] 26)) w3.heap.size w2.heap.size w3.heap.size (w3.heap.size + 1) aS m eS nx (ds.map lift) jS := ⟨Blk.new w3 _ _, gS.keep b3', hjS, gS.apV, by omega, by omega, by simp⟩
  have zb3 := zb2.keep (below_tr b3 b3')
  have hz2 := zb2.t.lt
  have hs3 := b3.size
  clear zb2 b3 b3' qA gS oA
  have t0 := zb3.t.cell 0
  have t1 := zb3.t.cell 1
  simp at t0 t1
  go_wp2_with fail
  obtain ⟨W3, hW3⟩ : ∃ W, w3.alloc (.cells #[.slice aS m eS, .int .i64 nx] 26) = W := ⟨_, rfl⟩
  obtain ⟨TS, hTS⟩ : ∃ X, w3.heap.size = X := ⟨_, rfl⟩
  obtain ⟨BS, hBS⟩ : ∃ X, w2.heap.size = X := ⟨_, rfl⟩
  rw [hW3] at qs3 zb3 t0 t1 ⊢
  rw [hTS] at qs3 hs3 ⊢
  rw [hBS] at qs3 hs3 hz2
  clear hW3 hTS hBS
  have HZL : Hid (w.heap.size + 1 ≤ W3.heap.size) := by have := qs3.tT; show _ ≤ _; omega
  (with_reducible refine (CA.out W3 zb3.below).mono ?_)
  rintro e w4 ⟨gB, jB, rfl, qB, jsB, b4⟩
  have b4' : Below w4.heap.size w4 (w4.alloc (.cells #[.slice (some ⟨gB, 0, none⟩) n n, .int .i64 nx] 26)) := (Below.refl _ w4).alloc (Nat.le_refl _) _
  have bb4 := below_tr b4 b4'
  have hs4 := b4.size
  have qt4 : QT (w4.alloc (.cells #[.slice (some ⟨gB, 0, none⟩) n n, .int .i64 nx] 26)) w4.heap.size W3.heap.size gB n W3.heap.size w4.heap.size nx rs jB := ⟨Blk.new w4 _ _, qB.keep b4', jsB.keep b4', jsB.ap (Nat.lt_succ_self _) qB.at_ qB.own.lt, Nat.le_refl _⟩
  have zb4 := zb3.keep bb4
  have qs4 := qs3.keep bb4
  have hU := qs3.tT
  have hs4' : w4.heap.size + 1 ≤ (w4.alloc (.cells #[.slice (some ⟨gB, 0, none⟩) n n, .int .i64 nx] 26)).heap.size := by simp
  clear zb3 qs3 b4 b4' bb4 qB jsB t0 t1
  obtain ⟨u0, u1⟩ := qt4.two
  go_wp2_with fail
  obtain ⟨W4, hW4⟩ : ∃ W, w4.alloc (.cells #[.slice (some ⟨gB, 0, none⟩) n n, .int .i64 nx] 26) = W := ⟨_, rfl⟩
  obtain ⟨XB, hXB⟩ : ∃ X, w4.heap.size = X := ⟨_, rfl⟩
  obtain ⟨Lo, hLo⟩ : ∃ X, W3.heap.size = X := ⟨_, rfl⟩
  rw [hW4] at qt4 zb4 qs4 hs4' u0 u1 ⊢
  rw [hXB] at qt4 hs4 hs4' u0 u1 ⊢
  rw [hLo] at qt4 hs4 hU
  clear hW4 hXB
  (with_reducible refine (CT.out W4 zb4.below).mono ?_)
  rintro e w5 ⟨rfl, o5, b5⟩
  have zb5 := zb4.keep b5
  have qs5 := qs4.keep b5
  have qt5 := qt4.keep b5
  have hl5 := o5.lt
  obtain ⟨GX, hGX⟩ : ∃ X, W4.heap.size = X := ⟨_, rfl⟩
  rw [hGX] at o5 hs4' hl5 ⊢
  clear zb4 qs4 qt4 b5 u0 u1 hGX
  obtain ⟨u0, u1⟩ := qt5.two
  go_wp2_with fail
  (with_reducible refine (CI.out w5 _ gB _ GX qt5.tq o5 zb5.below).mono ?_)
  rintro e w6 ⟨aI, eI, jI, rfl, gI, b6⟩
  have hjI := CJ.out _ _ _ _ gI
  rw [hjI] at gI ⊢
  have b6' : Below w6.heap.size w6 (w6.alloc (.cells #[.slice aI m eI, .int .i64 nx] 26)) := (Below.refl _ w6).alloc (Nat.le_refl _) _
  have bb6 := below_tr b6 b6'
  have hs6 := b6.size
  have qi6 : QS (w6.alloc (.cells #[.slice aI m eI, .int .i64 nx] 26)) w6.heap.size w5.heap.size w6.heap.size (w6.heap.size + 1) aI m eI nx (ds.map lift) jI := ⟨Blk.new w6 _ _, gI.keep b6', hjI, gI.apV, by omega, by omega, by simp⟩
  have zb6 := zb5.keep bb6
  have qs6 := qs5.keep bb6
  have qt6 := qt5.keep bb6
  have o6 := (o5.keep b6 o5.lt).keep b6' (by omega)
  clear zb5 qs5 qt5 b6 b6' bb6 gI u0 u1 o5
  obtain ⟨u0, u1⟩ := qi6.two
  obtain ⟨v0, v1⟩ := qs6.two
  go_wp2_with fail
  obtain ⟨W6, hW6⟩ : ∃ W, w6.alloc (.cells #[.slice aI m eI, .int .i64 nx] 26) = W := ⟨_, rfl⟩
  obtain ⟨TI, hTI⟩ : ∃ X, w6.heap.size = X := ⟨_, rfl⟩
  obtain ⟨BI, hBI⟩ : ∃ X, w5.heap.size = X := ⟨_, rfl⟩
  rw [hW6] at qi6 zb6 qs6 qt6 o6 u0 u1 v0 v1 ⊢
  rw [hTI] at qi6 hs6 u0 u1 ⊢
  rw [hBI] at qi6 hs6 hl5
  clear hW6 hTI
  (with_reducible refine (CE.out W6 BI BS _ _ _ _ jI jS qi6.q qs6.q qi6.len qs6.len).mono ?_)
  rintro e w7 ⟨rfl, b7⟩
  have zb7 := zb6.keep b7
  have qs7 := qs6.keep b7
  have qt7 := qt6.keep b7
  have qi7 := qi6.keep b7
  have o7 := o6.keep b7 o6.lt
  clear zb6 qs6 qt6 qi6 o6 b7 u0 u1 v0 v1
  have t0 := zb7.t.cell 0
  have t1 := zb7.t.cell 1
  simp at t0 t1
  obtain ⟨u0, u1⟩ := qt7.two
  have zb7d := zb7.keep (Below.refl w7.heap.size w7).drew
  have qt7d := qt7.keep (Below.refl w7.heap.size w7).drew
  go_upto_region 14 with fail
  go_region_held3 (fun W : World => W.cell? ⟨XB, 0, none⟩ = some (.slice (some ⟨gB, 0, none⟩) n n) ∧ W.cell? ⟨XB, 1, none⟩ = some (.int .i64 nx) ∧ W.cell? ⟨w.heap.size, 0, none⟩ = some (.slice a n cap) ∧ W.cell? ⟨w.heap.size, 1, none⟩ = some (.int .i64 nx)) (go_keep) (first
    | (go_at_call 43; (with_reducible refine (CA.out _ zb7d.below).mono ?_); rintro e wA ⟨gC, jC, rfl, qC, _, b9⟩; have qAA := (qt7d.keep b9).tq; obtain ⟨s0, s1⟩ := (qt7d.keep b9).two; have s2 := (zb7d.keep b9).t.cell 0; have s3 := (zb7d.keep b9).t.cell 1; (simp at s2 s3))
    | (go_at_call 44; (with_reducible refine (eqTabQ _ _ gB gC n n n nx rs _ _ _ hn1 HS.out qAA qC).mono ?_); rintro e wB ⟨rfl, b10⟩; obtain ⟨s4, s5⟩ := ((qt7d.keep b9).keep b10).two; have s6 := ((zb7d.keep b9).keep b10).t.cell 0; have s7 := ((zb7d.keep b9).keep b10).t.cell 1; (simp at s6 s7))
    | fail)
  have bR : Below w7.heap.size w7 wB := below_tr (below_tr (Below.refl w7.heap.size w7).drew b9) b10
  have zb7e := zb7.keep bR
  have qs7e := qs7.keep bR
  have qt7e := qt7.keep bR
  have qi7e := qi7.keep bR
  have o7e := o7.keep bR o7.lt
  clear zb7 qs7 qt7 qi7 o7 bR b9 b10 zb7d qt7d qC qAA s0 s1 s2 s3 s4 s5 s6 s7 u0 u1 t0 t1
  go_wp2_with fail
  (with_reducible refine (CT.out wB zb7e.below).mono ?_)
  rintro e wC ⟨rfl, oC, bC⟩
  have zb7f := zb7e.keep bC
  have qs7f := qs7e.keep bC
  have qt7f := qt7e.keep bC
  have qi7f := qi7e.keep bC
  have o7f := o7e.keep bC o7e.lt
  clear zb7e qs7e qt7e qi7e o7e bC
  go_wp2_with fail
  (with_reducible refine (eqByteS_true _ _ dn dn dn dz wC HDL.out (by omega) o7f.rd oC.rd).mono ?_)
  rintro e wD ⟨rfl, bD⟩
  have zb8 := zb7f.keep bD
  have qs8 := qs7f.keep bD
  have qt8 := qt7f.keep bD
  have qi8 := qi7f.keep bD
  have o8 := o7f.keep bD o7f.lt
  clear zb7f qs7f qt7f qi7f o7f oC bD
  obtain ⟨u0, u1⟩ := qt8.two
  have hXBl := qt8.box.lt
  have hqi := qi8.tT
  have hcp := qt8.tq.cpd.1
  go_wp2_with fail
  refine (CK.out wD gB Lo XB jB hcp qt8.ap (by omega) qt8.tq.own qt8.jq.G).mono ?_
  rintro e w10 ⟨rfl, hTL⟩
  have hout := hTL.out
  have hs10 := hout.size
  have hbs : w.heap.size + 1 ≤ Lo := by rw [← hLo]; exact HZL.out
  have zb9 := zb8.outs hout hbs
  have qs9 := qs8.outs hout (by omega)
  have qi9 := qi8.outsHi hout (by omega) (by omega)
  have o9 : OwnV 0 w10 (.slice (some ⟨GX, 0, none⟩) dn dn) dn dz := own_outs o8 hout (by omega)
  have r9 := OwnV.rowB o9
  have hqb := CQ4.out jB hcp
  have hq1 := qAt_one jB n
  obtain ⟨qj, hqj⟩ : ∃ q, qAt 1 jB n = q := ⟨_, rfl⟩
  rw [hqj] at hqb hq1 ⊢
  clear zb8 qs8 qt8 qi8 hTL hout u0 u1 hqj o8
  go_wp2_with fail
  (with_reducible refine (markBG (.slice (some ⟨GX, 0, none⟩) dn dn) dn qj dz w10 hq1 (by omega) r9).mono ?_)
  rintro e w10b ⟨rfl, _, g10⟩
  have hout2 : Out GX (GX + 1) w10 w10b := Out.gr g10 (fun g hg => by simp [Value.ownBlock] at hg; omega)
  have hs10b := hout2.size
  have zb10 := zb9.outs hout2 (by omega)
  have qs10 := qs9.outs hout2 (by omega)
  have qi10 := qi9.outsHi hout2 (by omega) (by omega)
  obtain ⟨qk, hqk⟩ : ∃ q, qj + dn = q := ⟨_, rfl⟩
  have hqm0 : ¬ (qk : Int) < 0 := by omega
  rw [hqk]
  clear zb9 qs9 qi9 o9 r9 g10 hout2 hqk hqb hq1
  obtain ⟨u0, u1⟩ := qi10.two
  obtain ⟨v0, v1⟩ := qs10.two
  go_wp2_with fail
  (with_reducible refine (CE.out w10b BI BS _ _ _ _ jI jS qi10.q qs10.q qi10.len qs10.len).mono ?_)
  rintro e w11 ⟨rfl, b11⟩
  have zb11 := zb10.keep b11
  have qs11 := qs10.keep b11
  have qi11 := qi10.keep b11
  clear zb10 qs10 qi10 b11 u0 u1 v0 v1
  obtain ⟨u0, u1⟩ := qi11.two
  have hqI := CQ.out jI _ _ _ qi11.q
  have hIl := qi11.box.lt
  have hqi11 := qi11.tT
  go_wp2_with fail
  (with_reducible refine (markVA (T := TI) nx hmb hqI qi11.q qi11.len (by omega) qi11.ap).mono ?_)
  rintro e w11c ⟨rfl, mG, hout⟩
  have hs11c := hout.size
  have zb11c := zb11.outs hout (by omega)
  have qs11c := qs11.outs hout (by omega)
  have xI := qi11.box.outs hout (by omega)
  have cH : ∀ W : World, TI ≤ W.heap.size → TV W BI TI aI m eI jI → _ := fun W hT h => heldV nx hmb hqI qi11.len hT h
  obtain ⟨mm, hmm⟩ : ∃ q, qAt 1 jI m = q := ⟨_, rfl⟩
  rw [hmm] at cH ⊢
  have CH : Hid _ := cH
  clear zb11 qs11 qi11 hout u0 u1 cH hqI hmm
  have u0 := xI.cell 0
  have u1 := xI.cell 1
  simp at u0 u1
  go_wp2_with fail
  (with_reducible refine (CH.out w11c (by omega) mG).mono ?_)
  rintro e w12 ⟨rfl, b13⟩
  have zb12 := zb11c.keep b13
  have qs12 := qs11c.keep b13
  have mG12 := mG.keep (by omega) b13
  have xI12 := xI.keep b13
  have hs12 := b13.size
  have hmm0 : ¬ (mm : Int) < 0 := by omega
  have hmme : ((mm : Int) != (mm : Int)) = false := by simp
  have hmmf : ((mm : Int) == (mm : Int)) = true := by simp
  clear zb11c qs11c mG xI b13 u0 u1
  have t0 := zb12.t.cell 0
  have t1 := zb12.t.cell 1
  simp at t0 t1
  go_wp2_with fail
  (with_reducible refine (CA.out w12 zb12.below).mono ?_)
  rintro e w13 ⟨gD, jD, rfl, qD0, _, b13⟩
  have zb13 := zb12.keep b13
  have qs13 := qs12.keep b13
  have mG13 := mG12.keep (by omega) b13
  have xI13 := xI12.keep b13
  have hs13 := b13.size
  clear zb12 qs12 mG12 xI12 b13 t0 t1
  go_wp2_with fail
  (with_reducible refine (CT.out w13 zb13.below).mono ?_)
  rintro e w14 ⟨rfl, oD, b14⟩
  have zb14 := zb13.keep b14
  have qs14 := qs13.keep b14
  have mG14 := mG13.keep (by omega) b14
  have xI14 := xI13.keep b14
  have qD := qD0.keep b14
  have hs14 := b14.size
  clear zb13 qs13 mG13 xI13 b14 qD0
  go_wp2_with fail
  (with_reducible refine (CI.out w14 _ gD _ _ qD oD zb14.below).mono ?_)
  rintro e w15 ⟨aJ, eJ, jJ, rfl, gJ, b15⟩
  have hjJ := CJ.out _ _ _ _ gJ
  rw [hjJ] at gJ ⊢
  have b15' : Below w15.heap.size w15 (w15.alloc (.cells #[.slice aJ m eJ, .int .i64 nx] 26)) := (Below.refl _ w15).alloc (Nat.le_refl _) _
  have bb15 := below_tr b15 b15'
  have qj : QS (w15.alloc (.cells #[.slice aJ m eJ, .int .i64 nx] 26)) w15.heap.size w14.heap.size w15.heap.size (w15.heap.size + 1) aJ m eJ nx (ds.map lift) jJ := ⟨Blk.new w15 _ _, gJ.keep b15', hjJ, gJ.apV, by omega, by omega, by simp⟩
  have zb15 := zb14.keep bb15
  have qs15 := qs14.keep bb15
  have mG15 := mG14.keep (by omega) bb15
  have xI15 := xI14.keep bb15
  have hs15 := bb15.size
  clear zb14 qs14 mG14 xI14 b15 b15' bb15 gJ qD oD
  obtain ⟨u0, u1⟩ := qj.two
  obtain ⟨v0, v1⟩ := qs15.two
  go_wp2_with fail
  obtain ⟨W15, hW15⟩ : ∃ W, w15.alloc (.cells #[.slice aJ m eJ, .int .i64 nx] 26) = W := ⟨_, rfl⟩
  rw [hW15] at qj zb15 qs15 mG15 xI15 hs15 u0 u1 v0 v1 ⊢
  clear hW15
  (with_reducible refine (CE.out W15 _ BS _ _ _ _ jJ jS qj.q qs15.q qj.len qs15.len).mono ?_)
  rintro e w16 ⟨rfl, b16⟩
  have zb16 := zb15.keep b16
  have mG16 := mG15.keep (by omega) b16
  have xI16 := xI15.keep b16
  have hs16 := b16.size
  clear zb15 qs15 qj mG15 xI15 b16 u0 u1 v0 v1
  have u0 := xI16.cell 0
  have u1 := xI16.cell 1
  simp at u0 u1
  go_wp2_with fail
  (with_reducible refine (CH.out w16 (by omega) mG16).mono ?_)
  rintro e w17 ⟨rfl, b17⟩
  have zb17 := zb16.keep b17
  have HEND : Hid _ := zb17.below
  clear zb16 mG16 xI16 b17 u0 u1 zb17
  go_wp2
  go_ret
  exact ⟨rfl, HEND.out⟩
end
end Go.Proofs.YtnfplimhhjpbkaaGreatDoor
