/-
  Joined: Paths, File6, FileI, Unlink6, Link6, NotRootI, UnlinkI, WrapI, TruncT, DrawI, RenM, LinkI, MakeT, ChgHardLink, LinkT, FnExactHardLinkW.
-/
import Derived.Test.YtmfimoccemgoiaaGreatDoorJ00B
import Derived.Test.YtmfimoccemgoiaaGreatDoorJ01B
import Derived.Test.YtmfimoccemgoiaaGreatDoorEqInoB
import Derived.Test.YtmfimoccemgoiaaGreatDoorJ03B
import Derived.Test.YtmfimoccemgoiaaGreatDoorEqTabB
import Derived.Test.YtmfimoccemgoiaaGreatDoorJ05B
import Derived.Test.YtmfimoccemgoiaaGreatDoorJ06B
import Derived.Test.YtmfimoccemgoiaaGreatDoorJ07B
import Derived.Test.YtmfimoccemgoiaaGreatDoorJ08B
import Derived.Test.YtmfimoccemgoiaaGreatDoorCopyIB
import Derived.Test.YtmfimoccemgoiaaGreatDoorJ10B
import Derived.Test.YtmfimoccemgoiaaGreatDoorJ11B
import Derived.Test.YtmfimoccemgoiaaGreatDoorSetSB
import Derived.Test.YtmfimoccemgoiaaGreatDoorJ13B
import Derived.Test.YtmfimoccemgoiaaGreatDoorSetIB
import Derived.Test.YtmfimoccemgoiaaGreatDoorJ15B
import Derived.Test.YtmfimoccemgoiaaGreatDoorJ16B
import Derived.Test.YtmfimoccemgoiaaGreatDoorJ17B
import Derived.Test.YtmfimoccemgoiaaGreatDoorEntsOkB
import Derived.Test.YtmfimoccemgoiaaGreatDoorAttsOkB
import Derived.Test.YtmfimoccemgoiaaGreatDoorAscIB
import Derived.Test.YtmfimoccemgoiaaGreatDoorAscTB
import Derived.Test.YtmfimoccemgoiaaGreatDoorInoOkB
import Derived.Test.YtmfimoccemgoiaaGreatDoorAscAB
import Derived.Test.YtmfimoccemgoiaaGreatDoorJ24B
import Derived.Test.YtmfimoccemgoiaaGreatDoorTabOkSB
import Derived.Test.YtmfimoccemgoiaaGreatDoorJ26B
import Derived.Test.YtmfimoccemgoiaaGreatDoorNext7B
import Derived.Test.YtmfimoccemgoiaaGreatDoorJ28B
import Derived.Test.YtmfimoccemgoiaaGreatDoorTreeSB
import Derived.Test.YtmfimoccemgoiaaGreatDoorJ30B
import Derived.Test.YtmfimoccemgoiaaGreatDoorJ31B
import Derived.Test.YtmfimoccemgoiaaGreatDoorJ32B
import Derived.Test.YtmfimoccemgoiaaGreatDoorJ33B
import Derived.Test.YtmfimoccemgoiaaGreatDoorJ34B
import Derived.Test.YtmfimoccemgoiaaGreatDoorJ35B
import Derived.Test.YtmfimoccemgoiaaGreatDoorJ36B
import Derived.Test.YtmfimoccemgoiaaGreatDoorJ37B
import Derived.Test.YtmfimoccemgoiaaGreatDoorJ38B
import Derived.Test.YtmfimoccemgoiaaGreatDoorJ39B
import Derived.WalkKit
import Derived.WalkSpells
import Derived.WalkLawsBesides
import Derived.Deep.QuietTactic
import Derived.BigQuiet
import Derived.OpenShut
import Derived.Laws.BitsAllLaws
import Derived.Maps.AppendAt
import Derived.Lib.SliceRun
import Derived.Lib.Strings
import Derived.Deep.RegionWith
import Derived.Laws.IdiomStrings
import Derived.Deep.Slices
import Derived.ProofKit
import Derived.ChangeOld
import Derived.Below
import Derived.Deep.RegionHeld3
import Derived.Deep.DeepCutAuto
import Derived.Lib.AppendStr
import Derived.Lib.ConvBytes
import Derived.Deep.AppendLies
import Derived.Deep.AppendSrc
import Derived.Maps.OwnSet
import Derived.Maps.OwnOps
import Derived.Deep.RegionLaw
import Derived.Lib.Slices
import Derived.Lib.Walk
import Derived.Lib.Bytealg
import Derived.Lib.IndexLaws
import Derived.Lib.BufferWrite
import Derived.Lib.UnsafeStr
import Derived.Laws.MakeOwn
import Derived.Laws.Strings3
import Derived.RangeFuncBox
import Derived.RangeFuncNested
import Derived.RangeFuncBound
import Derived.RangeFuncCalls
import Derived.RangeFuncLeaves
import Derived.Shelf.Abstract
import Derived.Shelf.RegionOpen
import Derived.OwnWalkIn
import Derived.TacticsInMore
import Derived.LoopNIn
import Derived.LoopIn
import Derived.Deep.CutBlock
import Derived.OwnWalk
import Derived.Deep.DeepAppendRoom
import Derived.LaidEql
import Derived.Stop.Asserts
import Derived.RowKitTokens
import Derived.Lib.AppendZerosOnto
import Derived.Laws.CopyRow
import Derived.Shelf.SlGeneric
import Derived.Shelf.SlIterI.Nil
import Derived.Shelf.SortM.Plain
import Derived.Shelf.SortM.SortNone
import Derived.Ground.GgzProg
import Derived.Ground.SlgmProg
import Derived.Laws.BitsLemmas
import Derived.Laws.StructEq
import Derived.Laws.BytesString
import Derived.Lib.Overlaps
import Derived.Deep.OwnRows
namespace Go.Proofs.YtmfimoccemgoiaaGreatDoor
section
open Go.RowKit
theorem asc_lt {nx : Int} {ds : List InoD} (h : tabD nx ds = true) : ∀ (j i : Nat) (D E : InoD), i < j → ds[i]? = some D → ds[j]? = some E → D.ino < E.ino := by
  have hs : ∀ (i : Nat) (D E : InoD), ds[i]? = some D → ds[i + 1]? = some E → D.ino < E.ino := by
    intro i D E h1 h2
    unfold tabD tabS at h
    simp only [List.length_map, Bool.and_eq_true, decide_eq_true_eq, List.all_eq_true, List.mem_range] at h
    have := h.2.2.1 (i + 1) (List.getElem?_eq_some_iff.1 h2).1
    unfold stepT at this
    rw [Nat.add_sub_cancel] at this
    have e1 : ((ds.map lift).getD i inoZ).D = D := by rw [List.getD_eq_getElem?_getD, List.getElem?_map, h1]; rfl
    have e2 : ((ds.map lift).getD (i + 1) inoZ).D = E := by rw [List.getD_eq_getElem?_getD, List.getElem?_map, h2]; rfl
    rw [e1, e2] at this
    simp only [Bool.and_eq_true, Bool.or_eq_true, decide_eq_true_eq] at this
    rcases this.2.2 with h | h
    · omega
    · exact h
  intro j
  induction j with
  | zero => intro i D E hij; omega
  | succ j ih =>
    intro i D E hij h1 h2
    obtain ⟨F, hF⟩ : ∃ F, ds[j]? = some F := ⟨_, List.getElem?_eq_getElem (by have := (List.getElem?_eq_some_iff.1 h2).1; omega)⟩
    have h3 := hs j F E hF h2
    rcases (show i = j ∨ i < j by omega) with rfl | hij
    · rw [hF] at h1
      simp at h1
      rw [← h1]
      exact h3
    · have := ih i D F hij h1 hF
      omega
theorem look_self {nx : Int} {ds : List InoD} (h : tabD nx ds = true) : ∀ D ∈ ds, look ds D.ino = some D := by
  intro D hD
  obtain ⟨i, hi⟩ := List.getElem?_of_mem hD
  cases hl : look ds D.ino with
  | none =>
    unfold look at hl
    rw [List.find?_eq_none] at hl
    exact absurd (by simp) (hl D hD)
  | some E =>
    obtain ⟨hE, he⟩ := look_mem hl
    obtain ⟨j, hj⟩ := List.getElem?_of_mem hE
    rcases Nat.lt_trichotomy i j with hij | rfl | hij
    · have := asc_lt h j i D E hij hi hj
      omega
    · rw [hi] at hj
      exact hj.symm
    · have := asc_lt h i j E D hij hj hi
      omega
end

section
open Go.RowKit
def fileD (ds : List InoD) (s : ByteArray) : InoD × Int := if (statD ds s).2 = 0 ∧ (statD ds s).1.kind ≠ 1 then (inoZ.D, 3) else statD ds s
set_option maxRecDepth 100000 in
set_option maxHeartbeats 4000000 in
theorem fileS (a : Option Addr) (n cap : Nat) (nx : Int) (rs : List InoR) (s : ByteArray) (w : World) (ht : TR w a n rs) (hs : s.size ≤ 4000000) :
    Calls Tryz.prog 68 #[.agg #[.slice a n cap, .int .i64 nx], .string s] w fun e w' => StatPost w (fileD (rs.map InoR.D) s).1 (fileD (rs.map InoR.D) s).2 e w' := by
  have B0 : Below w.heap.size w ((w.alloc (.cells #[.slice a n cap, .int .i64 nx] 28)).alloc (.cells #[.int .i64 0, .int .i64 0, .int .i64 0, .slice none 0 0, .slice none 0 0, .slice none 0 0] 68)) := ((Below.refl _ w).alloc (Nat.le_refl _) _).alloc (by simp) _
  have zT : Blk ((w.alloc (.cells #[.slice a n cap, .int .i64 nx] 28)).alloc (.cells #[.int .i64 0, .int .i64 0, .int .i64 0, .slice none 0 0, .slice none 0 0, .slice none 0 0] 68)) w.heap.size 28 #[.slice a n cap, .int .i64 nx] := (Blk.new w _ _).alloc _
  have zR := Blk.new (w.alloc (.cells #[.slice a n cap, .int .i64 nx] 28)) 68 #[.int .i64 0, .int .i64 0, .int .i64 0, .slice none 0 0, .slice none 0 0, .slice none 0 0]
  simp only [World.size_alloc] at zR
  obtain ⟨D, c, hDc⟩ : ∃ D c, statD (rs.map InoR.D) s = (D, c) := ⟨_, _, rfl⟩
  have hp : Hid (∀ (e : Ending) (w' : World) (E : InoD) (q : Int), (if c = 0 ∧ D.kind ≠ 1 then (inoZ.D, (3 : Int)) else (D, c)) = (E, q) → StatPost w E q e w' → StatPost w (fileD (rs.map InoR.D) s).1 (fileD (rs.map InoR.D) s).2 e w') := fun e w' E q h hh => by
    unfold fileD
    rw [hDc]
    dsimp only
    rw [h]
    exact hh
  generalize StatPost w (fileD (rs.map InoR.D) s).1 (fileD (rs.map InoR.D) s).2 = P at hp ⊢
  go_enter Tryz.func68, Tryz.ntmps68
  go_wp2_with fail
  obtain ⟨W0, hW0⟩ : ∃ W, ((w.alloc (.cells #[.slice a n cap, .int .i64 nx] 28)).alloc (.cells #[.int .i64 0, .int .i64 0, .int .i64 0, .slice none 0 0, .slice none 0 0, .slice none 0 0] 68)) = W := ⟨_, rfl⟩
  rw [hW0] at B0 zT zR ⊢
  clear hW0
  have hcS := statS a n cap nx rs s W0 (ht.keep B0) hs
  rw [hDc] at hcS
  dsimp only at hcS
  clear hDc zT ht
  (with_reducible refine hcS.mono ?_)
  rintro e w2 ⟨b1, d1, b2, d2, b3, d3, rfl, g2, bb2⟩
  clear hcS
  have zr := zR.keep bb2
  have hb2 := B0.trans (bb2.mono B0.size)
  have hs1 : w.heap.size + 1 < W0.heap.size := zR.lt
  have z3 := zr.alloc (.cells #[.int .i64 D.ino, .int .i64 D.kind, .int .i64 D.links, .slice b1 D.data.length d1, .slice b2 D.ents.length d2, .slice b3 D.attrs.length d3] 68)
  have hb3 := hb2.alloc hb2.size (.cells #[.int .i64 D.ino, .int .i64 D.kind, .int .i64 D.links, .slice b1 D.data.length d1, .slice b2 D.ents.length d2, .slice b3 D.attrs.length d3] 68)
  have zX := Blk.new w2 68 #[.int .i64 D.ino, .int .i64 D.kind, .int .i64 D.links, .slice b1 D.data.length d1, .slice b2 D.ents.length d2, .slice b3 D.attrs.length d3]
  have g3 := (g2.keep (Nat.le_refl _) ((Below.refl _ w2).alloc (Nat.le_refl _) (.cells #[.int .i64 D.ino, .int .i64 D.kind, .int .i64 D.links, .slice b1 D.data.length d1, .slice b2 D.ents.length d2, .slice b3 D.attrs.length d3] 68))).wider (T' := (w2.alloc (.cells #[.int .i64 D.ino, .int .i64 D.kind, .int .i64 D.links, .slice b1 D.data.length d1, .slice b2 D.ents.length d2, .slice b3 D.attrs.length d3] 68)).heap.size) (Nat.le_refl _) (by simp)
  obtain ⟨t0, t1, t2, t3, t4, t5⟩ := z3.six
  have fz0 := z3.frozen 0
  have fz1 := z3.frozen 1
  have fz2 := z3.frozen 2
  have fz3 := z3.frozen 3
  have fz4 := z3.frozen 4
  have fz5 := z3.frozen 5
  obtain ⟨x0, x1, x2, x3, x4, x5⟩ := zX.six
  obtain ⟨W3, hW3⟩ : ∃ W, w2.alloc (.cells #[.int .i64 D.ino, .int .i64 D.kind, .int .i64 D.links, .slice b1 D.data.length d1, .slice b2 D.ents.length d2, .slice b3 D.attrs.length d3] 68) = W := ⟨_, rfl⟩
  have HZ3 : Hid _ := z3
  have HB3 : Hid _ := hb3
  have HG3 : Hid _ := g3
  rw [hW3] at HZ3 HB3 HG3 t0 t1 t2 t3 t4 t5 fz0 fz1 fz2 fz3 fz4 fz5 x0 x1 x2 x3 x4 x5
  have hfin : Hid ((if c = 0 ∧ D.kind ≠ 1 then (inoZ.D, (3 : Int)) else (D, c)) = (D, c) → P (.returned (.tuple #[.agg #[.int .i64 D.ino, .int .i64 D.kind, .int .i64 D.links, .slice b1 D.data.length d1, .slice b2 D.ents.length d2, .slice b3 D.attrs.length d3], .int .i64 c])) ((((((W3.setCell ⟨w.heap.size + 1, 0, none⟩ (.int .i64 D.ino)).setCell ⟨w.heap.size + 1, 1, none⟩ (.int .i64 D.kind)).setCell ⟨w.heap.size + 1, 2, none⟩ (.int .i64 D.links)).setCell ⟨w.heap.size + 1, 3, none⟩ (.slice b1 D.data.length d1)).setCell ⟨w.heap.size + 1, 4, none⟩ (.slice b2 D.ents.length d2)).setCell ⟨w.heap.size + 1, 5, none⟩ (.slice b3 D.attrs.length d3))) := fun h => by
    have hf := at_stored HB3.out HG3.out HZ3.out hs1 (.int .i64 D.ino) (.int .i64 D.kind) (.int .i64 D.links) (.slice b1 D.data.length d1) (.slice b2 D.ents.length d2) (.slice b3 D.attrs.length d3)
    exact hp.out _ _ _ _ h ⟨b1, d1, b2, d2, b3, d3, rfl, hf.1, hf.2⟩
  have HF : Hid _ := blk6 HZ3.out (.int .i64 D.ino) (.int .i64 D.kind) (.int .i64 D.links) (.slice b1 D.data.length d1) (.slice b2 D.ents.length d2) (.slice b3 D.attrs.length d3)
  clear z3 hb3 g3 zr hb2 g2 bb2 zX zR B0
  by_cases hc0 : c = 0
  · subst hc0
    by_cases hk : D.kind = 1
    · have hkb : (D.kind != 1) = false := by simp [hk]
      have hkb' : (D.kind == 1) = true := by simp [hk]
      have HE : Hid _ := hfin.out (if_neg (by simp [hk]))
      clear hk
      go_wp2
      obtain ⟨dd0, dd1, dd2, dd3, dd4, dd5⟩ := Blk.six HF.out
      refine bodyPost_ret (v := .tuple #[.agg #[.int .i64 D.ino, .int .i64 D.kind, .int .i64 D.links, .slice b1 D.data.length d1, .slice b2 D.ents.length d2, .slice b3 D.attrs.length d3], .int .i64 0]) (by simp [results, Tryz.f68, go_sem, dd0, dd1, dd2, dd3, dd4, dd5]) rfl ?_
      exact HE.out
    · have hkb : (D.kind != 1) = true := by simpa using hk
      have hkb' : (D.kind == 1) = false := by simpa using hk
      have HE : Hid ((if (0 : Int) = 0 ∧ D.kind ≠ 1 then (inoZ.D, (3 : Int)) else (D, 0)) = (inoZ.D, 3)) := if_pos ⟨rfl, hk⟩
      clear hk
      go_wp2
      have zf := blk6 HZ3.out (.int .i64 0) (.int .i64 0) (.int .i64 0) (.slice none 0 0) (.slice none 0 0) (.slice none 0 0)
      obtain ⟨dd0, dd1, dd2, dd3, dd4, dd5⟩ := zf.six
      refine bodyPost_ret (v := .tuple #[.agg #[.int .i64 0, .int .i64 0, .int .i64 0, .slice none 0 0, .slice none 0 0, .slice none 0 0], .int .i64 3]) (by simp [results, Tryz.f68, go_sem, dd0, dd1, dd2, dd3, dd4, dd5]) rfl ?_
      exact hp.out _ _ _ _ HE.out (statPost_zero rfl (at_stored HB3.out (inoG_zero W3 (w.heap.size + 1 + 1) W3.heap.size) HZ3.out (Nat.lt_succ_self _) _ _ _ _ _ _).2)
  · have hcb : (c != 0) = true := by simpa using hc0
    have hcb' : (c == 0) = false := by simpa using hc0
    have HE : Hid _ := hfin.out (if_neg (by simp [hc0]))
    go_wp2
    obtain ⟨dd0, dd1, dd2, dd3, dd4, dd5⟩ := Blk.six HF.out
    refine bodyPost_ret (v := .tuple #[.agg #[.int .i64 D.ino, .int .i64 D.kind, .int .i64 D.links, .slice b1 D.data.length d1, .slice b2 D.ents.length d2, .slice b3 D.attrs.length d3], .int .i64 c]) (by simp [results, Tryz.f68, go_sem, dd0, dd1, dd2, dd3, dd4, dd5]) rfl ?_
    exact HE.out
end

section
open Go.RowKit
theorem badK_file {ds : List InoD} (h : ∀ D ∈ ds, D.kind = 1 ∨ D.kind = 2) (s : ByteArray) : badK 2 ds s = fileD ds s := by
  unfold badK fileD
  by_cases h0 : (statD ds s).2 = 0
  · have hm : (statD ds s).1 ∈ ds := by
      revert h0
      unfold statD
      split
      · split
        · intro h; simp at h
        · rename_i D hD
          intro _
          exact (look_mem hD).1
      · rename_i hc
        intro h
        exact absurd h hc
    have hk := h _ hm
    by_cases h2 : (statD ds s).1.kind = 2
    · rw [if_pos ⟨h0, h2⟩, if_pos ⟨h0, by omega⟩]
    · rw [if_neg (fun c => h2 c.2), if_neg (fun c => h2 (by omega))]
  · rw [if_neg (fun c => h0 c.1), if_neg (fun c => h0 c.1)]
set_option maxRecDepth 100000 in
set_option maxHeartbeats 4000000 in
theorem fileI (a : Option Addr) (n cap : Nat) (nx : Int) (rs : List InoR) (s : ByteArray) (w : World) (ht : TR w a n rs) (hK : ∀ r ∈ rs, r.D.kind = 1 ∨ r.D.kind = 2) (hwf : ∀ r ∈ rs, (Lit.int .i64 r.D.ino).wf = true) (hwe : ∀ r ∈ rs, ∀ e ∈ r.D.ents, (Lit.int .i64 e.2).wf = true) (hs : s.size ≤ 4000000) :
    Calls Tryz.prog 218 #[.agg #[.slice a n cap, .int .i64 nx], .string s] w fun e w' => EStat w (badK 2 (rs.map InoR.D) s).1 (badK 2 (rs.map InoR.D) s).2 e w' := by
  have B0 : Below w.heap.size w ((w.alloc (.cells #[.slice a n cap, .int .i64 nx] 28)).alloc (.cells #[.int .i64 0, .int .i64 0, .int .i64 0, .slice none 0 0, .slice none 0 0, .slice none 0 0] 68)) := ((Below.refl _ w).alloc (Nat.le_refl _) _).alloc (by simp) _
  have zT : Blk ((w.alloc (.cells #[.slice a n cap, .int .i64 nx] 28)).alloc (.cells #[.int .i64 0, .int .i64 0, .int .i64 0, .slice none 0 0, .slice none 0 0, .slice none 0 0] 68)) w.heap.size 28 #[.slice a n cap, .int .i64 nx] := (Blk.new w _ _).alloc _
  have zR := Blk.new (w.alloc (.cells #[.slice a n cap, .int .i64 nx] 28)) 68 #[.int .i64 0, .int .i64 0, .int .i64 0, .slice none 0 0, .slice none 0 0, .slice none 0 0]
  simp only [World.size_alloc] at zR
  obtain ⟨D, c, hDc⟩ : ∃ D c, statD (rs.map InoR.D) s = (D, c) := ⟨_, _, rfl⟩
  have hp : Hid (∀ (e : Ending) (w' : World) (E : InoD) (q : Int), (if c = 0 ∧ D.kind = 2 then (inoZ.D, (3 : Int)) else (D, c)) = (E, q) → EStat w E q e w' → EStat w (badK 2 (rs.map InoR.D) s).1 (badK 2 (rs.map InoR.D) s).2 e w') := fun e w' E q h hh => by
    unfold badK
    rw [hDc]
    dsimp only
    rw [h]
    exact hh
  generalize EStat w (badK 2 (rs.map InoR.D) s).1 (badK 2 (rs.map InoR.D) s).2 = P at hp ⊢
  go_enter Tryz.func218, Tryz.ntmps218
  go_wp2_with fail
  obtain ⟨W0, hW0⟩ : ∃ W, ((w.alloc (.cells #[.slice a n cap, .int .i64 nx] 28)).alloc (.cells #[.int .i64 0, .int .i64 0, .int .i64 0, .slice none 0 0, .slice none 0 0, .slice none 0 0] 68)) = W := ⟨_, rfl⟩
  rw [hW0] at B0 zT zR ⊢
  clear hW0
  have hcS := statI a n cap nx rs s W0 (ht.keep B0) hK hwf hwe hs
  rw [hDc] at hcS
  dsimp only at hcS
  clear hDc zT ht
  (with_reducible refine hcS.mono ?_)
  rintro e w2 ⟨b1, d1, b2, d2, b3, d3, rfl, g2, bb2⟩
  clear hcS
  have zr := zR.keep bb2
  have hb2 := B0.trans (bb2.mono B0.size)
  have hs1 : w.heap.size + 1 < W0.heap.size := zR.lt
  have z3 := zr.alloc (.cells #[.int .i64 D.ino, .int .i64 D.kind, .int .i64 D.links, .slice b1 D.data.length d1, .slice b2 D.ents.length d2, .slice b3 D.attrs.length d3] 68)
  have hb3 := hb2.alloc hb2.size (.cells #[.int .i64 D.ino, .int .i64 D.kind, .int .i64 D.links, .slice b1 D.data.length d1, .slice b2 D.ents.length d2, .slice b3 D.attrs.length d3] 68)
  have zX := Blk.new w2 68 #[.int .i64 D.ino, .int .i64 D.kind, .int .i64 D.links, .slice b1 D.data.length d1, .slice b2 D.ents.length d2, .slice b3 D.attrs.length d3]
  have g3 := (g2.keep (Nat.le_refl _) ((Below.refl _ w2).alloc (Nat.le_refl _) (.cells #[.int .i64 D.ino, .int .i64 D.kind, .int .i64 D.links, .slice b1 D.data.length d1, .slice b2 D.ents.length d2, .slice b3 D.attrs.length d3] 68))).wider (T' := (w2.alloc (.cells #[.int .i64 D.ino, .int .i64 D.kind, .int .i64 D.links, .slice b1 D.data.length d1, .slice b2 D.ents.length d2, .slice b3 D.attrs.length d3] 68)).heap.size) (Nat.le_refl _) (by simp)
  obtain ⟨t0, t1, t2, t3, t4, t5⟩ := z3.six
  have fz0 := z3.frozen 0
  have fz1 := z3.frozen 1
  have fz2 := z3.frozen 2
  have fz3 := z3.frozen 3
  have fz4 := z3.frozen 4
  have fz5 := z3.frozen 5
  obtain ⟨x0, x1, x2, x3, x4, x5⟩ := zX.six
  obtain ⟨W3, hW3⟩ : ∃ W, w2.alloc (.cells #[.int .i64 D.ino, .int .i64 D.kind, .int .i64 D.links, .slice b1 D.data.length d1, .slice b2 D.ents.length d2, .slice b3 D.attrs.length d3] 68) = W := ⟨_, rfl⟩
  have HZ3 : Hid _ := z3
  have HB3 : Hid _ := hb3
  have HG3 : Hid _ := g3
  rw [hW3] at HZ3 HB3 HG3 t0 t1 t2 t3 t4 t5 fz0 fz1 fz2 fz3 fz4 fz5 x0 x1 x2 x3 x4 x5
  have hfin : Hid ((if c = 0 ∧ D.kind = 2 then (inoZ.D, (3 : Int)) else (D, c)) = (D, c) → P (.returned (.tuple #[.agg #[.int .i64 D.ino, .int .i64 D.kind, .int .i64 D.links, .slice b1 D.data.length d1, .slice b2 D.ents.length d2, .slice b3 D.attrs.length d3], errV c])) ((((((W3.setCell ⟨w.heap.size + 1, 0, none⟩ (.int .i64 D.ino)).setCell ⟨w.heap.size + 1, 1, none⟩ (.int .i64 D.kind)).setCell ⟨w.heap.size + 1, 2, none⟩ (.int .i64 D.links)).setCell ⟨w.heap.size + 1, 3, none⟩ (.slice b1 D.data.length d1)).setCell ⟨w.heap.size + 1, 4, none⟩ (.slice b2 D.ents.length d2)).setCell ⟨w.heap.size + 1, 5, none⟩ (.slice b3 D.attrs.length d3))) := fun h => by
    have hf := at_stored HB3.out HG3.out HZ3.out hs1 (.int .i64 D.ino) (.int .i64 D.kind) (.int .i64 D.links) (.slice b1 D.data.length d1) (.slice b2 D.ents.length d2) (.slice b3 D.attrs.length d3)
    exact hp.out _ _ _ _ h ⟨b1, d1, b2, d2, b3, d3, rfl, hf.1, hf.2⟩
  have HF : Hid _ := blk6 HZ3.out (.int .i64 D.ino) (.int .i64 D.kind) (.int .i64 D.links) (.slice b1 D.data.length d1) (.slice b2 D.ents.length d2) (.slice b3 D.attrs.length d3)
  clear z3 hb3 g3 zr hb2 g2 bb2 zX zR B0
  by_cases hc0 : c = 0
  · subst hc0
    rw [errV_zero]
    by_cases hk : D.kind = 2
    · have hkb : (D.kind == 2) = true := by simp [hk]
      have HE : Hid ((if (0 : Int) = 0 ∧ D.kind = 2 then (inoZ.D, (3 : Int)) else (D, 0)) = (inoZ.D, 3)) := if_pos ⟨rfl, hk⟩
      have HEE : Hid _ := HE
      clear hk
      go_wp2
      have zf := blk6 HZ3.out (.int .i64 0) (.int .i64 0) (.int .i64 0) (.slice none 0 0) (.slice none 0 0) (.slice none 0 0)
      obtain ⟨dd0, dd1, dd2, dd3, dd4, dd5⟩ := zf.six
      refine bodyPost_ret (v := .tuple #[.agg #[.int .i64 0, .int .i64 0, .int .i64 0, .slice none 0 0, .slice none 0 0, .slice none 0 0], .iface 155 (.int .i64 3)]) (by simp [results, Tryz.f218, go_sem, dd0, dd1, dd2, dd3, dd4, dd5]) rfl ?_
      exact hp.out _ _ _ _ HEE.out (eStat_zero rfl (at_stored HB3.out (inoG_zero W3 (w.heap.size + 1 + 1) W3.heap.size) HZ3.out (Nat.lt_succ_self _) _ _ _ _ _ _).2)
    · have hkb : (D.kind == 2) = false := by simpa using hk
      have HE : Hid _ := hfin.out (if_neg (by simp [hk]))
      clear hk
      go_wp2
      obtain ⟨dd0, dd1, dd2, dd3, dd4, dd5⟩ := Blk.six HF.out
      refine bodyPost_ret (v := .tuple #[.agg #[.int .i64 D.ino, .int .i64 D.kind, .int .i64 D.links, .slice b1 D.data.length d1, .slice b2 D.ents.length d2, .slice b3 D.attrs.length d3], .nilIface]) (by simp [results, Tryz.f218, go_sem, dd0, dd1, dd2, dd3, dd4, dd5]) rfl ?_
      exact HE.out
  · have HE : Hid _ := hfin.out (if_neg (by simp [hc0]))
    rw [errV_some hc0] at HE ⊢
    clear hc0
    go_wp2
    obtain ⟨dd0, dd1, dd2, dd3, dd4, dd5⟩ := Blk.six HF.out
    refine bodyPost_ret (v := .tuple #[.agg #[.int .i64 D.ino, .int .i64 D.kind, .int .i64 D.links, .slice b1 D.data.length d1, .slice b2 D.ents.length d2, .slice b3 D.attrs.length d3], .iface 155 (.int .i64 c)]) (by simp [results, Tryz.f218, go_sem, dd0, dd1, dd2, dd3, dd4, dd5]) rfl ?_
    exact HE.out
end

section
open Go.RowKit
theorem fileD_mem {ds : List InoD} {s : ByteArray} {D : InoD} (h : fileD ds s = (D, 0)) : D ∈ ds ∧ statD ds s = (D, 0) := by
  unfold fileD at h
  split at h
  · simp at h
  · exact ⟨statD_mem h, h⟩
theorem TabAt.trs {w V : World} {nx : Int} {ds : List InoD} {v : Value} (h : TabAt w nx ds v V) (hs : ∀ D ∈ ds, InoSmall D) (hl : ds.length ≤ 1048576) : ∃ a n c rs, v = .agg #[.slice a n c, .int .i64 nx] ∧ (∀ V', Below V.heap.size V V' → TR V' a n rs ∧ ∀ (X i : Nat) (u : Value), X < w.heap.size → TR (V'.setCell ⟨X, i, none⟩ u) a n rs) ∧ rs.map InoR.D = ds ∧ Below w.heap.size w V := by
  obtain ⟨a, c, js, rfl, hq, hb⟩ := h
  have h1 : (js.map InoJ.r).map InoR.D = ds := by rw [hq.ds, lift_map]
  have h2 : js.length = ds.length := by rw [← h1]; simp
  have hsm : ∀ r ∈ js.map InoJ.r, InoSmall r.D := fun r hr => hs r.D (by rw [← h1]; exact List.mem_map_of_mem hr)
  refine ⟨a, js.length, c, js.map InoJ.r, rfl, fun V' hV => ⟨⟨by simp, by omega, hsm, (hq.keep hV).rd rfl⟩, fun X i u hX => ⟨by simp, by omega, hsm, ((hq.keep hV).setX hX i u).rd rfl⟩⟩, h1, hb⟩
end

section
open Go.RowKit
theorem splitB (s : ByteArray) (w : World) (hs : s.size ≤ 4000000) : Calls Tryz.prog 65 #[.string s] w fun e w' => ∃ (a : Option Addr) (m c : Nat), e = .returned (.tuple #[.slice a m c, .bool (splitOf s.data.toList).isSome]) ∧ Below w.heap.size w w' :=
  (splitS s w hs).mono fun e w' h => by
    rcases h with ⟨hb, ⟨hn, a, c, he⟩ | ⟨zs, g, c, hz, he, _, _⟩⟩
    · exact ⟨a, 0, c, by rw [he, hn]; rfl, hb⟩
    · exact ⟨_, _, c, by rw [he, hz]; rfl, hb⟩
def linkD (nx : Int) (ds : List InoD) (s tp : ByteArray) : List InoD × Int :=
  if treeD nx ds = false ∨ (splitOf s.data.toList).isSome = false ∨ (parentOf tp.data.toList).2.2 = false then (ds, 1)
  else if (fileD ds s).2 ≠ 0 then (ds, (fileD ds s).2)
  else if (spotD ds tp 0).2.2 ≠ 0 then (ds, (spotD ds tp 0).2.2)
  else (setD (setD ds { (fileD ds s).1 with links := (fileD ds s).1.links + 1 }) { (spotD ds tp 0).1 with ents := insBy (fun q => gtS (spotD ds tp 0).2.1 q.1) (spotD ds tp 0).1.ents ((spotD ds tp 0).2.1, (fileD ds s).1.ino) }, 0)
set_option maxRecDepth 100000 in
set_option maxHeartbeats 8000000 in
theorem linkS (a : Option Addr) (n cap : Nat) (nx : Int) (rs : List InoR) (s tp : ByteArray) (w : World) (ht : TR w a n rs) (hs : s.size ≤ 4000000) (hto : tp.size ≤ 4000000) :
    Calls Tryz.prog 24 #[.agg #[.slice a n cap, .int .i64 nx], .string s, .string tp] w fun e w' => TabC w nx (linkD nx (rs.map InoR.D) s tp).1 (linkD nx (rs.map InoR.D) s tp).2 e w' := by
  have B0 : Below w.heap.size w ((w.alloc (.cells #[.slice a n cap, .int .i64 nx] 28)).alloc (.cells #[.slice none 0 0, .int .i64 0] 28)) := ((Below.refl _ w).alloc (Nat.le_refl _) _).alloc (by simp) _
  have zT : Blk ((w.alloc (.cells #[.slice a n cap, .int .i64 nx] 28)).alloc (.cells #[.slice none 0 0, .int .i64 0] 28)) w.heap.size 28 #[.slice a n cap, .int .i64 nx] := (Blk.new w _ _).alloc _
  have zR := Blk.new (w.alloc (.cells #[.slice a n cap, .int .i64 nx] 28)) 28 #[.slice none 0 0, .int .i64 0]
  simp only [World.size_alloc] at zR
  obtain ⟨ds, hds⟩ : ∃ ds, rs.map InoR.D = ds := ⟨_, rfl⟩
  have hdn : ds.length = n := by rw [← hds, List.length_map, ht.len]
  have hp : Hid (∀ (e : Ending) (w' : World) (l : List InoD) (q : Int), linkD nx ds s tp = (l, q) → TabC w nx l q e w' → TabC w nx (linkD nx ds s tp).1 (linkD nx ds s tp).2 e w') := fun e w' l q h hh => by rw [h]; exact hh
  rw [hds]
  generalize TabC w nx (linkD nx ds s tp).1 (linkD nx ds s tp).2 = P at hp ⊢
  have hmd : linkD nx ds s tp = linkD nx ds s tp := rfl
  conv at hmd => rhs; unfold linkD
  have HDS : Hid _ := hds
  have HDN : Hid _ := hdn
  have HT : Hid _ := ht
  have HSm : Hid (∀ F ∈ ds, InoSmall F) := by
    intro F hF
    exact ht.smallD F (by rw [hds]; exact hF)
  have hn1 := ht.n
  have href : Hid (∀ (W : World) (q : Int), Below w.heap.size w W → Blk W (w.heap.size + 1) 28 #[.slice none 0 0, .int .i64 0] → linkD nx ds s tp = (ds, q) → Calls Tryz.prog 67 #[.agg #[.slice a n cap, .int .i64 nx]] W fun e V => ∃ (b : Option Addr) (m cc : Nat), e = .returned (.agg #[.slice b m cc, .int .i64 nx]) ∧ Blk V (w.heap.size + 1) 28 #[.slice none 0 0, .int .i64 0] ∧ P (.returned (.tuple #[.agg #[.slice b m cc, .int .i64 nx], .int .i64 q])) ((V.setCell ⟨w.heap.size + 1, 0, none⟩ (.slice b m cc)).setCell ⟨w.heap.size + 1, 1, none⟩ (.int .i64 nx))) := fun W q hb hz hq => by
    have hT := HT.out.keep hb
    refine (l4CopyS a n cap nx rs W hT.len hT.n hT.small hT.rd).mono fun e V h => ?_
    obtain ⟨b, m, cc, h1, h2, h3⟩ := copyC h hb (Nat.le_succ _) hz
    rw [HDS.out] at h3
    exact ⟨b, m, cc, h1, h2, hp.out _ _ _ _ hq (h3 q)⟩
  have hset : Hid (∀ (W V : World) (v : Value) (l : List InoD), TabAt W nx l v V → Below w.heap.size w W → Blk W (w.heap.size + 1) 28 #[.slice none 0 0, .int .i64 0] → linkD nx ds s tp = (l, 0) → ∃ (b : Option Addr) (m cc : Nat), v = .agg #[.slice b m cc, .int .i64 nx] ∧ Blk V (w.heap.size + 1) 28 #[.slice none 0 0, .int .i64 0] ∧ P (.returned (.tuple #[.agg #[.slice b m cc, .int .i64 nx], .int .i64 0])) ((V.setCell ⟨w.heap.size + 1, 0, none⟩ (.slice b m cc)).setCell ⟨w.heap.size + 1, 1, none⟩ (.int .i64 nx))) := fun W V v l h hb hz hq => by
    obtain ⟨b, cc, js, rfl, hQ, hbV⟩ := h
    refine ⟨b, js.length, cc, rfl, hz.keep hbV, hp.out _ _ _ _ hq ?_⟩
    have := hQ.boxed (hb.trans (hbV.mono hb.size)) (R := w.heap.size + 1) (by omega) hz.lt (.slice b js.length cc) (.int .i64 nx)
    exact ⟨b, cc, js, rfl, this.1, this.2⟩
  go_enter Tryz.func24, Tryz.ntmps24
  go_wp2_with fail
  obtain ⟨W0, hW0⟩ : ∃ W, (w.alloc (.cells #[.slice a n cap, .int .i64 nx] 28)).alloc (.cells #[.slice none 0 0, .int .i64 0] 28) = W := ⟨_, rfl⟩
  rw [hW0] at B0 zT zR ⊢
  clear hW0 ht hds hdn
  have hsp := splitB s W0 hs
  refine hsp.mono ?_
  rintro e w1 ⟨sa, sm, sc, rfl, bb1⟩
  clear hsp
  generalize (splitOf s.data.toList).isSome = K1 at hmd ⊢
  have hB0 := B0
  have zr0 := zR
  have zt0 := zT
  clear B0 zR zT
  have hB1 := hB0.trans (bb1.mono hB0.size)
  have zr1 := zr0.keep bb1
  have zt1 := zt0.keep bb1
  clear hB0 zr0 zt0 bb1

  have hpp := parentS tp w1 hto
  go_wp2_with fail
  refine hpp.mono ?_
  rintro e w2 ⟨bb2, rfl⟩
  clear hpp
  obtain ⟨P1, P2, P3, hP⟩ : ∃ P1 P2 P3, parentOf tp.data.toList = (P1, P2, P3) := ⟨_, _, _, rfl⟩
  rw [hP] at hmd ⊢
  dsimp only at hmd ⊢
  have hB2 := hB1.trans (bb2.mono hB1.size)
  have zr2 := zr1.keep bb2
  have zt2 := zt1.keep bb2
  clear hB1 zr1 zt1 bb2

  have t0 := zt2.cell 0
  have t1 := zt2.cell 1
  simp at t0 t1
  have hcT := treeS a n cap nx rs w2 (HT.out.keep hB2)
  rw [HDS.out] at hcT
  clear hP
  go_wp2_with fail
  (with_reducible refine hcT.mono ?_)
  rintro e w3 ⟨rfl, bb3⟩
  clear hcT t0 t1
  have hB3 := hB2.trans (bb3.mono hB2.size)
  have zr3 := zr2.keep bb3
  have zt3 := zt2.keep bb3
  clear hB2 zr2 zt2 bb3

  have t0 := zt3.cell 0
  have t1 := zt3.cell 1
  simp at t0 t1
  have hrl : w.heap.size + 1 < w3.heap.size := zr3.lt
  by_cases hbad : treeD nx ds = false ∨ K1 = false ∨ P3 = false
  · rw [if_pos hbad] at hmd
    have hcC := href.out w3 1 hB3 zr3 hmd
    clear hmd zr3 zt3
    cases htr : treeD nx ds with
    | false =>
      go_wp2_with fail
      (with_reducible refine hcC.mono ?_)
      rintro e wz ⟨b, m, cc, rfl, zz, hPz⟩
      have HPP : Hid _ := hPz
      have HZZ : Hid _ := zz
      have rr0 := zz.cell 0
      have rr1 := zz.cell 1
      have rf0 := zz.frozen 0
      have rf1 := zz.frozen 1
      simp at rr0 rr1
      clear zz hPz hcC t0 t1
      go_wp2
      have zf := blk2 HZZ.out (.slice b m cc) (.int .i64 nx)
      have dd0 := zf.cell 0
      have dd1 := zf.cell 1
      simp at dd0 dd1
      refine bodyPost_ret (v := .tuple #[.agg #[.slice b m cc, .int .i64 nx], .int .i64 1]) (by simp [results, Tryz.f24, go_sem, dd0, dd1]) rfl ?_
      exact HPP.out

    | true =>
      rw [htr] at hbad
      cases K1 with
      | false =>
        go_wp2_with fail
        (with_reducible refine hcC.mono ?_)
        rintro e wz ⟨b, m, cc, rfl, zz, hPz⟩
        have HPP : Hid _ := hPz
        have HZZ : Hid _ := zz
        have rr0 := zz.cell 0
        have rr1 := zz.cell 1
        have rf0 := zz.frozen 0
        have rf1 := zz.frozen 1
        simp at rr0 rr1
        clear zz hPz hcC t0 t1
        go_wp2
        have zf := blk2 HZZ.out (.slice b m cc) (.int .i64 nx)
        have dd0 := zf.cell 0
        have dd1 := zf.cell 1
        simp at dd0 dd1
        refine bodyPost_ret (v := .tuple #[.agg #[.slice b m cc, .int .i64 nx], .int .i64 1]) (by simp [results, Tryz.f24, go_sem, dd0, dd1]) rfl ?_
        exact HPP.out

      | true =>
        obtain rfl : P3 = false := by simpa using hbad
        go_wp2_with fail
        (with_reducible refine hcC.mono ?_)
        rintro e wz ⟨b, m, cc, rfl, zz, hPz⟩
        have HPP : Hid _ := hPz
        have HZZ : Hid _ := zz
        have rr0 := zz.cell 0
        have rr1 := zz.cell 1
        have rf0 := zz.frozen 0
        have rf1 := zz.frozen 1
        simp at rr0 rr1
        clear zz hPz hcC t0 t1
        go_wp2
        have zf := blk2 HZZ.out (.slice b m cc) (.int .i64 nx)
        have dd0 := zf.cell 0
        have dd1 := zf.cell 1
        simp at dd0 dd1
        refine bodyPost_ret (v := .tuple #[.agg #[.slice b m cc, .int .i64 nx], .int .i64 1]) (by simp [results, Tryz.f24, go_sem, dd0, dd1]) rfl ?_
        exact HPP.out

  · rw [if_neg hbad] at hmd
    obtain ⟨htr, rfl, rfl⟩ : treeD nx ds = true ∧ K1 = true ∧ P3 = true := by simpa using hbad
    have hok := tabD_ok (treeD_parts htr).1
    rw [htr]
    have hcS := fileS a n cap nx rs s w3 (HT.out.keep hB3) hs
    rw [HDS.out] at hcS
    obtain ⟨D, c, hDc⟩ : ∃ D c, fileD ds s = (D, c) := ⟨_, _, rfl⟩
    rw [hDc] at hmd hcS
    dsimp only at hmd hcS
    have HDC : Hid _ := hDc
    have HOK : Hid _ := hok
    clear htr hbad hok hDc
    go_wp2_with fail
    (with_reducible refine hcS.mono ?_)
    rintro e w4 ⟨b1, d1, b2, d2, b3, d3, rfl, g4, bb4⟩
    clear hcS t0 t1
    have hs34 := bb4.size
    have zr4 := (zr3.keep bb4).alloc (.cells #[.int .i64 D.ino, .int .i64 D.kind, .int .i64 D.links, .slice b1 D.data.length d1, .slice b2 D.ents.length d2, .slice b3 D.attrs.length d3] 68)
    have zt4 := (zt3.keep bb4).alloc (.cells #[.int .i64 D.ino, .int .i64 D.kind, .int .i64 D.links, .slice b1 D.data.length d1, .slice b2 D.ents.length d2, .slice b3 D.attrs.length d3] 68)
    have hb4' := hB3.trans (bb4.mono hB3.size)
    have hb4 := hb4'.alloc hb4'.size (.cells #[.int .i64 D.ino, .int .i64 D.kind, .int .i64 D.links, .slice b1 D.data.length d1, .slice b2 D.ents.length d2, .slice b3 D.attrs.length d3] 68)
    have zX := Blk.new w4 68 #[.int .i64 D.ino, .int .i64 D.kind, .int .i64 D.links, .slice b1 D.data.length d1, .slice b2 D.ents.length d2, .slice b3 D.attrs.length d3]
    have g5 := g4.keep (Nat.le_refl _) ((Below.refl _ w4).alloc (Nat.le_refl _) (.cells #[.int .i64 D.ino, .int .i64 D.kind, .int .i64 D.links, .slice b1 D.data.length d1, .slice b2 D.ents.length d2, .slice b3 D.attrs.length d3] 68))
    have hlt : w4.heap.size < (w4.alloc (.cells #[.int .i64 D.ino, .int .i64 D.kind, .int .i64 D.links, .slice b1 D.data.length d1, .slice b2 D.ents.length d2, .slice b3 D.attrs.length d3] 68)).heap.size := by simp
    obtain ⟨W4, hW4⟩ : ∃ W, w4.alloc (.cells #[.int .i64 D.ino, .int .i64 D.kind, .int .i64 D.links, .slice b1 D.data.length d1, .slice b2 D.ents.length d2, .slice b3 D.attrs.length d3] 68) = W := ⟨_, rfl⟩
    rw [hW4] at zr4 zt4 hb4 zX g5 hlt
    have t0 := zt4.cell 0
    have t1 := zt4.cell 1
    simp at t0 t1
    clear hb4' g4 bb4 hB3 zr3 zt3
    by_cases hc0 : c = 0
    · subst hc0
      rw [if_neg (by simp)] at hmd
      obtain ⟨hDm, _⟩ := fileD_mem HDC.out
      have hDl : D.links ≤ 1000 ∧ 0 ≤ D.links := by
        have h1 := (HOK.out.2.2.2.2.1 D hDm).1
        unfold inoOk at h1
        simp only [Bool.and_eq_true, decide_eq_true_eq] at h1
        omega
      have hDs : InoSmall D := HSm.out D hDm
      have hcY := spotS a n cap nx rs tp 0 W4 (HT.out.keep hb4) hto
      rw [HDS.out] at hcY
      obtain ⟨Y, nm, q, hYq⟩ : ∃ Y nm q, spotD ds tp 0 = (Y, nm, q) := ⟨_, _, _, rfl⟩
      rw [hYq] at hcY hmd
      dsimp only at hcY hmd
      have HYQ : Hid _ := hYq
      have HZX : Hid _ := zX
      have HZ4 : Hid _ := zr4
      have HZT : Hid _ := zt4
      have HB4 : Hid _ := hb4
      have HG5 : Hid _ := g5
      clear hYq zX zr4 zt4 hb4 g5
      go_wp2_with fail
      (with_reducible refine hcY.mono ?_)
      rintro e w5 ⟨f1, h1, f2, h2, f3, h3, rfl, gY, bb5⟩
      clear hcY t0 t1
      have hs45 := bb5.size
      have bN : Below w5.heap.size w5 (w5.alloc (.cells #[.int .i64 Y.ino, .int .i64 Y.kind, .int .i64 Y.links, .slice f1 Y.data.length h1, .slice f2 Y.ents.length h2, .slice f3 Y.attrs.length h3] 68)) := (Below.refl _ w5).alloc (Nat.le_refl _) _
      have b5 := bb5.trans (bN.mono hs45)
      have zY := Blk.new w5 68 #[.int .i64 Y.ino, .int .i64 Y.kind, .int .i64 Y.links, .slice f1 Y.data.length h1, .slice f2 Y.ents.length h2, .slice f3 Y.attrs.length h3]
      have gY5 := gY.keep (Nat.le_refl _) bN
      have hltY : w5.heap.size < (w5.alloc (.cells #[.int .i64 Y.ino, .int .i64 Y.kind, .int .i64 Y.links, .slice f1 Y.data.length h1, .slice f2 Y.ents.length h2, .slice f3 Y.attrs.length h3] 68)).heap.size := by simp
      obtain ⟨W5, hW5⟩ : ∃ W, w5.alloc (.cells #[.int .i64 Y.ino, .int .i64 Y.kind, .int .i64 Y.links, .slice f1 Y.data.length h1, .slice f2 Y.ents.length h2, .slice f3 Y.attrs.length h3] 68) = W := ⟨_, rfl⟩
      rw [hW5] at b5 zY gY5 hltY
      have zr5 := Blk.keep HZ4.out b5
      have zt5 := Blk.keep HZT.out b5
      have zX5 := Blk.keep HZX.out b5
      have hB5 := HB4.out.trans (b5.mono HB4.out.size)
      have gX5 := InoG.keep HG5.out (Nat.le_of_lt hlt) b5
      have t0 := zt5.cell 0
      have t1 := zt5.cell 1
      simp at t0 t1
      obtain ⟨x0, x1, x2, x3, x4, x5⟩ := zX5.six
      clear gY bb5 bN
      by_cases hq0 : q = 0
      · subst hq0
        rw [if_neg (by simp)] at hmd
        obtain ⟨hYm, hnm⟩ := spot_mem HYQ.out
        have hYs : InoSmall Y := HSm.out Y hYm
        have hY10 := (entsOk_at (ok_parts (HOK.out.2.2.2.2.1 Y hYm).1).2.2.1).1
        have hwk : IntKind.i64.wrap (D.links + 1) = D.links + 1 := wrap_small _ (by omega) (by omega)
        have xf2 := zX5.frozen 2
        have gX := gr_setC W5 w4.heap.size 2 (.int .i64 (D.links + 1))
        have zX6 : Blk (W5.setCell ⟨w4.heap.size, 2, none⟩ (.int .i64 (D.links + 1))) w4.heap.size 68 #[.int .i64 D.ino, .int .i64 D.kind, .int .i64 (D.links + 1), .slice b1 D.data.length d1, .slice b2 D.ents.length d2, .slice b3 D.attrs.length d3] := zX5.set 2 _
        have zY6 := zY.kept gX (by omega)
        have zr6 := zr5.kept gX (by omega)
        have zt6 := zt5.kept gX (by omega)
        have hB6 := hB5.setCell (p := ⟨w4.heap.size, 2, none⟩) (by show w.heap.size ≤ w4.heap.size; omega) (.int .i64 (D.links + 1))
        have gX6 : InoG (W5.setCell ⟨w4.heap.size, 2, none⟩ (.int .i64 (D.links + 1))) w3.heap.size w4.heap.size D (.slice b1 D.data.length d1) (.slice b2 D.ents.length d2) (.slice b3 D.attrs.length d3) := gX5.kept fun k h1 h2 => gX.block k (by have := b5.size; omega) (by simp; omega)
        have gY6 : InoG (W5.setCell ⟨w4.heap.size, 2, none⟩ (.int .i64 (D.links + 1))) W4.heap.size w5.heap.size Y (.slice f1 Y.data.length h1) (.slice f2 Y.ents.length h2) (.slice f3 Y.attrs.length h3) := gY5.kept fun k h1 h2 => gX.block k (by omega) (by simp; omega)
        have y4 := zY6.cell 4
        have z0 := zX6.cell 0
        simp at y4 z0
        have hcP := l6PutS f2 Y.ents.length h2 Y.ents nm D.ino (W5.setCell ⟨w4.heap.size, 2, none⟩ (.int .i64 (D.links + 1))) rfl (by omega) gY6.rds.ents
        have hsz6 : (W5.setCell ⟨w4.heap.size, 2, none⟩ (.int .i64 (D.links + 1))).heap.size = W5.heap.size := by simp [World.setCell]
        obtain ⟨W6, hW6⟩ : ∃ W, W5.setCell ⟨w4.heap.size, 2, none⟩ (.int .i64 (D.links + 1)) = W := ⟨_, rfl⟩
        rw [hW6] at zX6 zY6 zr6 zt6 hB6 gX6 gY6 y4 z0 hcP hsz6
        have HS6 : Hid _ := hsz6
        have HMD : Hid _ := hmd
        clear zX5 zY zr5 zt5 hB5 gX5 gY5 gX t0 t1 hmd hDm hYm hsz6 b5
        go_wp2_with fail
        (with_reducible refine hcP.mono ?_)
        rintro e w7 ⟨g7, c7, rfl, o7, b7⟩
        clear hcP y4 z0 x0 x1 x2 x3 x4 x5 xf2
        have hs67 := b7.size
        have hs6 := HS6.out
        have hg7 := (World.ownsRow.lt o7 g7 rfl).1
        have gY := gr_setC w7 w5.heap.size 4 (.slice (some ⟨g7, 0, none⟩) (Y.ents.length + 1) c7)
        have y4 := (zY6.keep b7).cell 4
        have yf := (zY6.keep b7).frozen 4
        simp at y4
        have zY8 : Blk (w7.setCell ⟨w5.heap.size, 4, none⟩ (.slice (some ⟨g7, 0, none⟩) (Y.ents.length + 1) c7)) w5.heap.size 68 #[.int .i64 Y.ino, .int .i64 Y.kind, .int .i64 Y.links, .slice f1 Y.data.length h1, .slice (some ⟨g7, 0, none⟩) (Y.ents.length + 1) c7, .slice f3 Y.attrs.length h3] := (zY6.keep b7).set 4 _
        have zX8 := (zX6.keep b7).kept gY (by omega)
        have zr8 := (zr6.keep b7).kept gY (by omega)
        have zt8 := (zt6.keep b7).kept gY (by omega)
        have o8 := row_kept o7 gY (fun z hz e => by simp [Value.ownBlock] at hz; simp at e; omega)
        have gX8 : InoG (w7.setCell ⟨w5.heap.size, 4, none⟩ (.slice (some ⟨g7, 0, none⟩) (Y.ents.length + 1) c7)) w3.heap.size w4.heap.size D (.slice b1 D.data.length d1) (.slice b2 D.ents.length d2) (.slice b3 D.attrs.length d3) := (gX6.keep (by omega) b7).kept fun k h1 h2 => gY.block k (by omega) (by simp; omega)
        have gY8 : InoG (w7.setCell ⟨w5.heap.size, 4, none⟩ (.slice (some ⟨g7, 0, none⟩) (Y.ents.length + 1) c7)) W4.heap.size w5.heap.size Y (.slice f1 Y.data.length h1) (.slice f2 Y.ents.length h2) (.slice f3 Y.attrs.length h3) := (gY6.keep (by omega) b7).kept fun k h1 h2 => gY.block k (by omega) (by simp; omega)
        have hB8 : Below w.heap.size w (w7.setCell ⟨w5.heap.size, 4, none⟩ (.slice (some ⟨g7, 0, none⟩) (Y.ents.length + 1) c7)) := (hB6.trans (b7.mono hB6.size)).setCell (p := ⟨w5.heap.size, 4, none⟩) (by show w.heap.size ≤ w5.heap.size; omega) _
        obtain ⟨E, hE⟩ : ∃ E, ({ D with links := D.links + 1 } : InoD) = E := ⟨_, rfl⟩
        obtain ⟨F, hF⟩ : ∃ F, ({ Y with ents := insBy (fun q => gtS nm q.1) Y.ents (nm, D.ino) } : InoD) = F := ⟨_, rfl⟩
        have hEr : InoRd (w7.setCell ⟨w5.heap.size, 4, none⟩ (.slice (some ⟨g7, 0, none⟩) (Y.ents.length + 1) c7)) E b1 b2 b3 := by
          rw [← hE]
          exact ⟨gX8.rds.data, gX8.rds.byt, gX8.rds.ents, gX8.rds.attrs⟩
        have hFr : InoRd (w7.setCell ⟨w5.heap.size, 4, none⟩ (.slice (some ⟨g7, 0, none⟩) (Y.ents.length + 1) c7)) F f1 (some ⟨g7, 0, none⟩) f3 := by
          rw [← hF]
          exact ⟨gY8.rds.data, gY8.rds.byt, (show OwnP 89 _ g7 _ c7 _ from row_lower o8 (Nat.zero_le _)).rd, gY8.rds.attrs⟩
        have hEs : InoSmall E := by rw [← hE]; exact ⟨hDs.data, hDs.ents, hDs.attrs, hDs.entsz, hDs.attrsz⟩
        have hFs : InoSmall F := by
          rw [← hF]
          refine ⟨hYs.data, ?_, hYs.attrs, fun q hq => ?_, hYs.attrsz⟩
          · show (insBy _ _ _).length ≤ _
            rw [insBy_len]
            omega
          · rcases insBy_mem.1 hq with rfl | hq
            · show nm.size ≤ _
              omega
            · exact hYs.entsz q hq
        have e1 : D.ino = E.ino ∧ D.kind = E.kind ∧ D.links + 1 = E.links ∧ D.data.length = E.data.length ∧ D.ents.length = E.ents.length ∧ D.attrs.length = E.attrs.length := by rw [← hE]; exact ⟨rfl, rfl, rfl, rfl, rfl, rfl⟩
        have e2 : Y.ino = F.ino ∧ Y.kind = F.kind ∧ Y.links = F.links ∧ Y.data.length = F.data.length ∧ Y.ents.length + 1 = F.ents.length ∧ Y.attrs.length = F.attrs.length := by rw [← hF]; exact ⟨rfl, rfl, rfl, rfl, (insBy_len _ _ _).symm, rfl⟩
        have HMF : Hid (linkD nx ds s tp = (setD (setD ds E) F, 0)) := by show _ = _; rw [HMD.out, hE, hF]
        have hc1 := setT a n cap nx rs E b1 b2 b3 d1 d2 d3 (w7.setCell ⟨w5.heap.size, 4, none⟩ (.slice (some ⟨g7, 0, none⟩) (Y.ents.length + 1) c7)).drew (HT.out.keep hB8.drew) hEs (hEr.keep (Below.refl _ _).drew)
        rw [HDS.out, ← e1.1, ← e1.2.1, ← e1.2.2.1, ← e1.2.2.2.1, ← e1.2.2.2.2.1, ← e1.2.2.2.2.2] at hc1
        have HK : Hid (∀ W : World, Below (w7.setCell ⟨w5.heap.size, 4, none⟩ (.slice (some ⟨g7, 0, none⟩) (Y.ents.length + 1) c7)).heap.size (w7.setCell ⟨w5.heap.size, 4, none⟩ (.slice (some ⟨g7, 0, none⟩) (Y.ents.length + 1) c7)) W → (W.cell? ⟨w.heap.size, 0, none⟩ = some (.slice a n cap) ∧ W.cell? ⟨w.heap.size, 1, none⟩ = some (.int .i64 nx) ∧ W.cell? ⟨w4.heap.size, 0, none⟩ = some (.int .i64 D.ino) ∧ W.cell? ⟨w4.heap.size, 1, none⟩ = some (.int .i64 D.kind) ∧ W.cell? ⟨w4.heap.size, 2, none⟩ = some (.int .i64 (D.links + 1)) ∧ W.cell? ⟨w4.heap.size, 3, none⟩ = some (.slice b1 D.data.length d1) ∧ W.cell? ⟨w4.heap.size, 4, none⟩ = some (.slice b2 D.ents.length d2) ∧ W.cell? ⟨w4.heap.size, 5, none⟩ = some (.slice b3 D.attrs.length d3) ∧ W.cell? ⟨w5.heap.size, 0, none⟩ = some (.int .i64 Y.ino) ∧ W.cell? ⟨w5.heap.size, 1, none⟩ = some (.int .i64 Y.kind) ∧ W.cell? ⟨w5.heap.size, 2, none⟩ = some (.int .i64 Y.links) ∧ W.cell? ⟨w5.heap.size, 3, none⟩ = some (.slice f1 Y.data.length h1) ∧ W.cell? ⟨w5.heap.size, 4, none⟩ = some (.slice (some ⟨g7, 0, none⟩) (Y.ents.length + 1) c7) ∧ W.cell? ⟨w5.heap.size, 5, none⟩ = some (.slice f3 Y.attrs.length h3)) ∧ Blk W (w.heap.size + 1) 28 #[.slice none 0 0, .int .i64 0] ∧ InoRd W F f1 (some ⟨g7, 0, none⟩) f3) := fun W hW => by
          have p := zX8.keep hW
          have r := zY8.keep hW
          have u := zt8.keep hW
          exact ⟨⟨u.cell 0, u.cell 1, p.cell 0, p.cell 1, p.cell 2, p.cell 3, p.cell 4, p.cell 5, r.cell 0, r.cell 1, r.cell 2, r.cell 3, r.cell 4, r.cell 5⟩, zr8.keep hW, hFr.keep hW⟩
        have HE2 : Hid _ := e2
        have HFs : Hid _ := hFs
        have HEs : Hid _ := hEs
        have HB8 : Hid _ := hB8
        have hne1 : w.heap.size + 1 ≠ w4.heap.size := by omega
        have hne2 : w.heap.size + 1 ≠ w.heap.size := by omega
        have hne3 : w.heap.size + 1 ≠ w5.heap.size := by omega
        obtain ⟨W8, hW8⟩ : ∃ W, w7.setCell ⟨w5.heap.size, 4, none⟩ (.slice (some ⟨g7, 0, none⟩) (Y.ents.length + 1) c7) = W := ⟨_, rfl⟩
        rw [hW8] at hc1 HK HB8
        clear zX6 zY6 zr6 zt6 hB6 gX6 gY6 o7 b7 gY zY8 zX8 zr8 zt8 o8 gX8 gY8 hB8 hE hF hEr hFr hEs hFs e1 e2 HMD hs6 hs67
        go_upto_region 13 with fail
        obtain ⟨⟨k0, k1, k2, k3, k4, k5, k6, k7, k8, k9, k10, k11, k12, k13⟩, _, _⟩ := HK.out W8 (Below.refl _ _)
        clear y4 yf
        go_region_held3 (fun W : World => W.cell? ⟨w.heap.size, 0, none⟩ = some (.slice a n cap) ∧ W.cell? ⟨w.heap.size, 1, none⟩ = some (.int .i64 nx) ∧ W.cell? ⟨w4.heap.size, 0, none⟩ = some (.int .i64 D.ino) ∧ W.cell? ⟨w4.heap.size, 1, none⟩ = some (.int .i64 D.kind) ∧ W.cell? ⟨w4.heap.size, 2, none⟩ = some (.int .i64 (D.links + 1)) ∧ W.cell? ⟨w4.heap.size, 3, none⟩ = some (.slice b1 D.data.length d1) ∧ W.cell? ⟨w4.heap.size, 4, none⟩ = some (.slice b2 D.ents.length d2) ∧ W.cell? ⟨w4.heap.size, 5, none⟩ = some (.slice b3 D.attrs.length d3) ∧ W.cell? ⟨w5.heap.size, 0, none⟩ = some (.int .i64 Y.ino) ∧ W.cell? ⟨w5.heap.size, 1, none⟩ = some (.int .i64 Y.kind) ∧ W.cell? ⟨w5.heap.size, 2, none⟩ = some (.int .i64 Y.links) ∧ W.cell? ⟨w5.heap.size, 3, none⟩ = some (.slice f1 Y.data.length h1) ∧ W.cell? ⟨w5.heap.size, 4, none⟩ = some (.slice (some ⟨g7, 0, none⟩) (Y.ents.length + 1) c7) ∧ W.cell? ⟨w5.heap.size, 5, none⟩ = some (.slice f3 Y.attrs.length h3)) (go_keep) (first
          | (go_at_call 71; (with_reducible refine hc1.mono ?_); rintro e V1 ⟨v, rfl, tA⟩; obtain ⟨ob, om, oc, rs4, rfl, hT4, hD4, b4⟩ := tA.trs (setD_small HSm.out HEs.out) (by have := setD_len ds E; have := HOK.out.2.1; omega); have bW4 : Below W8.heap.size W8 V1 := (Below.refl _ W8).drew.trans b4; obtain ⟨⟨l0, l1, l2, l3, l4, l5, l6, l7, l8, l9, l10, l11, l12, l13⟩, zr9, rF9⟩ := HK.out V1 bW4; have hc2 := setT ob om oc nx rs4 F f1 (some ⟨g7, 0, none⟩) f3 h1 c7 h3 V1 (hT4 V1 (Below.refl _ _)).1 HFs.out rF9; rw [hD4, ← HE2.out.1, ← HE2.out.2.1, ← HE2.out.2.2.1, ← HE2.out.2.2.2.1, ← HE2.out.2.2.2.2.1, ← HE2.out.2.2.2.2.2] at hc2)
          | (go_at_call 71; (with_reducible refine hc2.mono ?_); rintro e wz ⟨v, rfl, tAz⟩; obtain ⟨b, m, cc, rfl, zz, hPz⟩ := hset.out _ _ _ _ tAz (HB8.out.trans (bW4.mono HB8.out.size)) zr9 HMF.out; have bz := tAz.below; obtain ⟨⟨m0, m1, m2, m3, m4, m5, m6, m7, m8, m9, m10, m11, m12, m13⟩, _, _⟩ := HK.out wz (bW4.trans (bz.mono bW4.size)); have rr0 := zz.cell 0; have rr1 := zz.cell 1; have rf0 := zz.frozen 0; have rf1 := zz.frozen 1; simp at rr0 rr1)
          | fail)
        have HPP : Hid _ := hPz
        have HZZ : Hid _ := zz
        clear zz hPz hc1 hc2 k0 k1 k2 k3 k4 k5 k6 k7 k8 k9 k10 k11 k12 k13 l0 l1 l2 l3 l4 l5 l6 l7 l8 l9 l10 l11 l12 l13 m0 m1 m2 m3 m4 m5 m6 m7 m8 m9 m10 m11 m12 m13
        go_wp2
        have zf := blk2 HZZ.out (.slice b m cc) (.int .i64 nx)
        have dd0 := zf.cell 0
        have dd1 := zf.cell 1
        simp at dd0 dd1
        refine bodyPost_ret (v := .tuple #[.agg #[.slice b m cc, .int .i64 nx], .int .i64 0]) (by simp [results, Tryz.f24, go_sem, dd0, dd1]) rfl ?_
        exact HPP.out
      · rw [if_pos hq0] at hmd
        have hcC := href.out W5 q hB5 zr5 hmd
        have hcb : (q != 0) = true := by simpa using hq0
        have hcb' : (q == 0) = false := by simpa using hq0
        clear hmd zr5 zt5 hB5 zX5 zY gX5 gY5
        go_wp2_with fail
        (with_reducible refine hcC.mono ?_)
        rintro e wz ⟨b, m, cc, rfl, zz, hPz⟩
        have HPP : Hid _ := hPz
        have HZZ : Hid _ := zz
        have rr0 := zz.cell 0
        have rr1 := zz.cell 1
        have rf0 := zz.frozen 0
        have rf1 := zz.frozen 1
        simp at rr0 rr1
        clear zz hPz hcC t0 t1 x0 x1 x2 x3 x4 x5
        go_wp2
        have zf := blk2 HZZ.out (.slice b m cc) (.int .i64 nx)
        have dd0 := zf.cell 0
        have dd1 := zf.cell 1
        simp at dd0 dd1
        refine bodyPost_ret (v := .tuple #[.agg #[.slice b m cc, .int .i64 nx], .int .i64 q]) (by simp [results, Tryz.f24, go_sem, dd0, dd1]) rfl ?_
        exact HPP.out

    · rw [if_pos hc0] at hmd
      have hcC := href.out W4 c hb4 zr4 hmd
      have hcb : (c != 0) = true := by simpa using hc0
      have hcb' : (c == 0) = false := by simpa using hc0
      clear hmd zr4 zt4 hb4 zX g5
      go_wp2_with fail
      (with_reducible refine hcC.mono ?_)
      rintro e wz ⟨b, m, cc, rfl, zz, hPz⟩
      have HPP : Hid _ := hPz
      have HZZ : Hid _ := zz
      have rr0 := zz.cell 0
      have rr1 := zz.cell 1
      have rf0 := zz.frozen 0
      have rf1 := zz.frozen 1
      simp at rr0 rr1
      clear zz hPz hcC t0 t1
      go_wp2
      have zf := blk2 HZZ.out (.slice b m cc) (.int .i64 nx)
      have dd0 := zf.cell 0
      have dd1 := zf.cell 1
      simp at dd0 dd1
      refine bodyPost_ret (v := .tuple #[.agg #[.slice b m cc, .int .i64 nx], .int .i64 c]) (by simp [results, Tryz.f24, go_sem, dd0, dd1]) rfl ?_
      exact HPP.out
end

section
open Go.RowKit
def notR (z : ByteArray) : Bool := (parentOf z.data.toList).2.2
theorem all_drop_s {l : List ByteArray} {k : Nat} (h : k < l.length) : (l.drop k).all notR = (notR l[k] && (l.drop (k + 1)).all notR) := by
  rw [List.drop_eq_getElem_cons h, List.all_cons]
set_option maxRecDepth 100000 in
set_option maxHeartbeats 1000000 in
theorem notRootI (a : Option Addr) (n cap : Nat) (zs : List ByteArray) (w : World) (hn : zs.length = n) (hs : n ≤ 100) (hz : ∀ z ∈ zs, z.size ≤ 4000000) (hr : RdS w a zs) :
    Calls Tryz.prog 221 #[.slice a n cap] w fun e w' => e = .returned (errV (if zs.all notR = true then 0 else 1)) ∧ Below w.heap.size w w' := by
  obtain ⟨R, hR⟩ : ∃ R, zs.all notR = R := ⟨_, rfl⟩
  rw [hR]
  obtain ⟨V, hV⟩ : ∃ V, errV (if R = true then 0 else 1) = V := ⟨_, rfl⟩
  rw [hV]
  have HV : Hid _ := hV
  clear hV
  have HR : Hid ((zs.drop 0).all notR = R) := hR
  have HN : Hid _ := hn
  have HZ : Hid _ := hz
  have HRS : Hid _ := hr
  clear hR hn hz hr
  go_enter Tryz.func221, Tryz.ntmps221
  go_wp2
  go_loopw [10] (fun i wr => ∃ k : Nat, k ≤ n ∧ i = .int .i64 k ∧ Hid ((zs.drop k).all notR = R) ∧ Hid (Below w.heap.size w wr)) (fun i _ => n - (intOf i).toNat)
  case atStart => exact ⟨0, Nat.zero_le _, rfl, HR, Below.refl _ _⟩
  case round =>
    obtain ⟨k, hk, rfl, hall, hB⟩ := hrel
    clear HR
    by_cases hkn : k < n
    · have hki : (k : Int) < (n : Int) := by omega
      have hk0 : (0 : Int) ≤ (k : Int) := by omega
      have hkl : k < zs.length := by rw [HN.out]; exact hkn
      obtain ⟨b, off, rfl, hlt, hc⟩ := RdS.lt (RdS.keep HRS.out hB.out) (by intro h; rw [h] at hkl; simp at hkl)
      have n0 := hc k hkl
      rw [List.getD_eq_getElem?_getD, List.getElem?_eq_getElem hkl, Option.getD_some] at n0
      have hall' := hall.out
      rw [all_drop_s hkl] at hall'
      have hsz := HZ.out zs[k] (List.getElem_mem hkl)
      obtain ⟨z, hzz⟩ : ∃ z, zs[k] = z := ⟨_, rfl⟩
      rw [hzz] at n0 hall' hsz
      have hcP := parentI z wr hsz
      have hnz : notR z = (parentOf z.data.toList).2.2 := rfl
      rw [hnz] at hall'
      unfold PaPost at hcP
      obtain ⟨p1, hp1⟩ : ∃ p, strB (parentOf z.data.toList).1 = p := ⟨_, rfl⟩
      obtain ⟨p2, hp2⟩ : ∃ p, strB (parentOf z.data.toList).2.1 = p := ⟨_, rfl⟩
      rw [hp1, hp2] at hcP
      clear hc hzz hkl hall hnz hp1 hp2 hlt
      cases hb : (parentOf z.data.toList).2.2 with
      | false =>
        rw [hb] at hcP hall'
        rw [Bool.false_and] at hall'
        have hend : Hid (.iface 155 (.int .i64 1) = V) := by show _ = _; rw [← HV.out, ← hall']; rfl
        clear hall' hb
        go_wp2_with fail
        (with_reducible refine hcP.mono ?_)
        rintro e w1 ⟨b1, rfl⟩
        have hB1 : Hid _ := hB.out.trans (b1.mono hB.out.size)
        clear hcP n0 b1
        go_wp2
        go_ret
        exact ⟨congrArg Ending.returned hend.out, hB1.out⟩
      | true =>
        rw [hb] at hcP hall'
        rw [Bool.true_and] at hall'
        have hnx : Hid _ := hall'
        clear hall' hb
        go_wp2_with fail
        (with_reducible refine hcP.mono ?_)
        rintro e w1 ⟨b1, rfl⟩
        have hB1 : Hid _ := hB.out.trans (b1.mono hB.out.size)
        clear hcP n0 b1
        go_wp2
        go_roundw
        case rel => exact ⟨k + 1, by omega, by go_num, hnx, hB1⟩
        case measure => simp [intOf]; omega
    · have hki : ¬ (k : Int) < (n : Int) := by omega
      have hend : Hid (.nilIface = V) := by
        have h1 := hall.out
        rw [List.drop_of_length_le (by rw [HN.out]; omega)] at h1
        show _ = _
        rw [← HV.out, ← h1]
        rfl
      go_wp2
      go_ret
      exact ⟨congrArg Ending.returned hend.out, hB.out⟩
end

section
open Go.RowKit
theorem strs_row {W : World} {g : Nat} {z : ByteArray} (h : Blk W g 9 #[.string z]) : RdS W (some ⟨g, 0, none⟩) [z] := by
  refine .inr ⟨g, 0, rfl, fun i hi => ?_⟩
  have : i = 0 := by simp at hi; omega
  subst this
  exact h.cell 0
theorem wrap_small' {x : Int} (h0 : -1 ≤ x) (h1 : x ≤ 1000000) : IntKind.i64.wrap x = x := by rw [IntKind.wrap_i64]; omega
theorem inoG_links {W : World} {B T : Nat} {D : InoD} {v1 v2 v3 : Value} (l : Int) (g : InoG W B T D v1 v2 v3) : InoG W B T { D with links := l } v1 v2 v3 := ⟨g.data, g.byt, g.ents, g.attrs, g.within⟩
theorem inoG_kp {W V : World} {B T : Nat} {D : InoD} {v1 v2 v3 : Value} (g : InoG W B T D v1 v2 v3) (hk : KpT W V [5, 89, 75]) : InoG V 0 V.heap.size D v1 v2 v3 := by
  have h1 : OwnV 0 V v1 D.data.length D.data := row_kp g.data hk (by decide)
  have h2 : OwnQ 89 V v2 D.ents.length (eP D.ents) := row_kp g.ents hk (by decide)
  have h3 : OwnQ 75 V v3 D.attrs.length (aP D.attrs) := row_kp g.attrs hk (by decide)
  refine ⟨h1, g.byt, h2, h3, fun m hm => ⟨Nat.zero_le _, ?_⟩⟩
  rcases hm with hm | hm | hm
  · exact (World.ownsRow.lt h1 m hm).2
  · exact (World.ownsRow.lt h2 m hm).2
  · exact (World.ownsRow.lt h3 m hm).2
end

section
open Go.RowKit
set_option maxRecDepth 100000 in
set_option maxHeartbeats 4000000 in
theorem wrap_HardLink (a : Option Addr) (n cap : Nat) (nx : Int) (s tt : ByteArray) (w : World) (N : Int) (D : List InoD) (C : Int)
    (hc : ∀ W : World, Below w.heap.size w W → Calls Tryz.prog 61 #[.agg #[.slice a n cap, .int .i64 nx], .int .i64 6, .agg #[.string s, .string tt, .int .i64 0, .slice none 0 0, .string ⟨#[]⟩, .string ⟨#[]⟩]] W fun e w' => TabC W N D C e w') :
    Calls Tryz.prog 25 #[.agg #[.slice a n cap, .int .i64 nx], .string s, .string tt] w fun e w' => TabC w N D C e w' := by
  have B0 : Below w.heap.size w ((w.alloc (.cells #[.slice a n cap, .int .i64 nx] 28)).alloc (.cells #[.slice none 0 0, .int .i64 0] 28)) := ((Below.refl _ w).alloc (Nat.le_refl _) _).alloc (by simp) _
  have zR := Blk.new (w.alloc (.cells #[.slice a n cap, .int .i64 nx] 28)) 28 #[.slice none 0 0, .int .i64 0]
  simp only [World.size_alloc] at zR
  go_enter Tryz.func25, Tryz.ntmps25
  go_wp2_with fail
  obtain ⟨W0, hW0⟩ : ∃ W, ((w.alloc (.cells #[.slice a n cap, .int .i64 nx] 28)).alloc (.cells #[.slice none 0 0, .int .i64 0] 28)) = W := ⟨_, rfl⟩
  rw [hW0] at B0 zR ⊢
  clear hW0
  (with_reducible refine (hc W0 B0).mono ?_)
  intro e w2 hp
  obtain ⟨ra, rn, rc, rfl, zz, hfin⟩ := tabC_box hp B0 (by omega) zR
  have HFIN : Hid (TabC w N D C (.returned (.tuple #[.agg #[.slice ra rn rc, .int .i64 N], .int .i64 C])) ((w2.setCell ⟨w.heap.size + 1, 0, none⟩ (.slice ra rn rc)).setCell ⟨w.heap.size + 1, 1, none⟩ (.int .i64 N))) := hfin
  have r0 := zz.cell 0
  have r1 := zz.cell 1
  have f0 := zz.frozen 0
  have f1 := zz.frozen 1
  simp at r0 r1
  have zf := blk2 zz (.slice ra rn rc) (.int .i64 N)
  have dd0 := zf.cell 0
  have dd1 := zf.cell 1
  simp at dd0 dd1
  clear hp hfin zf zz zR B0 hc
  go_wp2
  refine bodyPost_ret (v := .tuple #[.agg #[.slice ra rn rc, .int .i64 N], .int .i64 C]) (by simp [results, Tryz.f25, go_sem, dd0, dd1]) rfl ?_
  exact HFIN.out
end

section
open Go.RowKit
theorem stat_form {ds : List InoD} {s : ByteArray} (h : (splitOf s.data.toList).isSome = false) : (statD ds s).2 = 1 := by
  have h0 : splitOf s.data.toList = none := by simpa using h
  unfold statD walkP
  rw [h0]
  rfl
theorem file_form {ds : List InoD} {s : ByteArray} (h : (splitOf s.data.toList).isSome = false) : (fileD ds s).2 = 1 := by
  have h1 := stat_form (ds := ds) h
  unfold fileD
  rw [h1, if_neg (by simp)]
  exact h1
end

section
open Go.RowKit
theorem gr_own {w wr w' : World} {g0 : Nat} {r : Option Nat} (h : w.grownBy wr (some g0)) (hr : ∀ g, r = some g → w.heap.size ≤ g) (k : wr.grownBy w' r) : w.grownBy w' (some g0) := by
  refine ⟨k.os.trans h.os, k.tape.trans h.tape, k.output.trans h.output, Nat.le_trans h.size k.size, fun i hi hne => ?_⟩
  rw [k.block i (by have := h.size; omega) (by intro e; have := hr i e.symm; omega), h.block i hi hne]
/-- The state of a draw: the cursor gc; the answer's box, the inode's X, the names' N; its lists. -/
structure DI (w W : World) (gc sn scap : Nat) (sa : Option Addr) (zs : List Int) (X N : Nat) (nm : Array Value) (xs : Array Value) (v1 : Value) (dz : List Int) (v2 : Value) (es : List (ByteArray × Int)) (v3 : Value) (ats : List (ByteArray × ByteArray)) : Prop where
  src : Src W gc sn scap sa zs
  gr : w.grownBy W (some gc)
  hgc : gc < w.heap.size
  res : Blk W w.heap.size 68 #[.int .i64 0, .int .i64 0, .int .i64 0, .slice none 0 0, .slice none 0 0, .slice none 0 0]
  x : Blk W X 68 xs
  hX : w.heap.size < X
  nm : Blk W N 9 nm
  d : W.ownsRow w.heap.size 5 1 v1 dz.length (dz.map (Value.int .u8))
  e : W.ownsRow w.heap.size 89 2 v2 es.length (pv (eP es))
  t : W.ownsRow w.heap.size 75 2 v3 ats.length (pv (aP ats))
section
variable {w W W' : World} {gc sn scap : Nat} {sa : Option Addr} {zs : List Int} {X N : Nat} {nm xs : Array Value} {v1 : Value} {dz : List Int} {v2 : Value} {es : List (ByteArray × Int)} {v3 : Value} {ats : List (ByteArray × ByteArray)}
theorem DI.kp (h : DI w W gc sn scap sa zs X N nm xs v1 dz v2 es v3 ats) (k : KpT W W' [68, 5, 89, 75, 9]) (hs : Src W' gc sn scap sa zs) (hg : w.grownBy W' (some gc)) : DI w W' gc sn scap sa zs X N nm xs v1 dz v2 es v3 ats :=
  ⟨hs, hg, h.hgc, h.res.kp k (by decide), h.x.kp k (by decide), h.hX, h.nm.kp k (by decide), row_kp h.d k (by decide), row_kp h.e k (by decide), row_kp h.t k (by decide)⟩
theorem DI.cur (h : DI w W gc sn scap sa zs X N nm xs v1 dz v2 es v3 ats) (hs : Src W' gc sn scap sa zs) (hg : W.grownBy W' (some gc)) : DI w W' gc sn scap sa zs X N nm xs v1 dz v2 es v3 ats := by
  obtain ⟨i, hh, _, hb⟩ := h.src.cur
  exact h.kp (KpT.grown (t := 151) hg hb (by decide)) hs (h.gr.trans hg)
theorem DI.al (h : DI w W gc sn scap sa zs X N nm xs v1 dz v2 es v3 ats) (o : Obj) : DI w (W.alloc o) gc sn scap sa zs X N nm xs v1 dz v2 es v3 ats :=
  h.kp (KpT.below ((Below.refl _ W).alloc (Nat.le_refl _) o) _) (h.src.alloc o) (h.gr.trans (World.grownBy_alloc W o (some gc)))
theorem DI.setX (h : DI w W gc sn scap sa zs X N nm xs v1 dz v2 es v3 ats) (j : Nat) (v : Value) : DI w (W.setCell ⟨X, j, none⟩ v) gc sn scap sa zs X N nm (xs.setIfInBounds j v) v1 dz v2 es v3 ats := by
  have k : KpT W (W.setCell ⟨X, j, none⟩ v) [5, 89, 75, 9] := KpT.grown (gr_setC W X j v) h.x (by decide)
  have hx := h.hX
  have hc := h.hgc
  exact ⟨h.src.other (gr_setC W X j v) (by omega), gr_own h.gr (fun g hg => by simp at hg; omega) (gr_setC W X j v), h.hgc, h.res.other (Nat.ne_of_lt h.hX) j v, h.x.set j v, h.hX, h.nm.kp k (by decide), row_kp h.d k (by decide), row_kp h.e k (by decide), row_kp h.t k (by decide)⟩
theorem DI.appE (h : DI w W gc sn scap sa zs X N nm xs v1 dz v2 es v3 ats) (o : Obj) (hg : (W.alloc o).grownBy W' v2.ownBlock) (v2' : Value) (es' : List (ByteArray × Int)) (ho : W'.ownsRow w.heap.size 89 2 v2' es'.length (pv (eP es'))) : DI w W' gc sn scap sa zs X N nm xs v1 dz v2' es' v3 ats := by
  have ha := h.al o
  have hc := h.hgc
  have hv : ∀ g, v2.ownBlock = some g → w.heap.size ≤ g := fun g hk => (World.ownsRow.lt ha.e g hk).1
  have k : KpT (W.alloc o) W' [68, 5, 75, 9] := KpT.row hg ha.e (by decide)
  exact ⟨ha.src.own hg (fun g hk => by have := hv g hk; omega), gr_own ha.gr hv hg, h.hgc, ha.res.kp k (by decide), ha.x.kp k (by decide), h.hX, ha.nm.kp k (by decide), row_kp ha.d k (by decide), ho, row_kp ha.t k (by decide)⟩
theorem DI.appA (h : DI w W gc sn scap sa zs X N nm xs v1 dz v2 es v3 ats) (o : Obj) (hg : (W.alloc o).grownBy W' v3.ownBlock) (v3' : Value) (ats' : List (ByteArray × ByteArray)) (ho : W'.ownsRow w.heap.size 75 2 v3' ats'.length (pv (aP ats'))) : DI w W' gc sn scap sa zs X N nm xs v1 dz v2 es v3' ats' := by
  have ha := h.al o
  have hc := h.hgc
  have hv : ∀ g, v3.ownBlock = some g → w.heap.size ≤ g := fun g hk => (World.ownsRow.lt ha.t g hk).1
  have k : KpT (W.alloc o) W' [68, 5, 89, 9] := KpT.row hg ha.t (by decide)
  exact ⟨ha.src.own hg (fun g hk => by have := hv g hk; omega), gr_own ha.gr hv hg, h.hgc, ha.res.kp k (by decide), ha.x.kp k (by decide), h.hX, ha.nm.kp k (by decide), row_kp ha.d k (by decide), row_kp ha.e k (by decide), ho⟩
end
end

section
open Go.RowKit
/-- A file that is set anew, as a file: a walk does not see it. -/
theorem walkD_file {ds : List InoD} {N M : InoD} (hN : look ds N.ino = some M) (h1 : M.kind ≠ 2) (h2 : N.kind ≠ 2) : ∀ (l : List ByteArray) (x : Int), walkD (setD ds N) x l = walkD ds x l
  | [], x => rfl
  | nm :: l, x => by
    unfold walkD
    rw [look_setD]
    by_cases hx : x = N.ino
    · rw [if_pos hx, hx, hN]
      dsimp only
      rw [if_neg h1, if_neg h2]
    · rw [if_neg hx]
      cases hl : look ds x with
      | none => rfl
      | some D =>
        dsimp only
        rw [walkD_file hN h1 h2 l]
theorem badK_filed {ds : List InoD} {N M : InoD} (hN : look ds N.ino = some M) (h1 : M.kind = 1) (h2 : N.kind = 1) (s : ByteArray) : badK 1 (setD ds N) s = badK 1 ds s := by
  have hw : walkP (setD ds N) s = walkP ds s := by
    unfold walkP
    cases splitOf s.data.toList with
    | none => rfl
    | some l => exact walkD_file hN (by omega) (by omega) _ 1
  unfold badK statD
  rw [hw, look_setD]
  by_cases h0 : (walkP ds s).2 = 0
  · rw [if_pos h0, if_pos h0]
    by_cases hx : (walkP ds s).1 = N.ino
    · rw [if_pos hx, hx, hN]
      dsimp only
      rw [if_pos ⟨rfl, h2⟩, if_pos ⟨rfl, h1⟩]
    · rw [if_neg hx]
  · rw [if_neg h0, if_neg h0]
end

section
open Go.RowKit
def linkC (ds : List InoD) (p q : ByteArray) : Int := if notR q = false then 1 else if (badK 2 ds p).2 ≠ 0 then (badK 2 ds p).2 else if (dirFor ds q).2 ≠ 0 then (dirFor ds q).2 else if 10 ≤ (dirFor ds q).1.ents.length then 5 else 0
def linkT (ds : List InoD) (p q : ByteArray) : List InoD := setD (setD ds { (badK 2 ds p).1 with links := (badK 2 ds p).1.links + 1 }) { (dirFor ds q).1 with ents := insBy (fun x => gtS (strB (parentOf q.data.toList).2.1) x.1) (dirFor ds q).1.ents (strB (parentOf q.data.toList).2.1, (badK 2 ds p).1.ino) }
theorem badK_kind {ds : List InoD} {s : ByteArray} {D : InoD} {kd : Int} (h : badK kd ds s = (D, 0)) : D.kind ≠ kd ∧ statD ds s = (D, 0) := by
  unfold badK at h
  split at h
  · cases h
  · rename_i hc
    refine ⟨fun hk => hc ⟨by rw [h], by rw [h]; exact hk⟩, h⟩
set_option maxRecDepth 100000 in
set_option maxHeartbeats 4000000 in
theorem linkM (a : Option Addr) (n cap : Nat) (nx : Int) (rs : List InoR) (p q : ByteArray) (k : Int) (da : Option Addr) (dn dc : Nat) (an av : ByteArray) (w : World) (ht : TR w a n rs) (htr : treeD nx (rs.map InoR.D) = true) (hs : p.size ≤ 1048576) (hs1 : q.size ≤ 1048576) :
    Calls Tryz.prog 173 #[.agg #[.slice a n cap, .int .i64 nx], .agg #[.string p, .string q, .int .i64 k, .slice da dn dc, .string an, .string av]] w fun e w' => EMeth w nx (linkT (rs.map InoR.D) p q) (linkC (rs.map InoR.D) p q) e w' := by
  have B0 : Below w.heap.size w (((w.alloc (.cells #[.slice a n cap, .int .i64 nx] 28)).alloc (.cells #[.string p, .string q, .int .i64 k, .slice da dn dc, .string an, .string av] 77)).alloc (.cells #[.slice none 0 0, .int .i64 0] 28)) := (((Below.refl _ w).alloc (Nat.le_refl _) _).alloc (by simp) _).alloc (by simp; omega) _
  have zT := ((Blk.new w 28 #[.slice a n cap, .int .i64 nx]).alloc (.cells #[.string p, .string q, .int .i64 k, .slice da dn dc, .string an, .string av] 77)).alloc (.cells #[.slice none 0 0, .int .i64 0] 28)
  have zC := (Blk.new (w.alloc (.cells #[.slice a n cap, .int .i64 nx] 28)) 77 #[.string p, .string q, .int .i64 k, .slice da dn dc, .string an, .string av]).alloc (.cells #[.slice none 0 0, .int .i64 0] 28)
  have zR := Blk.new ((w.alloc (.cells #[.slice a n cap, .int .i64 nx] 28)).alloc (.cells #[.string p, .string q, .int .i64 k, .slice da dn dc, .string an, .string av] 77)) 28 #[.slice none 0 0, .int .i64 0]
  simp only [World.size_alloc] at zC zR
  have bN : Below w.heap.size w ((((w.alloc (.cells #[.slice a n cap, .int .i64 nx] 28)).alloc (.cells #[.string p, .string q, .int .i64 k, .slice da dn dc, .string an, .string av] 77)).alloc (.cells #[.slice none 0 0, .int .i64 0] 28)).alloc (.cells #[.string q] 9)) := B0.alloc B0.size _
  have zN := Blk.new (((w.alloc (.cells #[.slice a n cap, .int .i64 nx] 28)).alloc (.cells #[.string p, .string q, .int .i64 k, .slice da dn dc, .string an, .string av] 77)).alloc (.cells #[.slice none 0 0, .int .i64 0] 28)) 9 #[.string q]
  simp only [World.size_alloc] at zN
  have zTn := zT.alloc (.cells #[.string q] 9)
  have zCn := zC.alloc (.cells #[.string q] 9)
  have zRn := zR.alloc (.cells #[.string q] 9)
  have c0 := zC.cell 0
  have c1 := zC.cell 1
  simp at c0 c1
  obtain ⟨hK, hwf, hwe⟩ := tree_facts htr
  obtain ⟨f4, f5, f6⟩ := tree_more htr
  have hps := parent_size q
  have hnz : (strB (parentOf q.data.toList).2.1).size ≤ 1048576 := by have := (parent_small q.data.toList).2; rw [strB_size]; omega
  have hcF := fun (W : World) (hW : Below w.heap.size w W) => fileI a n cap nx rs p W (ht.keep hW) hK hwf hwe (by omega)
  have hcE := fun (W : World) (hW : Below w.heap.size w W) => dirForI a n cap nx rs q W (ht.keep hW) hK hwf hwe (by omega)
  have hlen : (rs.map InoR.D).length = n := by rw [List.length_map, ht.len]
  have HTR : Hid _ := htr
  obtain ⟨ds, hds⟩ : ∃ ds, rs.map InoR.D = ds := ⟨_, rfl⟩
  rw [hds] at hcF hcE HTR f4 f5 f6 hlen ⊢
  have HDS : Hid _ := hds
  have HT : Hid _ := ht
  have HKK : Hid (∀ D ∈ ds, D.kind = 1 ∨ D.kind = 2) := fun D hD => by rw [← hds] at hD; obtain ⟨r, hr, rfl⟩ := List.mem_map.1 hD; exact hK r hr
  have HWF : Hid (∀ D ∈ ds, (Lit.int .i64 D.ino).wf = true) := fun D hD => by rw [← hds] at hD; obtain ⟨r, hr, rfl⟩ := List.mem_map.1 hD; exact hwf r hr
  have HWE : Hid (∀ D ∈ ds, ∀ e ∈ D.ents, (Lit.int .i64 e.2).wf = true) := fun D hD => by rw [← hds] at hD; obtain ⟨r, hr, rfl⟩ := List.mem_map.1 hD; exact hwe r hr
  have HSM : Hid (∀ D ∈ ds, InoSmall D) := fun D hD => by rw [← hds] at hD; obtain ⟨r, hr, rfl⟩ := List.mem_map.1 hD; exact ht.small r hr
  obtain ⟨CO, hCO⟩ : ∃ c, linkC ds p q = c := ⟨_, rfl⟩
  obtain ⟨TT, hTT⟩ : ∃ c, linkT ds p q = c := ⟨_, rfl⟩
  rw [hCO, hTT]
  unfold linkC at hCO
  unfold linkT at hTT
  have HMEM : Hid _ := @badK_mem 2 ds p
  obtain ⟨D, c, hDc⟩ : ∃ D c, badK 2 ds p = (D, c) := ⟨_, _, rfl⟩
  obtain ⟨E, c2, hEc⟩ : ∃ D c, dirFor ds q = (D, c) := ⟨_, _, rfl⟩
  rw [hDc] at hcF hCO hTT HMEM
  rw [hEc] at hcE hCO hTT
  dsimp only at hcF hcE hCO hTT HMEM
  have HDC : Hid _ := hDc
  have HEC : Hid _ := hEc
  have HTT : Hid _ := hTT
  have HLL : Hid _ := hlen
  have HF4 : Hid _ := f4
  have HF5 : Hid _ := f5
  have HF6 : Hid _ := f6
  have HCE : Hid _ := hcE
  have hcn := notRootI (some ⟨_, 0, none⟩) 1 1 [q] _ rfl (by omega) (fun z hz => by simp at hz; rw [hz]; omega) (strs_row zN)
  simp only [List.all_cons, List.all_nil, Bool.and_true] at hcn
  clear hTT hDc hEc ht hK hwf hwe hds htr hlen f4 f5 f6 hcE
  go_enter Tryz.func173, Tryz.ntmps173
  go_wp2_with fail
  obtain ⟨Wz, hWz⟩ : ∃ W, (((w.alloc (.cells #[.slice a n cap, .int .i64 nx] 28)).alloc (.cells #[.string p, .string q, .int .i64 k, .slice da dn dc, .string an, .string av] 77)).alloc (.cells #[.slice none 0 0, .int .i64 0] 28)).alloc (.cells #[.string q] 9) = W := ⟨_, rfl⟩
  rw [hWz] at bN zN zTn zCn zRn hcn ⊢
  clear hWz zT zC zR B0 c0 c1 zN
  (with_reducible refine hcn.mono ?_)
  rintro e w1 ⟨rfl, b1⟩
  have zt1 := zTn.keep b1
  have zc1 := zCn.keep b1
  have zr1 := zRn.keep b1
  have hb1 := bN.trans (b1.mono bN.size)
  have c0 := zc1.cell 0
  have c1 := zc1.cell 1
  have t0 := zt1.cell 0
  have t1 := zt1.cell 1
  have r0 := zr1.cell 0
  have r1 := zr1.cell 1
  have f0 := zr1.frozen 0
  have f1 := zr1.frozen 1
  simp at c0 c1 t0 t1 r0 r1
  clear hcn zTn zCn zRn bN b1
  cases hnr : notR q with
  | false =>
    rw [hnr, if_pos rfl] at hCO
    subst hCO
    rw [if_neg (by decide), errV_some (by decide)]
    clear hnr hcF
    have hend : Hid (EMeth w nx TT 1 (.returned (.tuple #[.agg #[.slice none 0 0, .int .i64 0], .iface 155 (.int .i64 1)])) ((w1.setCell ⟨w.heap.size + 1 + 1, 0, none⟩ (.slice none 0 0)).setCell ⟨w.heap.size + 1 + 1, 1, none⟩ (.int .i64 0))) := eMeth_no (by decide) ((hb1.setCell (p := ⟨w.heap.size + 1 + 1, 0, none⟩) (by show _ ≤ w.heap.size + 1 + 1; omega) _).setCell (p := ⟨w.heap.size + 1 + 1, 1, none⟩) (by show _ ≤ w.heap.size + 1 + 1; omega) _)
    have zf := blk2 zr1 (.slice none 0 0) (.int .i64 0)
    have dd0 := zf.cell 0
    have dd1 := zf.cell 1
    simp at dd0 dd1
    clear zf
    go_wp2
    refine bodyPost_ret (v := .tuple #[.agg #[.slice none 0 0, .int .i64 0], .iface 155 (.int .i64 1)]) (by simp [results, Tryz.f173, go_sem, dd0, dd1]) rfl ?_
    exact hend.out
  | true =>
    rw [hnr, if_neg (by decide)] at hCO
    rw [if_pos rfl, errV_zero]
    have hcf := hcF w1 hb1
    clear hcF hnr
    go_wp2_with fail
    (with_reducible refine hcf.mono ?_)
    rintro e w2 ⟨b1, d1, b2, d2, b3, d3, rfl, g2, bb2⟩
    have zt := (zt1.keep bb2).alloc (.cells #[.int .i64 D.ino, .int .i64 D.kind, .int .i64 D.links, .slice b1 D.data.length d1, .slice b2 D.ents.length d2, .slice b3 D.attrs.length d3] 68)
    have zc := (zc1.keep bb2).alloc (.cells #[.int .i64 D.ino, .int .i64 D.kind, .int .i64 D.links, .slice b1 D.data.length d1, .slice b2 D.ents.length d2, .slice b3 D.attrs.length d3] 68)
    have zr := (zr1.keep bb2).alloc (.cells #[.int .i64 D.ino, .int .i64 D.kind, .int .i64 D.links, .slice b1 D.data.length d1, .slice b2 D.ents.length d2, .slice b3 D.attrs.length d3] 68)
    have hb2 := hb1.trans (bb2.mono hb1.size)
    have hb3 := hb2.alloc hb2.size (.cells #[.int .i64 D.ino, .int .i64 D.kind, .int .i64 D.links, .slice b1 D.data.length d1, .slice b2 D.ents.length d2, .slice b3 D.attrs.length d3] 68)
    have hbA : Below w2.heap.size w2 (w2.alloc (.cells #[.int .i64 D.ino, .int .i64 D.kind, .int .i64 D.links, .slice b1 D.data.length d1, .slice b2 D.ents.length d2, .slice b3 D.attrs.length d3] 68)) := (Below.refl _ w2).alloc (Nat.le_refl _) _
    have zX := Blk.new w2 68 #[.int .i64 D.ino, .int .i64 D.kind, .int .i64 D.links, .slice b1 D.data.length d1, .slice b2 D.ents.length d2, .slice b3 D.attrs.length d3]
    have g3 := g2.keep (Nat.le_refl _) hbA
    have hsR : w.heap.size + 1 + 1 < w2.heap.size := (zr1.keep bb2).lt
    obtain ⟨X, hX⟩ : ∃ X, w2.heap.size = X := ⟨_, rfl⟩
    obtain ⟨W3, hW3⟩ : ∃ W, w2.alloc (.cells #[.int .i64 D.ino, .int .i64 D.kind, .int .i64 D.links, .slice b1 D.data.length d1, .slice b2 D.ents.length d2, .slice b3 D.attrs.length d3] 68) = W := ⟨_, rfl⟩
    rw [hW3] at zt zc zr hb3 zX g3
    rw [hX] at zX g3 hsR
    have HZT : Hid _ := zt
    have HZC : Hid _ := zc
    have HZR : Hid _ := zr
    have HB3 : Hid _ := hb3
    have HG3 : Hid _ := g3
    have HZX : Hid _ := zX
    have r0 := zr.cell 0
    have r1 := zr.cell 1
    have f0 := zr.frozen 0
    have f1 := zr.frozen 1
    have c0 := zc.cell 0
    have c1 := zc.cell 1
    have t0 := zt.cell 0
    have t1 := zt.cell 1
    simp at r0 r1 c0 c1 t0 t1
    clear hcf zt1 zc1 zr1 g2 bb2 hb2 hbA hb1 zt zc zr hb3 g3 zX
    by_cases hc0 : c = 0
    · subst hc0
      rw [if_neg (by simp)] at hCO
      rw [errV_zero]
      have hce := HCE.out W3 HB3.out
      clear HCE
      go_wp2_with fail
      (with_reducible refine hce.mono ?_)
      rintro e w4 ⟨e1, g1, e2, g2, e3, g3, rfl, gE, b4⟩
      have zt := (Blk.keep HZT.out b4).alloc (.cells #[.int .i64 E.ino, .int .i64 E.kind, .int .i64 E.links, .slice e1 E.data.length g1, .slice e2 E.ents.length g2, .slice e3 E.attrs.length g3] 68)
      have zc := (Blk.keep HZC.out b4).alloc (.cells #[.int .i64 E.ino, .int .i64 E.kind, .int .i64 E.links, .slice e1 E.data.length g1, .slice e2 E.ents.length g2, .slice e3 E.attrs.length g3] 68)
      have zr := (Blk.keep HZR.out b4).alloc (.cells #[.int .i64 E.ino, .int .i64 E.kind, .int .i64 E.links, .slice e1 E.data.length g1, .slice e2 E.ents.length g2, .slice e3 E.attrs.length g3] 68)
      have zx := (Blk.keep HZX.out b4).alloc (.cells #[.int .i64 E.ino, .int .i64 E.kind, .int .i64 E.links, .slice e1 E.data.length g1, .slice e2 E.ents.length g2, .slice e3 E.attrs.length g3] 68)
      have zY := Blk.new w4 68 #[.int .i64 E.ino, .int .i64 E.kind, .int .i64 E.links, .slice e1 E.data.length g1, .slice e2 E.ents.length g2, .slice e3 E.attrs.length g3]
      have bA : Below w4.heap.size w4 (w4.alloc (.cells #[.int .i64 E.ino, .int .i64 E.kind, .int .i64 E.links, .slice e1 E.data.length g1, .slice e2 E.ents.length g2, .slice e3 E.attrs.length g3] 68)) := (Below.refl _ w4).alloc (Nat.le_refl _) _
      have hb4 := HB3.out.trans (b4.mono HB3.out.size)
      have hb5 := hb4.trans (bA.mono hb4.size)
      have gD := (HG3.out.keep (by have := Blk.lt HZX.out; omega) b4).keep (by have := Blk.lt HZX.out; have := b4.size; omega) bA
      have hXl : X < w4.heap.size := (Blk.keep HZX.out b4).lt
      obtain ⟨Y, hY⟩ : ∃ X, w4.heap.size = X := ⟨_, rfl⟩
      obtain ⟨W5, hW5⟩ : ∃ W, w4.alloc (.cells #[.int .i64 E.ino, .int .i64 E.kind, .int .i64 E.links, .slice e1 E.data.length g1, .slice e2 E.ents.length g2, .slice e3 E.attrs.length g3] 68) = W := ⟨_, rfl⟩
      rw [hW5] at zt zc zr zx zY hb5 gD
      rw [hY] at zY hXl
      have HZT5 : Hid _ := zt
      have HZC5 : Hid _ := zc
      have HZR5 : Hid _ := zr
      have HZX5 : Hid _ := zx
      have HB5 : Hid _ := hb5
      have HG5 : Hid _ := gD
      have r0 := zr.cell 0
      have r1 := zr.cell 1
      have f0 := zr.frozen 0
      have f1 := zr.frozen 1
      have y4 := zY.cell 4
      have x2 := zx.cell 2
      have x0 := zx.cell 0
      have fx2 := zx.frozen 2
      have c1 := zc.cell 1
      have t0 := zt.cell 0
      have t1 := zt.cell 1
      simp at r0 r1 y4 x2 x0 c1 t0 t1
      clear hce b4 zt zc zr zx zY bA hb4 hb5 gD gE c0
      by_cases hc2 : c2 = 0
      · subst hc2
        rw [if_neg (by simp)] at hCO
        rw [errV_zero]
        obtain ⟨hbk, hen⟩ := dirFor_ok HEC.out
        obtain ⟨m, hm⟩ : ∃ m, E.ents.length = m := ⟨_, rfl⟩
        have HBK : Hid _ := hbk
        have HEN : Hid _ := hen
        have HM : Hid _ := hm
        rw [hm] at hCO y4 hW5 ⊢
        clear hbk hen hm
        by_cases hfull : 10 ≤ m
        · rw [if_pos hfull] at hCO
          subst hCO
          have h10i : (10 : Int) ≤ (m : Int) := by omega
          have h10k : ¬ (m : Int) < 10 := by omega
          have h10j : (m : Int) ≥ 10 := by omega
          clear x2 x0 fx2 c1 t0 t1
          have hend : Hid (EMeth w nx TT 5 (.returned (.tuple #[.agg #[.slice none 0 0, .int .i64 0], .iface 155 (.int .i64 5)])) ((W5.setCell ⟨w.heap.size + 1 + 1, 0, none⟩ (.slice none 0 0)).setCell ⟨w.heap.size + 1 + 1, 1, none⟩ (.int .i64 0))) := eMeth_no (by decide) ((HB5.out.setCell (p := ⟨w.heap.size + 1 + 1, 0, none⟩) (by show _ ≤ w.heap.size + 1 + 1; omega) _).setCell (p := ⟨w.heap.size + 1 + 1, 1, none⟩) (by show _ ≤ w.heap.size + 1 + 1; omega) _)
          have zf := blk2 HZR5.out (.slice none 0 0) (.int .i64 0)
          have dd0 := zf.cell 0
          have dd1 := zf.cell 1
          simp at dd0 dd1
          clear zf
          go_wp2
          refine bodyPost_ret (v := .tuple #[.agg #[.slice none 0 0, .int .i64 0], .iface 155 (.int .i64 5)]) (by simp [results, Tryz.f173, go_sem, dd0, dd1]) rfl ?_
          exact hend.out
        rw [if_neg hfull] at hCO
        subst hCO
        have h10i : ¬ (10 : Int) ≤ (m : Int) := by omega
        have h10k : (m : Int) < 10 := by omega
        have h10j : ¬ (m : Int) ≥ 10 := by omega
        have hDm : D ∈ ds := HMEM.out (by first | rfl | trivial)
        have hDk : D.kind = 1 := by
          have h1 := (badK_kind HDC.out).1
          rcases HKK.out D hDm with h | h
          · exact h
          · exact absurd h h1
        have hlk := HF5.out D hDm
        have hEm : E ∈ ds := by
          have := @badK_mem 1 ds (strB (parentOf q.data.toList).1)
          rw [HBK.out] at this
          exact this rfl
        have hadd : IntKind.i64.wrap (D.links + 1) = D.links + 1 := wrap_small' (by omega) (by omega)
        have hself := look_self (treeD_parts HTR.out).1
        have zX6 := Blk.set HZX5.out 2 (.int .i64 (D.links + 1))
        have zR6 := Blk.other HZR5.out (B' := X) (by omega) 2 (.int .i64 (D.links + 1))
        have zT6 := Blk.other HZT5.out (B' := X) (by omega) 2 (.int .i64 (D.links + 1))
        have zC6 := Blk.other HZC5.out (B' := X) (by omega) 2 (.int .i64 (D.links + 1))
        have hk6 : KpT W5 (W5.setCell ⟨X, 2, none⟩ (.int .i64 (D.links + 1))) [5, 89, 75] := KpT.grown (gr_setC W5 X 2 _) HZX5.out (by decide)
        have hb6 := HB5.out.setCell (p := ⟨X, 2, none⟩) (show w.heap.size ≤ X by omega) (.int .i64 (D.links + 1))
        have g6 := inoG_kp HG5.out hk6
        obtain ⟨W6, hW6⟩ : ∃ W, W5.setCell ⟨X, 2, none⟩ (.int .i64 (D.links + 1)) = W := ⟨_, rfl⟩
        rw [hW6] at zX6 zR6 zT6 zC6 hb6 g6
        have hrd6 : InoRd W6 { D with links := D.links + 1 } b1 b2 b3 := InoG.rds (B := 0) (T := W6.heap.size) (c1 := d1) (c2 := d2) (c3 := d3) (inoG_links (D.links + 1) g6)
        have hsD := HSM.out D hDm
        have HSX : Hid (InoSmall { D with links := D.links + 1 }) := ⟨hsD.data, hsD.ents, hsD.attrs, hsD.entsz, hsD.attrsz⟩
        have bd6 : Below W6.heap.size W6 W6.drew := (Below.refl _ W6).drew
        have hcS := setI a n cap nx rs { D with links := D.links + 1 } b1 b2 b3 d1 d2 d3 W6.drew HT.out.len HT.out.n (HWF.out D hDm) (fun r hr => HWF.out r.D (by rw [← HDS.out]; exact List.mem_map_of_mem hr)) HT.out.small HSX.out (RdI.keep (RdI.keep HT.out.rd hb6) bd6) (hrd6.keep bd6)
        dsimp only at hcS
        have HK6 : Hid (∀ V : World, Below W6.heap.size W6 V → V.cell? ⟨w.heap.size, 0, none⟩ = some (.slice a n cap) ∧ V.cell? ⟨w.heap.size, 1, none⟩ = some (.int .i64 nx) ∧ V.cell? ⟨w.heap.size + 1, 1, none⟩ = some (.string q) ∧ V.cell? ⟨X, 0, none⟩ = some (.int .i64 D.ino) ∧ V.cell? ⟨X, 1, none⟩ = some (.int .i64 D.kind) ∧ V.cell? ⟨X, 2, none⟩ = some (.int .i64 (D.links + 1)) ∧ V.cell? ⟨X, 3, none⟩ = some (.slice b1 D.data.length d1) ∧ V.cell? ⟨X, 4, none⟩ = some (.slice b2 D.ents.length d2) ∧ V.cell? ⟨X, 5, none⟩ = some (.slice b3 D.attrs.length d3)) := fun V hV => ⟨(Blk.keep zT6 hV).cell 0, (Blk.keep zT6 hV).cell 1, (Blk.keep zC6 hV).cell 1, (Blk.keep zX6 hV).cell 0, (Blk.keep zX6 hV).cell 1, (Blk.keep zX6 hV).cell 2, (Blk.keep zX6 hV).cell 3, (Blk.keep zX6 hV).cell 4, (Blk.keep zX6 hV).cell 5⟩
        obtain ⟨D1, hD1⟩ : ∃ l, setD ds { D with links := D.links + 1 } = l := ⟨_, rfl⟩
        have hm1 : ∀ F ∈ D1, F = { D with links := D.links + 1 } ∨ F ∈ ds := fun F hF => setD_memC (by rw [hD1]; exact hF)
        have HM1 : Hid _ := hm1
        have HS1 : Hid (∀ F ∈ D1, InoSmall F) := fun F hF => (hm1 F hF).elim (fun h => by rw [h]; exact HSX.out) (fun h => HSM.out F h)
        have HL1 : Hid (D1.length ≤ 1048576) := by
          have h1 := setD_lenC ds { D with links := D.links + 1 }
          rw [hD1] at h1
          have h2 := HF6.out
          show _ ≤ _
          omega
        have HBK1 : Hid (badK 1 D1 (strB (parentOf q.data.toList).1) = (E, 0)) := by
          show _ = _
          rw [← hD1, badK_filed (N := { D with links := D.links + 1 }) (M := D) (hself D hDm) hDk hDk]
          exact HBK.out
        have HNO : Hid (∀ e ∈ E.ents, (e.1.toList == (strB (parentOf q.data.toList).2.1).toList) = false) := fun e he => str_ne (entOf_zero HEN.out (fun x hx => by
          have h1 := ((treeD_parts HTR.out).2.2 E hEm).2 x hx
          cases hl : look ds x.2 with
          | none => rw [hl] at h1; cases h1
          | some F =>
            have h2 := look_mem hl
            have h3 := ((tabD_ok (treeD_parts HTR.out).1).2.2.2.2.1 F h2.1).1
            unfold inoOk at h3
            simp only [Bool.and_eq_true, decide_eq_true_eq] at h3
            omega) e he)
        have HOK : Hid (entsOk E.ents = true) := (ok_parts ((tabD_ok (treeD_parts HTR.out).1).2.2.2.2.1 E hEm).1).2.2.1
        have HK1 : Hid (∀ F ∈ D1, F.kind = 1 ∨ F.kind = 2) := fun F hF => (hm1 F hF).elim (fun h => by rw [h]; exact .inl hDk) (fun h => HKK.out F h)
        have HF1 : Hid (∀ F ∈ D1, (Lit.int .i64 F.ino).wf = true) := fun F hF => (hm1 F hF).elim (fun h => by rw [h]; exact HWF.out D hDm) (fun h => HWF.out F h)
        have HE1 : Hid (∀ F ∈ D1, ∀ e ∈ F.ents, (Lit.int .i64 e.2).wf = true) := fun F hF => (hm1 F hF).elim (fun h => by rw [h]; exact HWE.out D hDm) (fun h => HWE.out F h)
        have HN1 : Hid (∀ F ∈ D1, F.ents.length ≤ 100) := fun F hF => (hm1 F hF).elim (fun h => by rw [h]; exact HF4.out D hDm) (fun h => HF4.out F h)
        have HCW : Hid (∀ (W : World) (ra : Option Addr) (rn rc : Nat) (rs' : List InoR), TR W ra rn rs' → rs'.map InoR.D = D1 → Calls Tryz.prog 226 #[.agg #[.slice ra rn rc, .int .i64 nx], .string q, .int .i64 D.ino] W fun e w' => ∃ v, e = .returned v ∧ TabAt W nx TT v w') := fun W ra rn rc rs' hT hr => by
          have hin : ∀ r ∈ rs', r.D ∈ D1 := fun r hr' => by rw [← hr]; exact List.mem_map_of_mem hr'
          have := withI ra rn rc nx rs' q D.ino W hT (fun r hr' => HK1.out _ (hin r hr')) (fun r hr' => HF1.out _ (hin r hr')) (fun r hr' => HE1.out _ (hin r hr')) (fun r hr' => HN1.out _ (hin r hr')) (by omega) (by omega) E (by rw [hr]; exact HBK1.out) hnz HNO.out (ents_mono HOK.out _)
          rw [hr, ← hD1, HTT.out] at this
          exact this
        have HD1 : Hid _ := hD1
        have HZR6 : Hid _ := zR6
        have HB6 : Hid _ := hb6
        obtain ⟨DI, hDI⟩ : ∃ x, D.ino = x := ⟨_, rfl⟩
        obtain ⟨DK, hDK⟩ : ∃ x, D.kind = x := ⟨_, rfl⟩
        obtain ⟨n1, hn1⟩ : ∃ x, D.data.length = x := ⟨_, rfl⟩
        obtain ⟨n2, hn2⟩ : ∃ x, D.ents.length = x := ⟨_, rfl⟩
        obtain ⟨n3, hn3⟩ : ∃ x, D.attrs.length = x := ⟨_, rfl⟩
        rw [hDI, hDK, hn1, hn2, hn3] at HK6
        rw [hDI, hDK] at HD1
        rw [hDI] at HCW
        rw [hDI] at x0
        rw [hDI, hDK, hn1, hn2, hn3] at hcS
        have hk6' := HK6.out W6 (Below.refl _ W6)
        obtain ⟨u0, u1, u2, u3, u4, u5, u6, u7, u8⟩ := hk6'
        have nq1 : ¬ w.heap.size + 1 + 1 = w.heap.size := by omega
        have nq2 : ¬ w.heap.size = w.heap.size + 1 + 1 := by omega
        have nq3 : ¬ w.heap.size + 1 + 1 = X := by omega
        have nq4 : ¬ X = w.heap.size + 1 + 1 := by omega
        have nq5 : ¬ w.heap.size + 1 = w.heap.size + 1 + 1 := by omega
        have nq6 : ¬ w.heap.size + 1 + 1 = w.heap.size + 1 := by omega
        clear zX6 zR6 zT6 zC6 hk6 hb6 g6 hrd6 hsD hDm hDk hlk hEm hself hm1 hDI hDK hn1 hn2 hn3 hD1 bd6
        go_upto_region 13 with fail
        go_region_held3 (fun V : World => V.cell? ⟨w.heap.size, 0, none⟩ = some (.slice a n cap) ∧ V.cell? ⟨w.heap.size, 1, none⟩ = some (.int .i64 nx) ∧ V.cell? ⟨w.heap.size + 1, 1, none⟩ = some (.string q) ∧ V.cell? ⟨X, 0, none⟩ = some (.int .i64 DI) ∧ V.cell? ⟨X, 1, none⟩ = some (.int .i64 DK) ∧ V.cell? ⟨X, 2, none⟩ = some (.int .i64 (D.links + 1)) ∧ V.cell? ⟨X, 3, none⟩ = some (.slice b1 n1 d1) ∧ V.cell? ⟨X, 4, none⟩ = some (.slice b2 n2 d2) ∧ V.cell? ⟨X, 5, none⟩ = some (.slice b3 n3 d3)) (go_keep) (first
          | (go_at_call 220; (with_reducible refine hcS.mono ?_); intro e w7 hp7; obtain ⟨v7, rfl, ta7⟩ := hp7.tab; rw [setD_eq, HDS.out] at ta7; dsimp only at ta7; rw [HD1.out] at ta7; obtain ⟨a7, n7, c7, rs7, rfl, hT7, hR7, b7⟩ := ta7.read HS1.out HL1.out; have B7 : Below W6.heap.size W6 w7 := (Below.refl _ W6).drew.trans b7; obtain ⟨s0, s1, s2, s3, s4, s5, s6, s7, s8⟩ := HK6.out w7 B7; have hcE := HCW.out w7 a7 n7 c7 rs7 (hT7 w7 (Below.refl _ _)) hR7)
          | (go_at_call 226; (with_reducible refine hcE.mono ?_); rintro e w9 ⟨v9, rfl, ta9⟩; have ta9' := ta9; obtain ⟨ra, rc, js, rfl, _, b9⟩ := ta9'; obtain ⟨rn, hrn⟩ : ∃ rn, js.length = rn := ⟨_, rfl⟩; rw [hrn] at ta9 ⊢; have B9 : Below W6.heap.size W6 w9 := B7.trans (b9.mono B7.size); obtain ⟨v0, v1, v2, v3, v4, v5, v6, v7, v8⟩ := HK6.out w9 B9; have zr9 := Blk.keep HZR6.out B9; have y0 := zr9.cell 0; have y1 := zr9.cell 1; have yf0 := zr9.frozen 0; have yf1 := zr9.frozen 1; simp at y0 y1)
          | fail)
        have hb7 := HB6.out.trans (B7.mono HB6.out.size)
        have HFIN : Hid (EMeth w nx TT 0 (.returned (.tuple #[.agg #[.slice ra rn rc, .int .i64 nx], .nilIface])) ((w9.setCell ⟨w.heap.size + 1 + 1, 0, none⟩ (.slice ra rn rc)).setCell ⟨w.heap.size + 1 + 1, 1, none⟩ (.int .i64 nx))) := eMeth_yes ta9 hb7 (by omega) (Blk.keep HZR6.out B7)
        have zf := blk2 zr9 (.slice ra rn rc) (.int .i64 nx)
        have dd0 := zf.cell 0
        have dd1 := zf.cell 1
        simp at dd0 dd1
        clear hcE hp7 ta7 ta9 zf zr9 b9 hrn hT7 hR7 b7 B7 B9 hb7 s0 s1 s2 s3 s4 s5 s6 s7 s8 v0 v1 v2 v3 v4 v5 v6 v7 v8 u0 u1 u2 u3 u4 u5 u6 u7 u8
        go_wp2
        refine bodyPost_ret (v := .tuple #[.agg #[.slice ra rn rc, .int .i64 nx], .nilIface]) (by simp [results, Tryz.f173, go_sem, dd0, dd1]) rfl ?_
        exact HFIN.out
      · rw [if_pos hc2] at hCO
        subst hCO
        rw [errV_some hc2]
        clear x2 x0 fx2 c1 t0 t1 y4
        have hend : Hid (EMeth w nx TT c2 (.returned (.tuple #[.agg #[.slice none 0 0, .int .i64 0], .iface 155 (.int .i64 c2)])) ((W5.setCell ⟨w.heap.size + 1 + 1, 0, none⟩ (.slice none 0 0)).setCell ⟨w.heap.size + 1 + 1, 1, none⟩ (.int .i64 0))) := eMeth_no hc2 ((HB5.out.setCell (p := ⟨w.heap.size + 1 + 1, 0, none⟩) (by show _ ≤ w.heap.size + 1 + 1; omega) _).setCell (p := ⟨w.heap.size + 1 + 1, 1, none⟩) (by show _ ≤ w.heap.size + 1 + 1; omega) _)
        have zf := blk2 HZR5.out (.slice none 0 0) (.int .i64 0)
        have dd0 := zf.cell 0
        have dd1 := zf.cell 1
        simp at dd0 dd1
        clear zf
        go_wp2
        refine bodyPost_ret (v := .tuple #[.agg #[.slice none 0 0, .int .i64 0], .iface 155 (.int .i64 c2)]) (by simp [results, Tryz.f173, go_sem, dd0, dd1]) rfl ?_
        exact hend.out
    · rw [if_pos hc0] at hCO
      subst hCO
      rw [errV_some hc0]
      clear HCE
      have hend : Hid (EMeth w nx TT c (.returned (.tuple #[.agg #[.slice none 0 0, .int .i64 0], .iface 155 (.int .i64 c)])) ((W3.setCell ⟨w.heap.size + 1 + 1, 0, none⟩ (.slice none 0 0)).setCell ⟨w.heap.size + 1 + 1, 1, none⟩ (.int .i64 0))) := eMeth_no hc0 ((HB3.out.setCell (p := ⟨w.heap.size + 1 + 1, 0, none⟩) (by show _ ≤ w.heap.size + 1 + 1; omega) _).setCell (p := ⟨w.heap.size + 1 + 1, 1, none⟩) (by show _ ≤ w.heap.size + 1 + 1; omega) _)
      have zf := blk2 HZR.out (.slice none 0 0) (.int .i64 0)
      have dd0 := zf.cell 0
      have dd1 := zf.cell 1
      simp at dd0 dd1
      clear zf
      go_wp2
      refine bodyPost_ret (v := .tuple #[.agg #[.slice none 0 0, .int .i64 0], .iface 155 (.int .i64 c)]) (by simp [results, Tryz.f173, go_sem, dd0, dd1]) rfl ?_
      exact hend.out
end

section
open Go.RowKit
theorem spot_dir {ds : List InoD} (hK : ∀ D ∈ ds, D.kind = 1 ∨ D.kind = 2) (hI : ∀ D ∈ ds, D.ino ≠ 0) (s : ByteArray) : spotD ds s 0 = if (dirFor ds s).2 ≠ 0 then (inoZ.D, ⟨#[]⟩, (dirFor ds s).2) else if 10 ≤ (dirFor ds s).1.ents.length then (inoZ.D, ⟨#[]⟩, 5) else ((dirFor ds s).1, strB (parentOf s.data.toList).2.1, 0) := by
  unfold spotD dirFor badK
  by_cases h1 : (parentOf s.data.toList).2.2 = false
  · simp [h1]
  · by_cases h2 : (statD ds (strB (parentOf s.data.toList).1)).2 = 0
    · have hm := stat_in h2
      have hi := hI _ hm
      rcases hK _ hm with h3 | h3
      · simp [h1, h2, h3]
      · by_cases h4 : entOf (strB (parentOf s.data.toList).2.1) (statD ds (strB (parentOf s.data.toList).1)).1.ents = 0
        · by_cases h5 : 10 ≤ (statD ds (strB (parentOf s.data.toList).1)).1.ents.length
          · simp [h1, h2, h3, h4, h5, hi]
          · simp [h1, h2, h3, h4, h5]
        · simp [h1, h2, h3, h4]
    · simp [h1, h2]
theorem tree_ino {nx : Int} {ds : List InoD} (h : treeD nx ds = true) : ∀ D ∈ ds, D.ino ≠ 0 := fun D hD => by
  have h3 := ((tabD_ok (treeD_parts h).1).2.2.2.2.1 D hD).1
  unfold inoOk at h3
  simp only [Bool.and_eq_true, decide_eq_true_eq] at h3
  omega
theorem tree_kind {nx : Int} {rs : List InoR} (h : treeD nx (rs.map InoR.D) = true) : ∀ D ∈ rs.map InoR.D, D.kind = 1 ∨ D.kind = 2 := fun D hD => by
  obtain ⟨r, hr, rfl⟩ := List.mem_map.1 hD
  exact (tree_facts h).1 r hr
end

section
open Go.RowKit
theorem idx_hardLink (w : World) : (Instr.index 138 (.agg #[.func (.func 167) #[] #[], .func (.func 168) #[] #[], .func (.func 169) #[] #[], .func (.func 170) #[] #[], .func (.func 171) #[] #[], .func (.func 172) #[] #[], .func (.func 173) #[] #[], .func (.func 174) #[] #[], .func (.func 175) #[] #[]]) (.int .i64 6)).run Tryz.prog w = .ok (.func (.func 173) #[] #[]) w := by kernel_rfl
set_option maxRecDepth 100000 in
set_option maxHeartbeats 4000000 in
theorem changed_hardLink (a : Option Addr) (n cap : Nat) (nx : Int) (rs : List InoR) (p q : ByteArray) (k : Int) (da : Option Addr) (dn dc : Nat) (an av : ByteArray) (w : World) (ht : TR w a n rs) (hwf : ∀ r ∈ rs, (Lit.int .i64 r.D.ino).wf = true) (het : EtCell w) (nx' : Int) (ds' : List InoD) (c : Int) (N : Int) (D : List InoD) (C : Int)
    (h1 : treeD nx (rs.map InoR.D) = false → N = nx ∧ D = rs.map InoR.D ∧ C = 1) (h2 : treeD nx (rs.map InoR.D) = true → c ≠ 0 → N = nx ∧ D = rs.map InoR.D ∧ C = c) (h3 : treeD nx (rs.map InoR.D) = true → c = 0 → N = nx' ∧ D = ds' ∧ C = 0)
    (hm : treeD nx (rs.map InoR.D) = true → ∀ W : World, Below w.heap.size w W → Calls Tryz.prog 173 #[.agg #[.slice a n cap, .int .i64 nx], .agg #[.string p, .string q, .int .i64 k, .slice da dn dc, .string an, .string av]] W fun e w' => EMeth W nx' ds' c e w') :
    Calls Tryz.prog 61 #[.agg #[.slice a n cap, .int .i64 nx], .int .i64 6, .agg #[.string p, .string q, .int .i64 k, .slice da dn dc, .string an, .string av]] w fun e w' => TabC w N D C e w' := by
  have B0 : Below w.heap.size w (((w.alloc (.cells #[.slice a n cap, .int .i64 nx] 28)).alloc (.cells #[.string p, .string q, .int .i64 k, .slice da dn dc, .string an, .string av] 77)).alloc (.cells #[.slice none 0 0, .int .i64 0] 28)) := (((Below.refl _ w).alloc (Nat.le_refl _) _).alloc (by simp) _).alloc (by simp; omega) _
  have zT := ((Blk.new w 28 #[.slice a n cap, .int .i64 nx]).alloc (.cells #[.string p, .string q, .int .i64 k, .slice da dn dc, .string an, .string av] 77)).alloc (.cells #[.slice none 0 0, .int .i64 0] 28)
  have zC := (Blk.new (w.alloc (.cells #[.slice a n cap, .int .i64 nx] 28)) 77 #[.string p, .string q, .int .i64 k, .slice da dn dc, .string an, .string av]).alloc (.cells #[.slice none 0 0, .int .i64 0] 28)
  have zR := Blk.new ((w.alloc (.cells #[.slice a n cap, .int .i64 nx] 28)).alloc (.cells #[.string p, .string q, .int .i64 k, .slice da dn dc, .string an, .string av] 77)) 28 #[.slice none 0 0, .int .i64 0]
  simp only [World.size_alloc] at zC zR
  have hcT := treeI a n cap nx rs _ (ht.keep B0) hwf
  go_enter Tryz.func61, Tryz.ntmps61
  go_wp2_with fail
  obtain ⟨W0, hW0⟩ : ∃ W, (((w.alloc (.cells #[.slice a n cap, .int .i64 nx] 28)).alloc (.cells #[.string p, .string q, .int .i64 k, .slice da dn dc, .string an, .string av] 77)).alloc (.cells #[.slice none 0 0, .int .i64 0] 28)) = W := ⟨_, rfl⟩
  rw [hW0] at B0 zT zC zR hcT ⊢
  clear hW0
  (with_reducible refine hcT.mono ?_)
  rintro e w1 ⟨rfl, b1⟩
  clear hcT
  have hb1 := B0.trans (b1.mono B0.size)
  have zt := zT.keep b1
  have zc := zC.keep b1
  have zr := zR.keep b1
  have HT1 : Hid _ := ht.keep hb1
  have HE1 : Hid _ := het.keep hb1
  clear zT zC zR b1 ht het B0
  have t0 := zt.cell 0
  have t1 := zt.cell 1
  simp at t0 t1
  cases htr : treeD nx (rs.map InoR.D) with
  | false =>
    obtain ⟨rfl, rfl, rfl⟩ := h1 htr
    have hcC := copyTab_any a n cap N rs w1 HT1.out.len HT1.out.n HT1.out.small HT1.out.rd
    have HB1 : Hid _ := hb1
    have HZR : Hid _ := zr
    clear h1 h2 h3 hm htr hb1
    go_wp2_with fail
    (with_reducible refine hcC.mono ?_)
    intro e w2 hp2
    obtain ⟨g, rfl, b2, hfin⟩ := copyT hp2 HB1.out (by omega) HZR.out
    have zr2 := Blk.keep HZR.out b2
    have r0 := zr2.cell 0
    have r1 := zr2.cell 1
    have f0 := zr2.frozen 0
    have f1 := zr2.frozen 1
    simp at r0 r1
    have HFIN : Hid _ := hfin w2 (Below.refl _ _) 1
    have zf := blk2 zr2 (.slice (some ⟨g, 0, none⟩) n n) (.int .i64 N)
    have dd0 := zf.cell 0
    have dd1 := zf.cell 1
    simp at dd0 dd1
    clear hcC hp2 hfin zr2 zt zc zr t0 t1 zf
    go_wp2
    refine bodyPost_ret (v := .tuple #[.agg #[.slice (some ⟨g, 0, none⟩) n n, .int .i64 N], .int .i64 1]) (by simp [results, Tryz.f61, go_sem, dd0, dd1]) rfl ?_
    exact HFIN.out
  | true =>
    have hmm := hm htr
    have c0 := zc.cell 0
    have c1 := zc.cell 1
    have c2 := zc.cell 2
    have c3 := zc.cell 3
    have c4 := zc.cell 4
    have c5 := zc.cell 5
    simp at c0 c1 c2 c3 c4 c5
    have HB1 : Hid _ := hb1
    have HZR : Hid _ := zr
    have HZT : Hid _ := zt
    have HZC : Hid _ := zc
    have HMM : Hid _ := hmm
    have HH2 : Hid _ := h2 htr
    have HH3 : Hid _ := h3 htr
    have cC := changesI w1.drew
    have hsz : w.heap.size + 1 + 1 < w1.heap.size := zr.lt
    have hK : Hid (∀ W : World, Below w1.heap.size w1 W → W.cell? ⟨w.heap.size, 0, none⟩ = some (.slice a n cap) ∧ W.cell? ⟨w.heap.size, 1, none⟩ = some (.int .i64 nx) ∧ W.cell? ⟨w.heap.size + 1, 0, none⟩ = some (.string p) ∧ W.cell? ⟨w.heap.size + 1, 1, none⟩ = some (.string q) ∧ W.cell? ⟨w.heap.size + 1, 2, none⟩ = some (.int .i64 k) ∧ W.cell? ⟨w.heap.size + 1, 3, none⟩ = some (.slice da dn dc) ∧ W.cell? ⟨w.heap.size + 1, 4, none⟩ = some (.string an) ∧ W.cell? ⟨w.heap.size + 1, 5, none⟩ = some (.string av)) := fun W hW => by
      have z1 := Blk.keep HZT.out hW
      have z2 := Blk.keep HZC.out hW
      exact ⟨z1.cell 0, z1.cell 1, z2.cell 0, z2.cell 1, z2.cell 2, z2.cell 3, z2.cell 4, z2.cell 5⟩
    clear h1 h2 h3 hm htr hmm zt zc zr hb1
    go_upto_region 3 with fail
    have n0 : w1.heap.size ≠ w.heap.size := by omega
    have n1 : w1.heap.size ≠ w.heap.size + 1 := by omega
    have cC2 := changesI (w1.alloc (.cells #[.slice none 0 0, .int .i64 0] 28)).drew
    have zW1 := Blk.new w1 28 #[.slice none 0 0, .int .i64 0]
    have hix := idx_hardLink
    go_cut [8, 9] from 8 to 31 (fun bx er wx => ∃ (A : Nat) (ra : Option Addr) (rn rc : Nat) (rx : Int), bx = .pointer (some ⟨A, 0, none⟩) ∧ er = errV c ∧ Hid (CHR w1 nx' ds' c A (.slice ra rn rc) (.int .i64 rx) wx))
    case first =>
      go_region_held3 (fun W : World => W.cell? ⟨w.heap.size, 0, none⟩ = some (.slice a n cap) ∧ W.cell? ⟨w.heap.size, 1, none⟩ = some (.int .i64 nx) ∧ W.cell? ⟨w.heap.size + 1, 0, none⟩ = some (.string p) ∧ W.cell? ⟨w.heap.size + 1, 1, none⟩ = some (.string q) ∧ W.cell? ⟨w.heap.size + 1, 2, none⟩ = some (.int .i64 k) ∧ W.cell? ⟨w.heap.size + 1, 3, none⟩ = some (.slice da dn dc) ∧ W.cell? ⟨w.heap.size + 1, 4, none⟩ = some (.string an) ∧ W.cell? ⟨w.heap.size + 1, 5, none⟩ = some (.string av)) (go_keep) (first
        | (go_at_call 111; (with_reducible refine cC.mono ?_); rintro e w10 ⟨rfl, b10⟩; have B10 : Below w1.heap.size w1 w10 := (Below.refl _ w1).drew.trans b10; have K10 := hK.out w10 B10; obtain ⟨p0, p1, p2, p3, p4, p5, p6, p7⟩ := K10; have n2 : w10.heap.size ≠ w.heap.size := (by have := B10.size; omega); have n3 : w10.heap.size ≠ w.heap.size + 1 := (by have := B10.size; omega); have hm10 := HMM.out w10 (HB1.out.trans (B10.mono HB1.out.size)); have hm10a := HMM.out (w10.alloc (.cells #[.slice none 0 0, .int .i64 0] 28)) ((HB1.out.trans (B10.mono HB1.out.size)).alloc (by have := HB1.out.size; have := B10.size; omega) _))
        | (go_at_call 111; (with_reducible refine cC2.mono ?_); rintro e w11 ⟨rfl, b11⟩; have B11 : Below w1.heap.size w1 w11 := ((Below.refl _ w1).alloc (Nat.le_refl _) _).drew.trans (b11.mono (by show _ ≤ (w1.alloc _).heap.size; simp)); have K11 := hK.out w11 B11; obtain ⟨p0, p1, p2, p3, p4, p5, p6, p7⟩ := K11; have z11 : Blk w11 w1.heap.size 28 #[.slice none 0 0, .int .i64 0] := Blk.keep (Blk.drew zW1) b11; have hm11 := HMM.out w11 (HB1.out.trans (B11.mono HB1.out.size)))
        | (go_at_call 173; (with_reducible refine hm10.mono ?_); rintro e w12 ⟨ra, rn, rc, rx, rfl, b12, t12⟩; have B12 : Below w1.heap.size w1 w12 := B10.trans (b12.mono B10.size); have K12 := hK.out w12 B12; obtain ⟨q0, q1, q2, q3, q4, q5, q6, q7⟩ := K12)
        | (go_at_call 173; (with_reducible refine hm10a.mono ?_); rintro e w13 ⟨ra, rn, rc, rx, rfl, b13, t13⟩; have B13 : Below w1.heap.size w1 w13 := (B10.alloc B10.size _).trans (b13.mono (by have := B10.size; simp; omega)); have z13 := (Blk.new w10 28 #[.slice none 0 0, .int .i64 0]).keep b13; have u0 := z13.cell 0; have u1 := z13.cell 1; have x0 := z13.frozen 0; have x1 := z13.frozen 1; simp at u0 u1; have K13 := hK.out w13 B13; obtain ⟨q0, q1, q2, q3, q4, q5, q6, q7⟩ := K13)
        | (go_at_call 173; (with_reducible refine hm11.mono ?_); rintro e w14 ⟨ra, rn, rc, rx, rfl, b14, t14⟩; have B14 : Below w1.heap.size w1 w14 := B11.trans (b14.mono B11.size); have z14 := z11.keep b14; have u0 := z14.cell 0; have u1 := z14.cell 1; have x0 := z14.frozen 0; have x1 := z14.frozen 1; simp at u0 u1; have K14 := hK.out w14 B14; obtain ⟨q0, q1, q2, q3, q4, q5, q6, q7⟩ := K14))
      all_goals (go_wp2_with fail; go_meet)
      all_goals first
        | (have h := chr_new B12 b12 B10.size t12; exact ⟨_, _, _, _, _, rfl, rfl, h⟩)
        | (have h := chr_old B13 B10.size z13 (by simp) t13; exact ⟨_, _, _, _, _, rfl, rfl, h⟩)
        | (have h := chr_old B14 (Nat.le_refl _) z14 (Blk.lt z11) t14; exact ⟨_, _, _, _, _, rfl, rfl, h⟩)
        | fail
    case rest =>
      obtain ⟨A, ra, rn, rc, rx, rfl, rfl, hR⟩ := hcut
      obtain ⟨Wc, hwc⟩ : ∃ W, W = wc := ⟨_, rfl⟩
      subst hwc
      clear t0 t1 c0 c1 c2 c3 c4 c5 cC cC2 zW1 hK HMM n0 n1
      have zt := Blk.keep HZT.out hR.out.b
      have zr := Blk.keep HZR.out hR.out.b
      have hbc := HB1.out.trans (hR.out.b.mono HB1.out.size)
      have t0 := zt.cell 0
      have t1 := zt.cell 1
      simp at t0 t1
      by_cases hc0 : c = 0
      · obtain ⟨rfl, rfl, rfl⟩ := HH3.out hc0
        subst hc0
        rw [errV_zero]
        have HFIN : Hid _ := methT (hR.out.tab rfl) HB1.out (by omega) HZR.out Wc (Below.refl _ _)
        have a0 := hR.out.z.cell 0
        have a1 := hR.out.z.cell 1
        have r0 := zr.cell 0
        have r1 := zr.cell 1
        have f0 := zr.frozen 0
        have f1 := zr.frozen 1
        simp at a0 a1 r0 r1
        have zf := blk2 zr (.slice ra rn rc) (.int .i64 rx)
        have dd0 := zf.cell 0
        have dd1 := zf.cell 1
        simp at dd0 dd1
        clear zt zr zf hbc HH2 HH3 HT1 HE1 t0 t1
        go_wp2
        refine bodyPost_ret (v := .tuple #[.agg #[.slice ra rn rc, .int .i64 rx], .int .i64 0]) (by simp [results, Tryz.f61, go_sem, dd0, dd1]) rfl ?_
        exact HFIN.out
      · obtain ⟨rfl, rfl, rfl⟩ := HH2.out hc0
        rw [errV_some hc0]
        have hTc := HT1.out.keep hR.out.b
        have hEc := EtCell.keep HE1.out hR.out.b
        have hcC := copyTab_any a n cap N rs Wc hTc.len hTc.n hTc.small hTc.rd
        have HZ : Hid _ := zr
        have HBC : Hid _ := hbc
        have HEC : Hid _ := hEc
        have HC0 : Hid _ := hc0
        clear zt zr hbc HH2 HH3 HT1 HE1 hTc hEc hc0
        go_wp2_with fail
        (with_reducible refine hcC.mono ?_)
        intro e w2 hp2
        obtain ⟨g, rfl, b2, hfin⟩ := copyT hp2 HBC.out (by omega) HZ.out
        have hcO := codeOfI C w2 (EtCell.keep HEC.out b2)
        rw [errV_some HC0.out] at hcO
        clear hcC hp2 t0 t1
        go_wp2_with fail
        (with_reducible refine hcO.mono ?_)
        rintro e w3 ⟨rfl, b3⟩
        have zr3 := (Blk.keep HZ.out b2).keep b3
        have r0 := zr3.cell 0
        have r1 := zr3.cell 1
        have f0 := zr3.frozen 0
        have f1 := zr3.frozen 1
        simp at r0 r1
        have HFIN : Hid _ := hfin w3 b3 C
        have zf := blk2 zr3 (.slice (some ⟨g, 0, none⟩) n n) (.int .i64 N)
        have dd0 := zf.cell 0
        have dd1 := zf.cell 1
        simp at dd0 dd1
        clear hcO hfin zr3 zf
        go_wp2
        refine bodyPost_ret (v := .tuple #[.agg #[.slice (some ⟨g, 0, none⟩) n n, .int .i64 N], .int .i64 C]) (by simp [results, Tryz.f61, go_sem, dd0, dd1]) rfl ?_
        exact HFIN.out
end

section
open Go.RowKit
theorem link_code {nx : Int} {ds : List InoD} {s q : ByteArray} (h : treeD nx ds = true) (hK : ∀ D ∈ ds, D.kind = 1 ∨ D.kind = 2) (hI : ∀ D ∈ ds, D.ino ≠ 0) : linkD nx ds s q = if linkC ds s q ≠ 0 then (ds, linkC ds s q) else (linkT ds s q, 0) := by
  unfold linkD linkC linkT notR
  rw [badK_file hK s, spot_dir hK hI q]
  cases hp : (parentOf q.data.toList).2.2 with
  | false => simp [h]
  | true =>
    cases hsp : (splitOf s.data.toList).isSome with
    | false => simp [h, file_form hsp]
    | true =>
      by_cases h0 : (fileD ds s).2 = 0
      · by_cases h1 : (dirFor ds q).2 = 0
        · by_cases h2 : 10 ≤ (dirFor ds q).1.ents.length
          · simp [h, h0, h1, h2]
          · simp [h, h0, h1, h2]
        · simp [h, h0, h1]
      · simp [h, h0]
theorem linkI (a : Option Addr) (n cap : Nat) (nx : Int) (rs : List InoR) (s q : ByteArray) (w : World) (ht : TR w a n rs) (hwf : ∀ r ∈ rs, (Lit.int .i64 r.D.ino).wf = true) (het : EtCell w) (hs : s.size ≤ 1048576) (hs1 : q.size ≤ 1048576) :
    Calls Tryz.prog 25 #[.agg #[.slice a n cap, .int .i64 nx], .string s, .string q] w fun e w' => TabC w nx (linkD nx (rs.map InoR.D) s q).1 (linkD nx (rs.map InoR.D) s q).2 e w' := by
  refine wrap_HardLink a n cap nx s q w nx _ _ (fun W hW => ?_)
  refine changed_hardLink a n cap nx rs s q 0 none 0 0 ⟨#[]⟩ ⟨#[]⟩ W (ht.keep hW) hwf (het.keep hW) nx (linkT (rs.map InoR.D) s q) (linkC (rs.map InoR.D) s q) nx _ _ ?_ ?_ ?_ ?_
  · intro h
    unfold linkD
    rw [if_pos (.inl h)]
    exact ⟨rfl, rfl, rfl⟩
  · intro h hc
    rw [link_code h (tree_kind h) (tree_ino h), if_pos hc]
    exact ⟨rfl, rfl, rfl⟩
  · intro h hc
    rw [link_code h (tree_kind h) (tree_ino h), if_neg (by rw [hc]; simp)]
    exact ⟨rfl, rfl, rfl⟩
  · intro h W' hW'
    exact linkM a n cap nx rs s q 0 none 0 0 ⟨#[]⟩ ⟨#[]⟩ W' ((ht.keep hW).keep hW') h hs hs1
theorem link_facts {ds : List InoD} {s q : ByteArray} (hC : linkC ds s q = 0) : (badK 2 ds s).2 = 0 ∧ (dirFor ds q).2 = 0 ∧ (dirFor ds q).1.ents.length < 10 := by
  unfold linkC at hC
  split at hC
  · exact absurd hC (by decide)
  · split at hC
    · rename_i h
      exact absurd hC h
    · rename_i h1
      split at hC
      · rename_i h
        exact absurd hC h
      · rename_i h2
        split at hC
        · exact absurd hC (by decide)
        · rename_i h3
          exact ⟨Classical.byContradiction fun c => h1 c, Classical.byContradiction fun c => h2 c, by omega⟩
theorem dirFor_in {ds : List InoD} {q : ByteArray} (h : (dirFor ds q).2 = 0) : (dirFor ds q).1 ∈ ds := by
  have hD := dirFor_ok (show dirFor ds q = ((dirFor ds q).1, 0) from Prod.ext rfl h)
  have := @badK_mem 1 ds (strB (parentOf q.data.toList).1)
  rw [hD.1] at this
  exact this rfl
theorem name_small (q : ByteArray) : (strB (parentOf q.data.toList).2.1).size ≤ 1048576 := by have := (parent_small q.data.toList).2; rw [strB_size]; omega
theorem out_link (s q : ByteArray) (nx : Int) (rs : List InoR) (h : ∀ r ∈ rs, InoSmall r.D) (hc : rs.length + cntI rs ≤ 1048576) (_ : s.size ≤ 1048576) (_ : q.size ≤ 1048576) : Fit (linkD nx (rs.map InoR.D) s q).1 := by
  have hf := fit_same h hc
  cases htr : treeD nx (rs.map InoR.D) with
  | false =>
    unfold linkD
    rw [if_pos (.inl htr)]
    exact hf
  | true =>
    rw [link_code htr (tree_kind htr) (tree_ino htr)]
    by_cases hC : linkC (rs.map InoR.D) s q = 0
    · rw [if_neg (by rw [hC]; simp)]
      have ht := tree_tiny htr hf.small
      obtain ⟨h1, h2, h3⟩ := link_facts hC
      have hF := ht _ (badK_mem h1)
      have hG := ht _ (dirFor_in h2)
      have h30 := (tree_more htr).2.2
      dsimp only
      unfold linkT
      refine fit_tiny (fun D hD => ?_) (Nat.le_trans (setD_lenC _ _) (by have := setD_lenC (rs.map InoR.D) { (badK 2 (rs.map InoR.D) s).1 with links := (badK 2 (rs.map InoR.D) s).1.links + 1 }; omega))
      rcases setD_memC hD with rfl | hD
      · refine ⟨putEnt_small hG.small _ _ (name_small q) (by omega), hG.data, ?_, hG.attrs⟩
        show (insBy _ _ _).length ≤ 11
        rw [insBy_len]
        omega
      · rcases setD_memC hD with rfl | hD
        · exact ⟨⟨hF.small.data, hF.small.ents, hF.small.attrs, hF.small.entsz, hF.small.attrsz⟩, hF.data, hF.ents, hF.attrs⟩
        · exact ht D hD
    · rw [if_pos hC]
      exact hf
end

section
open Go.RowKit
set_option maxRecDepth 100000 in
set_option maxHeartbeats 16000000 in
theorem walkFnExactHardLink (a : Option Addr) (cap : Nat) (nx : Int) (rs : List InoR) (s : ByteArray) (q : ByteArray) (w : World) (hm : rs.length ≤ maxLen) (hi : ∀ r ∈ rs, InoIn r.D) (hr : RdI w a rs) (_hz0 : s.size ≤ maxLen) (_hz1 : q.size ≤ maxLen) (het : EtCell w) :
    Calls Tryz.prog 5 #[.agg #[.slice a rs.length cap, .int .i64 nx], .string s, .string q] w fun e w' => e = .returned (.bool true) ∧ Below w.heap.size w w' := by
  obtain ⟨n, hn⟩ : ∃ n, rs.length = n := ⟨_, rfl⟩
  rw [hn] at hm ⊢
  have zb0 : ZT w (w.alloc (.cells #[.slice a n cap, .int .i64 nx] 24)) #[.slice a n cap, .int .i64 nx] := ⟨(Below.refl _ w).alloc (Nat.le_refl _) _, Blk.new w _ _⟩
  by_cases hl0 : 1048576 < s.size
  · have hli : (s.size : Int) > 1048576 := by omega
    have HB : Hid _ := zb0.below
    clear zb0
    go_enter Tryz.func5, Tryz.ntmps5
    go_wp2
    go_ret
    exact ⟨rfl, HB.out⟩
  by_cases hl1 : 1048576 < q.size
  · have hli : (q.size : Int) > 1048576 := by omega
    have HB : Hid _ := zb0.below
    have hlj0 : ¬ (s.size : Int) > 1048576 := by omega
    clear zb0
    go_enter Tryz.func5, Tryz.ntmps5
    go_wp2
    go_ret
    exact ⟨rfl, HB.out⟩
  have hli0 : ¬ (s.size : Int) > 1048576 := by omega
  have hli1 : ¬ (q.size : Int) > 1048576 := by omega
  go_enter Tryz.func5, Tryz.ntmps5
  go_wp2_with fail
  obtain ⟨W0, hW0⟩ : ∃ W, w.alloc (.cells #[.slice a n cap, .int .i64 nx] 24) = W := ⟨_, rfl⟩
  rw [hW0] at zb0 ⊢
  clear hW0
  refine (szTab_w a n cap 1048576 nx rs W0 hn hm (by omega) hi (hr.keep zb0.below)).mono ?_
  rintro e w1 ⟨hsz, b1⟩
  have zb1 := zb0.keep b1
  clear zb0 b1
  rcases hsz with rfl | ⟨v, hv, rfl, hn1, hsm⟩
  · go_wp2
    go_ret
    exact ⟨rfl, zb1.below⟩
  have hx0 : ¬ (v : Int) < 0 := by omega
  have hwf : ∀ r ∈ rs, (Lit.int .i64 r.D.ino).wf = true := fun r h => (hi r h).ino
  have HS : Hid _ := hsm
  have hcn : n + cntI rs ≤ 1048576 := by omega
  have CA : Hid (∀ W : World, Below w.heap.size w W → _) := fun (W : World) (h : Below w.heap.size w W) => toTab_j a n cap nx rs W hn hn1 HS.out (hr.keep h)
  have hfit : Fit (linkD nx (rs.map InoR.D) s q).1 := out_link s q nx rs HS.out (by rw [hn]; exact hcn) (by omega) (by omega)
  have HET : Hid _ := het
  have cS := fun (W : World) (B g : Nat) (ts : List InoR) (h : TabQ W B g n rs ts) => linkS (some ⟨g, 0, none⟩) n n nx ts s q W ⟨h.tlen, hn1, h.cpd.small HS.out, h.rd⟩ (by omega) (by omega)
  have cI := fun (W : World) (B g : Nat) (ts : List InoR) (h : TabQ W B g n rs ts) (hb : Below w.heap.size w W) => linkI (some ⟨g, 0, none⟩) n n nx ts s q W ⟨h.tlen, hn1, h.cpd.small HS.out, h.rd⟩ (fun r hr => by
    have h1 : r.D ∈ ts.map InoR.D := List.mem_map_of_mem hr
    rw [h.cpd.1] at h1
    obtain ⟨q, hq, hqr⟩ := List.mem_map.1 h1
    rw [← hqr]
    exact hwf q hq) (EtCell.keep HET.out hb) (by omega) (by omega)
  have cS' : ∀ (W : World) (B g : Nat) (ts : List InoR), TabQ W B g n rs ts → Calls Tryz.prog 24 #[.agg #[.slice (some ⟨g, 0, none⟩) n n, .int .i64 nx], .string s, .string q] W fun e w' => TabC W nx (linkD nx (rs.map InoR.D) s q).1 (linkD nx (rs.map InoR.D) s q).2 e w' := fun W B g ts h => by
    have := cS W B g ts h
    rw [h.cpd.1] at this
    exact this
  have cI' : ∀ (W : World) (B g : Nat) (ts : List InoR), TabQ W B g n rs ts → Below w.heap.size w W → Calls Tryz.prog 25 #[.agg #[.slice (some ⟨g, 0, none⟩) n n, .int .i64 nx], .string s, .string q] W fun e w' => TabC W nx (linkD nx (rs.map InoR.D) s q).1 (linkD nx (rs.map InoR.D) s q).2 e w' := fun W B g ts h hb => by
    have := cI W B g ts h hb
    rw [h.cpd.1] at this
    exact this
  clear cS cI
  obtain ⟨CO, hCO⟩ : ∃ x, (linkD nx (rs.map InoR.D) s q).2 = x := ⟨_, rfl⟩
  rw [hCO] at cS' cI'
  obtain ⟨ds, hds⟩ : ∃ x, (linkD nx (rs.map InoR.D) s q).1 = x := ⟨_, rfl⟩
  rw [hds] at cS' cI' hfit
  obtain ⟨m, hml⟩ : ∃ m, ds.length = m := ⟨_, rfl⟩
  have hfc := hfit.cnt
  rw [hml] at hfc
  have hmb : m ≤ 2000000 := by omega
  have hdsm : ∀ r ∈ ds.map lift, InoSmall r.D := fun r hr => by
    obtain ⟨D, hD, rfl⟩ := List.mem_map.1 hr
    exact hfit.small D hD
  have hjl : ∀ (B : Nat) (W : World) (v : Value) (js : List InoJ), DQA B W v (ds.map lift) js → js.length = m := fun B W v js h => by have := h.len; rw [List.length_map] at this; omega
  have cK := fun (W : World) (g Lo Hi : Nat) (js : List InoJ) (h1 : (js.map InoJ.r).map InoR.D = rs.map InoR.D) (hap : ApJ g Lo Hi js) (hH : Hi ≤ W.heap.size) (hown : OwnI W g n n (js.map InoJ.r)) (hG : ∀ (i : Nat) (j : InoJ), js[i]? = some j → j.G W) => markTab_any nx g n n Lo Hi 1 js W (by have := congrArg List.length h1; simp at this; omega) (Nat.le_refl _) (by omega) (by have := q_bound4 h1 hn (by omega); omega) hap hH hown hG
  have cE : ∀ (W : World) (B B' : Nat) (a a' : Option Addr) (c c' : Nat) (js js' : List InoJ), DQA B W (.slice a m c) (ds.map lift) js → DQA B' W (.slice a' m c') (ds.map lift) js' → js.length = m → js'.length = m → Calls Tryz.prog 19 #[.agg #[.slice a m c, .int .i64 nx], .agg #[.slice a' m c', .int .i64 nx]] W fun e w' => e = .returned (.bool true) ∧ Below W.heap.size W w' := fun W B B' a a' c c' js js' h h' h1 h2 => eqVA nx (by omega) hdsm h h' h1 h2
  have cQ : ∀ (js : List InoJ) (W : World) (B : Nat) (v : Value), DQA B W v (ds.map lift) js → qAt 1 js m ≤ 9999990 := fun js W B v h => by have := q_bound4 (n := m) h.ds (by rw [List.length_map]; exact hml) (by omega); omega
  have CS : Hid _ := cS'
  have CI : Hid _ := cI'
  have CE : Hid _ := cE
  have CQ : Hid _ := cQ
  have CK : Hid _ := cK
  have CJ : Hid _ := hjl
  have hcoe : (CO != CO) = false := by simp
  have hcof : (CO == CO) = true := by simp
  clear cS' cI' cE cQ cK hr hn hsm hwf hi hm hv hcn hdsm hml hfit hfc hCO hds hjl het
  have t0 := zb1.t.cell 0
  have t1 := zb1.t.cell 1
  simp at t0 t1
  go_wp2_with fail
  (with_reducible refine (CA.out w1 zb1.below).mono ?_)
  rintro e w2 ⟨gA, jA, rfl, qA, _, b2⟩
  have zb2 := zb1.keep b2
  clear zb1 b2 t0 t1
  go_wp2_with fail
  (with_reducible refine (CS.out w2 _ gA _ qA).mono ?_)
  rintro e w3 ⟨aS, eS, jS, rfl, gS, b3⟩
  have hjS := CJ.out _ _ _ _ gS
  rw [hjS] at gS ⊢
  have b3' : Below w3.heap.size w3 (w3.alloc (.cells #[.slice aS m eS, .int .i64 nx] 28)) := (Below.refl _ w3).alloc (Nat.le_refl _) _
  have qs3 : QS (w3.alloc (.cells #[.slice aS m eS, .int .i64 nx] 28)) w3.heap.size w2.heap.size w3.heap.size (w3.heap.size + 1) aS m eS nx (ds.map lift) jS := ⟨Blk.new w3 _ _, gS.keep b3', hjS, gS.apV, by omega, by omega, by simp⟩
  have zb3 := zb2.keep (below_tr b3 b3')
  have hz2 := zb2.t.lt
  have hs3 := b3.size
  clear zb2 b3 b3' qA gS
  have t0 := zb3.t.cell 0
  have t1 := zb3.t.cell 1
  simp at t0 t1
  go_wp2_with fail
  obtain ⟨W3, hW3⟩ : ∃ W, w3.alloc (.cells #[.slice aS m eS, .int .i64 nx] 28) = W := ⟨_, rfl⟩
  obtain ⟨TS, hTS⟩ : ∃ X, w3.heap.size = X := ⟨_, rfl⟩
  obtain ⟨BS, hBS⟩ : ∃ X, w2.heap.size = X := ⟨_, rfl⟩
  rw [hW3] at qs3 zb3 t0 t1 ⊢
  rw [hTS] at qs3 hs3 ⊢
  rw [hBS] at qs3 hs3 hz2
  clear hW3 hTS hBS
  have HZL : Hid (w.heap.size + 1 ≤ W3.heap.size) := by have := qs3.tT; show _ ≤ _; omega
  (with_reducible refine (CA.out W3 zb3.below).mono ?_)
  rintro e w4 ⟨gB, jB, rfl, qB, jsB, b4⟩
  have b4' : Below w4.heap.size w4 (w4.alloc (.cells #[.slice (some ⟨gB, 0, none⟩) n n, .int .i64 nx] 28)) := (Below.refl _ w4).alloc (Nat.le_refl _) _
  have bb4 := below_tr b4 b4'
  have hs4 := b4.size
  have qt4 : QT (w4.alloc (.cells #[.slice (some ⟨gB, 0, none⟩) n n, .int .i64 nx] 28)) w4.heap.size W3.heap.size gB n W3.heap.size w4.heap.size nx rs jB := ⟨Blk.new w4 _ _, qB.keep b4', jsB.keep b4', jsB.ap (Nat.lt_succ_self _) qB.at_ qB.own.lt, Nat.le_refl _⟩
  have zb4 := zb3.keep bb4
  have qs4 := qs3.keep bb4
  have hU := qs3.tT
  have hs4' : w4.heap.size + 1 ≤ (w4.alloc (.cells #[.slice (some ⟨gB, 0, none⟩) n n, .int .i64 nx] 28)).heap.size := by simp
  clear zb3 qs3 b4 b4' bb4 qB jsB t0 t1
  obtain ⟨u0, u1⟩ := qt4.two
  go_wp2_with fail
  obtain ⟨W4, hW4⟩ : ∃ W, w4.alloc (.cells #[.slice (some ⟨gB, 0, none⟩) n n, .int .i64 nx] 28) = W := ⟨_, rfl⟩
  obtain ⟨XB, hXB⟩ : ∃ X, w4.heap.size = X := ⟨_, rfl⟩
  obtain ⟨Lo, hLo⟩ : ∃ X, W3.heap.size = X := ⟨_, rfl⟩
  rw [hW4] at qt4 zb4 qs4 hs4' u0 u1 ⊢
  rw [hXB] at qt4 hs4 hs4' u0 u1 ⊢
  rw [hLo] at qt4 hs4 hU
  clear hW4 hXB
  (with_reducible refine (CI.out W4 _ gB _ qt4.tq zb4.below).mono ?_)
  rintro e w6 ⟨aI, eI, jI, rfl, gI, b6⟩
  have hjI := CJ.out _ _ _ _ gI
  rw [hjI] at gI ⊢
  have b6' : Below w6.heap.size w6 (w6.alloc (.cells #[.slice aI m eI, .int .i64 nx] 28)) := (Below.refl _ w6).alloc (Nat.le_refl _) _
  have bb6 := below_tr b6 b6'
  have hs6 := b6.size
  have qi6 : QS (w6.alloc (.cells #[.slice aI m eI, .int .i64 nx] 28)) w6.heap.size W4.heap.size w6.heap.size (w6.heap.size + 1) aI m eI nx (ds.map lift) jI := ⟨Blk.new w6 _ _, gI.keep b6', hjI, gI.apV, by omega, by omega, by simp⟩
  have zb6 := zb4.keep bb6
  have qs6 := qs4.keep bb6
  have qt6 := qt4.keep bb6
  clear zb4 qs4 qt4 b6 b6' bb6 gI u0 u1
  obtain ⟨u0, u1⟩ := qi6.two
  obtain ⟨v0, v1⟩ := qs6.two
  go_wp2_with fail
  obtain ⟨W6, hW6⟩ : ∃ W, w6.alloc (.cells #[.slice aI m eI, .int .i64 nx] 28) = W := ⟨_, rfl⟩
  obtain ⟨TI, hTI⟩ : ∃ X, w6.heap.size = X := ⟨_, rfl⟩
  obtain ⟨BI, hBI⟩ : ∃ X, W4.heap.size = X := ⟨_, rfl⟩
  rw [hW6] at qi6 zb6 qs6 qt6 u0 u1 v0 v1 ⊢
  rw [hTI] at qi6 hs6 u0 u1 ⊢
  rw [hBI] at qi6 hs6 hs4'
  clear hW6 hTI
  (with_reducible refine (CE.out W6 BI BS _ _ _ _ jI jS qi6.q qs6.q qi6.len qs6.len).mono ?_)
  rintro e w7 ⟨rfl, b7⟩
  have zb7 := zb6.keep b7
  have qs7 := qs6.keep b7
  have qt7 := qt6.keep b7
  have qi7 := qi6.keep b7
  clear zb6 qs6 qt6 qi6 b7 u0 u1 v0 v1
  have t0 := zb7.t.cell 0
  have t1 := zb7.t.cell 1
  simp at t0 t1
  obtain ⟨u0, u1⟩ := qt7.two
  have zb7d := zb7.keep (Below.refl w7.heap.size w7).drew
  have qt7d := qt7.keep (Below.refl w7.heap.size w7).drew
  go_upto_region 14 with fail
  go_region_held3 (fun W : World => W.cell? ⟨XB, 0, none⟩ = some (.slice (some ⟨gB, 0, none⟩) n n) ∧ W.cell? ⟨XB, 1, none⟩ = some (.int .i64 nx) ∧ W.cell? ⟨w.heap.size, 0, none⟩ = some (.slice a n cap) ∧ W.cell? ⟨w.heap.size, 1, none⟩ = some (.int .i64 nx)) (go_keep) (first
    | (go_at_call 17; (with_reducible refine (CA.out _ zb7d.below).mono ?_); rintro e wA ⟨gC, jC, rfl, qC, _, b9⟩; have qAA := (qt7d.keep b9).tq; obtain ⟨s0, s1⟩ := (qt7d.keep b9).two; have s2 := (zb7d.keep b9).t.cell 0; have s3 := (zb7d.keep b9).t.cell 1; (simp at s2 s3))
    | (go_at_call 19; (with_reducible refine (eqTabQ _ _ gB gC n n n nx rs _ _ _ hn1 HS.out qAA qC).mono ?_); rintro e wB ⟨rfl, b10⟩; obtain ⟨s4, s5⟩ := ((qt7d.keep b9).keep b10).two; have s6 := ((zb7d.keep b9).keep b10).t.cell 0; have s7 := ((zb7d.keep b9).keep b10).t.cell 1; (simp at s6 s7))
    | fail)
  have bR : Below w7.heap.size w7 wB := below_tr (below_tr (Below.refl w7.heap.size w7).drew b9) b10
  have zb8 := zb7.keep bR
  have qs8 := qs7.keep bR
  have qt8 := qt7.keep bR
  have qi8 := qi7.keep bR
  clear zb7 qs7 qt7 qi7 bR b9 b10 zb7d qt7d qC qAA s0 s1 s2 s3 s4 s5 s6 s7 u0 u1 t0 t1
  obtain ⟨u0, u1⟩ := qt8.two
  have hXBl := qt8.box.lt
  have hqi := qi8.tT
  have hcp := qt8.tq.cpd.1
  go_wp2_with fail
  refine (CK.out wB gB Lo XB jB hcp qt8.ap (by omega) qt8.tq.own qt8.jq.G).mono ?_
  rintro e w10 ⟨rfl, hTL⟩
  have hout := hTL.out
  have hs10 := hout.size
  have hbs : w.heap.size + 1 ≤ Lo := by rw [← hLo]; exact HZL.out
  have zb10 := zb8.outs hout hbs
  have qs10 := qs8.outs hout (by omega)
  have qi10 := qi8.outsHi hout (by omega) (by omega)
  obtain ⟨qk, hqk⟩ : ∃ q, qAt 1 jB n = q := ⟨_, rfl⟩
  have hqm0 : ¬ (qk : Int) < 0 := by omega
  rw [hqk]
  clear zb8 qs8 qt8 qi8 hTL hout u0 u1 hqk
  obtain ⟨u0, u1⟩ := qi10.two
  obtain ⟨v0, v1⟩ := qs10.two
  go_wp2_with fail
  (with_reducible refine (CE.out w10 BI BS _ _ _ _ jI jS qi10.q qs10.q qi10.len qs10.len).mono ?_)
  rintro e w11 ⟨rfl, b11⟩
  have zb11 := zb10.keep b11
  have qs11 := qs10.keep b11
  have qi11 := qi10.keep b11
  clear zb10 qs10 qi10 b11 u0 u1 v0 v1
  obtain ⟨u0, u1⟩ := qi11.two
  have hqI := CQ.out jI _ _ _ qi11.q
  have hIl := qi11.box.lt
  have hqi11 := qi11.tT
  go_wp2_with fail
  (with_reducible refine (markVA (T := TI) nx hmb hqI qi11.q qi11.len (by omega) qi11.ap).mono ?_)
  rintro e w11c ⟨rfl, mG, hout⟩
  have hs11c := hout.size
  have zb11c := zb11.outs hout (by omega)
  have qs11c := qs11.outs hout (by omega)
  have xI := qi11.box.outs hout (by omega)
  have cH : ∀ W : World, TI ≤ W.heap.size → TV W BI TI aI m eI jI → _ := fun W hT h => heldV nx hmb hqI qi11.len hT h
  obtain ⟨mm, hmm⟩ : ∃ q, qAt 1 jI m = q := ⟨_, rfl⟩
  rw [hmm] at cH ⊢
  have CH : Hid _ := cH
  clear zb11 qs11 qi11 hout u0 u1 cH hqI hmm
  have u0 := xI.cell 0
  have u1 := xI.cell 1
  simp at u0 u1
  go_wp2_with fail
  (with_reducible refine (CH.out w11c (by omega) mG).mono ?_)
  rintro e w12 ⟨rfl, b13⟩
  have zb12 := zb11c.keep b13
  have qs12 := qs11c.keep b13
  have mG12 := mG.keep (by omega) b13
  have xI12 := xI.keep b13
  have hs12 := b13.size
  have hmm0 : ¬ (mm : Int) < 0 := by omega
  have hmme : ((mm : Int) != (mm : Int)) = false := by simp
  have hmmf : ((mm : Int) == (mm : Int)) = true := by simp
  clear zb11c qs11c mG xI b13 u0 u1
  have t0 := zb12.t.cell 0
  have t1 := zb12.t.cell 1
  simp at t0 t1
  go_wp2_with fail
  (with_reducible refine (CA.out w12 zb12.below).mono ?_)
  rintro e w14 ⟨gD, jD, rfl, qD, _, b14⟩
  have zb14 := zb12.keep b14
  have qs14 := qs12.keep b14
  have mG14 := mG12.keep (by omega) b14
  have xI14 := xI12.keep b14
  have hs14 := b14.size
  clear zb12 qs12 mG12 xI12 b14 t0 t1
  go_wp2_with fail
  (with_reducible refine (CI.out w14 _ gD _ qD zb14.below).mono ?_)
  rintro e w15 ⟨aJ, eJ, jJ, rfl, gJ, b15⟩
  have hjJ := CJ.out _ _ _ _ gJ
  rw [hjJ] at gJ ⊢
  have b15' : Below w15.heap.size w15 (w15.alloc (.cells #[.slice aJ m eJ, .int .i64 nx] 28)) := (Below.refl _ w15).alloc (Nat.le_refl _) _
  have bb15 := below_tr b15 b15'
  have qj : QS (w15.alloc (.cells #[.slice aJ m eJ, .int .i64 nx] 28)) w15.heap.size w14.heap.size w15.heap.size (w15.heap.size + 1) aJ m eJ nx (ds.map lift) jJ := ⟨Blk.new w15 _ _, gJ.keep b15', hjJ, gJ.apV, by omega, by omega, by simp⟩
  have zb15 := zb14.keep bb15
  have qs15 := qs14.keep bb15
  have mG15 := mG14.keep (by omega) bb15
  have xI15 := xI14.keep bb15
  have hs15 := bb15.size
  clear zb14 qs14 mG14 xI14 b15 b15' bb15 gJ qD
  obtain ⟨u0, u1⟩ := qj.two
  obtain ⟨v0, v1⟩ := qs15.two
  go_wp2_with fail
  obtain ⟨W15, hW15⟩ : ∃ W, w15.alloc (.cells #[.slice aJ m eJ, .int .i64 nx] 28) = W := ⟨_, rfl⟩
  rw [hW15] at qj zb15 qs15 mG15 xI15 hs15 u0 u1 v0 v1 ⊢
  clear hW15
  (with_reducible refine (CE.out W15 _ BS _ _ _ _ jJ jS qj.q qs15.q qj.len qs15.len).mono ?_)
  rintro e w16 ⟨rfl, b16⟩
  have zb16 := zb15.keep b16
  have mG16 := mG15.keep (by omega) b16
  have xI16 := xI15.keep b16
  have hs16 := b16.size
  clear zb15 qs15 qj mG15 xI15 b16 u0 u1 v0 v1
  have u0 := xI16.cell 0
  have u1 := xI16.cell 1
  simp at u0 u1
  go_wp2_with fail
  (with_reducible refine (CH.out w16 (by omega) mG16).mono ?_)
  rintro e w17 ⟨rfl, b17⟩
  have zb17 := zb16.keep b17
  have HEND : Hid _ := zb17.below
  clear zb16 mG16 xI16 b17 u0 u1 zb17
  go_wp2
  go_ret
  exact ⟨rfl, HEND.out⟩
end
end Go.Proofs.YtmfimoccemgoiaaGreatDoor
