/-
  Joined: Get, Path, Puts, Eqs, Paths, RowP, PutA, Attr6, WrapI, TruncT, IdxP, DelP, WithoutI, BinP, InsP, InsR, DelA, PutNm, Text, DrawI, Reader, GetM, EncDec, SpecGet, FnI, AttrI, ChgSetAttr, AttrT, FnExactSetAttrW.
-/
import Derived.Test.YtnfplimhhjpbkaaGreatDoorJ00T
import Derived.Test.YtnfplimhhjpbkaaGreatDoorJ01T
import Derived.Test.YtnfplimhhjpbkaaGreatDoorJ02T
import Derived.Test.YtnfplimhhjpbkaaGreatDoorEqInoT
import Derived.Test.YtnfplimhhjpbkaaGreatDoorJ04T
import Derived.Test.YtnfplimhhjpbkaaGreatDoorJ05T
import Derived.Test.YtnfplimhhjpbkaaGreatDoorEqTabT
import Derived.Test.YtnfplimhhjpbkaaGreatDoorJ07T
import Derived.Test.YtnfplimhhjpbkaaGreatDoorJ08T
import Derived.Test.YtnfplimhhjpbkaaGreatDoorJ09T
import Derived.Test.YtnfplimhhjpbkaaGreatDoorJ10T
import Derived.Test.YtnfplimhhjpbkaaGreatDoorJ11T
import Derived.Test.YtnfplimhhjpbkaaGreatDoorJ12T
import Derived.Test.YtnfplimhhjpbkaaGreatDoorCloneTT
import Derived.Test.YtnfplimhhjpbkaaGreatDoorCopyIT
import Derived.Test.YtnfplimhhjpbkaaGreatDoorJ15T
import Derived.Test.YtnfplimhhjpbkaaGreatDoorJ16T
import Derived.Test.YtnfplimhhjpbkaaGreatDoorCopyTT
import Derived.Test.YtnfplimhhjpbkaaGreatDoorSetST
import Derived.Test.YtnfplimhhjpbkaaGreatDoorJ19T
import Derived.Test.YtnfplimhhjpbkaaGreatDoorSetIT
import Derived.Test.YtnfplimhhjpbkaaGreatDoorJ21T
import Derived.Test.YtnfplimhhjpbkaaGreatDoorJ22T
import Derived.Test.YtnfplimhhjpbkaaGreatDoorJ23T
import Derived.Test.YtnfplimhhjpbkaaGreatDoorJ24T
import Derived.Test.YtnfplimhhjpbkaaGreatDoorEntsOkT
import Derived.Test.YtnfplimhhjpbkaaGreatDoorAttsOkT
import Derived.Test.YtnfplimhhjpbkaaGreatDoorAscIT
import Derived.Test.YtnfplimhhjpbkaaGreatDoorAscTT
import Derived.Test.YtnfplimhhjpbkaaGreatDoorInoOkT
import Derived.Test.YtnfplimhhjpbkaaGreatDoorAscAT
import Derived.Test.YtnfplimhhjpbkaaGreatDoorJ31T
import Derived.Test.YtnfplimhhjpbkaaGreatDoorTabOkST
import Derived.Test.YtnfplimhhjpbkaaGreatDoorJ33T
import Derived.Test.YtnfplimhhjpbkaaGreatDoorPutIT
import Derived.Test.YtnfplimhhjpbkaaGreatDoorNext7T
import Derived.Test.YtnfplimhhjpbkaaGreatDoorJ36T
import Derived.Test.YtnfplimhhjpbkaaGreatDoorTreeST
import Derived.Test.YtnfplimhhjpbkaaGreatDoorJ38T
import Derived.Test.YtnfplimhhjpbkaaGreatDoorJ39T
import Derived.Test.YtnfplimhhjpbkaaGreatDoorJ40T
import Derived.Test.YtnfplimhhjpbkaaGreatDoorJ41T
import Derived.Test.YtnfplimhhjpbkaaGreatDoorJ42T
import Derived.Test.YtnfplimhhjpbkaaGreatDoorJ43T
import Derived.Test.YtnfplimhhjpbkaaGreatDoorJ44T
import Derived.Test.YtnfplimhhjpbkaaGreatDoorJ45T
import Derived.Test.YtnfplimhhjpbkaaGreatDoorJ46T
import Derived.Test.YtnfplimhhjpbkaaGreatDoorJ47T
import Derived.WalkKit
import Derived.WalkSpells
import Derived.WalkLawsBesides
import Derived.Deep.QuietTactic
import Derived.BigQuiet
import Derived.OpenShut
import Derived.Laws.BitsAllLaws
import Derived.Maps.AppendAt
import Derived.Lib.SliceRun
import Derived.Lib.Strings
import Derived.Deep.RegionWith
import Derived.Laws.IdiomStrings
import Derived.Deep.Slices
import Derived.Lib.AppendStr
import Derived.Lib.Slices
import Derived.Lib.Walk
import Derived.Lib.Bytealg
import Derived.Lib.IndexLaws
import Derived.Lib.BufferWrite
import Derived.Lib.UnsafeStr
import Derived.Laws.MakeOwn
import Derived.Laws.Strings3
import Derived.RangeFuncBox
import Derived.RangeFuncNested
import Derived.RangeFuncBound
import Derived.RangeFuncCalls
import Derived.RangeFuncLeaves
import Derived.Shelf.Abstract
import Derived.Shelf.RegionOpen
import Derived.OwnWalkIn
import Derived.TacticsInMore
import Derived.LoopNIn
import Derived.LoopIn
import Derived.ProofKit
import Derived.ChangeOld
import Derived.Below
import Derived.Deep.RegionHeld3
import Derived.Deep.DeepCutAuto
import Derived.Lib.ConvBytes
import Derived.Deep.AppendLies
import Derived.Deep.AppendSrc
import Derived.Maps.OwnSet
import Derived.Maps.OwnOps
import Derived.Deep.RegionLaw
import Derived.Deep.CutBlock
import Derived.OwnWalk
import Derived.Deep.DeepAppendRoom
import Derived.LaidEql
import Derived.Stop.Asserts
import Derived.RowKitTokens
import Derived.Shelf.SlGeneric
import Derived.Shelf.SlIterI.Nil
import Derived.Shelf.SortM.Plain
import Derived.Shelf.SortM.SortNone
import Derived.Ground.GgzProg
import Derived.Ground.SlgmProg
import Derived.Lib.AppendZerosOnto
import Derived.Laws.CopyRow
import Derived.Laws.BitsLemmas
import Derived.Lib.Overlaps
import Derived.Laws.BytesString
import Derived.Laws.StructEq
import Derived.Deep.OwnRows
namespace Go.Proofs.YtnfplimhhjpbkaaGreatDoor
section
open Go.RowKit
def gnGo (zs : List Int) (p : Nat) : Nat → Nat → Nat → (Nat × Nat × Bool)
  | 0, _, _ => (0, 0, false)
  | f + 1, k, acc =>
    if p + k < zs.length then
      if 128 ≤ (zs.getD (p + k) 0).toNat then gnGo zs p f (k + 1) (acc + (zs.getD (p + k) 0).toNat % 128 * 128 ^ k)
      else if (0 < k ∧ (zs.getD (p + k) 0).toNat = 0) ∨ 1000000 < acc + (zs.getD (p + k) 0).toNat % 128 * 128 ^ k then (0, 0, false)
      else (acc + (zs.getD (p + k) 0).toNat % 128 * 128 ^ k, p + k + 1, true)
    else (0, 0, false)
def gn (zs : List Int) (at' : Int) : Nat × Nat × Bool := if at' < 0 ∨ (zs.length : Int) ≤ at' then (0, 0, false) else gnGo zs at'.toNat 3 0 0
end

section
theorem nameOk_len {l : Str} (h : nameOk l = true) : l.length ≤ 14 := by
  unfold nameOk at h
  simp only [Bool.and_eq_true, decide_eq_true_eq] at h
  exact h.1.1.1.2
end

section
open Go.RowKit
/-- A text's bytes as numbers. -/
def strZ (s : ByteArray) : List Int := s.data.toList.map fun b => (b.toNat : Int)
end

section
open Go.RowKit
theorem str_ne {z y : ByteArray} (h : z ≠ y) : (z.toList == y.toList) = false := by
  rw [beq_eq_false_iff_ne]
  intro e
  rw [Lib.toList_data, Lib.toList_data] at e
  apply h
  rw [← Lib.mk_data z, ← Lib.mk_data y, e]
end

section
open Go.RowKit
/-- y is greater than z. -/
def gtS (z y : ByteArray) : Bool := !(Op.bytesLess y.toList z.toList || y.toList == z.toList)
end

section
open Go.RowKit
/-- An append whose run is known, in a region that draws. -/
theorem step_run (W : World) {ops : Array Oper} {o : Oper} {a : Act} {K : Act → World → Prop} {Q : Exit → Act → World → Prop} {E : Prop} (hgd : o.guard = none) (s x : Operand) (t : TypeId)
    (ho : o.op = .call { callee := .builtin .append, args := #[s, x], argTypes := #[t, t] }) (v1 v2 : Value) (hs : a.eval s = v1) (hx : a.eval x = v2) (R : Value → World → Prop)
    (hr : ∀ ty, ∃ v' W', (Builtin.append_ #[t, t] ty #[v1, v2]).run Tryz.prog W = .ok v' W' ∧ R v' W')
    (h : ∀ v' W', R v' W' → K (a.put o.dst v') W') :
    if Region.wanted o (yielded ops a.tmps) = true then Oper.wp Tryz.prog o a W K Q else E := by
  have hw : Region.wanted o (yielded ops a.tmps) = true := by simp [Region.wanted, hgd]
  rw [if_pos hw]
  obtain ⟨v', W', h1, h2⟩ := hr o.type
  unfold Oper.wp execOp
  simp only [ho, resolve, invoke, builtin, Sem.run_bind, Sem.run_pure, Result.andThen_ok, List.map_toArray, List.map_cons, List.map_nil, hs, hx, h1]
  exact h v' W' h2
/-- One pair more. -/
theorem app_pair (W : World) (B : Nat) (t e : TypeId) (i : TypeInfo) (z : Value) (bytes : Nat) (ht : Tryz.prog.underlying t = some (.slice e)) (hi : Tryz.prog.info? e = some i) (hz : i.zero = some z) (hsz : i.size = 2) (hby : i.bytes = bytes) (hzs : z.cells.size = 2) (hb64 : bytes ≤ 64)
    (g n c : Nat) (ps : List VP) (hown : W.ownsRow B e 2 (.slice (some ⟨g, 0, none⟩) n c) n (pv ps)) (hn : n ≤ 8000000) (ad : Nat) (p : VP) (c0 : W.cell? ⟨ad, 0, none⟩ = some p.1) (c1 : W.cell? ⟨ad, 1, none⟩ = some p.2) (p1 : p.1.oneCell' = true) (p2 : p.2.oneCell' = true) (hB : B ≤ W.heap.size) (ty : TypeId) :
    ∃ v' W', (Builtin.append_ #[t, t] ty #[.slice (some ⟨g, 0, none⟩) n c, .slice (some ⟨ad, 0, none⟩) 1 1]).run Tryz.prog W = .ok v' W' ∧ ∃ g' c', v' = .slice (some ⟨g', 0, none⟩) (n + 1) c' ∧ W'.ownsRow B e 2 (.slice (some ⟨g', 0, none⟩) (n + 1) c') (n + 1) (pv (ps ++ [p])) ∧ W.grownBy W' (some g) ∧ (g' = g ∨ g' = W.heap.size) := by
  obtain ⟨v', w', h1, h2, h3, _, h5⟩ := run_append_own_at (P := Tryz.prog) W B t ty e i z 2 bytes ht hi hz hsz hby hzs (by decide) _ n (pv ps) hown ⟨ad, 0, none⟩ 1 1 [p.1, p.2] rfl (by
    intro j u hj
    rw [add_at]
    match j, hj with
    | 0, hj => simp at hj; subst hj; exact c0
    | 1, hj => simp at hj; subst hj; exact c1
    | j + 2, hj => simp at hj) (by
    intro u hu
    simp at hu
    rcases hu with rfl | rfl
    · exact p1
    · exact p2) (by unfold maxLen; omega) (by have : (n + 1) * bytes ≤ 8000001 * 64 := Nat.mul_le_mul (by omega) hb64; omega) hB
  refine ⟨v', w', h1, ?_⟩
  rw [← pv_snoc] at h2
  rcases h2.2 with ⟨_, h0⟩ | ⟨g', c', cur, rfl, rest⟩
  · omega
  · refine ⟨g', c', rfl, h2, h3, ?_⟩
    simpa [Value.ownBlock] using h5
end

section
open Go.RowKit
set_option maxRecDepth 100000 in
set_option maxHeartbeats 4000000 in
theorem l6AttrS (a : Option Addr) (n cap : Nat) (es : List (ByteArray × ByteArray)) (nm : ByteArray) (y : ByteArray) (w : World) (hn : es.length = n) (hs : n ≤ 100000) (hr : RdP w a (aP es)) :
    Calls Tryz.prog 109 #[.slice a n cap, .agg #[.string nm, .string y]] w fun e w' => ∃ g c, e = .returned (.slice (some ⟨g, 0, none⟩) (n + 1) c) ∧ w'.ownsRow w.heap.size 89 2 (.slice (some ⟨g, 0, none⟩) (n + 1) c) (n + 1) (pv (aP (insBy (fun q => gtS nm q.1) es (nm, y)))) ∧ Below w.heap.size w w' := by
  have hn' : Hid (es.length = n) := hn
  obtain ⟨i0, hi, hz0, hz1, hz2⟩ := info_parts Tryz.infoAttr
  have B0 : Below w.heap.size w (w.alloc (.cells #[.string nm, .string y] 89)) := (Below.refl _ w).alloc (Nat.le_refl _) _
  have z0 := Blk.new w 89 #[.string nm, .string y]
  have hr0 := hr.keep B0
  go_enter Tryz.func109, Tryz.ntmps109
  go_upto_region 1 with fail
  obtain ⟨W0, hW0⟩ : ∃ W, w.alloc (.cells #[.string nm, .string y] 89) = W := ⟨_, rfl⟩
  have hs0 : W0.heap.size = w.heap.size + 1 := by rw [← hW0]; simp
  rw [hW0] at B0 z0 hr0 ⊢
  clear hW0 hr hn
  have t0 := z0.cell 0
  have t1 := z0.cell 1
  simp at t0 t1
  have hwb : w.heap.size ≤ W0.heap.size := by omega
  have hwl : w.heap.size < W0.heap.size := by omega
  clear hs0
  have bE := (Below.refl W0.heap.size W0).alloc (Nat.le_refl _) (.cells #[] 89)
  have bP := (Below.refl W0.heap.size W0).alloc (Nat.le_refl _) (.cells #[.string nm, .string y] 89)
  have bEP := bE.alloc bE.size (.cells #[.string nm, .string y] 89)
  have bPE := bP.alloc bP.size (.cells #[] 89)
  have oE := empty_row W0 W0.heap.size 89 2 (Nat.le_refl _)
  have oEP := World.ownsRow.alloc oE (.cells #[.string nm, .string y] 89)
  have oPE := empty_row (W0.alloc (.cells #[.string nm, .string y] 89)) W0.heap.size 89 2 (by simp)
  simp only [World.size_alloc] at oPE
  have zEP := Blk.new (W0.alloc (.cells #[] 89)) 89 #[.string nm, .string y]
  have zPE := (Blk.new W0 89 #[.string nm, .string y]).alloc (.cells #[] 89)
  simp only [World.size_alloc] at zEP
  have f1 := fresh_pairs (W0.alloc (.cells #[] 89)).drew W0.heap.size W0.heap.size 64 89 i0 (.agg #[.string ⟨#[]⟩, .string ⟨#[]⟩]) 32 Tryz.underlying64 hi hz0 hz1 hz2 rfl (by omega) a n cap (aP es) (by rw [aP_length, hn'.out]) (by omega) (aP_one es) (Nat.le_refl _) oE (hr0.keep bE.drew)
  have f2 := fresh_pairs ((W0.alloc (.cells #[] 89)).alloc (.cells #[.string nm, .string y] 89)).drew W0.heap.size W0.heap.size 64 89 i0 (.agg #[.string ⟨#[]⟩, .string ⟨#[]⟩]) 32 Tryz.underlying64 hi hz0 hz1 hz2 rfl (by omega) a n cap (aP es) (by rw [aP_length, hn'.out]) (by omega) (aP_one es) (Nat.le_refl _) oEP (hr0.keep bEP.drew)
  have f3 := fresh_pairs ((W0.alloc (.cells #[.string nm, .string y] 89)).alloc (.cells #[] 89)).drew W0.heap.size (W0.heap.size + 1) 64 89 i0 (.agg #[.string ⟨#[]⟩, .string ⟨#[]⟩]) 32 Tryz.underlying64 hi hz0 hz1 hz2 rfl (by omega) a n cap (aP es) (by rw [aP_length, hn'.out]) (by omega) (aP_one es) (by omega) oPE (hr0.keep bPE.drew)
  have hap := fun (W : World) (hB : W0.heap.size ≤ W.heap.size) (g c : Nat) (ho : W.ownsRow W0.heap.size 89 2 (.slice (some ⟨g, 0, none⟩) n c) n (pv (aP es))) (ad : Nat) (zz : Blk W ad 89 #[.string nm, .string y]) => app_pair W W0.heap.size 64 89 i0 (.agg #[.string ⟨#[]⟩, .string ⟨#[]⟩]) 32 Tryz.underlying64 hi hz0 hz1 hz2 rfl (by omega) g n c (aP es) ho (by omega) ad (.string nm, .string y) (zz.cell 0) (zz.cell 1) rfl rfl hB
  have HAP : Hid _ := hap
  clear hap oE oEP oPE hr0
  go_cut [5] (fun s wx => ∃ g c, s = .slice (some ⟨g, 0, none⟩) (n + 1) c ∧ wx.ownsRow W0.heap.size 89 2 (.slice (some ⟨g, 0, none⟩) (n + 1) c) (n + 1) (pv (aP (es ++ [(nm, y)]))) ∧ Below W0.heap.size W0 wx)
  case first =>
    go_region_held3 (fun W : World => W.cell? ⟨w.heap.size, 0, none⟩ = some (.string nm) ∧ W.cell? ⟨w.heap.size, 1, none⟩ = some (.string y)) (go_keep) (first
      | (refine step_fresh (W0.alloc (.cells #[] 89)).drew rfl (.tmp 7) (.tmp 8) 64 rfl W0.heap.size W0.heap.size a n cap 89 2 (pv (aP es)) rfl rfl f1 ?_; intro g1 c1 V1 o1 hg1 hl1 bF1; have bV : Below W0.heap.size W0 V1 := bE.drew.trans (bF1.mono bE.size); have q0 := (z0.keep bV).cell 0; have q1 := (z0.keep bV).cell 1; simp at q0 q1; have oN := World.ownsRow.alloc o1 (.cells #[.string nm, .string y] 89); have zN := Blk.new V1 89 #[.string nm, .string y]; have bN := bV.alloc bV.size (.cells #[.string nm, .string y] 89); have rN := (z0.keep bN).cell 0; have rN1 := (z0.keep bN).cell 1; simp at rN rN1)
      | (refine step_fresh ((W0.alloc (.cells #[] 89)).alloc (.cells #[.string nm, .string y] 89)).drew rfl (.tmp 7) (.tmp 8) 64 rfl W0.heap.size W0.heap.size a n cap 89 2 (pv (aP es)) rfl rfl f2 ?_; intro g1 c1 V2 o1 hg1 hl1 bF2; have bN : Below W0.heap.size W0 V2 := bEP.drew.trans (bF2.mono bEP.size); have q0 := (z0.keep bN).cell 0; have q1 := (z0.keep bN).cell 1; simp at q0 q1; have oN := o1; have zN := Blk.keep (Blk.drew zEP) bF2)
      | (refine step_fresh ((W0.alloc (.cells #[.string nm, .string y] 89)).alloc (.cells #[] 89)).drew rfl (.tmp 7) (.tmp 8) 64 rfl W0.heap.size (W0.heap.size + 1) a n cap 89 2 (pv (aP es)) rfl rfl f3 ?_; intro g1 c1 V3 o1 hg1 hl1 bF3; have bN : Below W0.heap.size W0 V3 := bPE.drew.trans (bF3.mono bPE.size); have q0 := (z0.keep bN).cell 0; have q1 := (z0.keep bN).cell 1; simp at q0 q1; have oN := o1; have zN := Blk.keep (Blk.drew zPE) bF3)
      | (refine step_run (V1.alloc (.cells #[.string nm, .string y] 89)) (by rfl) (.tmp 9) (.tmp 11) 64 (by rfl) (.slice (some ⟨g1, 0, none⟩) n c1) (.slice (some ⟨V1.heap.size, 0, none⟩) 1 1) (by first | rfl | simp [Act.eval, Act.put]) (by first | rfl | simp [Act.eval, Act.put]) _ (HAP.out _ bN.size g1 c1 oN V1.heap.size zN) ?_; rintro v5 V5 ⟨g5, c5, rfl, o5, hg5, hat5⟩; have hb5 := bN.grown hg5 bN.size (fun m hm => by simp at hm; have := (World.ownsRow.lt oN g1 rfl).1; omega); have q5 := (z0.keep hb5).cell 0; have q6 := (z0.keep hb5).cell 1; simp at q5 q6)
      | (refine step_run V2 (by rfl) (.tmp 9) (.tmp 11) 64 (by rfl) (.slice (some ⟨g1, 0, none⟩) n c1) (.slice (some ⟨W0.heap.size + 1, 0, none⟩) 1 1) (by first | rfl | simp [Act.eval, Act.put]) (by first | rfl | simp [Act.eval, Act.put]) _ (HAP.out _ bN.size g1 c1 oN (W0.heap.size + 1) zN) ?_; rintro v5 V5 ⟨g5, c5, rfl, o5, hg5, hat5⟩; have hb5 := bN.grown hg5 bN.size (fun m hm => by simp at hm; have := (World.ownsRow.lt oN g1 rfl).1; omega); have q5 := (z0.keep hb5).cell 0; have q6 := (z0.keep hb5).cell 1; simp at q5 q6)
      | (refine step_run V3 (by rfl) (.tmp 9) (.tmp 11) 64 (by rfl) (.slice (some ⟨g1, 0, none⟩) n c1) (.slice (some ⟨W0.heap.size, 0, none⟩) 1 1) (by first | rfl | simp [Act.eval, Act.put]) (by first | rfl | simp [Act.eval, Act.put]) _ (HAP.out _ bN.size g1 c1 oN W0.heap.size zN) ?_; rintro v5 V5 ⟨g5, c5, rfl, o5, hg5, hat5⟩; have hb5 := bN.grown hg5 bN.size (fun m hm => by simp at hm; have := (World.ownsRow.lt oN g1 rfl).1; omega); have q5 := (z0.keep hb5).cell 0; have q6 := (z0.keep hb5).cell 1; simp at q5 q6)
      | fail)
    all_goals (go_wp2_with fail; go_meet)
    all_goals exact ⟨g5, c5, rfl, by rw [aP_snoc]; exact o5, hb5⟩
  case rest =>
    obtain ⟨g, c, rfl, oc, bc⟩ := hcut
    obtain ⟨Wc, hwc⟩ : ∃ W, W = wc := ⟨_, rfl⟩
    subst hwc
    have hgl : W0.heap.size ≤ g := (World.ownsRow.lt oc g rfl).1
    have oc' : Wc.ownsRow W0.heap.size 89 2 (.slice (some ⟨g, 0, none⟩) (n + 1) c) (n + 1) (pv (aP (es.take n ++ (nm, y) :: es.drop n))) := by
      rw [List.take_of_length_le (by rw [hn'.out]; omega), List.drop_of_length_le (by rw [hn'.out]; omega)]
      exact oc
    have HZ : Hid _ := z0
    have HB0 : Hid _ := B0
    clear oc f1 f2 f3 HAP bE bP bEP bPE zEP zPE hi hz0 hz1 hz2 t0 t1 z0 B0
    go_wp2
    go_loopw [6] (fun k wr => ∃ (p : Nat) (u : ByteArray × ByteArray), p ≤ n ∧ k = .int .i64 p ∧ wr.ownsRow W0.heap.size 89 2 (.slice (some ⟨g, 0, none⟩) (n + 1) c) (n + 1) (pv (aP (es.take p ++ u :: es.drop p))) ∧ Below W0.heap.size W0 wr ∧ Hid (∀ q ∈ es.drop p, gtS nm q.1 = true)) (fun k _ => (intOf k).toNat)
    case atStart => exact ⟨n, (nm, y), Nat.le_refl _, by go_num, oc', bc, fun q hq => by rw [List.drop_of_length_le (by rw [hn'.out]; omega)] at hq; simp at hq⟩
    case round =>
      obtain ⟨p, u, hp, rfl, ho, hb, hgt⟩ := hrel
      clear oc' bc
      have hpS : p ≤ es.length := by rw [hn'.out]; exact hp
      have hlen := hole_len u hpS
      have z1 := Blk.keep HZ.out hb
      have t0 := z1.cell 0
      have t1 := z1.cell 1
      simp at t0 t1
      have fin : Hid (∀ W : World, W = (wr.setCell ⟨g, p * 2, none⟩ (.string nm)).setCell ⟨g, p * 2 + 1, none⟩ (.string y) → (p = 0 ∨ ∃ q, es[p - 1]? = some q ∧ gtS nm q.1 = false) → W.ownsRow w.heap.size 89 2 (.slice (some ⟨g, 0, none⟩) (n + 1) c) (n + 1) (pv (aP (insBy (fun q => gtS nm q.1) es (nm, y)))) ∧ Below w.heap.size w W) := by
        intro W hW hc
        subst hW
        have h1 := (World.ownsRow.stored (World.ownsRow.stored ho (p * 2) (.string nm)).1 (p * 2 + 1) (.string y)).1
        have e : ((pv (aP (es.take p ++ u :: es.drop p))).set (p * 2) (.string nm)).set (p * 2 + 1) (.string y) = pv (aP (insBy (fun q => gtS nm q.1) es (nm, y))) := by
          rw [pv_set _ p (.string nm, .string y) (by rw [aP_length, hlen]; omega), insBy_at hpS hgt.out hc, ← hole_end u (nm, y) hpS]
          unfold aP
          rw [List.map_set]
        rw [e] at h1
        have hBw := (hb.setCell (p := ⟨g, p * 2, none⟩) hgl (.string nm)).setCell (p := ⟨g, p * 2 + 1, none⟩) hgl (.string y)
        exact ⟨row_lower h1 hwb, HB0.out.trans (hBw.mono hwb)⟩
      have hpl : p < (aP (es.take p ++ u :: es.drop p)).length := by rw [aP_length, hlen]; omega
      obtain ⟨cv0, cv1⟩ := pv_at (aP (es.take p ++ u :: es.drop p)) p hpl
      have hc0 := World.ownsRow.cellAt ho (p * 2) (by omega)
      have hc1 := World.ownsRow.cellAt ho (p * 2 + 1) (by omega)
      have hf0 := World.ownsRow.frozenAt ho (p * 2)
      have hf1 := World.ownsRow.frozenAt ho (p * 2 + 1)
      rw [cv0] at hc0
      rw [cv1] at hc1
      generalize ((aP (es.take p ++ u :: es.drop p)).getD p (undef, undef)).1 = V0 at hc0
      generalize ((aP (es.take p ++ u :: es.drop p)).getD p (undef, undef)).2 = V1 at hc1
      have hpn1 : (p : Int) < ((n + 1 : Nat) : Int) := by omega
      have hp0' : (0 : Int) ≤ (p : Int) := by omega
      have HLEN : Hid _ := hlen
      have HZ1 : Hid _ := z1
      clear hlen cv0 cv1 hpl z1
      rcases Nat.eq_zero_or_pos p with rfl | hpos
      · have HD : Hid _ := fin.out _ rfl (.inl rfl)
        clear fin ho hb hgt
        go_upto_region 3 with fail
        refine wp_region_noPanic ?_
        refine wp_region_held_drew (S := fun W : World => W.cell? ⟨w.heap.size, 0, none⟩ = some (.string nm) ∧ W.cell? ⟨w.heap.size, 1, none⟩ = some (.string y)) (by kernel_rfl) (by go_keep) (fun hS => ?_)
        refine wpAnyH_take (i := 0) (v := ?gv1) rfl (by kernel_rfl) (by kernel_rfl) (by kernel_rfl) (fun _ _ _ h => h) (Or.inl ⟨by kernel_rfl, ?gy1⟩) (by assumption) ?gr1
        case gy1 => (intro w' hSw; (try dsimp only at hSw); go_simp; (try with_reducible rfl))
        try simp only [Act.put, List.setIfInBounds_toArray, List.set_cons_zero, List.set_cons_succ, List.getElem_toArray, List.getElem_cons_zero]
        refine wpAnyH_take (i := 1) (v := ?gv2) rfl (by kernel_rfl) (by kernel_rfl) (by kernel_rfl) (fun _ _ _ h => h) (Or.inl ⟨by kernel_rfl, ?gy2⟩) (by assumption) ?gr2
        case gy2 => (intro w' hSw; (try dsimp only at hSw); go_simp; (try with_reducible rfl))
        try simp only [Act.put, List.setIfInBounds_toArray, List.set_cons_zero, List.set_cons_succ, List.getElem_toArray, List.getElem_cons_succ, List.getElem_cons_zero]
        refine wpAnyH_take (i := 2) (v := ?gv3) rfl (by kernel_rfl) (by kernel_rfl) (by kernel_rfl) (fun _ _ _ h => h) (Or.inl ⟨by kernel_rfl, ?gy3⟩) (by assumption) ?gr3
        case gy3 => (intro w' hSw; (try dsimp only at hSw); go_simp; (try with_reducible rfl))
        try simp only [Act.put, List.setIfInBounds_toArray, List.set_cons_zero, List.set_cons_succ, List.getElem_toArray, List.getElem_cons_succ, List.getElem_cons_zero]
        refine wpAnyH_take (i := 3) (v := undef) rfl (by kernel_rfl) (by kernel_rfl) (by kernel_rfl) (fun _ _ _ h => h) (Or.inr ⟨by kernel_rfl, rfl⟩) (by assumption) ?_
        try simp only [Act.put, List.setIfInBounds_toArray, List.set_cons_zero, List.set_cons_succ, List.getElem_toArray, List.getElem_cons_succ, List.getElem_cons_zero]
        refine wpAnyH_take (i := 4) (v := undef) rfl (by kernel_rfl) (by kernel_rfl) (by kernel_rfl) (fun _ _ _ h => h) (Or.inr ⟨by kernel_rfl, rfl⟩) (by assumption) ?_
        try simp only [Act.put, List.setIfInBounds_toArray, List.set_cons_zero, List.set_cons_succ, List.getElem_toArray, List.getElem_cons_succ, List.getElem_cons_zero]
        refine wpAnyH_take (i := 5) (v := undef) rfl (by kernel_rfl) (by kernel_rfl) (by kernel_rfl) (fun _ _ _ h => h) (Or.inr ⟨by kernel_rfl, rfl⟩) (by assumption) ?_
        try simp only [Act.put, List.setIfInBounds_toArray, List.set_cons_zero, List.set_cons_succ, List.getElem_toArray, List.getElem_cons_succ, List.getElem_cons_zero]
        refine wpAnyH_take (i := 6) (v := undef) rfl (by kernel_rfl) (by kernel_rfl) (by kernel_rfl) (fun _ _ _ h => h) (Or.inr ⟨by kernel_rfl, rfl⟩) (by assumption) ?_
        try simp only [Act.put, List.setIfInBounds_toArray, List.set_cons_zero, List.set_cons_succ, List.getElem_toArray, List.getElem_cons_succ, List.getElem_cons_zero]
        refine wpAnyH_take (i := 7) (v := undef) rfl (by kernel_rfl) (by kernel_rfl) (by kernel_rfl) (fun _ _ _ h => h) (Or.inr ⟨by kernel_rfl, rfl⟩) (by assumption) ?_
        try simp only [Act.put, List.setIfInBounds_toArray, List.set_cons_zero, List.set_cons_succ, List.getElem_toArray, List.getElem_cons_succ, List.getElem_cons_zero]
        refine wpAnyH_take (i := 8) (v := undef) rfl (by kernel_rfl) (by kernel_rfl) (by kernel_rfl) (fun _ _ _ h => h) (Or.inr ⟨by kernel_rfl, rfl⟩) (by assumption) ?_
        try simp only [Act.put, List.setIfInBounds_toArray, List.set_cons_zero, List.set_cons_succ, List.getElem_toArray, List.getElem_cons_succ, List.getElem_cons_zero]
        refine wpAnyH_take (i := 9) (v := undef) rfl (by kernel_rfl) (by kernel_rfl) (by kernel_rfl) (fun _ _ _ h => h) (Or.inr ⟨by kernel_rfl, rfl⟩) (by assumption) ?_
        try simp only [Act.put, List.setIfInBounds_toArray, List.set_cons_zero, List.set_cons_succ, List.getElem_toArray, List.getElem_cons_succ, List.getElem_cons_zero]
        refine wpAnyH_take (i := 10) (v := undef) rfl (by kernel_rfl) (by kernel_rfl) (by kernel_rfl) (fun _ _ _ h => h) (Or.inr ⟨by kernel_rfl, rfl⟩) (by assumption) ?_
        try simp only [Act.put, List.setIfInBounds_toArray, List.set_cons_zero, List.set_cons_succ, List.getElem_toArray, List.getElem_cons_succ, List.getElem_cons_zero]
        refine wpAnyH_take (i := 11) (v := undef) rfl (by kernel_rfl) (by kernel_rfl) (by kernel_rfl) (fun _ _ _ h => h) (Or.inr ⟨by kernel_rfl, rfl⟩) (by assumption) ?_
        try simp only [Act.put, List.setIfInBounds_toArray, List.set_cons_zero, List.set_cons_succ, List.getElem_toArray, List.getElem_cons_succ, List.getElem_cons_zero]
        refine wpAnyH_take (i := 12) (v := ?gv4) rfl (by kernel_rfl) (by kernel_rfl) (by kernel_rfl) (fun _ _ _ h => h) (Or.inl ⟨by kernel_rfl, ?gy4⟩) (by assumption) ?gr4
        case gy4 => (intro w' hSw; (try dsimp only at hSw); go_simp; (try with_reducible rfl))
        try simp only [Act.put, List.setIfInBounds_toArray, List.set_cons_zero, List.set_cons_succ, List.getElem_toArray, List.getElem_cons_succ, List.getElem_cons_zero]
        refine wpAnyH_done (by kernel_rfl) (NoPanic.normal ?_) _
        go_wp2
        go_ret
        first | exact ⟨_, _, rfl, HD.out.1, HD.out.2.drew⟩ | exact ⟨_, ⟨_, rfl⟩, HD.out.1, HD.out.2.drew⟩
      · obtain ⟨q, rfl⟩ : ∃ q, p = q + 1 := ⟨p - 1, by omega⟩
        have hql : q < es.length := by omega
        obtain ⟨⟨zm, zy⟩, hy⟩ : ∃ z, es[q]? = some z := ⟨_, List.getElem?_eq_getElem hql⟩
        have hcq := hole_left u (Nat.lt_succ_self q) hpS hy
        have hqp : q < (aP (es.take (q + 1) ++ u :: es.drop (q + 1))).length := by rw [aP_length, HLEN.out]; omega
        obtain ⟨dv0, dv1⟩ := pv_at (aP (es.take (q + 1) ++ u :: es.drop (q + 1))) q hqp
        have hge : (aP (es.take (q + 1) ++ u :: es.drop (q + 1))).getD q (undef, undef) = (.string zm, .string zy) := by
          unfold aP
          rw [List.getD_eq_getElem?_getD, List.getElem?_map, hcq]
          rfl
        rw [hge] at dv0 dv1
        have hd0 := World.ownsRow.cellAt ho (q * 2) (by omega)
        have hd1 := World.ownsRow.cellAt ho (q * 2 + 1) (by omega)
        rw [dv0] at hd0
        rw [dv1] at hd1
        dsimp only at hd0 hd1
        have hgt0 : (0 : Int) < ((q + 1 : Nat) : Int) := by omega
        have hqn : (q : Int) < ((n + 1 : Nat) : Int) := by omega
        have hq0 : (0 : Int) ≤ (q : Int) := by omega
        have hsub : (((q + 1 : Nat) : Int) - 1) = (q : Int) := by omega
        have hwk : IntKind.i64.wrap (q : Int) = (q : Int) := wrap_small _ hq0 (by omega)
        have hqn' : (q : Int) < (n : Int) + 1 := by omega
        clear hge dv0 dv1 hcq hqp
        cases hxy : gtS nm zm with
        | true =>
          have hst := (World.ownsRow.stored (World.ownsRow.stored ho ((q + 1) * 2) (.string zm)).1 ((q + 1) * 2 + 1) (.string zy)).1
          have e : ((pv (aP (es.take (q + 1) ++ u :: es.drop (q + 1)))).set ((q + 1) * 2) (.string zm)).set ((q + 1) * 2 + 1) (.string zy) = pv (aP (es.take q ++ (zm, zy) :: es.drop q)) := by
            rw [pv_set _ (q + 1) (.string zm, .string zy) (by rw [aP_length, HLEN.out]; omega), ← hole_step u hy]
            unfold aP
            rw [List.map_set]
          rw [e] at hst
          have hb' := (hb.setCell (p := ⟨g, (q + 1) * 2, none⟩) hgl (.string zm)).setCell (p := ⟨g, (q + 1) * 2 + 1, none⟩) hgl (.string zy)
          have hgt' : Hid (∀ z ∈ es.drop q, gtS nm z.1 = true) := fun z hz => by
            rcases drop_mem hy hz with rfl | hz
            · exact hxy
            · exact hgt.out z hz
          obtain ⟨hA, hB⟩ : Op.bytesLess zm.toList nm.toList = false ∧ (zm.toList == nm.toList) = false := by unfold gtS at hxy; simpa using hxy
          have HST : Hid _ := And.intro hst hb'
          clear fin ho hb hgt e hy hxy hst hb'
          go_upto_region 3 with fail
          refine wp_region_noPanic ?_
          refine wp_region_held_drew (S := fun W : World => W.cell? ⟨w.heap.size, 0, none⟩ = some (.string nm) ∧ W.cell? ⟨w.heap.size, 1, none⟩ = some (.string y) ∧ W.cell? ⟨g, q * 2, none⟩ = some (.string zm)) (by kernel_rfl) (by go_keep) (fun hS => ?_)
          refine wpAnyH_take (i := 0) (v := ?gv5) rfl (by kernel_rfl) (by kernel_rfl) (by kernel_rfl) (fun _ _ _ h => h) (Or.inl ⟨by kernel_rfl, ?gy5⟩) (by assumption) ?gr5
          case gy5 => (intro w' hSw; (try dsimp only at hSw); go_simp; (try with_reducible rfl))
          try simp only [Act.put, List.setIfInBounds_toArray, List.set_cons_zero, List.set_cons_succ, List.getElem_toArray, List.getElem_cons_zero]
          refine wpAnyH_take (i := 1) (v := ?gv6) rfl (by kernel_rfl) (by kernel_rfl) (by kernel_rfl) (fun _ _ _ h => h) (Or.inl ⟨by kernel_rfl, ?gy6⟩) (by assumption) ?gr6
          case gy6 => (intro w' hSw; (try dsimp only at hSw); go_simp; (try with_reducible rfl))
          try simp only [Act.put, List.setIfInBounds_toArray, List.set_cons_zero, List.set_cons_succ, List.getElem_toArray, List.getElem_cons_succ, List.getElem_cons_zero]
          refine wpAnyH_take (i := 2) (v := ?gv7) rfl (by kernel_rfl) (by kernel_rfl) (by kernel_rfl) (fun _ _ _ h => h) (Or.inl ⟨by kernel_rfl, ?gy7⟩) (by assumption) ?gr7
          case gy7 => (intro w' hSw; (try dsimp only at hSw); go_simp; (try with_reducible rfl))
          try simp only [Act.put, List.setIfInBounds_toArray, List.set_cons_zero, List.set_cons_succ, List.getElem_toArray, List.getElem_cons_succ, List.getElem_cons_zero]
          refine wpAnyH_take (i := 3) (v := ?gv8) rfl (by kernel_rfl) (by kernel_rfl) (by kernel_rfl) (fun _ _ _ h => h) (Or.inl ⟨by kernel_rfl, ?gy8⟩) (by assumption) ?gr8
          case gy8 => (intro w' hSw; (try dsimp only at hSw); go_simp; (try with_reducible rfl))
          try simp only [Act.put, List.setIfInBounds_toArray, List.set_cons_zero, List.set_cons_succ, List.getElem_toArray, List.getElem_cons_succ, List.getElem_cons_zero]
          refine wpAnyH_take (i := 4) (v := ?gv9) rfl (by kernel_rfl) (by kernel_rfl) (by kernel_rfl) (fun _ _ _ h => h) (Or.inl ⟨by kernel_rfl, ?gy9⟩) (by assumption) ?gr9
          case gy9 => (intro w' hSw; (try dsimp only at hSw); go_simp; (try with_reducible rfl))
          try simp only [Act.put, List.setIfInBounds_toArray, List.set_cons_zero, List.set_cons_succ, List.getElem_toArray, List.getElem_cons_succ, List.getElem_cons_zero]
          refine wpAnyH_take (i := 5) (v := ?gv10) rfl (by kernel_rfl) (by kernel_rfl) (by kernel_rfl) (fun _ _ _ h => h) (Or.inl ⟨by kernel_rfl, ?gy10⟩) (by assumption) ?gr10
          case gy10 => (intro w' hSw; (try dsimp only at hSw); go_simp; (try with_reducible rfl))
          try simp only [Act.put, List.setIfInBounds_toArray, List.set_cons_zero, List.set_cons_succ, List.getElem_toArray, List.getElem_cons_succ, List.getElem_cons_zero]
          refine wpAnyH_take (i := 6) (v := ?gv11) rfl (by kernel_rfl) (by kernel_rfl) (by kernel_rfl) (fun _ _ _ h => h) (Or.inl ⟨by kernel_rfl, ?gy11⟩) (by assumption) ?gr11
          case gy11 => (intro w' hSw; (try dsimp only at hSw); go_simp; (try with_reducible rfl))
          try simp only [Act.put, List.setIfInBounds_toArray, List.set_cons_zero, List.set_cons_succ, List.getElem_toArray, List.getElem_cons_succ, List.getElem_cons_zero]
          refine wpAnyH_take (i := 7) (v := ?gv12) rfl (by kernel_rfl) (by kernel_rfl) (by kernel_rfl) (fun _ _ _ h => h) (Or.inl ⟨by kernel_rfl, ?gy12⟩) (by assumption) ?gr12
          case gy12 => (intro w' hSw; (try dsimp only at hSw); go_simp; (try with_reducible rfl))
          try simp only [Act.put, List.setIfInBounds_toArray, List.set_cons_zero, List.set_cons_succ, List.getElem_toArray, List.getElem_cons_succ, List.getElem_cons_zero]
          refine wpAnyH_take (i := 8) (v := ?gv13) rfl (by kernel_rfl) (by kernel_rfl) (by kernel_rfl) (fun _ _ _ h => h) (Or.inl ⟨by kernel_rfl, ?gy13⟩) (by assumption) ?gr13
          case gy13 => (intro w' hSw; (try dsimp only at hSw); go_simp; (try with_reducible rfl))
          try simp only [Act.put, List.setIfInBounds_toArray, List.set_cons_zero, List.set_cons_succ, List.getElem_toArray, List.getElem_cons_succ, List.getElem_cons_zero]
          refine wpAnyH_take (i := 9) (v := ?gv14) rfl (by kernel_rfl) (by kernel_rfl) (by kernel_rfl) (fun _ _ _ h => h) (Or.inl ⟨by kernel_rfl, ?gy14⟩) (by assumption) ?gr14
          case gy14 => (intro w' hSw; (try dsimp only at hSw); go_simp; (try with_reducible rfl))
          try simp only [Act.put, List.setIfInBounds_toArray, List.set_cons_zero, List.set_cons_succ, List.getElem_toArray, List.getElem_cons_succ, List.getElem_cons_zero]
          refine wpAnyH_take (i := 10) (v := ?gv15) rfl (by kernel_rfl) (by kernel_rfl) (by kernel_rfl) (fun _ _ _ h => h) (Or.inl ⟨by kernel_rfl, ?gy15⟩) (by assumption) ?gr15
          case gy15 => (intro w' hSw; (try dsimp only at hSw); go_simp; (try with_reducible rfl))
          try simp only [Act.put, List.setIfInBounds_toArray, List.set_cons_zero, List.set_cons_succ, List.getElem_toArray, List.getElem_cons_succ, List.getElem_cons_zero]
          refine wpAnyH_take (i := 11) (v := ?gv16) rfl (by kernel_rfl) (by kernel_rfl) (by kernel_rfl) (fun _ _ _ h => h) (Or.inl ⟨by kernel_rfl, ?gy16⟩) (by assumption) ?gr16
          case gy16 => (intro w' hSw; (try dsimp only at hSw); go_simp; (try with_reducible rfl))
          try simp only [Act.put, List.setIfInBounds_toArray, List.set_cons_zero, List.set_cons_succ, List.getElem_toArray, List.getElem_cons_succ, List.getElem_cons_zero]
          refine wpAnyH_take (i := 12) (v := ?gv17) rfl (by kernel_rfl) (by kernel_rfl) (by kernel_rfl) (fun _ _ _ h => h) (Or.inl ⟨by kernel_rfl, ?gy17⟩) (by assumption) ?gr17
          case gy17 => (intro w' hSw; (try dsimp only at hSw); go_simp; (try with_reducible rfl))
          try simp only [Act.put, List.setIfInBounds_toArray, List.set_cons_zero, List.set_cons_succ, List.getElem_toArray, List.getElem_cons_succ, List.getElem_cons_zero]
          refine wpAnyH_done (by kernel_rfl) (NoPanic.normal ?_) _
          go_wp2
          go_roundw
          all_goals first
            | (case rel => (repeat apply Exists.intro); exact ⟨⟨q, (zm, zy), by omega, by go_num, HST.out.1, HST.out.2.drew, hgt'⟩, rfl⟩)
            | (case rel => exact ⟨q, (zm, zy), by omega, by go_num, HST.out.1, HST.out.2.drew, hgt'⟩)
            | (case measure => simp [intOf])
            | fail
        | false =>
          have HD : Hid _ := fin.out _ rfl (.inr ⟨(zm, zy), by rw [Nat.add_sub_cancel]; exact hy, hxy⟩)
          have hAB : Op.bytesLess zm.toList nm.toList = true ∨ (Op.bytesLess zm.toList nm.toList = false ∧ (zm.toList == nm.toList) = true) := by
            unfold gtS at hxy
            cases h1 : Op.bytesLess zm.toList nm.toList with
            | true => exact .inl rfl
            | false => rw [h1] at hxy; exact .inr ⟨rfl, by simpa using hxy⟩
          clear fin ho hb hgt hy hxy
          rcases hAB with hA | ⟨hA, hB⟩
          · go_upto_region 3 with fail
            refine wp_region_noPanic ?_
            refine wp_region_held_drew (S := fun W : World => W.cell? ⟨w.heap.size, 0, none⟩ = some (.string nm) ∧ W.cell? ⟨w.heap.size, 1, none⟩ = some (.string y) ∧ W.cell? ⟨g, q * 2, none⟩ = some (.string zm)) (by kernel_rfl) (by go_keep) (fun hS => ?_)
            refine wpAnyH_take (i := 0) (v := ?gv18) rfl (by kernel_rfl) (by kernel_rfl) (by kernel_rfl) (fun _ _ _ h => h) (Or.inl ⟨by kernel_rfl, ?gy18⟩) (by assumption) ?gr18
            case gy18 => (intro w' hSw; (try dsimp only at hSw); go_simp; (try with_reducible rfl))
            try simp only [Act.put, List.setIfInBounds_toArray, List.set_cons_zero, List.set_cons_succ, List.getElem_toArray, List.getElem_cons_zero]
            refine wpAnyH_take (i := 1) (v := ?gv19) rfl (by kernel_rfl) (by kernel_rfl) (by kernel_rfl) (fun _ _ _ h => h) (Or.inl ⟨by kernel_rfl, ?gy19⟩) (by assumption) ?gr19
            case gy19 => (intro w' hSw; (try dsimp only at hSw); go_simp; (try with_reducible rfl))
            try simp only [Act.put, List.setIfInBounds_toArray, List.set_cons_zero, List.set_cons_succ, List.getElem_toArray, List.getElem_cons_succ, List.getElem_cons_zero]
            refine wpAnyH_take (i := 2) (v := ?gv20) rfl (by kernel_rfl) (by kernel_rfl) (by kernel_rfl) (fun _ _ _ h => h) (Or.inl ⟨by kernel_rfl, ?gy20⟩) (by assumption) ?gr20
            case gy20 => (intro w' hSw; (try dsimp only at hSw); go_simp; (try with_reducible rfl))
            try simp only [Act.put, List.setIfInBounds_toArray, List.set_cons_zero, List.set_cons_succ, List.getElem_toArray, List.getElem_cons_succ, List.getElem_cons_zero]
            refine wpAnyH_take (i := 3) (v := ?gv21) rfl (by kernel_rfl) (by kernel_rfl) (by kernel_rfl) (fun _ _ _ h => h) (Or.inl ⟨by kernel_rfl, ?gy21⟩) (by assumption) ?gr21
            case gy21 => (intro w' hSw; (try dsimp only at hSw); go_simp; (try with_reducible rfl))
            try simp only [Act.put, List.setIfInBounds_toArray, List.set_cons_zero, List.set_cons_succ, List.getElem_toArray, List.getElem_cons_succ, List.getElem_cons_zero]
            refine wpAnyH_take (i := 4) (v := ?gv22) rfl (by kernel_rfl) (by kernel_rfl) (by kernel_rfl) (fun _ _ _ h => h) (Or.inl ⟨by kernel_rfl, ?gy22⟩) (by assumption) ?gr22
            case gy22 => (intro w' hSw; (try dsimp only at hSw); go_simp; (try with_reducible rfl))
            try simp only [Act.put, List.setIfInBounds_toArray, List.set_cons_zero, List.set_cons_succ, List.getElem_toArray, List.getElem_cons_succ, List.getElem_cons_zero]
            refine wpAnyH_take (i := 5) (v := ?gv23) rfl (by kernel_rfl) (by kernel_rfl) (by kernel_rfl) (fun _ _ _ h => h) (Or.inl ⟨by kernel_rfl, ?gy23⟩) (by assumption) ?gr23
            case gy23 => (intro w' hSw; (try dsimp only at hSw); go_simp; (try with_reducible rfl))
            try simp only [Act.put, List.setIfInBounds_toArray, List.set_cons_zero, List.set_cons_succ, List.getElem_toArray, List.getElem_cons_succ, List.getElem_cons_zero]
            refine wpAnyH_take (i := 6) (v := ?gv24) rfl (by kernel_rfl) (by kernel_rfl) (by kernel_rfl) (fun _ _ _ h => h) (Or.inl ⟨by kernel_rfl, ?gy24⟩) (by assumption) ?gr24
            case gy24 => (intro w' hSw; (try dsimp only at hSw); go_simp; (try with_reducible rfl))
            try simp only [Act.put, List.setIfInBounds_toArray, List.set_cons_zero, List.set_cons_succ, List.getElem_toArray, List.getElem_cons_succ, List.getElem_cons_zero]
            refine wpAnyH_take (i := 7) (v := ?gv25) rfl (by kernel_rfl) (by kernel_rfl) (by kernel_rfl) (fun _ _ _ h => h) (Or.inl ⟨by kernel_rfl, ?gy25⟩) (by assumption) ?gr25
            case gy25 => (intro w' hSw; (try dsimp only at hSw); go_simp; (try with_reducible rfl))
            try simp only [Act.put, List.setIfInBounds_toArray, List.set_cons_zero, List.set_cons_succ, List.getElem_toArray, List.getElem_cons_succ, List.getElem_cons_zero]
            refine wpAnyH_take (i := 8) (v := ?gv26) rfl (by kernel_rfl) (by kernel_rfl) (by kernel_rfl) (fun _ _ _ h => h) (Or.inl ⟨by kernel_rfl, ?gy26⟩) (by assumption) ?gr26
            case gy26 => (intro w' hSw; (try dsimp only at hSw); go_simp; (try with_reducible rfl))
            try simp only [Act.put, List.setIfInBounds_toArray, List.set_cons_zero, List.set_cons_succ, List.getElem_toArray, List.getElem_cons_succ, List.getElem_cons_zero]
            refine wpAnyH_take (i := 9) (v := ?gv27) rfl (by kernel_rfl) (by kernel_rfl) (by kernel_rfl) (fun _ _ _ h => h) (Or.inl ⟨by kernel_rfl, ?gy27⟩) (by assumption) ?gr27
            case gy27 => (intro w' hSw; (try dsimp only at hSw); go_simp; (try with_reducible rfl))
            try simp only [Act.put, List.setIfInBounds_toArray, List.set_cons_zero, List.set_cons_succ, List.getElem_toArray, List.getElem_cons_succ, List.getElem_cons_zero]
            refine wpAnyH_take (i := 10) (v := ?gv28) rfl (by kernel_rfl) (by kernel_rfl) (by kernel_rfl) (fun _ _ _ h => h) (Or.inl ⟨by kernel_rfl, ?gy28⟩) (by assumption) ?gr28
            case gy28 => (intro w' hSw; (try dsimp only at hSw); go_simp; (try with_reducible rfl))
            try simp only [Act.put, List.setIfInBounds_toArray, List.set_cons_zero, List.set_cons_succ, List.getElem_toArray, List.getElem_cons_succ, List.getElem_cons_zero]
            refine wpAnyH_take (i := 11) (v := ?gv29) rfl (by kernel_rfl) (by kernel_rfl) (by kernel_rfl) (fun _ _ _ h => h) (Or.inl ⟨by kernel_rfl, ?gy29⟩) (by assumption) ?gr29
            case gy29 => (intro w' hSw; (try dsimp only at hSw); go_simp; (try with_reducible rfl))
            try simp only [Act.put, List.setIfInBounds_toArray, List.set_cons_zero, List.set_cons_succ, List.getElem_toArray, List.getElem_cons_succ, List.getElem_cons_zero]
            refine wpAnyH_take (i := 12) (v := ?gv30) rfl (by kernel_rfl) (by kernel_rfl) (by kernel_rfl) (fun _ _ _ h => h) (Or.inl ⟨by kernel_rfl, ?gy30⟩) (by assumption) ?gr30
            case gy30 => (intro w' hSw; (try dsimp only at hSw); go_simp; (try with_reducible rfl))
            try simp only [Act.put, List.setIfInBounds_toArray, List.set_cons_zero, List.set_cons_succ, List.getElem_toArray, List.getElem_cons_succ, List.getElem_cons_zero]
            refine wpAnyH_done (by kernel_rfl) (NoPanic.normal ?_) _
            go_wp2
            go_ret
            first | exact ⟨_, _, rfl, HD.out.1, HD.out.2.drew⟩ | exact ⟨_, ⟨_, rfl⟩, HD.out.1, HD.out.2.drew⟩
          · go_upto_region 3 with fail
            refine wp_region_noPanic ?_
            refine wp_region_held_drew (S := fun W : World => W.cell? ⟨w.heap.size, 0, none⟩ = some (.string nm) ∧ W.cell? ⟨w.heap.size, 1, none⟩ = some (.string y) ∧ W.cell? ⟨g, q * 2, none⟩ = some (.string zm)) (by kernel_rfl) (by go_keep) (fun hS => ?_)
            refine wpAnyH_take (i := 0) (v := ?gv31) rfl (by kernel_rfl) (by kernel_rfl) (by kernel_rfl) (fun _ _ _ h => h) (Or.inl ⟨by kernel_rfl, ?gy31⟩) (by assumption) ?gr31
            case gy31 => (intro w' hSw; (try dsimp only at hSw); go_simp; (try with_reducible rfl))
            try simp only [Act.put, List.setIfInBounds_toArray, List.set_cons_zero, List.set_cons_succ, List.getElem_toArray, List.getElem_cons_zero]
            refine wpAnyH_take (i := 1) (v := ?gv32) rfl (by kernel_rfl) (by kernel_rfl) (by kernel_rfl) (fun _ _ _ h => h) (Or.inl ⟨by kernel_rfl, ?gy32⟩) (by assumption) ?gr32
            case gy32 => (intro w' hSw; (try dsimp only at hSw); go_simp; (try with_reducible rfl))
            try simp only [Act.put, List.setIfInBounds_toArray, List.set_cons_zero, List.set_cons_succ, List.getElem_toArray, List.getElem_cons_succ, List.getElem_cons_zero]
            refine wpAnyH_take (i := 2) (v := ?gv33) rfl (by kernel_rfl) (by kernel_rfl) (by kernel_rfl) (fun _ _ _ h => h) (Or.inl ⟨by kernel_rfl, ?gy33⟩) (by assumption) ?gr33
            case gy33 => (intro w' hSw; (try dsimp only at hSw); go_simp; (try with_reducible rfl))
            try simp only [Act.put, List.setIfInBounds_toArray, List.set_cons_zero, List.set_cons_succ, List.getElem_toArray, List.getElem_cons_succ, List.getElem_cons_zero]
            refine wpAnyH_take (i := 3) (v := ?gv34) rfl (by kernel_rfl) (by kernel_rfl) (by kernel_rfl) (fun _ _ _ h => h) (Or.inl ⟨by kernel_rfl, ?gy34⟩) (by assumption) ?gr34
            case gy34 => (intro w' hSw; (try dsimp only at hSw); go_simp; (try with_reducible rfl))
            try simp only [Act.put, List.setIfInBounds_toArray, List.set_cons_zero, List.set_cons_succ, List.getElem_toArray, List.getElem_cons_succ, List.getElem_cons_zero]
            refine wpAnyH_take (i := 4) (v := ?gv35) rfl (by kernel_rfl) (by kernel_rfl) (by kernel_rfl) (fun _ _ _ h => h) (Or.inl ⟨by kernel_rfl, ?gy35⟩) (by assumption) ?gr35
            case gy35 => (intro w' hSw; (try dsimp only at hSw); go_simp; (try with_reducible rfl))
            try simp only [Act.put, List.setIfInBounds_toArray, List.set_cons_zero, List.set_cons_succ, List.getElem_toArray, List.getElem_cons_succ, List.getElem_cons_zero]
            refine wpAnyH_take (i := 5) (v := ?gv36) rfl (by kernel_rfl) (by kernel_rfl) (by kernel_rfl) (fun _ _ _ h => h) (Or.inl ⟨by kernel_rfl, ?gy36⟩) (by assumption) ?gr36
            case gy36 => (intro w' hSw; (try dsimp only at hSw); go_simp; (try with_reducible rfl))
            try simp only [Act.put, List.setIfInBounds_toArray, List.set_cons_zero, List.set_cons_succ, List.getElem_toArray, List.getElem_cons_succ, List.getElem_cons_zero]
            refine wpAnyH_take (i := 6) (v := ?gv37) rfl (by kernel_rfl) (by kernel_rfl) (by kernel_rfl) (fun _ _ _ h => h) (Or.inl ⟨by kernel_rfl, ?gy37⟩) (by assumption) ?gr37
            case gy37 => (intro w' hSw; (try dsimp only at hSw); go_simp; (try with_reducible rfl))
            try simp only [Act.put, List.setIfInBounds_toArray, List.set_cons_zero, List.set_cons_succ, List.getElem_toArray, List.getElem_cons_succ, List.getElem_cons_zero]
            refine wpAnyH_take (i := 7) (v := ?gv38) rfl (by kernel_rfl) (by kernel_rfl) (by kernel_rfl) (fun _ _ _ h => h) (Or.inl ⟨by kernel_rfl, ?gy38⟩) (by assumption) ?gr38
            case gy38 => (intro w' hSw; (try dsimp only at hSw); go_simp; (try with_reducible rfl))
            try simp only [Act.put, List.setIfInBounds_toArray, List.set_cons_zero, List.set_cons_succ, List.getElem_toArray, List.getElem_cons_succ, List.getElem_cons_zero]
            refine wpAnyH_take (i := 8) (v := ?gv39) rfl (by kernel_rfl) (by kernel_rfl) (by kernel_rfl) (fun _ _ _ h => h) (Or.inl ⟨by kernel_rfl, ?gy39⟩) (by assumption) ?gr39
            case gy39 => (intro w' hSw; (try dsimp only at hSw); go_simp; (try with_reducible rfl))
            try simp only [Act.put, List.setIfInBounds_toArray, List.set_cons_zero, List.set_cons_succ, List.getElem_toArray, List.getElem_cons_succ, List.getElem_cons_zero]
            refine wpAnyH_take (i := 9) (v := ?gv40) rfl (by kernel_rfl) (by kernel_rfl) (by kernel_rfl) (fun _ _ _ h => h) (Or.inl ⟨by kernel_rfl, ?gy40⟩) (by assumption) ?gr40
            case gy40 => (intro w' hSw; (try dsimp only at hSw); go_simp; (try with_reducible rfl))
            try simp only [Act.put, List.setIfInBounds_toArray, List.set_cons_zero, List.set_cons_succ, List.getElem_toArray, List.getElem_cons_succ, List.getElem_cons_zero]
            refine wpAnyH_take (i := 10) (v := ?gv41) rfl (by kernel_rfl) (by kernel_rfl) (by kernel_rfl) (fun _ _ _ h => h) (Or.inl ⟨by kernel_rfl, ?gy41⟩) (by assumption) ?gr41
            case gy41 => (intro w' hSw; (try dsimp only at hSw); go_simp; (try with_reducible rfl))
            try simp only [Act.put, List.setIfInBounds_toArray, List.set_cons_zero, List.set_cons_succ, List.getElem_toArray, List.getElem_cons_succ, List.getElem_cons_zero]
            refine wpAnyH_take (i := 11) (v := ?gv42) rfl (by kernel_rfl) (by kernel_rfl) (by kernel_rfl) (fun _ _ _ h => h) (Or.inl ⟨by kernel_rfl, ?gy42⟩) (by assumption) ?gr42
            case gy42 => (intro w' hSw; (try dsimp only at hSw); go_simp; (try with_reducible rfl))
            try simp only [Act.put, List.setIfInBounds_toArray, List.set_cons_zero, List.set_cons_succ, List.getElem_toArray, List.getElem_cons_succ, List.getElem_cons_zero]
            refine wpAnyH_take (i := 12) (v := ?gv43) rfl (by kernel_rfl) (by kernel_rfl) (by kernel_rfl) (fun _ _ _ h => h) (Or.inl ⟨by kernel_rfl, ?gy43⟩) (by assumption) ?gr43
            case gy43 => (intro w' hSw; (try dsimp only at hSw); go_simp; (try with_reducible rfl))
            try simp only [Act.put, List.setIfInBounds_toArray, List.set_cons_zero, List.set_cons_succ, List.getElem_toArray, List.getElem_cons_succ, List.getElem_cons_zero]
            refine wpAnyH_done (by kernel_rfl) (NoPanic.normal ?_) _
            go_wp2
            go_ret
            first | exact ⟨_, _, rfl, HD.out.1, HD.out.2.drew⟩ | exact ⟨_, ⟨_, rfl⟩, HD.out.1, HD.out.2.drew⟩
end

section
open Go.RowKit
def cutA (es : List (ByteArray × ByteArray)) (nm : ByteArray) : List (ByteArray × ByteArray) := es.filter fun q => decide (q.1 ≠ nm)
theorem cutA_take {es : List (ByteArray × ByteArray)} {nm : ByteArray} {k : Nat} {q : ByteArray × ByteArray} (h : es[k]? = some q) : cutA (es.take (k + 1)) nm = cutA (es.take k) nm ++ (if q.1 = nm then [] else [q]) := by
  unfold cutA
  rw [List.take_add_one, h, List.filter_append]
  by_cases hq : q.1 = nm
  · simp [hq]
  · simp [hq]
theorem cutA_le (es : List (ByteArray × ByteArray)) (nm : ByteArray) (k : Nat) : (cutA (es.take k) nm).length ≤ k := by
  have := List.length_filter_le (fun q : ByteArray × ByteArray => decide (q.1 ≠ nm)) (es.take k)
  unfold cutA
  simp only [List.length_take] at this
  omega
def attrD (nx : Int) (ds : List InoD) (s nm val : ByteArray) : List InoD × Int :=
  if treeD nx ds = false ∨ (splitOf s.data.toList).isSome = false ∨ nameOk nm.data.toList = false ∨ 16 < val.size then (ds, 1)
  else if (statD ds s).2 ≠ 0 then (ds, (statD ds s).2)
  else if val = ⟨#[]⟩ then (setD ds { (statD ds s).1 with attrs := cutA (statD ds s).1.attrs nm }, 0)
  else if 4 ≤ (cutA (statD ds s).1.attrs nm).length then (ds, 5)
  else (setD ds { (statD ds s).1 with attrs := insBy (fun q => gtS nm q.1) (cutA (statD ds s).1.attrs nm) (nm, val) }, 0)
theorem cutA_small {D : InoD} (h : InoSmall D) (nm : ByteArray) : InoSmall { D with attrs := cutA D.attrs nm } := by
  refine ⟨h.data, h.ents, ?_, h.entsz, fun q hq => h.attrsz q (List.mem_filter.1 hq).1⟩
  exact Nat.le_trans (List.length_filter_le _ _) h.attrs
theorem putA_small {D : InoD} (h : InoSmall D) (nm val : ByteArray) (hn : nm.size ≤ 1048576) (hv : val.size ≤ 1048576) (hl : (cutA D.attrs nm).length ≤ 1000) : InoSmall { D with attrs := insBy (fun q => gtS nm q.1) (cutA D.attrs nm) (nm, val) } := by
  refine ⟨h.data, h.ents, ?_, h.entsz, fun q hq => ?_⟩
  · show (insBy _ _ _).length ≤ _
    rw [insBy_len]
    omega
  · rcases insBy_mem.1 hq with rfl | hq
    · exact ⟨hn, hv⟩
    · exact h.attrsz q (List.mem_filter.1 hq).1
set_option maxRecDepth 100000 in
set_option maxHeartbeats 8000000 in
theorem attrS (a : Option Addr) (n cap : Nat) (nx : Int) (rs : List InoR) (s nm val : ByteArray) (w : World) (ht : TR w a n rs) (hs : s.size ≤ 4000000) (hnm : nm.size ≤ 4000000) (hvl : val.size ≤ 4000000) :
    Calls Tryz.prog 59 #[.agg #[.slice a n cap, .int .i64 nx], .string s, .string nm, .string val] w fun e w' => TabC w nx (attrD nx (rs.map InoR.D) s nm val).1 (attrD nx (rs.map InoR.D) s nm val).2 e w' := by
  have B0 : Below w.heap.size w ((w.alloc (.cells #[.slice a n cap, .int .i64 nx] 26)).alloc (.cells #[.slice none 0 0, .int .i64 0] 26)) := ((Below.refl _ w).alloc (Nat.le_refl _) _).alloc (by simp) _
  have zT : Blk ((w.alloc (.cells #[.slice a n cap, .int .i64 nx] 26)).alloc (.cells #[.slice none 0 0, .int .i64 0] 26)) w.heap.size 26 #[.slice a n cap, .int .i64 nx] := (Blk.new w _ _).alloc _
  have zR := Blk.new (w.alloc (.cells #[.slice a n cap, .int .i64 nx] 26)) 26 #[.slice none 0 0, .int .i64 0]
  simp only [World.size_alloc] at zR
  obtain ⟨ds, hds⟩ : ∃ ds, rs.map InoR.D = ds := ⟨_, rfl⟩
  have hdn : ds.length = n := by rw [← hds, List.length_map, ht.len]
  have hp : Hid (∀ (e : Ending) (w' : World) (l : List InoD) (q : Int), attrD nx ds s nm val = (l, q) → TabC w nx l q e w' → TabC w nx (attrD nx ds s nm val).1 (attrD nx ds s nm val).2 e w') := fun e w' l q h hh => by rw [h]; exact hh
  rw [hds]
  generalize TabC w nx (attrD nx ds s nm val).1 (attrD nx ds s nm val).2 = P at hp ⊢
  have hmd : attrD nx ds s nm val = attrD nx ds s nm val := rfl
  conv at hmd => rhs; unfold attrD
  have HDS : Hid _ := hds
  have HDN : Hid _ := hdn
  have HT : Hid _ := ht
  have HSm : Hid (∀ F ∈ ds, InoSmall F) := by
    intro F hF
    exact ht.smallD F (by rw [hds]; exact hF)
  have hn1 := ht.n
  have href : Hid (∀ (W : World) (q : Int), Below w.heap.size w W → Blk W (w.heap.size + 1) 26 #[.slice none 0 0, .int .i64 0] → attrD nx ds s nm val = (ds, q) → Calls Tryz.prog 63 #[.agg #[.slice a n cap, .int .i64 nx]] W fun e V => ∃ (b : Option Addr) (m cc : Nat), e = .returned (.agg #[.slice b m cc, .int .i64 nx]) ∧ Blk V (w.heap.size + 1) 26 #[.slice none 0 0, .int .i64 0] ∧ P (.returned (.tuple #[.agg #[.slice b m cc, .int .i64 nx], .int .i64 q])) ((V.setCell ⟨w.heap.size + 1, 0, none⟩ (.slice b m cc)).setCell ⟨w.heap.size + 1, 1, none⟩ (.int .i64 nx))) := fun W q hb hz hq => by
    have hT := HT.out.keep hb
    refine (l4CopyS a n cap nx rs W hT.len hT.n hT.small hT.rd).mono fun e V h => ?_
    obtain ⟨b, m, cc, h1, h2, h3⟩ := copyC h hb (Nat.le_succ _) hz
    rw [HDS.out] at h3
    exact ⟨b, m, cc, h1, h2, hp.out _ _ _ _ hq (h3 q)⟩
  have hset : Hid (∀ (W V : World) (v : Value) (l : List InoD), TabAt W nx l v V → Below w.heap.size w W → Blk W (w.heap.size + 1) 26 #[.slice none 0 0, .int .i64 0] → attrD nx ds s nm val = (l, 0) → ∃ (b : Option Addr) (m cc : Nat), v = .agg #[.slice b m cc, .int .i64 nx] ∧ Blk V (w.heap.size + 1) 26 #[.slice none 0 0, .int .i64 0] ∧ P (.returned (.tuple #[.agg #[.slice b m cc, .int .i64 nx], .int .i64 0])) ((V.setCell ⟨w.heap.size + 1, 0, none⟩ (.slice b m cc)).setCell ⟨w.heap.size + 1, 1, none⟩ (.int .i64 nx))) := fun W V v l h hb hz hq => by
    obtain ⟨b, cc, js, rfl, hQ, hbV⟩ := h
    refine ⟨b, js.length, cc, rfl, hz.keep hbV, hp.out _ _ _ _ hq ?_⟩
    have := hQ.boxed (hb.trans (hbV.mono hb.size)) (R := w.heap.size + 1) (by omega) hz.lt (.slice b js.length cc) (.int .i64 nx)
    exact ⟨b, cc, js, rfl, this.1, this.2⟩
  go_enter Tryz.func59, Tryz.ntmps59
  go_wp2_with fail
  obtain ⟨W0, hW0⟩ : ∃ W, (w.alloc (.cells #[.slice a n cap, .int .i64 nx] 26)).alloc (.cells #[.slice none 0 0, .int .i64 0] 26) = W := ⟨_, rfl⟩
  rw [hW0] at B0 zT zR ⊢
  clear hW0 ht hds hdn
  have hsp := splitB s W0 hs
  refine hsp.mono ?_
  rintro e w1 ⟨sa, sm, sc, rfl, bb1⟩
  clear hsp
  generalize (splitOf s.data.toList).isSome = K1 at hmd ⊢
  have hB0 := B0
  have zr0 := zR
  have zt0 := zT
  clear B0 zR zT
  have hB1 := hB0.trans (bb1.mono hB0.size)
  have zr1 := zr0.keep bb1
  have zt1 := zt0.keep bb1
  clear hB0 zr0 zt0 bb1

  have t0 := zt1.cell 0
  have t1 := zt1.cell 1
  simp at t0 t1
  have hcT := treeS a n cap nx rs w1 (HT.out.keep hB1)
  rw [HDS.out] at hcT
  go_wp2_with fail
  (with_reducible refine hcT.mono ?_)
  rintro e w2 ⟨rfl, bb2⟩
  clear hcT t0 t1
  have hB2 := hB1.trans (bb2.mono hB1.size)
  have zr2 := zr1.keep bb2
  have zt2 := zt1.keep bb2
  clear hB1 zr1 zt1 bb2

  have t0 := zt2.cell 0
  have t1 := zt2.cell 1
  simp at t0 t1
  cases htr : treeD nx ds with
  | false =>
    rw [htr, if_pos (.inl rfl)] at hmd
    have hcC := href.out w2 1 hB2 zr2 hmd
    clear hmd zr2 zt2 htr
    go_wp2_with fail
    (with_reducible refine hcC.mono ?_)
    rintro e wz ⟨b, m, cc, rfl, zz, hPz⟩
    have HPP : Hid _ := hPz
    have HZZ : Hid _ := zz
    have rr0 := zz.cell 0
    have rr1 := zz.cell 1
    have rf0 := zz.frozen 0
    have rf1 := zz.frozen 1
    simp at rr0 rr1
    clear zz hPz hcC t0 t1
    go_wp2
    have zf := blk2 HZZ.out (.slice b m cc) (.int .i64 nx)
    have dd0 := zf.cell 0
    have dd1 := zf.cell 1
    simp at dd0 dd1
    refine bodyPost_ret (v := .tuple #[.agg #[.slice b m cc, .int .i64 nx], .int .i64 1]) (by simp [results, Tryz.f59, go_sem, dd0, dd1]) rfl ?_
    exact HPP.out

  | true =>
    have hok := tabD_ok (treeD_parts htr).1
    have HOK : Hid _ := hok
    rw [htr] at hmd
    clear htr hok
    cases K1 with
    | false =>
      rw [if_pos (.inr (.inl rfl))] at hmd
      have hcC := href.out w2 1 hB2 zr2 hmd
      clear hmd zr2 zt2
      go_wp2_with fail
      (with_reducible refine hcC.mono ?_)
      rintro e wz ⟨b, m, cc, rfl, zz, hPz⟩
      have HPP : Hid _ := hPz
      have HZZ : Hid _ := zz
      have rr0 := zz.cell 0
      have rr1 := zz.cell 1
      have rf0 := zz.frozen 0
      have rf1 := zz.frozen 1
      simp at rr0 rr1
      clear zz hPz hcC t0 t1
      go_wp2
      have zf := blk2 HZZ.out (.slice b m cc) (.int .i64 nx)
      have dd0 := zf.cell 0
      have dd1 := zf.cell 1
      simp at dd0 dd1
      refine bodyPost_ret (v := .tuple #[.agg #[.slice b m cc, .int .i64 nx], .int .i64 1]) (by simp [results, Tryz.f59, go_sem, dd0, dd1]) rfl ?_
      exact HPP.out

    | true =>
      have hcN := nameS nm w2 hnm
      go_wp2_with fail
      (with_reducible refine hcN.mono ?_)
      rintro e w3 ⟨rfl, hw3⟩
      obtain rfl := hw3.symm
      clear hcN
      cases hno : nameOk nm.data.toList with
      | false =>
        rw [if_pos (.inr (.inr (.inl hno)))] at hmd
        have hcC := href.out w2 1 hB2 zr2 hmd
        clear hmd zr2 zt2 hno
        go_wp2_with fail
        (with_reducible refine hcC.mono ?_)
        rintro e wz ⟨b, m, cc, rfl, zz, hPz⟩
        have HPP : Hid _ := hPz
        have HZZ : Hid _ := zz
        have rr0 := zz.cell 0
        have rr1 := zz.cell 1
        have rf0 := zz.frozen 0
        have rf1 := zz.frozen 1
        simp at rr0 rr1
        clear zz hPz hcC t0 t1
        go_wp2
        have zf := blk2 HZZ.out (.slice b m cc) (.int .i64 nx)
        have dd0 := zf.cell 0
        have dd1 := zf.cell 1
        simp at dd0 dd1
        refine bodyPost_ret (v := .tuple #[.agg #[.slice b m cc, .int .i64 nx], .int .i64 1]) (by simp [results, Tryz.f59, go_sem, dd0, dd1]) rfl ?_
        exact HPP.out

      | true =>
        have hnm14 : nm.size ≤ 14 := by
          have := nameOk_len hno
          rw [Lib.size_eq]
          exact this
        by_cases h16 : 16 < val.size
        · rw [if_pos (.inr (.inr (.inr h16)))] at hmd
          have hcC := href.out w2 1 hB2 zr2 hmd
          have hi16 : (16 : Int) < (val.size : Int) := by omega
          have hd16 : decide ((16 : Int) < (val.size : Int)) = true := decide_eq_true hi16
          clear hmd zr2 zt2 hno
          go_wp2_with fail
          (with_reducible refine hcC.mono ?_)
          rintro e wz ⟨b, m, cc, rfl, zz, hPz⟩
          have HPP : Hid _ := hPz
          have HZZ : Hid _ := zz
          have rr0 := zz.cell 0
          have rr1 := zz.cell 1
          have rf0 := zz.frozen 0
          have rf1 := zz.frozen 1
          simp at rr0 rr1
          clear zz hPz hcC t0 t1
          go_wp2
          have zf := blk2 HZZ.out (.slice b m cc) (.int .i64 nx)
          have dd0 := zf.cell 0
          have dd1 := zf.cell 1
          simp at dd0 dd1
          refine bodyPost_ret (v := .tuple #[.agg #[.slice b m cc, .int .i64 nx], .int .i64 1]) (by simp [results, Tryz.f59, go_sem, dd0, dd1]) rfl ?_
          exact HPP.out

        · rw [if_neg (by simp [hno]; omega)] at hmd
          have hi16 : ¬ (16 : Int) < (val.size : Int) := by omega
          have hd16 : decide ((16 : Int) < (val.size : Int)) = false := decide_eq_false hi16
          clear hno
          have hcS := statS a n cap nx rs s w2 (HT.out.keep hB2) hs
          rw [HDS.out] at hcS
          obtain ⟨D, c, hDc⟩ : ∃ D c, statD ds s = (D, c) := ⟨_, _, rfl⟩
          rw [hDc] at hmd hcS
          dsimp only at hmd hcS
          have HDC : Hid _ := hDc
          have hrl : w.heap.size + 1 < w2.heap.size := zr2.lt
          clear hDc
          go_wp2_with fail
          (with_reducible refine hcS.mono ?_)
          rintro e w4 ⟨b1, d1, b2, d2, b3, d3, rfl, g4, bb4⟩
          clear hcS t0 t1
          have hs34 := bb4.size
          have zr4 := (zr2.keep bb4).alloc (.cells #[.int .i64 D.ino, .int .i64 D.kind, .int .i64 D.links, .slice b1 D.data.length d1, .slice b2 D.ents.length d2, .slice b3 D.attrs.length d3] 66)
          have zt4 := (zt2.keep bb4).alloc (.cells #[.int .i64 D.ino, .int .i64 D.kind, .int .i64 D.links, .slice b1 D.data.length d1, .slice b2 D.ents.length d2, .slice b3 D.attrs.length d3] 66)
          have hb4' := hB2.trans (bb4.mono hB2.size)
          have hB4 := hb4'.alloc hb4'.size (.cells #[.int .i64 D.ino, .int .i64 D.kind, .int .i64 D.links, .slice b1 D.data.length d1, .slice b2 D.ents.length d2, .slice b3 D.attrs.length d3] 66)
          have zX := Blk.new w4 66 #[.int .i64 D.ino, .int .i64 D.kind, .int .i64 D.links, .slice b1 D.data.length d1, .slice b2 D.ents.length d2, .slice b3 D.attrs.length d3]
          have g5 := g4.keep (Nat.le_refl _) ((Below.refl _ w4).alloc (Nat.le_refl _) (.cells #[.int .i64 D.ino, .int .i64 D.kind, .int .i64 D.links, .slice b1 D.data.length d1, .slice b2 D.ents.length d2, .slice b3 D.attrs.length d3] 66))
          have hlt : w4.heap.size < (w4.alloc (.cells #[.int .i64 D.ino, .int .i64 D.kind, .int .i64 D.links, .slice b1 D.data.length d1, .slice b2 D.ents.length d2, .slice b3 D.attrs.length d3] 66)).heap.size := by simp
          obtain ⟨W4, hW4⟩ : ∃ W, w4.alloc (.cells #[.int .i64 D.ino, .int .i64 D.kind, .int .i64 D.links, .slice b1 D.data.length d1, .slice b2 D.ents.length d2, .slice b3 D.attrs.length d3] 66) = W := ⟨_, rfl⟩
          rw [hW4] at zr4 zt4 hB4 zX g5 hlt
          have t0 := zt4.cell 0
          have t1 := zt4.cell 1
          simp at t0 t1
          clear hb4' g4 bb4 hB2 zr2 zt2
          by_cases hc0 : c = 0
          · subst hc0
            rw [if_neg (by simp)] at hmd
            have hDs : InoSmall D := HSm.out D (statD_mem HDC.out)
            have hDa := hDs.attrs
            obtain ⟨i0, hi, hz0, hz1, hz2⟩ := info_parts Tryz.infoAttr
            have hre := g5.rds.attrs
            have HRE : Hid _ := hre
            have HZX : Hid _ := zX
            have oE : (W4.alloc (.cells #[] 89)).ownsRow W4.heap.size 89 2 (.slice (some ⟨W4.heap.size, 0, none⟩) (cutA (D.attrs.take 0) nm).length 0) (cutA (D.attrs.take 0) nm).length (pv (aP (cutA (D.attrs.take 0) nm))) := empty_row W4 W4.heap.size 89 2 (Nat.le_refl _)
            have BE : Below W4.heap.size W4 (W4.alloc (.cells #[] 89)) := (Below.refl _ W4).alloc (Nat.le_refl _) _
            obtain ⟨na, hna⟩ : ∃ m, D.attrs.length = m := ⟨_, rfl⟩
            have HNA : Hid _ := hna
            rw [hna] at hDa
            have HMD : Hid _ := hmd
            have HZ4 : Hid _ := zr4
            have HT4 : Hid _ := zt4
            have HB4 : Hid _ := hB4
            have HG5 : Hid _ := g5
            clear hmd zr4 zt4 hB4 g5 hre zX t0 t1 hna
            go_wp2
            go_loopw [14, 15] (fun l i wr => ∃ (k g cc m : Nat), k ≤ na ∧ i = .int .i64 k ∧ l = .slice (some ⟨g, 0, none⟩) m cc ∧ (cutA (D.attrs.take k) nm).length = m ∧ wr.ownsRow W4.heap.size 89 2 (.slice (some ⟨g, 0, none⟩) m cc) m (pv (aP (cutA (D.attrs.take k) nm))) ∧ Below W4.heap.size W4 wr) (fun _ i _ => na - (intOf i).toNat)
            case atStart => exact ⟨0, W4.heap.size, 0, 0, Nat.zero_le _, rfl, rfl, rfl, oE, BE⟩
            case round =>
              obtain ⟨k, g, cg, m, hk, rfl, rfl, hm, ho, hBr⟩ := hrel
              clear oE BE
              have zXr := Blk.keep HZX.out hBr
              have x5 := zXr.cell 5
              simp at x5
              rw [HNA.out] at x5
              by_cases hkn : k < na
              · have hki : (k : Int) < (na : Int) := by omega
                have hkl : k < D.attrs.length := by rw [HNA.out]; exact hkn
                obtain ⟨eb, eo, rfl, helt, hec⟩ := RdP.lt HRE.out (by intro h; have := congrArg List.length h; rw [aP_length] at this; simp at this; rw [this] at hkl; simp at hkl)
                have hx := hec k (by rw [aP_length]; exact hkl)
                rw [aP_at D.attrs k hkl] at hx
                have hct := cutA_take (nm := nm) (List.getElem?_eq_getElem hkl)
                have hle := cutA_le D.attrs nm k
                obtain ⟨z, u, hzu⟩ : ∃ z u, D.attrs[k] = (z, u) := ⟨_, _, rfl⟩
                rw [hzu] at hx hct
                have q1 : wr.cell? ⟨eb, eo + k * 2, none⟩ = some (.string z) := (hBr.cell (p := ⟨eb, eo + k * 2, none⟩) helt).trans hx.1
                have q2 : wr.cell? ⟨eb, eo + k * 2 + 1, none⟩ = some (.string u) := (hBr.cell (p := ⟨eb, eo + k * 2 + 1, none⟩) helt).trans hx.2
                dsimp only at hct
                rw [hm] at hle
                by_cases hz : z = nm
                · rw [if_pos hz, List.append_nil] at hct
                  have hnx : Hid _ := hct
                  have heb : (z.toList == nm.toList) = true := by rw [hz]; exact beq_self_eq_true _
                  have heb' : (z.toList != nm.toList) = false := by rw [bne, heb]; rfl
                  clear hec hx hct hzu hle hz
                  go_wp2
                  go_roundw
                  case rel => exact ⟨k + 1, g, cg, m, by omega, by go_num, rfl, by rw [hnx.out]; exact hm, by rw [hnx.out]; exact ho, hBr⟩
                  case measure => simp [intOf]; omega
                · rw [if_neg hz] at hct
                  have hnx : Hid _ := hct
                  have heb := bytes_ne hz
                  have heb' : (z.toList != nm.toList) = true := by rw [bne, heb]; rfl
                  have hap := app_pair (wr.alloc (.cells #[.string z, .string u] 89)) W4.heap.size 64 89 i0 (.agg #[.string ⟨#[]⟩, .string ⟨#[]⟩]) 32 Tryz.underlying64 hi hz0 hz1 hz2 rfl (by omega) g m cg (aP (cutA (D.attrs.take k) nm)) (World.ownsRow.alloc ho _) (by omega) wr.heap.size (.string z, .string u) ((Blk.new wr 89 #[.string z, .string u]).cell 0) ((Blk.new wr 89 #[.string z, .string u]).cell 1) rfl rfl (by have := hBr.size; simp; omega)
                  clear hec hx hct hzu
                  go_wp2_with (at_builtin; refine wpList_run _ rfl (.tmp 67) (.tmp 73) 64 rfl (.slice (some ⟨g, 0, none⟩) m cg) (.slice (some ⟨wr.heap.size, 0, none⟩) 1 1) rfl rfl _ hap ?_; rintro v5 V5 ⟨g6, c6, rfl, o6, hg6, hat6⟩)
                  have hB1 := hBr.alloc hBr.size (.cells #[.string z, .string u] 89)
                  have hlow := (World.ownsRow.lt ho g rfl).1
                  have hB2 := hB1.grown hg6 hB1.size (fun q hq => by simp at hq; omega)
                  have hfin : Hid (V5.ownsRow W4.heap.size 89 2 (.slice (some ⟨g6, 0, none⟩) (m + 1) c6) (m + 1) (pv (aP (cutA (D.attrs.take (k + 1)) nm))) ∧ Below W4.heap.size W4 V5) := ⟨by rw [hnx.out, aP_snoc]; exact o6, hB2⟩
                  have hlen : Hid ((cutA (D.attrs.take (k + 1)) nm).length = m + 1) := by show _ = _; rw [hnx.out, List.length_append, hm]; rfl
                  clear hap o6 hg6 hB1 hB2 ho hBr q1 q2 hat6 x5 zXr
                  go_wp2
                  go_roundw
                  all_goals first
                    | (case rel => (repeat apply Exists.intro); exact ⟨⟨k + 1, g6, c6, m + 1, by omega, by go_num, rfl, hlen.out, hfin.out⟩, rfl⟩)
                    | (case rel => exact ⟨k + 1, g6, c6, m + 1, by omega, by go_num, rfl, hlen.out, hfin.out⟩)
                    | (case measure => simp [intOf]; omega)
                    | fail
              · have hki : ¬ (k : Int) < (na : Int) := by omega
                have he : D.attrs.take k = D.attrs := List.take_of_length_le (by rw [HNA.out]; omega)
                rw [he] at hm ho
                obtain ⟨U, hU⟩ : ∃ U, U = wr := ⟨_, rfl⟩
                subst hU
                have hmd := HMD.out
                have zr4 : Blk W4 (w.heap.size + 1) 26 #[.slice none 0 0, .int .i64 0] := HZ4.out
                have zt4 : Blk W4 w.heap.size 26 #[.slice a n cap, .int .i64 nx] := HT4.out
                have hB4 := HB4.out
                have g5 := HG5.out
                have zX : Blk W4 w4.heap.size 66 #[.int .i64 D.ino, .int .i64 D.kind, .int .i64 D.links, .slice b1 D.data.length d1, .slice b2 D.ents.length d2, .slice b3 D.attrs.length d3] := HZX.out
                have hml : m ≤ na := by rw [← hm]; have := List.length_filter_le (fun q : ByteArray × ByteArray => decide (q.1 ≠ nm)) D.attrs; rw [HNA.out] at this; exact this
                clear he zXr HRE hi hz0 hz1 hz2 HMD HZ4 HT4 HB4 HG5 HZX
                by_cases hve : val = ⟨#[]⟩
                · rw [if_pos hve] at hmd
                  subst hve
                  have hsU := hBr.size
                  have gS := gr_setC U w4.heap.size 5 (.slice (some ⟨g, 0, none⟩) m cg)
                  have y5 := (zX.keep hBr).cell 5
                  have yf := (zX.keep hBr).frozen 5
                  simp at y5
                  have hgl := (World.ownsRow.lt ho g rfl).1
                  have hsB := hBr.size
                  have zX8 : Blk (U.setCell ⟨w4.heap.size, 5, none⟩ (.slice (some ⟨g, 0, none⟩) m cg)) w4.heap.size 66 #[.int .i64 D.ino, .int .i64 D.kind, .int .i64 D.links, .slice b1 D.data.length d1, .slice b2 D.ents.length d2, .slice (some ⟨g, 0, none⟩) m cg] := (zX.keep hBr).set 5 _
                  have zr8 := (zr4.keep hBr).kept gS (by omega)
                  have zt8 := (zt4.keep hBr).kept gS (by omega)
                  have o8 := row_kept ho gS (fun z hz e => by simp [Value.ownBlock] at hz; simp at e; omega)
                  have g8 : InoG (U.setCell ⟨w4.heap.size, 5, none⟩ (.slice (some ⟨g, 0, none⟩) m cg)) w2.heap.size w4.heap.size D (.slice b1 D.data.length d1) (.slice b2 D.ents.length d2) (.slice b3 D.attrs.length d3) := (g5.keep (by omega) hBr).kept fun k h1 h2 => gS.block k (by omega) (by simp; omega)
                  have hB8 : Below w.heap.size w (U.setCell ⟨w4.heap.size, 5, none⟩ (.slice (some ⟨g, 0, none⟩) m cg)) := (hB4.trans (hBr.mono hB4.size)).setCell (p := ⟨w4.heap.size, 5, none⟩) (by show w.heap.size ≤ w4.heap.size; omega) _
                  obtain ⟨F, hF⟩ : ∃ F, ({ D with attrs := cutA D.attrs nm } : InoD) = F := ⟨_, rfl⟩
                  have hFr : InoRd (U.setCell ⟨w4.heap.size, 5, none⟩ (.slice (some ⟨g, 0, none⟩) m cg)) F b1 b2 (some ⟨g, 0, none⟩) := by
                    rw [← hF]
                    exact ⟨g8.rds.data, g8.rds.byt, g8.rds.ents, (show OwnP 89 _ g _ cg _ from row_lower o8 (Nat.zero_le _)).rd⟩
                  have hFs : InoSmall F := by
                    rw [← hF]
                    exact cutA_small hDs nm
                  have e2 : D.ino = F.ino ∧ D.kind = F.kind ∧ D.links = F.links ∧ D.data.length = F.data.length ∧ D.ents.length = F.ents.length ∧ m = F.attrs.length := by rw [← hF]; exact ⟨rfl, rfl, rfl, rfl, rfl, hm.symm⟩
                  rw [hF] at hmd
                  have HMF : Hid _ := hmd
                  have hcF := setT a n cap nx rs F b1 b2 (some ⟨g, 0, none⟩) d1 d2 cg (U.setCell ⟨w4.heap.size, 5, none⟩ (.slice (some ⟨g, 0, none⟩) m cg)) (HT.out.keep hB8) hFs hFr
                  rw [HDS.out, ← e2.1, ← e2.2.1, ← e2.2.2.1, ← e2.2.2.2.1, ← e2.2.2.2.2.1, ← e2.2.2.2.2.2] at hcF
                  obtain ⟨j0, j1, j2, j3, j4, j5⟩ := zX8.six
                  have p0 := zt8.cell 0
                  have p1 := zt8.cell 1
                  simp at p0 p1
                  obtain ⟨V8, hV8⟩ : ∃ W, U.setCell ⟨w4.heap.size, 5, none⟩ (.slice (some ⟨g, 0, none⟩) m cg) = W := ⟨_, rfl⟩
                  rw [hV8] at hcF hB8 zr8 j0 j1 j2 j3 j4 j5 p0 p1
                  have HBW : Hid _ := hB8
                  have HZW : Hid _ := zr8
                  clear zX zr4 zt4 hB4 g5 ho hBr gS zX8 zr8 zt8 o8 g8 hB8 hF hFr hFs e2 hmd
                  go_wp2_with fail
                  (with_reducible refine hcF.mono ?_)
                  rintro e wz ⟨v, rfl, tAz⟩
                  obtain ⟨b, m, cc, rfl, zz, hPz⟩ := hset.out _ _ _ _ tAz HBW.out HZW.out HMF.out
                  have HPP : Hid _ := hPz
                  have HZZ : Hid _ := zz
                  have rr0 := zz.cell 0
                  have rr1 := zz.cell 1
                  have rf0 := zz.frozen 0
                  have rf1 := zz.frozen 1
                  simp at rr0 rr1
                  clear zz hPz hcF tAz y5 yf j0 j1 j2 j3 j4 j5 p0 p1
                  go_wp2
                  have zf := blk2 HZZ.out (.slice b m cc) (.int .i64 nx)
                  have dd0 := zf.cell 0
                  have dd1 := zf.cell 1
                  simp at dd0 dd1
                  refine bodyPost_ret (v := .tuple #[.agg #[.slice b m cc, .int .i64 nx], .int .i64 0]) (by simp [results, Tryz.f59, go_sem, dd0, dd1]) rfl ?_
                  exact HPP.out

                · rw [if_neg hve] at hmd
                  have hvb := bytes_ne hve
                  have hvn : val.toList ≠ [] := fun e => hve (by
                    rw [Lib.toList_data] at e
                    rw [← Lib.mk_data val, e])
                  have hvb2 : (val.toList == ([] : List UInt8)) = false := by simpa using hvn
                  have hvb3 : val.toList.isEmpty = false := by simpa using hvn
                  have hsU := hBr.size
                  by_cases h4 : 4 ≤ m
                  · rw [if_pos (by rw [hm]; exact h4)] at hmd
                    have hi4 : (4 : Int) ≤ (m : Int) := by omega
                    have hcC := href.out U 5 (hB4.trans (hBr.mono hB4.size)) (zr4.keep hBr) hmd
                    have zt5 := zt4.keep hBr
                    have t0 := zt5.cell 0
                    have t1 := zt5.cell 1
                    simp at t0 t1
                    clear hmd zr4 zt4 hB4 zX g5 ho zt5 hve hvn
                    go_wp2_with fail
                    (with_reducible refine hcC.mono ?_)
                    rintro e wz ⟨b, m, cc, rfl, zz, hPz⟩
                    have HPP : Hid _ := hPz
                    have HZZ : Hid _ := zz
                    have rr0 := zz.cell 0
                    have rr1 := zz.cell 1
                    have rf0 := zz.frozen 0
                    have rf1 := zz.frozen 1
                    simp at rr0 rr1
                    clear zz hPz hcC t0 t1 x5
                    go_wp2
                    have zf := blk2 HZZ.out (.slice b m cc) (.int .i64 nx)
                    have dd0 := zf.cell 0
                    have dd1 := zf.cell 1
                    simp at dd0 dd1
                    refine bodyPost_ret (v := .tuple #[.agg #[.slice b m cc, .int .i64 nx], .int .i64 5]) (by simp [results, Tryz.f59, go_sem, dd0, dd1]) rfl ?_
                    exact HPP.out

                  · rw [if_neg (by rw [hm]; exact h4)] at hmd
                    have hi4 : ¬ (4 : Int) ≤ (m : Int) := by omega
                    have hcP := l6AttrS (some ⟨g, 0, none⟩) m cg (cutA D.attrs nm) nm val U hm (by omega) (show OwnP 89 _ g _ cg _ from row_lower ho (Nat.zero_le _)).rd
                    clear hve hvn
                    go_wp2_with fail
                    (with_reducible refine hcP.mono ?_)
                    rintro e w7 ⟨g7, c7, rfl, o7, b7⟩
                    have bU7 : Below W4.heap.size W4 w7 := hBr.trans (b7.mono hBr.size)
                    clear hcP x5 ho
                    have gS := gr_setC w7 w4.heap.size 5 (.slice (some ⟨g7, 0, none⟩) (m + 1) c7)
                    have y5 := (zX.keep bU7).cell 5
                    have yf := (zX.keep bU7).frozen 5
                    simp at y5
                    have hgl := (World.ownsRow.lt o7 g7 rfl).1
                    have hsB := bU7.size
                    have zX8 : Blk (w7.setCell ⟨w4.heap.size, 5, none⟩ (.slice (some ⟨g7, 0, none⟩) (m + 1) c7)) w4.heap.size 66 #[.int .i64 D.ino, .int .i64 D.kind, .int .i64 D.links, .slice b1 D.data.length d1, .slice b2 D.ents.length d2, .slice (some ⟨g7, 0, none⟩) (m + 1) c7] := (zX.keep bU7).set 5 _
                    have zr8 := (zr4.keep bU7).kept gS (by omega)
                    have zt8 := (zt4.keep bU7).kept gS (by omega)
                    have o8 := row_kept o7 gS (fun z hz e => by simp [Value.ownBlock] at hz; simp at e; omega)
                    have g8 : InoG (w7.setCell ⟨w4.heap.size, 5, none⟩ (.slice (some ⟨g7, 0, none⟩) (m + 1) c7)) w2.heap.size w4.heap.size D (.slice b1 D.data.length d1) (.slice b2 D.ents.length d2) (.slice b3 D.attrs.length d3) := (g5.keep (by omega) bU7).kept fun k h1 h2 => gS.block k (by omega) (by simp; omega)
                    have hB8 : Below w.heap.size w (w7.setCell ⟨w4.heap.size, 5, none⟩ (.slice (some ⟨g7, 0, none⟩) (m + 1) c7)) := (hB4.trans (bU7.mono hB4.size)).setCell (p := ⟨w4.heap.size, 5, none⟩) (by show w.heap.size ≤ w4.heap.size; omega) _
                    obtain ⟨F, hF⟩ : ∃ F, ({ D with attrs := insBy (fun q => gtS nm q.1) (cutA D.attrs nm) (nm, val) } : InoD) = F := ⟨_, rfl⟩
                    have hFr : InoRd (w7.setCell ⟨w4.heap.size, 5, none⟩ (.slice (some ⟨g7, 0, none⟩) (m + 1) c7)) F b1 b2 (some ⟨g7, 0, none⟩) := by
                      rw [← hF]
                      exact ⟨g8.rds.data, g8.rds.byt, g8.rds.ents, (show OwnP 89 _ g7 _ c7 _ from row_lower o8 (Nat.zero_le _)).rd⟩
                    have hFs : InoSmall F := by
                      rw [← hF]
                      exact putA_small hDs nm val (by omega) (by omega) (by rw [hm]; omega)
                    have e2 : D.ino = F.ino ∧ D.kind = F.kind ∧ D.links = F.links ∧ D.data.length = F.data.length ∧ D.ents.length = F.ents.length ∧ (m + 1) = F.attrs.length := by rw [← hF]; exact ⟨rfl, rfl, rfl, rfl, rfl, (by show _ = (insBy _ _ _).length; rw [insBy_len, hm])⟩
                    rw [hF] at hmd
                    have HMF : Hid _ := hmd
                    have hcF := setT a n cap nx rs F b1 b2 (some ⟨g7, 0, none⟩) d1 d2 c7 (w7.setCell ⟨w4.heap.size, 5, none⟩ (.slice (some ⟨g7, 0, none⟩) (m + 1) c7)) (HT.out.keep hB8) hFs hFr
                    rw [HDS.out, ← e2.1, ← e2.2.1, ← e2.2.2.1, ← e2.2.2.2.1, ← e2.2.2.2.2.1, ← e2.2.2.2.2.2] at hcF
                    obtain ⟨j0, j1, j2, j3, j4, j5⟩ := zX8.six
                    have p0 := zt8.cell 0
                    have p1 := zt8.cell 1
                    simp at p0 p1
                    obtain ⟨V8, hV8⟩ : ∃ W, w7.setCell ⟨w4.heap.size, 5, none⟩ (.slice (some ⟨g7, 0, none⟩) (m + 1) c7) = W := ⟨_, rfl⟩
                    rw [hV8] at hcF hB8 zr8 j0 j1 j2 j3 j4 j5 p0 p1
                    have HBW : Hid _ := hB8
                    have HZW : Hid _ := zr8
                    clear zX zr4 zt4 hB4 g5 o7 bU7 gS zX8 zr8 zt8 o8 g8 hB8 hF hFr hFs e2 hmd
                    go_wp2_with fail
                    (with_reducible refine hcF.mono ?_)
                    rintro e wz ⟨v, rfl, tAz⟩
                    obtain ⟨b, m, cc, rfl, zz, hPz⟩ := hset.out _ _ _ _ tAz HBW.out HZW.out HMF.out
                    have HPP : Hid _ := hPz
                    have HZZ : Hid _ := zz
                    have rr0 := zz.cell 0
                    have rr1 := zz.cell 1
                    have rf0 := zz.frozen 0
                    have rf1 := zz.frozen 1
                    simp at rr0 rr1
                    clear zz hPz hcF tAz y5 yf j0 j1 j2 j3 j4 j5 p0 p1
                    go_wp2
                    have zf := blk2 HZZ.out (.slice b m cc) (.int .i64 nx)
                    have dd0 := zf.cell 0
                    have dd1 := zf.cell 1
                    simp at dd0 dd1
                    refine bodyPost_ret (v := .tuple #[.agg #[.slice b m cc, .int .i64 nx], .int .i64 0]) (by simp [results, Tryz.f59, go_sem, dd0, dd1]) rfl ?_
                    exact HPP.out

          · rw [if_pos hc0] at hmd
            have hcC := href.out W4 c hB4 zr4 hmd
            have hcb : (c != 0) = true := by simpa using hc0
            have hcb' : (c == 0) = false := by simpa using hc0
            clear hmd zr4 zt4 hB4 zX g5
            go_wp2_with fail
            (with_reducible refine hcC.mono ?_)
            rintro e wz ⟨b, m, cc, rfl, zz, hPz⟩
            have HPP : Hid _ := hPz
            have HZZ : Hid _ := zz
            have rr0 := zz.cell 0
            have rr1 := zz.cell 1
            have rf0 := zz.frozen 0
            have rf1 := zz.frozen 1
            simp at rr0 rr1
            clear zz hPz hcC t0 t1
            go_wp2
            have zf := blk2 HZZ.out (.slice b m cc) (.int .i64 nx)
            have dd0 := zf.cell 0
            have dd1 := zf.cell 1
            simp at dd0 dd1
            refine bodyPost_ret (v := .tuple #[.agg #[.slice b m cc, .int .i64 nx], .int .i64 c]) (by simp [results, Tryz.f59, go_sem, dd0, dd1]) rfl ?_
            exact HPP.out
end

section
open Go.RowKit
set_option maxRecDepth 100000 in
set_option maxHeartbeats 4000000 in
theorem wrap_SetAttr (a : Option Addr) (n cap : Nat) (nx : Int) (s nm vl : ByteArray) (w : World) (N : Int) (D : List InoD) (C : Int)
    (hc : ∀ W : World, Below w.heap.size w W → Calls Tryz.prog 81 #[.agg #[.slice a n cap, .int .i64 nx], .int .i64 8, .agg #[.string s, .string ⟨#[]⟩, .int .i64 0, .slice none 0 0, .string nm, .string vl]] W fun e w' => TabC W N D C e w') :
    Calls Tryz.prog 29 #[.agg #[.slice a n cap, .int .i64 nx], .string s, .string nm, .string vl] w fun e w' => TabC w N D C e w' := by
  have B0 : Below w.heap.size w ((w.alloc (.cells #[.slice a n cap, .int .i64 nx] 26)).alloc (.cells #[.slice none 0 0, .int .i64 0] 26)) := ((Below.refl _ w).alloc (Nat.le_refl _) _).alloc (by simp) _
  have zR := Blk.new (w.alloc (.cells #[.slice a n cap, .int .i64 nx] 26)) 26 #[.slice none 0 0, .int .i64 0]
  simp only [World.size_alloc] at zR
  go_enter Tryz.func29, Tryz.ntmps29
  go_wp2_with fail
  obtain ⟨W0, hW0⟩ : ∃ W, ((w.alloc (.cells #[.slice a n cap, .int .i64 nx] 26)).alloc (.cells #[.slice none 0 0, .int .i64 0] 26)) = W := ⟨_, rfl⟩
  rw [hW0] at B0 zR ⊢
  clear hW0
  (with_reducible refine (hc W0 B0).mono ?_)
  intro e w2 hp
  obtain ⟨ra, rn, rc, rfl, zz, hfin⟩ := tabC_box hp B0 (by omega) zR
  have HFIN : Hid (TabC w N D C (.returned (.tuple #[.agg #[.slice ra rn rc, .int .i64 N], .int .i64 C])) ((w2.setCell ⟨w.heap.size + 1, 0, none⟩ (.slice ra rn rc)).setCell ⟨w.heap.size + 1, 1, none⟩ (.int .i64 N))) := hfin
  have r0 := zz.cell 0
  have r1 := zz.cell 1
  have f0 := zz.frozen 0
  have f1 := zz.frozen 1
  simp at r0 r1
  have zf := blk2 zz (.slice ra rn rc) (.int .i64 N)
  have dd0 := zf.cell 0
  have dd1 := zf.cell 1
  simp at dd0 dd1
  clear hp hfin zf zz zR B0 hc
  go_wp2
  refine bodyPost_ret (v := .tuple #[.agg #[.slice ra rn rc, .int .i64 N], .int .i64 C]) (by simp [results, Tryz.f29, go_sem, dd0, dd1]) rfl ?_
  exact HFIN.out
end

section
open Go.RowKit
theorem stat_form {ds : List InoD} {s : ByteArray} (h : (splitOf s.data.toList).isSome = false) : (statD ds s).2 = 1 := by
  have h0 : splitOf s.data.toList = none := by simpa using h
  unfold statD walkP
  rw [h0]
  rfl
theorem stat_in {ds : List InoD} {s : ByteArray} (h : (statD ds s).2 = 0) : (statD ds s).1 ∈ ds := by
  revert h
  unfold statD
  split
  · split
    · intro h; simp at h
    · rename_i D hD
      intro _
      exact (look_mem hD).1
  · rename_i hc
    intro h
    exact absurd h hc
end

section
open Go.RowKit
/-- The closure's two variables: the name's function, the text. -/
structure CVAttr (w : World) (FB SB : Nat) (s : ByteArray) : Prop where
  f : Blk w FB 187 #[.func (.func 165) #[] #[]]
  s : Blk w SB 9 #[.string s]
theorem CVAttr.keep {w w' : World} {FB SB : Nat} {s : ByteArray} (h : CVAttr w FB SB s) (hb : Below w.heap.size w w') : CVAttr w' FB SB s := ⟨h.f.keep hb, h.s.keep hb⟩
theorem CVAttr.row {w w' : World} {FB SB : Nat} {s : ByteArray} {g n c : Nat} {ps : List VP} (h : CVAttr w FB SB s) (ho : OwnP 89 w g n c ps) (hg : w.grownBy w' (some g)) : CVAttr w' FB SB s := by
  have hk : KpT w w' [187, 9] := KpT.row (v := .slice (some ⟨g, 0, none⟩) n c) hg ho (by decide)
  exact ⟨h.f.kp hk (by decide), h.s.kp hk (by decide)⟩
set_option maxRecDepth 100000 in
set_option maxHeartbeats 2000000 in
theorem sameAttr (z : ByteArray) (u : ByteArray) (s : ByteArray) (FB SB : Nat) (w : World) (hv : CVAttr w FB SB s) :
    Calls Tryz.prog 255 #[.agg #[.string z, .string u], .pointer (some ⟨FB, 0, none⟩), .pointer (some ⟨SB, 0, none⟩)] w fun e w' => e = .returned (.bool (z.toList == s.toList)) ∧ Below w.heap.size w w' := by
  have b0 : Below w.heap.size w (w.alloc (.cells #[.string z, .string u] 89)) := (Below.refl _ w).alloc (Nat.le_refl _) _
  have hv0 := hv.keep b0
  have z0 := Blk.new w 89 #[.string z, .string u]
  have hn := attrName_any z u
  go_enter Tryz.func255, Tryz.ntmps255
  go_wp2_with fail
  obtain ⟨W, hW⟩ : ∃ W, w.alloc (.cells #[.string z, .string u] 89) = W := ⟨_, rfl⟩
  rw [hW] at hv0 z0 b0 ⊢
  clear hW hv
  have HK : Hid (∀ V : World, Below W.heap.size W V → V.cell? ⟨FB, 0, none⟩ = some (.func (.func 165) #[] #[]) ∧ V.cell? ⟨SB, 0, none⟩ = some (.string s) ∧ V.cell? ⟨w.heap.size, 0, none⟩ = some (.string z) ∧ V.cell? ⟨w.heap.size, 1, none⟩ = some (.string u)) := fun V hV => ⟨(hv0.keep hV).f.cell 0, (hv0.keep hV).s.cell 0, (z0.keep hV).cell 0, (z0.keep hV).cell 1⟩
  obtain ⟨k0, k1, k2, k3⟩ := HK.out W (Below.refl _ _)
  go_region_held3 (fun V : World => V.cell? ⟨FB, 0, none⟩ = some (.func (.func 165) #[] #[]) ∧ V.cell? ⟨SB, 0, none⟩ = some (.string s) ∧ V.cell? ⟨w.heap.size, 0, none⟩ = some (.string z) ∧ V.cell? ⟨w.heap.size, 1, none⟩ = some (.string u)) (go_keep) (first
    | (go_at_call 165; (with_reducible refine (hn W.drew).mono ?_); rintro e w1 ⟨rfl, b1⟩; have B1 : Below W.heap.size W w1 := (Below.refl _ W).drew.trans b1; obtain ⟨q0, q1, q2, q3⟩ := HK.out w1 B1)
    | fail)
  have hend : Hid _ := b0.trans (B1.mono b0.size)
  clear q0 q1 q2 q3 k0 k1 k2 k3 b1 B1 z0 hv0 b0
  go_wp2
  go_ret
  exact ⟨rfl, hend.out⟩
/-- The place of the first one of this name, or -1. -/
def firstAttr (es : List (ByteArray × ByteArray)) (s : ByteArray) : Int := match es.findIdx? (fun e => e.1.toList == s.toList) with | some k => (k : Int) | none => -1
theorem firstAttr_at {es : List (ByteArray × ByteArray)} {s : ByteArray} {k : Nat} (hk : k < es.length) (h : (es[k].1.toList == s.toList) = true) (ha : ∀ (j : Nat) (hj : j < es.length), j < k → (es[j].1.toList == s.toList) = false) : firstAttr es s = (k : Int) := by
  unfold firstAttr
  have : es.findIdx? (fun e => e.1.toList == s.toList) = some k := List.findIdx?_eq_some_iff_getElem.2 ⟨hk, h, fun j hj => by rw [ha j (by omega) hj]; decide⟩
  rw [this]
theorem firstAttr_none {es : List (ByteArray × ByteArray)} {s : ByteArray} (ha : ∀ (j : Nat) (hj : j < es.length), (es[j].1.toList == s.toList) = false) : firstAttr es s = -1 := by
  unfold firstAttr
  have : es.findIdx? (fun e => e.1.toList == s.toList) = none := List.findIdx?_eq_none_iff.2 fun e he => by
    obtain ⟨j, hj, rfl⟩ := List.getElem_of_mem he
    exact ha j hj
  rw [this]
set_option maxRecDepth 100000 in
set_option maxHeartbeats 2000000 in
theorem indexAttr (a : Option Addr) (n cap : Nat) (es : List (ByteArray × ByteArray)) (s : ByteArray) (FB SB : Nat) (w : World) (hn : es.length = n) (hs : n ≤ 4000000) (hr : RdP w a (aP es)) (hv : CVAttr w FB SB s) :
    Calls Tryz.prog 274 #[.slice a n cap, .func (.func 255) #[] #[.pointer (some ⟨FB, 0, none⟩), .pointer (some ⟨SB, 0, none⟩)]] w fun e w' => e = .returned (.int .i64 (firstAttr es s)) ∧ Below w.heap.size w w' := by
  have HR : Hid _ := hr
  have HV : Hid _ := hv
  have HN : Hid (es.length = n) := hn
  obtain ⟨R, hR⟩ : ∃ R, firstAttr es s = R := ⟨_, rfl⟩
  rw [hR]
  have HRR : Hid _ := hR
  clear hr hv hn hR
  go_enter Tryz.func274, Tryz.ntmps274
  go_wp2
  go_loopw [8] (fun i wr => ∃ k : Nat, k ≤ n ∧ i = .int .i64 k ∧ Hid (∀ (j : Nat) (hj : j < es.length), j < k → (es[j].1.toList == s.toList) = false) ∧ Hid (Below w.heap.size w wr)) (fun i _ => n - (intOf i).toNat)
  case atStart => exact ⟨0, Nat.zero_le _, rfl, fun j _ hj => by omega, Below.refl _ _⟩
  case round =>
    obtain ⟨k, hk, rfl, hall, hB⟩ := hrel
    by_cases hkn : k < n
    · have hki : (k : Int) < (n : Int) := by omega
      have hk0 : (0 : Int) ≤ (k : Int) := by omega
      have hkl : k < es.length := by rw [HN.out]; exact hkn
      obtain ⟨eb, eo, rfl, helt, hec⟩ := RdP.lt (RdP.keep HR.out hB.out) (by intro h; have := congrArg List.length h; rw [aP_length] at this; simp at this; rw [this] at hkl; simp at hkl)
      have hx := hec k (by rw [aP_length]; exact hkl)
      rw [aP_at es k hkl] at hx
      have hyes : Hid ((es[k].1.toList == s.toList) = true → (k : Int) = R) := fun h => by rw [← HRR.out]; exact (firstAttr_at hkl h hall.out).symm
      have hno : Hid ((es[k].1.toList == s.toList) = false → ∀ (j : Nat) (hj : j < es.length), j < k + 1 → (es[j].1.toList == s.toList) = false) := fun h j hj hjk => by
        rcases (show j < k ∨ j = k by omega) with h1 | rfl
        · exact hall.out j hj h1
        · exact h
      obtain ⟨z, u, hzu⟩ : ∃ z u, es[k] = (z, u) := ⟨_, _, rfl⟩
      rw [hzu] at hx hyes hno
      obtain ⟨x1, x2⟩ := hx
      dsimp only at x1 x2 hyes hno
      have hcc := sameAttr z u s FB SB wr (CVAttr.keep HV.out hB.out)
      obtain ⟨bb, hbb⟩ : ∃ b, (z.toList == s.toList) = b := ⟨_, rfl⟩
      rw [hbb] at hcc hyes hno
      clear hec hzu hall hbb
      cases bb with
      | true =>
        have hend : Hid ((k : Int) = R) := hyes.out rfl
        clear hyes hno
        go_wp2_with (go_at_call 255; (with_reducible refine hcc.mono ?_); rintro e w1 ⟨rfl, b1⟩)
        go_ret
        exact ⟨ret_int hend.out, hB.out.trans (b1.mono hB.out.size)⟩
      | false =>
        have hnx : Hid _ := hno.out rfl
        clear hyes hno
        go_wp2_with (go_at_call 255; (with_reducible refine hcc.mono ?_); rintro e w1 ⟨rfl, b1⟩)
        go_roundw
        case rel => exact ⟨k + 1, by omega, by go_num, hnx, hB.out.trans (b1.mono hB.out.size)⟩
        case measure => simp [intOf]; omega
    · have hki : ¬ (k : Int) < (n : Int) := by omega
      have hend : Hid ((-1 : Int) = R) := by show _ = _; rw [← HRR.out]; exact (firstAttr_none (fun j hj => hall.out j hj (by rw [HN.out] at hj; omega))).symm
      clear hall
      go_wp2
      go_ret
      exact ⟨ret_int hend.out, hB.out⟩
end

section
open Go.RowKit
theorem zc_one {z1 z2 : Value} {m : Nat} (h1 : z1.oneCell' = true) (h2 : z2.oneCell' = true) : ∀ v ∈ (Builtin.zeroCells #[z1, z2] m).toList, v.oneCell' = true := by
  intro v hv
  unfold Builtin.zeroCells at hv
  rw [Array.toList_map, List.mem_map] at hv
  obtain ⟨i, _, rfl⟩ := hv
  rcases Nat.mod_two_eq_zero_or_one i with h | h
  · show (#[z1, z2][i % 2]!).oneCell' = true
    rw [h]
    exact h1
  · show (#[z1, z2][i % 2]!).oneCell' = true
    rw [h]
    exact h2
theorem ownQ_shape {e : TypeId} {w : World} {v : Value} {n : Nat} {ps : List VP} (h : OwnQ e w v n ps) : ∃ a c, v = .slice a n c := by
  rcases h.cases with ⟨rfl, rfl, _⟩ | ⟨g, c, rfl, _⟩
  · exact ⟨none, 0, rfl⟩
  · exact ⟨_, _, rfl⟩
theorem pv_take : ∀ (ps : List VP) (i : Nat), (pv ps).take (i * 2) = pv (ps.take i)
  | [], i => by simp [pv]
  | p :: ps, 0 => by simp [pv]
  | p :: ps, i + 1 => by
    have e : pv (p :: ps) = p.1 :: p.2 :: pv ps := rfl
    rw [e, show (i + 1) * 2 = i * 2 + 1 + 1 by omega, List.take_succ_cons, List.take_succ_cons, pv_take ps i, List.take_succ_cons]
    rfl
theorem wpList_clear (W : World) {ops : Array Oper} {rest : List Oper} {o : Oper} {a : Act} {Q : Exit → Act → World → Prop} (hgd : o.guard = none) (s : Operand) (T : TypeId)
    (ho : o.op = .call { callee := .builtin .clear, args := #[s], argTypes := #[T] }) (v : Value) (W' : World) (hs : a.eval s = v) (hr : ∀ ty, (Builtin.clear_ #[T] ty #[v]).run Tryz.prog W = .ok (.tuple #[]) W')
    (h : wpList Tryz.prog ops Q rest (a.put o.dst (.tuple #[])) W') : wpList Tryz.prog ops Q (o :: rest) a W := by
  refine wpList_plain hgd fun K hK => ?_
  unfold Oper.wp execOp
  simp only [ho, resolve, invoke, builtin, Sem.run_bind, Sem.run_pure, Result.andThen_ok, List.map_toArray, List.map_cons, List.map_nil, hs, hr]
  exact hK _ _ h
theorem gr_setCells (g : Nat) : ∀ (zs : List Value) (o : Nat) (w : World), w.grownBy (w.setCells g o zs) (some g)
  | [], _, _ => ⟨rfl, rfl, rfl, Nat.le_refl _, fun _ _ _ => rfl⟩
  | z :: zs, o, w => (gr_setC w g o z).trans (gr_setCells g zs (o + 1) _)
theorem ownP_setCells {e : TypeId} {g i cap : Nat} {ps : List VP} : ∀ (zs : List Value) (o : Nat) (w : World), OwnP e w g i cap ps → i * 2 ≤ o → OwnP e (w.setCells g o zs) g i cap ps
  | [], _, _, h, _ => h
  | z :: zs, o, w, h, ho => by
    have h1 := (World.ownsRow.stored h o z).1
    rw [List.set_eq_of_length_le (by have := h.1; omega)] at h1
    exact ownP_setCells zs (o + 1) _ h1 (by omega)
theorem own_takeP {e : TypeId} {w : World} {g n i cap : Nat} {ps : List VP} (h : OwnP e w g n cap ps) (hi : i ≤ n) : OwnP e w g i cap (ps.take i) := by
  have hl := h.len
  refine ⟨by rw [pv_length, List.length_take]; omega, ?_⟩
  rcases h.2 with ⟨h0, _⟩ | ⟨g', c', cur, h0, hg, hh, hnc, hcm, hcs, htk⟩
  · cases h0
  · cases h0
    refine .inr ⟨g, cap, cur, rfl, hg, hh, by omega, hcm, hcs, ?_⟩
    have e1 := congrArg (List.take (i * 2)) htk
    rw [List.take_take, Nat.min_eq_left (by omega)] at e1
    rw [e1, pv_take]
theorem Below.gr {w w' : World} (h : Below w.heap.size w w') (r : Option Nat) : w.grownBy w' r := ⟨h.os, h.tape, h.output, h.size, fun k hk _ => h.block k hk⟩
theorem gr_tr {w w1 w2 : World} {r : Option Nat} (h : w.grownBy w1 r) (k : w1.grownBy w2 r) : w.grownBy w2 r := h.trans k
end

section
open Go.RowKit
theorem Blk.rowQ {W V : World} {b : Nat} {t e : TypeId} {vs : Array Value} {v : Value} {n : Nat} {ps : List VP} (h : Blk W b t vs) (ht : e ∉ [t]) (ho : OwnQ e W v n ps) (hg : W.grownBy V v.ownBlock) : Blk V b t vs := h.kp (KpT.row hg ho ht) (by simp)
end

section
open Go.RowKit
def cmpB (x y : ByteArray) : Int := if Op.bytesLess x.toList y.toList = true then -1 else if (x.toList == y.toList) = true then 0 else 1
theorem isNaNS (x : ByteArray) (w : World) : Calls Tryz.prog 211 #[.string x] w fun e w' => e = .returned (.bool false) ∧ w' = w := by
  go_enter Tryz.func211, Tryz.ntmps211
  go_wp2
  go_ret
  exact ⟨rfl, rfl⟩
set_option maxHeartbeats 1000000 in
theorem cmpI (x y : ByteArray) (w : World) : Calls Tryz.prog 258 #[.string x, .string y] w fun e w' => e = .returned (.int .i64 (cmpB x y)) ∧ w' = w := by
  have h1 := isNaNS x w
  have h2 := isNaNS y w
  obtain ⟨R, hR⟩ : ∃ R, cmpB x y = R := ⟨_, rfl⟩
  rw [hR]
  unfold cmpB at hR
  go_enter Tryz.func258, Tryz.ntmps258
  go_wp2_with fail
  (with_reducible refine h1.mono ?_)
  rintro e w1 ⟨rfl, hw1⟩
  obtain rfl := hw1
  go_wp2_with fail
  (with_reducible refine h2.mono ?_)
  rintro e w2 ⟨rfl, hw2⟩
  obtain rfl := hw2
  cases hl : Op.bytesLess x.toList y.toList with
  | true =>
    rw [if_pos hl] at hR
    subst hR
    go_wp2
    go_ret
    exact ⟨rfl, rfl⟩
  | false =>
    rw [if_neg (by rw [hl]; decide)] at hR
    cases hg : (x.toList == y.toList) with
    | true =>
      rw [if_pos hg] at hR
      subst hR
      go_wp2
      go_ret
      exact ⟨rfl, rfl⟩
    | false =>
      rw [if_neg (by rw [hg]; decide)] at hR
      subst hR
      go_wp2
      go_ret
      exact ⟨rfl, rfl⟩
theorem cmpB_neg (x y : ByteArray) : cmpB x y < 0 ↔ Op.bytesLess x.toList y.toList = true := by
  unfold cmpB
  split
  · rename_i h; simp [h]
  · rename_i h
    split <;> simp [h]
set_option maxRecDepth 100000 in
set_option maxHeartbeats 2000000 in
theorem cmpAttr (z : ByteArray) (u : ByteArray) (s : ByteArray) (FB : Nat) (w : World) (hv : Blk w FB 187 #[.func (.func 165) #[] #[]]) :
    Calls Tryz.prog 257 #[.agg #[.string z, .string u], .string s, .pointer (some ⟨FB, 0, none⟩)] w fun e w' => e = .returned (.int .i64 (cmpB z s)) ∧ Below w.heap.size w w' := by
  have b0 : Below w.heap.size w (w.alloc (.cells #[.string z, .string u] 89)) := (Below.refl _ w).alloc (Nat.le_refl _) _
  have hv0 := hv.keep b0
  have z0 := Blk.new w 89 #[.string z, .string u]
  have hn := attrName_any z u
  have hc := cmpI z s
  have k0 := hv0.cell 0
  have k1 := z0.cell 0
  have k2 := z0.cell 1
  simp at k0 k1 k2
  have HB0 : Hid _ := b0
  have HZL : Hid _ := hv0
  clear hv0 z0 b0 hv
  go_enter Tryz.func257, Tryz.ntmps257
  go_wp2_with fail
  obtain ⟨W, hW⟩ : ∃ W, w.alloc (.cells #[.string z, .string u] 89) = W := ⟨_, rfl⟩
  rw [hW] at HB0 k0 ⊢
  clear hW HZL
  (with_reducible refine (hn W).mono ?_)
  rintro e w1 ⟨rfl, b1⟩
  have hend : Hid _ := HB0.out.trans (b1.mono HB0.out.size)
  clear k0 k1 k2 b1
  go_wp2_with fail
  (with_reducible refine (hc w1).mono ?_)
  rintro e w2 ⟨rfl, hw2⟩
  obtain rfl := hw2
  go_wp2
  go_ret
  exact ⟨rfl, hend.out⟩
/-- The first place that is not below the name. -/
def SpotAttr (es : List (ByteArray × ByteArray)) (s : ByteArray) (k : Nat) : Prop := k ≤ es.length ∧ (∀ (j : Nat) (hj : j < es.length), j < k → Op.bytesLess es[j].1.toList s.toList = true) ∧ (∀ (j : Nat) (hj : j < es.length), k ≤ j → Op.bytesLess es[j].1.toList s.toList = false)
set_option maxRecDepth 100000 in
set_option maxHeartbeats 4000000 in
theorem searchAttr (a : Option Addr) (n cap : Nat) (es : List (ByteArray × ByteArray)) (s : ByteArray) (FB : Nat) (w : World) (hn : es.length = n) (hs : n ≤ 4000000) (hr : RdP w a (aP es)) (hv : Blk w FB 187 #[.func (.func 165) #[] #[]])
    (hm : ∀ (i j : Nat) (hi : i < es.length) (hj : j < es.length), i ≤ j → Op.bytesLess es[j].1.toList s.toList = true → Op.bytesLess es[i].1.toList s.toList = true) :
    Calls Tryz.prog 256 #[.slice a n cap, .string s, .func (.func 257) #[] #[.pointer (some ⟨FB, 0, none⟩)]] w fun e w' => (∃ (k : Nat) (b : Bool), e = .returned (.tuple #[.int .i64 k, .bool b]) ∧ SpotAttr es s k) ∧ Below w.heap.size w w' := by
  have HR : Hid _ := hr
  have HV : Hid _ := hv
  have HN : Hid (es.length = n) := hn
  have HM : Hid _ := hm
  have HCC : Hid (∀ (k : Nat) (W : World), k < n → Below w.heap.size w W → ∃ (eb eo : Nat) (z : ByteArray) (u : ByteArray), a = some ⟨eb, eo, none⟩ ∧ (∃ h : k < es.length, es[k].1 = z) ∧ W.cell? ⟨eb, eo + k * 2, none⟩ = some (.string z) ∧ W.cell? ⟨eb, eo + k * 2 + 1, none⟩ = some (.string u) ∧ Calls Tryz.prog 257 #[.agg #[.string z, .string u], .string s, .pointer (some ⟨FB, 0, none⟩)] W fun e w' => e = .returned (.int .i64 (cmpB z s)) ∧ Below W.heap.size W w') := fun k W hk hB => by
    have hkl : k < es.length := by rw [HN.out]; exact hk
    obtain ⟨eb, eo, rfl, helt, hec⟩ := RdP.lt (RdP.keep HR.out hB) (by intro h; have := congrArg List.length h; rw [aP_length] at this; simp at this; rw [this] at hkl; simp at hkl)
    have hx := hec k (by rw [aP_length]; exact hkl)
    rw [aP_at es k hkl] at hx
    exact ⟨eb, eo, es[k].1, es[k].2, rfl, ⟨hkl, rfl⟩, hx.1, hx.2, cmpAttr _ _ s FB W (Blk.keep HV.out (hB.mono (Nat.le_refl _)))⟩
  clear hr hv hn hm
  go_enter Tryz.func256, Tryz.ntmps256
  go_wp2
  go_loopw [9, 10] (fun i j wr => ∃ (p q : Nat), p ≤ q ∧ q ≤ n ∧ i = .int .i64 p ∧ j = .int .i64 q ∧ Hid (∀ (k : Nat) (hk : k < es.length), k < p → Op.bytesLess es[k].1.toList s.toList = true) ∧ Hid (∀ (k : Nat) (hk : k < es.length), q ≤ k → Op.bytesLess es[k].1.toList s.toList = false) ∧ Hid (Below w.heap.size w wr)) (fun i j _ => (intOf j).toNat - (intOf i).toNat)
  case atStart => exact ⟨0, n, Nat.zero_le _, Nat.le_refl _, rfl, rfl, fun k _ hk => by omega, fun k hk hq => by rw [HN.out] at hk; omega, Below.refl _ _⟩
  case round =>
    obtain ⟨p, q, hpq, hqn, rfl, rfl, hlo, hhi, hB⟩ := hrel
    by_cases hlt : p < q
    · have hlti : (p : Int) < (q : Int) := by omega
      obtain ⟨h, hh⟩ : ∃ h, (p + q) / 2 = h := ⟨_, rfl⟩
      have hh1 : p ≤ h ∧ h < q := by omega
      have hw1 : IntKind.i64.wrap ((p : Int) + (q : Int)) = (p : Int) + (q : Int) := wrap_small _ (by omega) (by omega)
      have hw2 : ((p : Int) + (q : Int)) / 2 = (h : Int) := by omega
      have hh0 : (0 : Int) ≤ (h : Int) := by omega
      have hhn : (h : Int) < (n : Int) := by omega
      obtain ⟨eb, eo, z, u, rfl, ⟨hkl, hz⟩, x1, x2, hcc⟩ := HCC.out h wr (by omega) hB.out
      have hz' : Hid _ := hz
      have HCN : Hid _ := cmpB_neg z s
      obtain ⟨cv, hcv⟩ : ∃ c, cmpB z s = c := ⟨_, rfl⟩
      rw [hcv] at hcc HCN
      clear hcv hz hh
      by_cases hc : cv < 0
      · have hnx : Hid (∀ (k : Nat) (hk : k < es.length), k < h + 1 → Op.bytesLess es[k].1.toList s.toList = true) := fun k hk hkh => HM.out k h hk hkl (by omega) (by rw [hz'.out]; exact HCN.out.1 hc)
        clear hlo HCN hz'
        go_wp2_with fail
        (with_reducible refine hcc.mono ?_)
        rintro e w1 ⟨rfl, b1⟩
        go_wp2
        go_roundw
        case rel => exact ⟨h + 1, q, by omega, hqn, by go_num, rfl, hnx, hhi, hB.out.trans (b1.mono hB.out.size)⟩
        case measure => simp [intOf]; omega
      · have hnx : Hid (∀ (k : Nat) (hk : k < es.length), h ≤ k → Op.bytesLess es[k].1.toList s.toList = false) := fun k hk hkh => by
          cases hb : Op.bytesLess es[k].1.toList s.toList with
          | false => rfl
          | true =>
            have := HM.out h k hkl hk hkh hb
            rw [hz'.out] at this
            exact absurd (HCN.out.2 this) hc
        clear hhi HCN hz'
        go_wp2_with fail
        (with_reducible refine hcc.mono ?_)
        rintro e w1 ⟨rfl, b1⟩
        go_wp2
        go_roundw
        case rel => exact ⟨p, h, by omega, by omega, rfl, rfl, hlo, hnx, hB.out.trans (b1.mono hB.out.size)⟩
        case measure => simp [intOf]; omega
    · have hlti : ¬ (p : Int) < (q : Int) := by omega
      obtain rfl : p = q := by omega
      have hsp : Hid (SpotAttr es s p) := ⟨by rw [HN.out]; exact hqn, hlo.out, hhi.out⟩
      clear hlo hhi
      by_cases hpn : p < n
      · have hpi : (p : Int) < (n : Int) := by omega
        have hp0 : (0 : Int) ≤ (p : Int) := by omega
        obtain ⟨eb, eo, z, u, rfl, _, x1, x2, hcc⟩ := HCC.out p wr hpn hB.out
        go_wp2_with fail
        (with_reducible refine hcc.mono ?_)
        rintro e w1 ⟨rfl, b1⟩
        have hend : Hid _ := hB.out.trans (b1.mono hB.out.size)
        obtain ⟨cv, hcv⟩ : ∃ c, cmpB z s = c := ⟨_, rfl⟩
        rw [hcv]
        clear b1 x1 x2 hcc
        go_wp2
        refine bodyPost_ret (v := .tuple #[.int .i64 p, .bool (cv == 0)]) (by simp [results, Tryz.f256, go_sem]) rfl ?_
        exact ⟨⟨p, cv == 0, rfl, hsp.out⟩, hend.out⟩
      · have hpi : ¬ (p : Int) < (n : Int) := by omega
        go_wp2
        refine bodyPost_ret (v := .tuple #[.int .i64 p, .bool false]) (by simp [results, Tryz.f256, go_sem]) rfl ?_
        exact ⟨⟨p, .inl rfl, hsp.out⟩, hB.out⟩
end

section
open Go.RowKit
theorem run_copy6Attr (w : World) (ty : TypeId) (g o dLen dCap : Nat) (a : Addr) (sLen sCap : Nat) (cur : Array Value) (t : TypeId) (cs : List Value) (m : Nat)
    (hg : w.heap[g]? = some (.cells cur t (0, 0))) (hm : Nat.min sLen dLen = m) (hn : cs.length = m * 2)
    (hsrc : ∀ j v, cs[j]? = some v → w.cell? (a.add j) = some v) (hfit : o + cs.length ≤ cur.size) (h1 : ∀ v ∈ cs, v.oneCell' = true) :
    (Builtin.copy_ #[64, 64] ty #[.slice (some ⟨g, o, none⟩) dLen dCap, .slice (some a) sLen sCap]).run Tryz.prog w =
      .ok (goInt m) (w.setRow g (cur.toList.take o ++ cs ++ cur.toList.drop (o + cs.length)).toArray) := by
  obtain ⟨ii, hii, zi0, zi1, zi2⟩ := info_parts Tryz.infoAttr
  have hl := run_loadCells_list (P := Tryz.prog) w a cs hsrc
  have hst := run_storeCells_at Tryz.prog g o t cs 0 cur w hg (by simpa using hfit) h1
  rw [hn] at hl
  simp [Builtin.copy_, run_underlying Tryz.underlying64, Builtin.lenOf, Builtin.firstCells, sizeOf, typeInfo, hii, zi1, hm, hl, hst]
structure FullAttr (w : World) (g n : Nat) (xs : List Value) : Prop where
  len : xs.length = n * 2
  blk : w.heap[g]? = some (.cells xs.toArray 89 (0, 0))
theorem full_ofAttr {B : Nat} {w : World} {g n : Nat} {xs : List Value} (h : w.ownsRow B 89 2 (.slice (some ⟨g, 0, none⟩) n n) n xs) : FullAttr w g n xs := by
  rcases h.2 with ⟨h', _⟩ | ⟨g', c, cur, h', _, h3, _, _, h6, h7⟩
  · simp at h'
  · simp at h'
    obtain ⟨rfl, rfl⟩ := h'
    refine ⟨h.1, ?_⟩
    rw [List.take_of_length_le (by rw [Array.length_toList]; omega)] at h7
    rw [h3, ← h7]
theorem FullAttr.cell {w : World} {g n : Nat} {xs : List Value} (h : FullAttr w g n xs) (j : Nat) (u : Value) (hu : xs[j]? = some u) : w.cell? ⟨g, j, none⟩ = some u := by
  rw [cell_of_row w g j _ _ (0, 0) h.blk]
  simpa using hu
theorem FullAttr.lt {w : World} {g n : Nat} {xs : List Value} (h : FullAttr w g n xs) : g < w.heap.size := (Array.getElem?_eq_some_iff.1 h.blk).1
def InsPostAttr (w : World) (B n : Nat) (ys : List Value) (e : Ending) (w' : World) : Prop :=
  ∃ c, e = .returned (.slice (some ⟨w.heap.size, 0, none⟩) (n + 1) c) ∧ w'.ownsRow B 89 2 (.slice (some ⟨w.heap.size, 0, none⟩) (n + 1) c) (n + 1) ys ∧ Below w.heap.size w w'
set_option maxRecDepth 100000 in
set_option maxHeartbeats 4000000 in
theorem insert_endAttr (B g n vb : Nat) (xs vs : List Value) (w : World) (hs : n ≤ 1048576) (hB : B ≤ w.heap.size) (hx : FullAttr w g n xs) (hv : ∀ j u, vs[j]? = some u → w.cell? ⟨vb, j, none⟩ = some u) (hvl : vs.length = 2) (h1v : ∀ u ∈ vs, u.oneCell' = true) :
    Calls Tryz.prog 259 #[.slice (some ⟨g, 0, none⟩) n n, .int .i64 n, .slice (some ⟨vb, 0, none⟩) 1 1] w fun e w' => InsPostAttr w B n (xs ++ vs) e w' := by
  obtain ⟨ii, hii, zi0, zi1, zi2⟩ := info_parts Tryz.infoAttr
  have hgl := hx.lt
  have hsrc : Go.Src Tryz.prog ii.size 64 (.slice (some ⟨vb, 0, none⟩) 1 1) 1 vs w := Go.Src.ofSlice w Tryz.underlying64 ⟨vb, 0, none⟩ 1 1 vs (by rw [hvl, zi1]) (fun j u hj => by rw [Addr.add_lit, Nat.zero_add]; exact hv j u hj) h1v
  have hrun : ∀ ty, (Builtin.append_ #[64, 64] ty #[.slice (some ⟨g, 0, none⟩) n n, .slice (some ⟨vb, 0, none⟩) 1 1]).run Tryz.prog w = _ := fun ty => run_append_grow_src w 64 64 ty 89 ii _ Tryz.underlying64 hii zi0 (some ⟨g, 0, none⟩) n n xs (run_firstCells_some w.drew ii.size n ⟨g, 0, none⟩ n n xs (by rw [hx.len, zi1]) (fun j u hj => by rw [Addr.add_lit, Nat.zero_add]; exact hx.cell j u hj)) (.slice (some ⟨vb, 0, none⟩) 1 1) 1 vs hsrc (by omega) (by omega) (growslice_fits (by omega) (by rw [zi2]; omega))
  have hG := grownCap_ge w (n + 1) n 89
  have hG2 := grownCap_le_maxLen w (n + 1) n 89 (by unfold maxLen; omega)
  obtain ⟨G, hGG⟩ : ∃ G, grownCap w (n + 1) n 89 = G := ⟨_, rfl⟩
  rw [hGG] at hrun hG hG2
  have hlen : (xs ++ vs).length = (n + 1) * 2 := by rw [List.length_append, hx.len, hvl]; omega
  have hfin : Hid (InsPostAttr w B n (xs ++ vs) (.returned (.slice (some ⟨w.heap.size, 0, none⟩) (n + 1) G)) (w.drew.alloc (.cells ((xs ++ vs).toArray ++ Builtin.zeroCells (Value.agg #[.string ⟨#[]⟩, .string ⟨#[]⟩]).cells (G - (n + 1))) 89))) := by
    refine ⟨G, rfl, ⟨hlen, .inr ⟨w.heap.size, G, _, rfl, hB, heap_alloc_new w.drew _, hG, hG2, ?_, ?_⟩⟩, (Below.refl _ w).drew.alloc (Nat.le_refl _) _⟩
    · rw [Array.size_append, zeroCells_size, List.size_toArray, hlen]
      simp [Value.cells]
      omega
    · rw [← hlen, Array.toList_append, List.take_left' (by simp)]
  clear hG hG2 hlen hsrc hx hv
  have hn0 : (0 : Int) ≤ (n : Int) := by omega
  have hnn : (n : Int) ≤ (n : Int) := Int.le_refl _
  go_enter Tryz.func259, Tryz.ntmps259
  go_wp2_with (at_builtin; refine Lib.wpList_append_run _ rfl _ _ _ _ rfl _ _ rfl rfl _ _ (hrun _) ?_)
  go_ret
  exact hfin.out
set_option maxRecDepth 100000 in
set_option maxHeartbeats 4000000 in
theorem insert_midAttr (B g n vb k : Nat) (xs vs : List Value) (w : World) (hk : k < n) (hs : n ≤ 1048576) (hB : B ≤ w.heap.size) (hx : FullAttr w g n xs) (hv : ∀ j u, vs[j]? = some u → w.cell? ⟨vb, j, none⟩ = some u) (hvl : vs.length = 2) (h1x : ∀ u ∈ xs, u.oneCell' = true) (h1v : ∀ u ∈ vs, u.oneCell' = true) (hvb : vb < w.heap.size) :
    Calls Tryz.prog 259 #[.slice (some ⟨g, 0, none⟩) n n, .int .i64 k, .slice (some ⟨vb, 0, none⟩) 1 1] w fun e w' => InsPostAttr w B n (xs.take (k * 2) ++ vs ++ xs.drop (k * 2)) e w' := by
  obtain ⟨ii, hii, zi0, zi1, zi2⟩ := info_parts Tryz.infoAttr
  have hgl := hx.lt
  have hlx := hx.len
  have hik : k + (n + 1 - k) = n + 1 := by omega
  have hold : (Builtin.firstCells ii.size k (.slice (some ⟨g, 0, none⟩) k n)).run Tryz.prog w.drew = .ok (xs.take (k * 2)).toArray w.drew :=
    run_firstCells_some w.drew ii.size k ⟨g, 0, none⟩ k n (xs.take (k * 2)) (by rw [List.length_take, hlx, zi1]; omega) (fun j u hj => by
      rw [Addr.add_lit, Nat.zero_add]
      rw [List.getElem?_take] at hj
      split at hj
      · exact hx.cell j u hj
      · cases hj)
  have hrz : ∀ ty, (Builtin.append_ #[64, 3] ty #[.slice (some ⟨g, 0, none⟩) k n, .int .i64 ((n : Int) + 1 - (k : Int))]).run Tryz.prog w = .ok (.slice (some ⟨w.heap.size, 0, none⟩) (n + 1) (grownCap w (n + 1) n 89)) (w.drew.alloc (.cells ((xs.take (k * 2)).toArray ++ Builtin.zeroCells (Value.agg #[.string ⟨#[]⟩, .string ⟨#[]⟩]).cells (n + 1 - k) ++ Builtin.zeroCells (Value.agg #[.string ⟨#[]⟩, .string ⟨#[]⟩]).cells (grownCap w (n + 1) n 89 - (n + 1))) 89)) := fun ty => by
    have h := Lib.run_append_grow_zeros w 64 3 ty 89 ii _ .i64 .i64 Tryz.underlying64 Tryz.underlying3 hii zi0 (some ⟨g, 0, none⟩) k n (xs.take (k * 2)) hold (n + 1 - k) (by omega) (by omega) (by omega) (by omega) (by rw [zi2]; omega) (by rw [zi2, hik]; exact growslice_fits (by omega) (by omega))
    rw [hik] at h
    rw [show (n : Int) + 1 - (k : Int) = ((n + 1 - k : Nat) : Int) by omega]
    exact h
  have hG := grownCap_ge w (n + 1) n 89
  have hG2 := grownCap_le_maxLen w (n + 1) n 89 (by unfold maxLen; omega)
  obtain ⟨G, hGG⟩ : ∃ G, grownCap w (n + 1) n 89 = G := ⟨_, rfl⟩
  rw [hGG] at hrz hG hG2
  obtain ⟨R1, hR1⟩ : ∃ R, (xs.take (k * 2)).toArray ++ Builtin.zeroCells (Value.agg #[.string ⟨#[]⟩, .string ⟨#[]⟩]).cells (n + 1 - k) ++ Builtin.zeroCells (Value.agg #[.string ⟨#[]⟩, .string ⟨#[]⟩]).cells (G - (n + 1)) = R := ⟨_, rfl⟩
  rw [hR1] at hrz
  have hs1 : R1.size = G * 2 := by
    rw [← hR1, Array.size_append, Array.size_append, zeroCells_size, zeroCells_size, List.size_toArray, List.length_take, hlx]
    simp [Value.cells]
    omega
  have ht1 : R1.toList.take (k * 2) = xs.take (k * 2) := by
    rw [← hR1]
    simp only [Array.toList_append, List.append_assoc]
    rw [List.take_left' (by simp; omega)]
  obtain ⟨W1, hW1⟩ : ∃ W, w.drew.alloc (.cells R1 89) = W := ⟨_, rfl⟩
  have hb1 : Below w.heap.size w W1 := by rw [← hW1]; exact (Below.refl _ w).drew.alloc (Nat.le_refl _) _
  have g1 : W1.heap[w.heap.size]? = some (.cells R1 89 (0, 0)) := by rw [← hW1]; exact heap_alloc_new w.drew _
  rw [hW1] at hrz
  have c1 : ∀ ty dc, (Builtin.copy_ #[64, 64] ty #[.slice (some ⟨w.heap.size, k * 2, none⟩) (n + 1 - k) dc, .slice (some ⟨vb, 0, none⟩) 1 1]).run Tryz.prog W1 = _ := fun ty dc => run_copy6Attr W1 ty w.heap.size (k * 2) (n + 1 - k) dc ⟨vb, 0, none⟩ 1 1 R1 _ vs 1 g1 (by simp only [Nat.min_def]; split <;> omega) (by omega) (fun j u hj => by rw [Addr.add_lit, Nat.zero_add]; exact (hb1.cell (p := ⟨vb, j, none⟩) hvb).trans (hv j u hj)) (by omega) h1v
  obtain ⟨R2, hR2⟩ : ∃ R, (R1.toList.take (k * 2) ++ vs ++ R1.toList.drop (k * 2 + vs.length)).toArray = R := ⟨_, rfl⟩
  rw [hR2] at c1
  have hs2 : R2.size = G * 2 := by
    rw [← hR2]
    simp
    omega
  have ht2 : R2.toList.take ((k + 1) * 2) = xs.take (k * 2) ++ vs := by
    rw [← hR2, ht1]
    dsimp only
    rw [List.take_left' (by rw [List.length_append, List.length_take, hlx]; omega)]
  have g2 : (W1.setRow w.heap.size R2).heap[w.heap.size]? = some (.cells R2 89 (0, 0)) := setRow_heap W1 w.heap.size R1 R2 _ _ g1
  have hb2 : Below w.heap.size w (W1.setRow w.heap.size R2) := hb1.grown (w' := W1.setRow w.heap.size R2) (gr_row W1 w.heap.size R2) hb1.size (fun m hm => by simp at hm; omega) --⟨rfl, rfl, rfl, by simp, fun k _ hk => setRow_other W1 w.heap.size k _ (fun e => hk (by simp [e]))⟩ hb1.size (fun m hm => by simp at hm; omega)
  obtain ⟨W2, hW2⟩ : ∃ W, W1.setRow w.heap.size R2 = W := ⟨_, rfl⟩
  rw [hW2] at c1 g2 hb2
  have c2 : ∀ ty dc sc, (Builtin.copy_ #[64, 64] ty #[.slice (some ⟨w.heap.size, (k + 1) * 2, none⟩) (n + 1 - (k + 1)) dc, .slice (some ⟨g, k * 2, none⟩) (n - k) sc]).run Tryz.prog W2.drew = _ := fun ty dc sc => run_copy6Attr W2.drew ty w.heap.size ((k + 1) * 2) (n + 1 - (k + 1)) dc ⟨g, k * 2, none⟩ (n - k) sc R2 _ (xs.drop (k * 2)) (n - k) g2 (by simp only [Nat.min_def]; split <;> omega) (by rw [List.length_drop, hlx]; omega) (fun j u hj => by
      rw [Addr.add_lit]
      refine (hb2.cell (p := ⟨g, k * 2 + j, none⟩) hgl).trans (hx.cell _ u ?_)
      rwa [List.getElem?_drop] at hj) (by rw [List.length_drop, hlx]; omega) (fun u hu => h1x u (List.mem_of_mem_drop hu))
  obtain ⟨R3, hR3⟩ : ∃ R, (R2.toList.take ((k + 1) * 2) ++ xs.drop (k * 2) ++ R2.toList.drop ((k + 1) * 2 + (xs.drop (k * 2)).length)).toArray = R := ⟨_, rfl⟩
  rw [hR3] at c2
  have hs3 : R3.size = G * 2 := by
    rw [← hR3]
    simp [hlx]
    omega
  have hlen : (xs.take (k * 2) ++ vs ++ xs.drop (k * 2)).length = (n + 1) * 2 := by
    simp [hlx]
    omega
  have ht3 : R3.toList.take ((n + 1) * 2) = xs.take (k * 2) ++ vs ++ xs.drop (k * 2) := by
    rw [← hR3, ht2]
    dsimp only
    rw [List.take_left' hlen]
  have hfin : Hid (InsPostAttr w B n (xs.take (k * 2) ++ vs ++ xs.drop (k * 2)) (.returned (.slice (some ⟨w.heap.size, 0, none⟩) (n + 1) G)) (W2.drew.setRow w.heap.size R3)) := by
    refine ⟨G, rfl, ⟨hlen, .inr ⟨w.heap.size, G, R3, rfl, hB, setRow_heap W2.drew w.heap.size R2 R3 _ _ g2, hG, hG2, hs3, ht3⟩⟩, ?_⟩
    exact hb2.drew.grown (gr_row W2.drew w.heap.size R3) hb2.size (fun m hm => by simp at hm; omega)
  have hn1 : ¬ (k : Int) = (n : Int) := by omega
  have hn2 : (n : Int) < (n : Int) + 1 := by omega
  have hkn : (k : Int) ≤ (n : Int) := by omega
  have hk0 : (0 : Int) ≤ (k : Int) := by omega
  have hGk : ¬ (G = k) := by omega
  have hGk1 : ¬ (G = k + 1) := by omega
  have hnk : ¬ (n = k) := by omega
  have hnk2 : (k : Int) ≤ (n : Int) + 1 := by omega
  have hw1 : IntKind.i64.wrap ((k : Int) + 1) = (k : Int) + 1 := by rw [IntKind.wrap_i64]; omega
  have hw2 : (0 : Int) ≤ (k : Int) + 1 := by omega
  have hw3 : (k : Int) + 1 ≤ (n : Int) + 1 := by omega
  have hw4 : ((k : Int) + 1).toNat = k + 1 := by omega
  clear hG2 hold hR1 hs1 ht1 hb1 g1 hR2 hs2 ht2 g2 hb2 hR3 hs3 ht3 hlen hx hv hW1 hW2 hGG h1x h1v
  unfold maxLen at *
  go_enter Tryz.func259, Tryz.ntmps259
  go_wp2_with (first
    | (at_builtin; refine Lib.wpList_append_run _ rfl _ _ _ _ rfl _ _ rfl rfl _ _ (hrz _) ?_)
    | (at_builtin; refine wpList_copy_run _ rfl _ _ 64 64 rfl _ _ rfl rfl (c1 _ _) ?_))
  go_region_law (refine step_copy_run rfl _ _ 64 64 rfl (.slice (some ⟨w.heap.size, (k + 1) * 2, none⟩) (n + 1 - (k + 1)) (G - (k + 1))) (.slice (some ⟨g, k * 2, none⟩) (n - k) (n - k)) (by simp [Act.eval, Act.put]) (by simp [Act.eval, Act.put]) (c2 _ (G - (k + 1)) (n - k)) ?_)
  all_goals go_wp2
  all_goals go_ret
  all_goals exact hfin.out
theorem insert_anyAttr (B g n vb k : Nat) (xs vs : List Value) (w : World) (hk : k ≤ n) (hs : n ≤ 1048576) (hB : B ≤ w.heap.size) (hx : w.ownsRow B 89 2 (.slice (some ⟨g, 0, none⟩) n n) n xs) (hv : ∀ j u, vs[j]? = some u → w.cell? ⟨vb, j, none⟩ = some u) (hvl : vs.length = 2) (h1x : ∀ u ∈ xs, u.oneCell' = true) (h1v : ∀ u ∈ vs, u.oneCell' = true) (hvb : vb < w.heap.size) :
    Calls Tryz.prog 259 #[.slice (some ⟨g, 0, none⟩) n n, .int .i64 k, .slice (some ⟨vb, 0, none⟩) 1 1] w fun e w' => InsPostAttr w B n (xs.take (k * 2) ++ vs ++ xs.drop (k * 2)) e w' := by
  rcases Nat.lt_or_eq_of_le hk with h | rfl
  · exact insert_midAttr B g n vb k xs vs w h hs hB (full_ofAttr hx) hv hvl h1x h1v hvb
  · have := insert_endAttr B g k vb xs vs w hs hB (full_ofAttr hx) hv hvl h1v
    have hl := hx.1
    rw [List.take_of_length_le (by omega), List.drop_of_length_le (by omega), List.append_nil]
    exact this
end

section
open Go.RowKit
theorem shape_blk {w : World} {b : Nat} {t : TypeId} {vs : Array Value} (h : w.heap[b]? = some (.cells vs t (0, 0))) : w.shape? b = some (t, vs.size) := by simp [World.shape?, h]
theorem frozen_blk {w : World} {b : Nat} {t : TypeId} {vs : Array Value} (h : w.heap[b]? = some (.cells vs t (0, 0))) (k : Nat) : w.frozen? ⟨b, k, none⟩ = false := Blk.frozen (show Blk w b t vs from h) k
theorem gr_dr (w : World) (r : Option Nat) : w.grownBy w.drew r := ⟨rfl, rfl, rfl, Nat.le_refl _, fun _ _ _ => rfl⟩
set_option maxRecDepth 100000 in
set_option maxHeartbeats 4000000 in
theorem insert_endRAttr (B g n c vb : Nat) (xs vs : List Value) (w : World) (hs : n ≤ 1048576) (hroom : n + 1 ≤ c) (ho : w.ownsRow B 89 2 (.slice (some ⟨g, 0, none⟩) n c) n xs) (hv : w.heap[vb]? = some (.cells vs.toArray 89 (0, 0))) (hvl : vs.length = 2) (h1v : ∀ u ∈ vs, u.oneCell' = true) :
    Calls Tryz.prog 259 #[.slice (some ⟨g, 0, none⟩) n c, .int .i64 n, .slice (some ⟨vb, 0, none⟩) 1 1] w fun e w' => e = .returned (.slice (some ⟨g, 0, none⟩) (n + 1) c) ∧ w'.ownsRow B 89 2 (.slice (some ⟨g, 0, none⟩) (n + 1) c) (n + 1) (xs ++ vs) ∧ w.grownBy w' (some g) := by
  obtain ⟨ii, hii, zi0, zi1, zi2⟩ := info_parts Tryz.infoAttr
  have hxl := ho.1
  rcases ho.2 with ⟨h0, _⟩ | ⟨g', c', cur, h0, hBg, hh, hnc, hcm, hcs, htk⟩
  · cases h0
  cases h0
  have hsrc : Go.Src Tryz.prog ii.size 64 (.slice (some ⟨vb, 0, none⟩) 1 1) 1 vs w := Go.Src.ofSlice w Tryz.underlying64 ⟨vb, 0, none⟩ 1 1 vs (by rw [hvl, zi1]) (fun j u hj => by rw [Addr.add_lit, Nat.zero_add, cell_of_row w vb j _ _ (0, 0) hv]; simpa using hj) h1v
  have hst := run_storeCells_at Tryz.prog g (n * 2) 89 vs 0 cur w hh (by rw [hvl]; omega) h1v
  obtain ⟨R, hR⟩ : ∃ R, (cur.toList.take (n * 2) ++ vs ++ cur.toList.drop (n * 2 + vs.length)).toArray = R := ⟨_, rfl⟩
  have hrun : ∀ ty, (Builtin.append_ #[64, 64] ty #[.slice (some ⟨g, 0, none⟩) n c, .slice (some ⟨vb, 0, none⟩) 1 1]).run Tryz.prog w = .ok (.slice (some ⟨g, 0, none⟩) (n + 1) c) (w.setRow g R) := fun ty => by
    rw [← hR]
    rcases hsrc.kind with ⟨e', hk⟩ | hk <;> simp [Builtin.append_, run_underlying Tryz.underlying64, sizeOf, typeInfo, hii, zi1, hsrc.len, hroom, zi1 ▸ hsrc.cells, Addr.add_lit, hst]
  have hfin : Hid (w.setRow g R |>.ownsRow B 89 2 (.slice (some ⟨g, 0, none⟩) (n + 1) c) (n + 1) (xs ++ vs)) := by
    refine ⟨by rw [List.length_append, hxl, hvl]; omega, .inr ⟨g, c, R, rfl, hBg, setRow_heap w g cur R _ _ hh, hroom, hcm, ?_, ?_⟩⟩
    · rw [← hR]; simp; omega
    · rw [← hR, htk]
      exact List.take_left' (by rw [List.length_append, hxl, hvl]; omega)
  have hgr : Hid (w.grownBy (w.setRow g R) (some g)) := gr_row w g R
  have hn0 : (0 : Int) ≤ (n : Int) := by omega
  have hnn : (n : Int) ≤ (n : Int) := Int.le_refl _
  have hcn : ¬ c = n := by omega
  clear hst hR hsrc htk hcs hh hv hnc hcm ho
  go_enter Tryz.func259, Tryz.ntmps259
  go_wp2_with (at_builtin; refine Lib.wpList_append_run _ rfl _ _ _ _ rfl _ _ rfl rfl _ _ (hrun _) ?_)
  go_ret
  exact ⟨rfl, hfin.out, hgr.out⟩
set_option maxRecDepth 100000 in
set_option maxHeartbeats 4000000 in
theorem insert_midRAttr (B g n c vb k : Nat) (xs vs : List Value) (w : World) (hk : k < n) (hs : n ≤ 1048576) (hroom : n + 1 ≤ c) (ho : w.ownsRow B 89 2 (.slice (some ⟨g, 0, none⟩) n c) n xs) (hv : w.heap[vb]? = some (.cells vs.toArray 89 (0, 0))) (hne : vb ≠ g) (hvl : vs.length = 2) (h1x : ∀ u ∈ xs, u.oneCell' = true) (h1v : ∀ u ∈ vs, u.oneCell' = true) :
    Calls Tryz.prog 259 #[.slice (some ⟨g, 0, none⟩) n c, .int .i64 k, .slice (some ⟨vb, 0, none⟩) 1 1] w fun e w' => e = .returned (.slice (some ⟨g, 0, none⟩) (n + 1) c) ∧ w'.ownsRow B 89 2 (.slice (some ⟨g, 0, none⟩) (n + 1) c) (n + 1) (xs.take (k * 2) ++ vs ++ xs.drop (k * 2)) ∧ w.grownBy w' (some g) := by
  obtain ⟨ii, hii, zi0, zi1, zi2⟩ := info_parts Tryz.infoAttr
  have hxl := ho.1
  rcases ho.2 with ⟨h0, _⟩ | ⟨g', c', cur, h0, hBg, hh, hnc, hcm, hcs, htk⟩
  · cases h0
  cases h0
  have hdl : (xs.drop (k * 2)).length = (n - k) * 2 := by rw [List.length_drop, hxl]; omega
  have hov : ∀ lb cb, (callFunc 275 #[.slice (some ⟨vb, 0, none⟩) 1 1, .slice (some ⟨g, (k + 1) * 2, none⟩) lb cb]).run Tryz.prog w = .ok (.value (.bool false)) w := fun lb cb => by
    rw [run_callFunc_extern Tryz.func275 (by kernel_rfl) (by kernel_rfl) (by kernel_rfl) (e := Extern.SlicesOverlaps.overlaps #[64, 64] #[4]) (by kernel_rfl),
      Lib.run_overlaps_apart w 64 4 89 Tryz.underlying64 2 (fun w => by simp [sizeOf, typeInfo, hii, zi1]) ⟨vb, 0, none⟩ ⟨g, (k + 1) * 2, none⟩ 1 1 lb cb hne 89 89 vs.toArray.size cur.size (shape_blk hv) (shape_blk hh) (by omega) (frozen_blk hv _) (frozen_blk hv _)]
    rfl
  have cx : ∀ j u, xs[j]? = some u → w.cell? ⟨g, j, none⟩ = some u := fun j u hj => by
    rw [cell_of_row w g j _ _ (0, 0) hh]
    rw [← htk, List.getElem?_take] at hj
    split at hj
    · simpa using hj
    · cases hj
  have c1 : ∀ ty dc sc, (Builtin.copy_ #[64, 64] ty #[.slice (some ⟨g, (k + 1) * 2, none⟩) (n + 1 - (k + 1)) dc, .slice (some ⟨g, k * 2, none⟩) (n + 1 - k) sc]).run Tryz.prog w.drew = _ := fun ty dc sc => run_copy6Attr w.drew ty g ((k + 1) * 2) (n + 1 - (k + 1)) dc ⟨g, k * 2, none⟩ (n + 1 - k) sc cur _ (xs.drop (k * 2)) (n - k) hh (by simp only [Nat.min_def]; split <;> omega) hdl (fun j u hj => by
      rw [Addr.add_lit]
      exact cx _ u (by rwa [List.getElem?_drop] at hj)) (by rw [hdl]; omega) (fun u hu => h1x u (List.mem_of_mem_drop hu))
  obtain ⟨R1, hR1⟩ : ∃ R, (cur.toList.take ((k + 1) * 2) ++ xs.drop (k * 2) ++ cur.toList.drop ((k + 1) * 2 + (xs.drop (k * 2)).length)).toArray = R := ⟨_, rfl⟩
  rw [hR1] at c1
  have g1 : (w.drew.setRow g R1).heap[g]? = some (.cells R1 89 (0, 0)) := setRow_heap w.drew g cur R1 _ _ hh
  have hs1 : R1.size = c * 2 := by rw [← hR1]; simp [hxl]; omega
  have v1 : ∀ j u, vs[j]? = some u → (w.drew.setRow g R1).cell? ⟨vb, j, none⟩ = some u := fun j u hj => by
    rw [cell_of_row (w.drew.setRow g R1) vb j vs.toArray 89 (0, 0) ((setRow_other w.drew g vb R1 hne).trans hv)]
    simpa using hj
  obtain ⟨W1, hW1⟩ : ∃ W, w.drew.setRow g R1 = W := ⟨_, rfl⟩
  have gr1 : w.grownBy W1 (some g) := by rw [← hW1]; exact (gr_dr w (some g)).trans (gr_row w.drew g R1)
  rw [hW1] at c1 g1 v1
  have c2 : ∀ ty dc, (Builtin.copy_ #[64, 64] ty #[.slice (some ⟨g, k * 2, none⟩) (n + 1 - k) dc, .slice (some ⟨vb, 0, none⟩) 1 1]).run Tryz.prog W1 = _ := fun ty dc => run_copy6Attr W1 ty g (k * 2) (n + 1 - k) dc ⟨vb, 0, none⟩ 1 1 R1 _ vs 1 g1 (by simp only [Nat.min_def]; split <;> omega) (by omega) (fun j u hj => by rw [Addr.add_lit, Nat.zero_add]; exact v1 j u hj) (by omega) h1v
  obtain ⟨R2, hR2⟩ : ∃ R, (R1.toList.take (k * 2) ++ vs ++ R1.toList.drop (k * 2 + vs.length)).toArray = R := ⟨_, rfl⟩
  rw [hR2] at c2
  have hfin : Hid ((W1.setRow g R2).ownsRow B 89 2 (.slice (some ⟨g, 0, none⟩) (n + 1) c) (n + 1) (xs.take (k * 2) ++ vs ++ xs.drop (k * 2))) := by
    refine ⟨by simp [hxl, hvl]; omega, .inr ⟨g, c, R2, rfl, hBg, setRow_heap W1 g R1 R2 _ _ g1, hroom, hcm, ?_, ?_⟩⟩
    · rw [← hR2]; simp; omega
    · have e1 : R1.toList.take (k * 2) = xs.take (k * 2) := by
        rw [← hR1, ← htk]
        dsimp only
        rw [List.append_assoc, List.take_append_of_le_length (by simp; omega), List.take_take, List.take_take]
        congr 1
        omega
      have e2 : R1.toList.drop (k * 2 + vs.length) = xs.drop (k * 2) ++ cur.toList.drop ((k + 1) * 2 + (xs.drop (k * 2)).length) := by
        rw [← hR1, hvl]
        dsimp only
        rw [List.append_assoc, List.drop_left' (by simp; omega)]
      rw [← hR2, e1, e2]
      dsimp only
      rw [← List.append_assoc, List.take_left' (by simp [hxl, hvl]; omega)]
  have hgr : Hid (w.grownBy (W1.setRow g R2) (some g)) := gr1.trans (gr_row W1 g R2)
  have hn1 : ¬ (k : Int) = (n : Int) := by omega
  have hn2 : ¬ (c : Int) < (n : Int) + 1 := by omega
  have hkn : (k : Int) ≤ (n : Int) := by omega
  have hk0 : (0 : Int) ≤ (k : Int) := by omega
  have hck : ¬ (c = k) := by omega
  have hck1 : ¬ (c = k + 1) := by omega
  have hnk2 : (k : Int) ≤ (n : Int) + 1 := by omega
  have hnc1 : (n : Int) + 1 ≤ (c : Int) := by omega
  have hn01 : (0 : Int) ≤ (n : Int) + 1 := by omega
  have hwn : IntKind.i64.wrap ((n : Int) + 1) = (n : Int) + 1 := by rw [IntKind.wrap_i64]; omega
  have hw1 : IntKind.i64.wrap ((k : Int) + 1) = (k : Int) + 1 := by rw [IntKind.wrap_i64]; omega
  have hw2 : (0 : Int) ≤ (k : Int) + 1 := by omega
  have hw3 : (k : Int) + 1 ≤ (n : Int) + 1 := by omega
  have hw4 : ((k : Int) + 1).toNat = k + 1 := by omega
  have hw5 : ((n : Int) + 1).toNat = n + 1 := by omega
  clear hR1 hs1 g1 v1 hR2 gr1 hW1 cx htk hcs hh hv hnc ho hdl h1x h1v
  unfold maxLen at *
  go_enter Tryz.func259, Tryz.ntmps259
  go_wp2_with (simp only [hov])
  go_region_law (refine step_copy_run rfl _ _ 64 64 rfl (.slice (some ⟨g, (k + 1) * 2, none⟩) (n + 1 - (k + 1)) (c - (k + 1))) (.slice (some ⟨g, k * 2, none⟩) (n + 1 - k) (c - k)) (by simp [Act.eval, Act.put]) (by simp [Act.eval, Act.put]) (c1 _ (c - (k + 1)) (c - k)) ?_)
  all_goals go_wp2_with (at_builtin; refine wpList_copy_run _ rfl _ _ 64 64 rfl _ _ rfl rfl (c2 _ _) ?_)
  all_goals go_ret
  all_goals exact ⟨rfl, hfin.out, hgr.out⟩
end

section
open Go.RowKit
/-- What is left without those of this name. -/
def dropAttr (es : List (ByteArray × ByteArray)) (s : ByteArray) : List (ByteArray × ByteArray) := es.filter fun e => !(e.1.toList == s.toList)
theorem aP_append (l m : List (ByteArray × ByteArray)) : aP (l ++ m) = aP l ++ aP m := by unfold aP; rw [List.map_append]
theorem aP_take (l : List (ByteArray × ByteArray)) (k : Nat) : (aP l).take k = aP (l.take k) := by unfold aP; rw [List.map_take]
theorem aP_drop (l : List (ByteArray × ByteArray)) (k : Nat) : (aP l).drop k = aP (l.drop k) := by unfold aP; rw [List.map_drop]
/-- In the midst of it: the first i are what is left of the first j; from j on all is as it was. -/
structure DFAttr (es : List (ByteArray × ByteArray)) (s : ByteArray) (ps : List VP) (i j : Nat) : Prop where
  lt : i < j
  le : j ≤ es.length
  len : ps.length = es.length
  left : ps.take i = aP (dropAttr (es.take j) s)
  rest : ps.drop j = aP (es.drop j)
theorem DFAttr.start {es : List (ByteArray × ByteArray)} {s : ByteArray} {k : Nat} (hk : k < es.length) (h : (es[k].1.toList == s.toList) = true) (ha : ∀ (j : Nat) (hj : j < es.length), j < k → (es[j].1.toList == s.toList) = false) : DFAttr es s (aP es) k (k + 1) := by
  refine ⟨by omega, hk, aP_length es, ?_, aP_drop _ _⟩
  rw [aP_take]
  congr 1
  unfold dropAttr
  rw [List.take_add_one, List.getElem?_eq_getElem hk, Option.toList_some, List.filter_append, List.filter_cons_of_neg (by rw [h]; decide), List.filter_nil, List.append_nil]
  refine (List.filter_eq_self.2 fun e he => ?_).symm
  obtain ⟨j, hj, rfl⟩ := List.getElem_of_mem he
  rw [List.length_take] at hj
  rw [List.getElem_take, ha j (by omega) (by omega)]
  rfl
theorem DFAttr.get {es : List (ByteArray × ByteArray)} {s : ByteArray} {ps : List VP} {i j : Nat} (h : DFAttr es s ps i j) (hj : j < es.length) : ps.getD j (undef, undef) = (.string es[j].1, .string es[j].2) := by
  have h1 : (ps.drop j)[0]? = (aP (es.drop j))[0]? := by rw [h.rest]
  rw [List.getElem?_drop, Nat.add_zero] at h1
  rw [List.getD_eq_getElem?_getD, h1, ← aP_drop, List.getElem?_drop, Nat.add_zero, ← List.getD_eq_getElem?_getD]
  exact aP_at es j hj
theorem DFAttr.skip {es : List (ByteArray × ByteArray)} {s : ByteArray} {ps : List VP} {i j : Nat} (h : DFAttr es s ps i j) (hj : j < es.length) (he : (es[j].1.toList == s.toList) = true) : DFAttr es s ps i (j + 1) := by
  refine ⟨by have := h.lt; omega, hj, h.len, ?_, ?_⟩
  · rw [h.left]
    congr 1
    unfold dropAttr
    rw [List.take_add_one, List.getElem?_eq_getElem hj, Option.toList_some, List.filter_append, List.filter_cons_of_neg (by rw [he]; decide), List.filter_nil, List.append_nil]
  · have := congrArg (List.drop 1) h.rest
    rw [List.drop_drop, aP_drop, List.drop_drop] at this
    exact this
theorem DFAttr.move {es : List (ByteArray × ByteArray)} {s : ByteArray} {ps : List VP} {i j : Nat} (h : DFAttr es s ps i j) (hj : j < es.length) (he : (es[j].1.toList == s.toList) = false) : DFAttr es s (ps.set i (.string es[j].1, .string es[j].2)) (i + 1) (j + 1) := by
  have hlt := h.lt
  have hl := h.len
  refine ⟨by omega, hj, by rw [List.length_set]; exact hl, ?_, ?_⟩
  · rw [List.take_add_one, List.take_set_of_le (by omega), h.left, List.getElem?_set_self (by omega), Option.toList_some]
    unfold dropAttr
    rw [List.take_add_one, List.getElem?_eq_getElem hj, Option.toList_some, List.filter_append, List.filter_cons_of_pos (by rw [he]; rfl), List.filter_nil, aP_append]
    rfl
  · rw [List.drop_set_of_lt (by omega)]
    have := congrArg (List.drop 1) h.rest
    rw [List.drop_drop, aP_drop, List.drop_drop] at this
    exact this
theorem DFAttr.fin {es : List (ByteArray × ByteArray)} {s : ByteArray} {ps : List VP} {i j : Nat} (h : DFAttr es s ps i j) (hj : es.length ≤ j) : ps.take i = aP (dropAttr es s) ∧ (dropAttr es s).length = i := by
  have h1 := h.left
  rw [List.take_of_length_le hj] at h1
  refine ⟨h1, ?_⟩
  have h2 := congrArg List.length h1
  rw [aP_length, List.length_take] at h2
  have := h.lt
  have := h.le
  have := h.len
  omega
theorem zeroAttr (w : World) : (zeroValue 89).run Tryz.prog w = .ok (.agg #[.string ⟨#[]⟩, .string ⟨#[]⟩]) w := by kernel_rfl
/-- clear of the last ones. -/
theorem clearAttr (w : World) (g i n c cap : Nat) (ps : List VP) (ty : TypeId) (ho : OwnP 89 w g n cap ps) (hi : i < n) :
    ∃ w', (Builtin.clear_ #[64] ty #[.slice (some ⟨g, i * 2, none⟩) (n - i) c]).run Tryz.prog w = .ok (.tuple #[]) w' ∧ OwnP 89 w' g i cap (ps.take i) ∧ w.grownBy w' (some g) := by
  obtain ⟨zs, hzs⟩ : ∃ zs, (Builtin.zeroCells (Value.agg #[.string ⟨#[]⟩, .string ⟨#[]⟩]).cells (n - i)).toList = zs := ⟨_, rfl⟩
  have hzl : zs.length = (n - i) * 2 := by rw [← hzs, Array.length_toList, size_zeroCells]; rfl
  have hz1 : ∀ v ∈ zs, v.oneCell' = true := by
    intro v hv
    rw [← hzs] at hv
    exact zc_one rfl rfl v hv
  have hst := run_storeCells_cells (P := Tryz.prog) g (i * 2) zs 0 w (fun j hj => by
      have h1 := ho.len
      rw [hzl] at hj
      have hp : (pv ps)[i * 2 + j]? ≠ none := by
        rw [ne_eq, List.getElem?_eq_none_iff, pv_length]
        omega
      have := World.ownsRow.cellAt ho (i * 2 + j) (by omega)
      rw [Nat.add_zero, this]
      exact Option.isSome_iff_ne_none.2 hp) (fun j _ => by rw [Nat.add_zero]; exact ho.frozen _) hz1
  rw [Nat.add_zero] at hst
  refine ⟨w.setCells g (i * 2) zs, ?_, ?_, gr_setCells _ _ _ _⟩
  · obtain ⟨m, hm⟩ : ∃ m, n - i = m + 1 := ⟨n - i - 1, by omega⟩
    rw [hm] at hzs ⊢
    simp [Builtin.clear_, run_underlying Tryz.underlying64, hzs, hst]
  · exact ownP_setCells _ _ _ (own_takeP ho (by omega)) (Nat.le_refl _)
set_option maxRecDepth 100000 in
set_option maxHeartbeats 4000000 in
theorem deleteAttr (v : Value) (n : Nat) (es : List (ByteArray × ByteArray)) (s : ByteArray) (FB SB : Nat) (w : World) (hs : n ≤ 1000000) (ho : OwnQ 89 w v n (aP es)) (hv : CVAttr w FB SB s) :
    Calls Tryz.prog 254 #[v, .func (.func 255) #[] #[.pointer (some ⟨FB, 0, none⟩), .pointer (some ⟨SB, 0, none⟩)]] w fun e w' => ∃ v', e = .returned v' ∧ OwnQ 89 w' v' (dropAttr es s).length (aP (dropAttr es s)) ∧ w.grownBy w' v.ownBlock ∧ v'.ownBlock = v.ownBlock := by
  have hn : es.length = n := by
    have := ho.1
    rw [pv_length, aP_length] at this
    omega
  obtain ⟨a, cap, rfl⟩ := ownQ_shape ho
  have hrd : RdP w a (aP es) := by
    rcases ho.cases with ⟨h1, rfl, h2⟩ | ⟨g, c, h1, h2⟩
    · exact .inl h2
    · cases h1
      exact h2.rd
  have hcI := indexAttr a n cap es s FB SB w hn (by omega) hrd hv
  rcases Classical.em (∃ (k : Nat) (hk : k < es.length), (es[k].1.toList == s.toList) = true ∧ ∀ (j : Nat) (hj : j < es.length), j < k → (es[j].1.toList == s.toList) = false) with ⟨k, hk, hke, hka⟩ | hno
  · rw [firstAttr_at hk hke hka] at hcI
    have hdf := DFAttr.start hk hke hka
    rcases ho.cases with ⟨h1, rfl, h2⟩ | ⟨g, c, h1, ho'⟩
    · rw [hn] at hk
      omega
    cases h1
    have hkn : k < n := by omega
    have hkm : ((k : Int) == -1) = false := beq_false_of_ne (by omega)
    have HV : Hid _ := hv
    have HN : Hid _ := hn
    obtain ⟨L, hL⟩ : ∃ L, dropAttr es s = L := ⟨_, rfl⟩
    rw [hL]
    have HL : Hid _ := hL
    have HO : Hid _ := ho'
    have HDF : Hid _ := hdf
    have hnc : n ≤ cap := by
      rcases ho'.2 with ⟨h0, _⟩ | ⟨g', c', cur, h0, _, _, h3, _⟩
      · cases h0
      · cases h0
        exact h3
    clear hrd ho hv hn hL hke hka hk ho' hdf
    go_enter Tryz.func254, Tryz.ntmps254
    go_wp2_with fail
    (with_reducible refine hcI.mono ?_)
    rintro e w1 ⟨rfl, b1⟩
    have ho1 : Hid _ := OwnP.keep HO.out b1
    have hv1 : Hid _ := CVAttr.keep HV.out b1
    have hg1 : Hid (w.grownBy w1 (some g)) := Below.gr b1 _
    clear hcI HO HV
    go_wp2_with fail
    go_loopw [5, 6] (fun i j wr => ∃ (i' j' : Nat) (ps : List VP), i = .int .i64 i' ∧ j = .int .i64 j' ∧ i' < j' ∧ j' ≤ n ∧ Hid (DFAttr es s ps i' j') ∧ Hid (OwnP 89 wr g n cap ps) ∧ Hid (CVAttr wr FB SB s) ∧ Hid (w.grownBy wr (some g))) (fun _ j _ => n - (intOf j).toNat)
    case atStart => exact ⟨k, k + 1, aP es, rfl, by go_num, by omega, by omega, HDF, ho1, hv1, hg1⟩
    case round =>
      obtain ⟨i, j, ps, rfl, rfl, hij, hjn, hD, hO, hV, hG⟩ := hrel
      clear ho1 hv1 hg1 HDF b1
      by_cases hj : j < n
      · have hji : (j : Int) < (n : Int) := by omega
        have hj0 : (0 : Int) ≤ (j : Int) := by omega
        have hi0 : (0 : Int) ≤ (i : Int) := by omega
        have hin : (i : Int) < (n : Int) := by omega
        have hjl : j < es.length := by rw [HN.out]; exact hj
        obtain ⟨x1, x2⟩ := OwnP.cells hO.out j hj
        rw [hD.out.get hjl] at x1 x2
        have hsk : Hid ((es[j].1.toList == s.toList) = true → DFAttr es s ps i (j + 1)) := hD.out.skip hjl
        have hmv : Hid ((es[j].1.toList == s.toList) = false → DFAttr es s (ps.set i (.string es[j].1, .string es[j].2)) (i + 1) (j + 1)) := hD.out.move hjl
        obtain ⟨z, u, hzu⟩ : ∃ z u, es[j] = (z, u) := ⟨_, _, rfl⟩
        rw [hzu] at x1 x2 hsk hmv
        dsimp only at x1 x2 hsk hmv
        have bA : Below wr.heap.size wr (wr.alloc (.cells #[.string z, .string u] 89)) := (Below.refl _ wr).alloc (Nat.le_refl _) _
        have zA := Blk.new wr 89 #[.string z, .string u]
        have hcc := sameAttr z u s FB SB _ (CVAttr.keep hV.out bA)
        have hOA : Hid _ := OwnP.keep hO.out bA
        have hVA : Hid _ := CVAttr.keep hV.out bA
        have hGA : Hid _ := gr_tr hG.out (Below.gr bA (some g))
        have hgA : g ≠ wr.heap.size := by have := OwnP.lt hO.out; omega
        have HZA : Hid _ := zA
        obtain ⟨bb, hbb⟩ : ∃ b, (z.toList == s.toList) = b := ⟨_, rfl⟩
        rw [hbb] at hcc hsk hmv
        clear hzu hbb bA zA hD hO hV hG
        go_wp2_with fail
        obtain ⟨W2, hW2⟩ : ∃ W, wr.alloc (.cells #[.string z, .string u] 89) = W := ⟨_, rfl⟩
        obtain ⟨E, hE⟩ : ∃ E, wr.heap.size = E := ⟨_, rfl⟩
        rw [hW2] at hcc hOA hVA hGA HZA ⊢
        rw [hE] at hgA HZA ⊢
        clear hW2 hE
        (with_reducible refine hcc.mono ?_)
        rintro e w3 ⟨rfl, b3⟩
        have zE := Blk.keep HZA.out b3
        have y0 := zE.cell 0
        have y1 := zE.cell 1
        simp at y0 y1
        have hO3 := OwnP.keep hOA.out b3
        have hV3 : Hid _ := CVAttr.keep hVA.out b3
        have hG3 : Hid _ := gr_tr hGA.out (Below.gr b3 (some g))
        cases bb with
        | true =>
          have hnx : Hid _ := hsk.out rfl
          have HO3 : Hid _ := hO3
          clear hsk hmv hcc hOA hVA hGA HZA b3 zE hO3 y0 y1
          go_wp2
          go_roundw
          case rel => exact ⟨i, j + 1, ps, rfl, by go_num, by omega, by omega, hnx, HO3, hV3, hG3⟩
          case measure => simp [intOf]; omega
        | false =>
          have hnx : Hid _ := hmv.out rfl
          obtain ⟨q0, q1⟩ := OwnP.cells hO3 i (by omega)
          have fr0 := OwnP.frozen hO3 (i * 2)
          have fr1 := OwnP.frozen hO3 (i * 2 + 1)
          have HO4 : Hid _ := ownP_stored hO3 i (by omega) (.string z, .string u)
          have HG4 : Hid _ := gr_tr hG3.out (gr_tr (gr_setC w3 g (i * 2) (.string z)) (gr_setC (w3.setCell ⟨g, i * 2, none⟩ (.string z)) g (i * 2 + 1) (.string u)))
          have HV4 : Hid _ := CVAttr.row hV3.out hO3 (gr_tr (gr_setC w3 g (i * 2) (.string z)) (gr_setC (w3.setCell ⟨g, i * 2, none⟩ (.string z)) g (i * 2 + 1) (.string u)))
          obtain ⟨o0, ho0⟩ : ∃ v, (ps.getD i (undef, undef)).1 = v := ⟨_, rfl⟩
          obtain ⟨o1, ho1⟩ : ∃ v, (ps.getD i (undef, undef)).2 = v := ⟨_, rfl⟩
          rw [ho0] at q0
          rw [ho1] at q1
          clear hsk hmv hcc hOA hVA hGA HZA b3 zE hO3 hV3 hG3 ho0 ho1
          go_wp2
          go_roundw
          case rel => exact ⟨i + 1, j + 1, _, by go_num, by go_num, by omega, by omega, hnx, HO4, HV4, HG4⟩
          case measure => simp [intOf]; omega
      · have hji : ¬ (j : Int) < (n : Int) := by omega
        obtain ⟨hfl, hfn⟩ := hD.out.fin (by rw [HN.out]; omega)
        rw [HL.out] at hfl hfn
        have hiN : i < n := by omega
        have hi0 : (0 : Int) ≤ (i : Int) := by omega
        have hin : (i : Int) ≤ (n : Int) := by omega
        have hic : (i : Int) ≤ (cap : Int) := by omega
        obtain ⟨w', hcl⟩ : ∃ w', (∀ ty, (Builtin.clear_ #[64] ty #[.slice (some ⟨g, i * 2, none⟩) (n - i) (cap - i)]).run Tryz.prog wr = .ok (.tuple #[]) w') ∧ OwnP 89 w' g i cap (ps.take i) ∧ wr.grownBy w' (some g) := by
          obtain ⟨w', h1, h2⟩ := clearAttr wr g i n (cap - i) cap ps 0 hO.out hiN
          exact ⟨w', fun _ => h1, h2⟩
        have hend : Hid (OwnQ 89 w' (.slice (some ⟨g, 0, none⟩) i cap) L.length (aP L) ∧ w.grownBy w' (some g)) := by
          refine ⟨?_, gr_tr hG.out hcl.2.2⟩
          have h1 := hcl.2.1
          rw [hfl] at h1
          rw [hfn]
          exact h1
        have hrun := hcl.1
        clear hcl hfl hfn hD hO hV hG
        go_wp2_with (first
          | (at_builtin; refine wpList_clear wr rfl (.tmp 38) 64 rfl (.slice (some ⟨g, i * 2, none⟩) (n - i) (cap - i)) w' (by first | rfl | simp) hrun ?_)
          | go_in)
        go_ret
        exact ⟨_, rfl, hend.out.1, hend.out.2, rfl⟩
  · have hall : ∀ (j : Nat) (hj : j < es.length), (es[j].1.toList == s.toList) = false := by
      intro j
      induction j using Nat.strongRecOn with
      | ind j ih =>
        intro hj
        cases hc : (es[j].1.toList == s.toList) with
        | false => rfl
        | true => exact absurd ⟨j, hj, hc, fun i hi hij => ih i hij hi⟩ hno
    rw [firstAttr_none hall] at hcI
    have hL : dropAttr es s = es := List.filter_eq_self.2 fun e he => by
      obtain ⟨j, hj, rfl⟩ := List.getElem_of_mem he
      rw [hall j hj]
      rfl
    rw [hL, hn]
    have HO : Hid _ := ho
    clear hrd ho hv hn hL hall hno
    go_enter Tryz.func254, Tryz.ntmps254
    go_wp2_with fail
    (with_reducible refine hcI.mono ?_)
    rintro e w1 ⟨rfl, b1⟩
    have hend : Hid (OwnQ 89 w1 (.slice a n cap) n (aP es) ∧ w.grownBy w1 (Value.slice a n cap).ownBlock) := ⟨row_kp HO.out (KpT.below b1 [89]) (by simp), Below.gr b1 _⟩
    clear hcI HO b1
    go_wp2
    go_ret
    exact ⟨_, rfl, hend.out.1, hend.out.2, rfl⟩
theorem dropAttr_cut (es : List (ByteArray × ByteArray)) (s : ByteArray) : dropAttr es s = cutA es s := by
  unfold dropAttr cutA
  refine List.filter_congr fun e _ => ?_
  by_cases h : e.1 = s
  · rw [h]
    simp
  · rw [str_ne h]
    simp [h]
set_option maxRecDepth 100000 in
set_option maxHeartbeats 2000000 in
theorem dropNAttr (v : Value) (n : Nat) (es : List (ByteArray × ByteArray)) (s : ByteArray) (w : World) (hs : n ≤ 1000000) (ho : OwnQ 89 w v n (aP es)) :
    Calls Tryz.prog 225 #[v, .string s, .func (.func 165) #[] #[]] w fun e w' => ∃ v', e = .returned v' ∧ OwnQ 89 w' v' (dropAttr es s).length (aP (dropAttr es s)) ∧ w.grownBy w' v.ownBlock ∧ v'.ownBlock = v.ownBlock := by
  have hmf : ∀ (fn : Fn) (first cap : Array Value) (w : World), (Instr.makeFunc fn first cap).run Tryz.prog w = .ok (.func fn first cap) w := fun _ _ _ _ => rfl
  have b0 : Below w.heap.size w ((w.alloc (.cells #[.string s] 9)).alloc (.cells #[.func (.func 165) #[] #[]] 187)) := ((Below.refl _ w).alloc (Nat.le_refl _) _).alloc (by simp) _
  have zS := (Blk.new w 9 #[.string s]).alloc (.cells #[.func (.func 165) #[] #[]] 187)
  have zF := Blk.new (w.alloc (.cells #[.string s] 9)) 187 #[.func (.func 165) #[] #[]]
  simp only [World.size_alloc] at zF
  have hcd := deleteAttr v n es s (w.heap.size + 1) w.heap.size _ hs (row_kp ho (KpT.below b0 [89]) (by simp)) ⟨zF, zS⟩
  have hg0 : Hid (w.grownBy ((w.alloc (.cells #[.string s] 9)).alloc (.cells #[.func (.func 165) #[] #[]] 187)) v.ownBlock) := Below.gr b0 _
  clear zS zF b0 ho
  go_enter Tryz.func225, Tryz.ntmps225
  go_wp2_with fail
  (with_reducible refine hcd.mono ?_)
  rintro e w1 ⟨v', rfl, o1, g1, k1⟩
  have hend : Hid (OwnQ 89 w1 v' (dropAttr es s).length (aP (dropAttr es s)) ∧ w.grownBy w1 v.ownBlock) := ⟨o1, gr_tr hg0.out g1⟩
  clear hcd o1 g1 hg0
  go_wp2
  go_ret
  exact ⟨_, rfl, hend.out.1, hend.out.2, k1⟩
end

section
open Go.RowKit
theorem own_rdQ {e : TypeId} {w : World} {a : Option Addr} {c n : Nat} {ps : List VP} (h : OwnQ e w (.slice a n c) n ps) : RdP w a ps := by
  rcases h.cases with ⟨h1, rfl, rfl⟩ | ⟨g, c', h1, ho⟩
  · exact .inl rfl
  · cases h1
    exact ho.rd
theorem pv_dropk (ps : List VP) (k : Nat) (hk : k ≤ ps.length) : (pv ps).drop (k * 2) = pv (ps.drop k) := by
  conv => lhs; rw [← List.take_append_drop k ps, pv_append]
  rw [List.drop_left' (by rw [pv_length, List.length_take]; omega)]
theorem pv_ins (ps : List VP) (p : VP) (k : Nat) (hk : k ≤ ps.length) : (pv ps).take (k * 2) ++ [p.1, p.2] ++ (pv ps).drop (k * 2) = pv (ps.take k ++ p :: ps.drop k) := by
  rw [pv_take, pv_dropk ps k hk, pv_append, List.append_assoc]
  rfl
theorem pv_one {ps : List VP} (h : ∀ p ∈ ps, p.1.oneCell' = true ∧ p.2.oneCell' = true) : ∀ u ∈ pv ps, u.oneCell' = true := fun u hu => by
  unfold pv at hu
  obtain ⟨p, hp, hup⟩ := List.mem_flatMap.1 hu
  simp at hup
  rcases hup with rfl | rfl
  · exact (h p hp).1
  · exact (h p hp).2
set_option maxRecDepth 100000 in
set_option maxHeartbeats 4000000 in
theorem insert_nilAttr (vb : Nat) (vs : List Value) (w : World) (hv : w.heap[vb]? = some (.cells vs.toArray 89 (0, 0))) (hvl : vs.length = 2) (h1v : ∀ u ∈ vs, u.oneCell' = true) :
    Calls Tryz.prog 259 #[.slice none 0 0, .int .i64 0, .slice (some ⟨vb, 0, none⟩) 1 1] w fun e w' => ∃ c, e = .returned (.slice (some ⟨w.heap.size, 0, none⟩) 1 c) ∧ w'.ownsRow 0 89 2 (.slice (some ⟨w.heap.size, 0, none⟩) 1 c) 1 vs ∧ Below w.heap.size w w' := by
  obtain ⟨ii, hii, zi0, zi1, zi2⟩ := info_parts Tryz.infoAttr
  have hsrc : Go.Src Tryz.prog ii.size 64 (.slice (some ⟨vb, 0, none⟩) 1 1) 1 vs w := Go.Src.ofSlice w Tryz.underlying64 ⟨vb, 0, none⟩ 1 1 vs (by rw [hvl, zi1]) (fun j u hj => by rw [Addr.add_lit, Nat.zero_add, cell_of_row w vb j _ _ (0, 0) hv]; simpa using hj) h1v
  have hrun : ∀ ty, (Builtin.append_ #[64, 64] ty #[.slice none 0 0, .slice (some ⟨vb, 0, none⟩) 1 1]).run Tryz.prog w = _ := fun ty => run_append_grow_src w 64 64 ty 89 ii _ Tryz.underlying64 hii zi0 none 0 0 [] (run_firstCells_none w.drew ii.size 0 0 0) (.slice (some ⟨vb, 0, none⟩) 1 1) 1 vs hsrc (by omega) (by omega) (growslice_fits (by omega) (by rw [zi2]; omega))
  have hG := grownCap_ge w (0 + 1) 0 89
  have hG2 := grownCap_le_maxLen w (0 + 1) 0 89 (by unfold maxLen; omega)
  obtain ⟨G, hGG⟩ : ∃ G, grownCap w (0 + 1) 0 89 = G := ⟨_, rfl⟩
  rw [hGG] at hrun hG hG2
  have hfin : Hid (∃ c, Ending.returned (.slice (some ⟨w.heap.size, 0, none⟩) (0 + 1) G) = .returned (.slice (some ⟨w.heap.size, 0, none⟩) 1 c) ∧ (w.drew.alloc (.cells (([] ++ vs).toArray ++ Builtin.zeroCells (Value.agg #[.string ⟨#[]⟩, .string ⟨#[]⟩]).cells (G - (0 + 1))) 89)).ownsRow 0 89 2 (.slice (some ⟨w.heap.size, 0, none⟩) 1 c) 1 vs ∧ Below w.heap.size w (w.drew.alloc (.cells (([] ++ vs).toArray ++ Builtin.zeroCells (Value.agg #[.string ⟨#[]⟩, .string ⟨#[]⟩]).cells (G - (0 + 1))) 89))) := by
    refine ⟨G, rfl, ⟨by rw [hvl], .inr ⟨w.heap.size, G, _, rfl, Nat.zero_le _, heap_alloc_new w.drew _, hG, hG2, ?_, ?_⟩⟩, (Below.refl _ w).drew.alloc (Nat.le_refl _) _⟩
    · rw [Array.size_append, zeroCells_size]
      simp [Value.cells, hvl]
      omega
    · rw [Array.toList_append, List.take_left' (by simp [hvl])]
      simp
  clear hG hG2 hsrc hv
  go_enter Tryz.func259, Tryz.ntmps259
  go_wp2_with (at_builtin; refine Lib.wpList_append_run _ rfl _ _ _ _ rfl _ _ rfl rfl _ _ (hrun _) ?_)
  go_ret
  exact hfin.out
/-- One put in, into any row of one's own. -/
theorem insert_rowAttr (v : Value) (n k vb : Nat) (ps : List VP) (p : VP) (w : World) (hs : n ≤ 1000000) (hk : k ≤ n) (ho : OwnQ 89 w v n ps) (hps : ∀ p ∈ ps, p.1.oneCell' = true ∧ p.2.oneCell' = true) (hv : w.heap[vb]? = some (.cells #[p.1, p.2] 89 (0, 0))) (h1 : p.1.oneCell' = true) (h2 : p.2.oneCell' = true) (hne : ∀ g, v.ownBlock = some g → vb ≠ g) :
    Calls Tryz.prog 259 #[v, .int .i64 k, .slice (some ⟨vb, 0, none⟩) 1 1] w fun e w' => ∃ v', e = .returned v' ∧ OwnQ 89 w' v' (n + 1) (ps.take k ++ p :: ps.drop k) ∧ w.grownBy w' v.ownBlock := by
  have hpl : ps.length = n := by have := ho.1; rw [pv_length] at this; omega
  have hone : ∀ u ∈ [p.1, p.2], u.oneCell' = true := fun u hu => by
    simp at hu
    rcases hu with rfl | rfl
    · exact h1
    · exact h2
  have hv' : w.heap[vb]? = some (.cells [p.1, p.2].toArray 89 (0, 0)) := hv
  have hvc : ∀ (j : Nat) u, [p.1, p.2][j]? = some u → w.cell? ⟨vb, j, none⟩ = some u := fun j u hj => by
    rw [cell_of_row w vb j _ _ (0, 0) hv]
    simpa using hj
  have hvb : vb < w.heap.size := (Array.getElem?_eq_some_iff.1 hv).1
  rcases ho.cases with ⟨rfl, rfl, rfl⟩ | ⟨g, c, rfl, hoP⟩
  · obtain rfl : k = 0 := by omega
    refine (insert_nilAttr vb [p.1, p.2] w hv' rfl hone).mono ?_
    rintro e w' ⟨c, rfl, o', b'⟩
    exact ⟨_, rfl, o', Below.gr b' _⟩
  · have hcap : n ≤ c := by
      rcases hoP.2 with ⟨h0, _⟩ | ⟨g', c', cur, h0, _, _, h3, _⟩
      · cases h0
      · cases h0
        exact h3
    rcases Nat.eq_or_lt_of_le hcap with rfl | hlt
    · refine (insert_anyAttr 0 g n vb k (pv ps) [p.1, p.2] w hk (by omega) (Nat.zero_le _) hoP hvc rfl (pv_one hps) hone hvb).mono ?_
      rintro e w' ⟨c', rfl, o', b'⟩
      rw [pv_ins ps p k (by omega)] at o'
      exact ⟨_, rfl, o', Below.gr b' _⟩
    · rcases Nat.lt_or_eq_of_le hk with h | rfl
      · refine (insert_midRAttr 0 g n c vb k (pv ps) [p.1, p.2] w h (by omega) (by omega) hoP hv' (hne g rfl) rfl (pv_one hps) hone).mono ?_
        rintro e w' ⟨rfl, o', b'⟩
        rw [pv_ins ps p k (by omega)] at o'
        exact ⟨_, rfl, o', b'⟩
      · refine (insert_endRAttr 0 g k c vb (pv ps) [p.1, p.2] w (by omega) (by omega) hoP hv' rfl hone).mono ?_
        rintro e w' ⟨rfl, o', b'⟩
        have hx := pv_ins ps p k (by omega)
        rw [List.take_of_length_le (by rw [pv_length]; omega), List.drop_of_length_le (by rw [pv_length]; omega), List.append_nil] at hx
        rw [hx] at o'
        exact ⟨_, rfl, o', b'⟩
theorem spot_insAttr {es : List (ByteArray × ByteArray)} {z : ByteArray} {u : ByteArray} {k : Nat} (h : SpotAttr es z k) (hno : ∀ e ∈ es, (e.1.toList == z.toList) = false) : es.take k ++ (z, u) :: es.drop k = insBy (fun q => gtS z q.1) es (z, u) := by
  refine (insBy_at h.1 (fun y hy => ?_) ?_).symm
  · obtain ⟨j, hj, rfl⟩ := List.getElem_of_mem hy
    rw [List.getElem_drop]
    rw [List.length_drop] at hj
    have h1 := h.2.2 (k + j) (by omega) (by omega)
    have h2 := hno es[k + j] (List.getElem_mem _)
    unfold gtS
    rw [h1, h2]
    rfl
  · rcases Nat.eq_zero_or_pos k with h0 | h0
    · exact .inl h0
    · have hk := h.1
      refine .inr ⟨es[k - 1], List.getElem?_eq_getElem (by omega), ?_⟩
      have h1 := h.2.1 (k - 1) (by omega) (by omega)
      unfold gtS
      rw [h1]
      rfl
set_option maxRecDepth 100000 in
set_option maxHeartbeats 4000000 in
theorem putNAttr (v : Value) (n : Nat) (es : List (ByteArray × ByteArray)) (z : ByteArray) (u : ByteArray) (w : World) (hs : n ≤ 1000000) (ho : OwnQ 89 w v n (aP es)) (hno : ∀ e ∈ es, (e.1.toList == z.toList) = false)
    (hm : ∀ (i j : Nat) (hi : i < es.length) (hj : j < es.length), i ≤ j → Op.bytesLess es[j].1.toList z.toList = true → Op.bytesLess es[i].1.toList z.toList = true) :
    Calls Tryz.prog 226 #[v, .agg #[.string z, .string u], .func (.func 165) #[] #[]] w fun e w' => ∃ v', e = .returned v' ∧ OwnQ 89 w' v' (n + 1) (aP (insBy (fun q => gtS z q.1) es (z, u))) ∧ w.grownBy w' v.ownBlock := by
  have hmf : ∀ (fn : Fn) (first cap : Array Value) (w : World), (Instr.makeFunc fn first cap).run Tryz.prog w = .ok (.func fn first cap) w := fun _ _ _ _ => rfl
  have b0 : Below w.heap.size w ((w.alloc (.cells #[.string z, .string u] 89)).alloc (.cells #[.func (.func 165) #[] #[]] 187)) := ((Below.refl _ w).alloc (Nat.le_refl _) _).alloc (by simp) _
  have zE := (Blk.new w 89 #[.string z, .string u]).alloc (.cells #[.func (.func 165) #[] #[]] 187)
  have zF := Blk.new (w.alloc (.cells #[.string z, .string u] 89)) 187 #[.func (.func 165) #[] #[]]
  simp only [World.size_alloc] at zF
  have hl : es.length = n := by have := ho.1; rw [pv_length, aP_length] at this; omega
  have hown : ∀ g, v.ownBlock = some g → g < w.heap.size := fun g hg => (World.ownsRow.lt ho g hg).2
  have HOW : Hid _ := hown
  have hcn := attrName_any z u
  obtain ⟨a, cc, rfl⟩ := ownQ_shape ho
  have HO : Hid _ := ho
  have hcS := fun (W : World) (hW : Below w.heap.size w W) (hF : Blk W (w.heap.size + 1) 187 #[.func (.func 165) #[] #[]]) => searchAttr a n cc es z (w.heap.size + 1) W hl (by omega) (RdP.keep (own_rdQ HO.out) hW) hF hm
  have HNO : Hid _ := hno
  have HL : Hid _ := hl
  have hvb : ∀ g, (Value.slice a n cc).ownBlock = some g → g < w.heap.size := HOW.out
  have HB0 : Hid _ := b0
  have HZE : Hid _ := zE
  have HZF : Hid _ := zF
  have k0 := zF.cell 0
  have k1 := zE.cell 0
  have k2 := zE.cell 1
  simp at k0 k1 k2
  clear ho hown hm hno hl zE zF b0
  go_enter Tryz.func226, Tryz.ntmps226
  go_wp2_with fail
  obtain ⟨W0, hW0⟩ : ∃ W, ((w.alloc (.cells #[.string z, .string u] 89)).alloc (.cells #[.func (.func 165) #[] #[]] 187)) = W := ⟨_, rfl⟩
  rw [hW0] at HB0 HZE HZF ⊢
  clear hW0 k0 k1 k2
  (with_reducible refine (hcn W0).mono ?_)
  rintro e w1 ⟨rfl, b1⟩
  have hB1 := HB0.out.trans (b1.mono HB0.out.size)
  have zE1 := Blk.keep HZE.out b1
  have zF1 := Blk.keep HZF.out b1
  clear b1
  have hc2 := hcS w1 hB1 zF1
  go_wp2_with fail
  (with_reducible refine hc2.mono ?_)
  rintro e w2 ⟨⟨k, fb, rfl, hsp⟩, b2⟩
  have hB2 := hB1.trans (b2.mono hB1.size)
  have zE2 := Blk.keep zE1 b2
  have hk : k ≤ n := by have := hsp.1; rw [HL.out] at this; exact this
  have hB3 := hB2.alloc hB2.size (.cells #[.string z, .string u] 89)
  have zV := Blk.new w2 89 #[.string z, .string u]
  have ho3 : OwnQ 89 (w2.alloc (.cells #[.string z, .string u] 89)) (.slice a n cc) n (aP es) := row_kp HO.out (KpT.below hB3 [89]) (by simp)
  have hsz := hB2.size
  have hcI := insert_rowAttr (.slice a n cc) n k w2.heap.size (aP es) (.string z, .string u) (w2.alloc (.cells #[.string z, .string u] 89)) hs hk ho3 (aP_one es) zV rfl rfl (fun g hg => by have := HOW.out g hg; omega)
  rw [show (aP es).take k ++ (Value.string z, Value.string u) :: (aP es).drop k = aP (insBy (fun q => gtS z q.1) es (z, u)) by rw [aP_take, aP_drop, ← spot_insAttr hsp HNO.out]; simp [aP]] at hcI
  have hg3 : Hid (w.grownBy (w2.alloc (.cells #[.string z, .string u] 89)) (Value.slice a n cc).ownBlock) := Below.gr hB3 _
  have k1 := zE2.cell 0
  have k2 := zE2.cell 1
  simp at k1 k2
  clear hc2 hcS zE1 zF1 zE2 zV ho3 hB1 hB2 hB3 b2 hsp
  go_wp2_with fail
  (with_reducible refine hcI.mono ?_)
  rintro e w4 ⟨v4, rfl, o4, g4⟩
  have hend : Hid (OwnQ 89 w4 v4 (n + 1) (aP (insBy (fun q => gtS z q.1) es (z, u))) ∧ w.grownBy w4 (Value.slice a n cc).ownBlock) := ⟨o4, gr_tr hg3.out g4⟩
  clear hcI o4 g4 hg3
  go_wp2
  go_ret
  exact ⟨_, rfl, hend.out⟩
end

section
open Go.RowKit
def str (l : List Int) : ByteArray := l.foldl (fun r n => r.push (UInt8.ofNat n.toNat)) ByteArray.empty
def gtOf (zs : List Int) (r : Nat × Nat × Bool) : ByteArray × Nat × Bool :=
  if r.2.2 = false ∨ zs.length < r.2.1 + r.1 then (ByteArray.empty, 0, false)
  else (str ((zs.drop r.2.1).take r.1), r.2.1 + r.1, true)
end

section
open Go.RowKit
theorem Src.own {w w' : World} {gc n cap : Nat} {a : Option Addr} {zs : List Int} {r : Option Nat} (h : Src w gc n cap a zs) (hg : w.grownBy w' r) (hr : ∀ g, r = some g → gc < g) : Src w' gc n cap a zs := by
  cases r with
  | none => exact h.keep ⟨hg.os, hg.tape, hg.output, hg.size, fun k hk => hg.block k hk (by simp)⟩
  | some g => exact h.other hg (hr g rfl)
section
variable {w W W' : World} {gc sn scap : Nat} {sa : Option Addr} {zs : List Int} {X N : Nat} {nm xs : Array Value} {v1 : Value} {dz : List Int} {v2 : Value} {es : List (ByteArray × Int)} {v3 : Value} {ats : List (ByteArray × ByteArray)}
end
end

section
open Go.RowKit
/-- A number read on; the place is none once something was not there whole. -/
def rdN (zs : List Int) : Option Nat → Nat × Option Nat
  | none => (0, none)
  | some p => if (gn zs (p : Int)).2.2 = true then ((gn zs (p : Int)).1, some (gn zs (p : Int)).2.1) else (0, none)
/-- A text read on. -/
def rdT (zs : List Int) : Option Nat → ByteArray × Option Nat
  | none => (ByteArray.empty, none)
  | some p => if (gtOf zs (gn zs (p : Int))).2.2 = true then ((gtOf zs (gn zs (p : Int))).1, some (gtOf zs (gn zs (p : Int))).2.1) else (ByteArray.empty, none)
end

section
open Go.RowKit
/-- k entries read on. -/
def rdE (zs : List Int) (st : Option Nat) : Nat → List (ByteArray × Int) × Option Nat
  | 0 => ([], st)
  | k + 1 => ((rdE zs st k).1 ++ [((rdT zs (rdE zs st k).2).1, ((rdN zs (rdT zs (rdE zs st k).2).2).1 : Int))], (rdN zs (rdT zs (rdE zs st k).2).2).2)
/-- k attributes read on. -/
def rdA (zs : List Int) (st : Option Nat) : Nat → List (ByteArray × ByteArray) × Option Nat
  | 0 => ([], st)
  | k + 1 => ((rdA zs st k).1 ++ [((rdT zs (rdA zs st k).2).1, (rdT zs (rdT zs (rdA zs st k).2).2).1)], (rdT zs (rdT zs (rdA zs st k).2).2).2)
def g1 (zs : List Int) := rdN zs (some 0)
def g2 (zs : List Int) := rdN zs (g1 zs).2
def g3 (zs : List Int) := rdN zs (g2 zs).2
def g4 (zs : List Int) := rdT zs (g3 zs).2
def g5 (zs : List Int) := rdN zs (g4 zs).2
def gE (zs : List Int) := rdE zs (g5 zs).2 (min (g5 zs).1 11)
def g6 (zs : List Int) := rdN zs (gE zs).2
def gA (zs : List Int) := rdA zs (g6 zs).2 (min (g6 zs).1 5)
/-- The inode that the bytes tell. -/
def gD (zs : List Int) : InoD := ⟨((g1 zs).1 : Int), ((g2 zs).1 : Int), ((g3 zs).1 : Int), strZ (g4 zs).1, (gE zs).1, (gA zs).1⟩
end

section
open Go.RowKit
theorem Byt.drop {zs : List Int} (h : Byt zs) (k : Nat) : Byt (zs.drop k) := fun z hz => h z (List.mem_of_mem_drop hz)
end

section
open Go.RowKit
theorem KpT.trans {W W1 W' : World} {ts : List TypeId} (h : KpT W W1 ts) (k : KpT W1 W' ts) : KpT W W' ts := fun B cur t fr hB ht => by
  have e := h B cur t fr hB ht
  rw [k B cur t fr (e.trans hB) ht, e]
end

section
open Go.RowKit
theorem less_trans : ∀ {x y z : List UInt8}, Op.bytesLess x y = true → Op.bytesLess y z = true → Op.bytesLess x z = true
  | _, _, [], _, h2 => by simp [Op.bytesLess] at h2
  | [], _, _ :: _, _, _ => rfl
  | a :: x, [], c :: z, h1, _ => by simp [Op.bytesLess] at h1
  | a :: x, b :: y, c :: z, h1, h2 => by
    simp only [Op.bytesLess, Bool.or_eq_true, Bool.and_eq_true, decide_eq_true_eq, beq_iff_eq] at h1 h2 ⊢
    rcases h1 with h1 | ⟨rfl, h1⟩
    · rcases h2 with h2 | ⟨rfl, h2⟩
      · exact .inl (UInt8.lt_trans h1 h2)
      · exact .inl h1
    · rcases h2 with h2 | ⟨rfl, h2⟩
      · exact .inl h2
      · exact .inr ⟨rfl, less_trans h1 h2⟩
theorem Own.cap' {w : World} {g n c : Nat} {zs : List Int} (h : Own w g n c zs) : n ≤ c := by
  rcases h.2 with ⟨h', _⟩ | ⟨g', c', cur, h', _, _, h5, _⟩
  · simp at h'
  · simp at h'
    omega
end

section
open Go.RowKit
theorem atts_pair {es : List (ByteArray × ByteArray)} (h : attsOk es = true) : es.Pairwise fun x y => Op.bytesLess x.1.toList y.1.toList = true := by
  unfold attsOk at h
  simp only [Bool.and_eq_true, List.all_eq_true, List.mem_range] at h
  have key : ∀ j i, i < j → j < es.length → Op.bytesLess (es.getD i attD).1.toList (es.getD j attD).1.toList = true := by
    intro j
    induction j with
    | zero => intro i hi; omega
    | succ j ih =>
      intro i hi hj
      have h1 := h.1 (j + 1) hj
      unfold attAt at h1
      simp only [Bool.and_eq_true, Bool.or_eq_true, decide_eq_true_eq, Nat.add_sub_cancel] at h1
      have h2 : Op.bytesLess (es.getD j attD).1.toList (es.getD (j + 1) attD).1.toList = true := by
        rcases h1.2 with h0 | h2
        · omega
        · exact h2
      rcases (show i < j ∨ i = j by omega) with h3 | rfl
      · exact less_trans (ih i h3 (by omega)) h2
      · exact h2
  rw [List.pairwise_iff_getElem]
  intro i j hi hj hij
  have := key j i hij hj
  simpa [hi, hj] using this
theorem pair_mono {es : List (ByteArray × ByteArray)} (h : es.Pairwise fun x y => Op.bytesLess x.1.toList y.1.toList = true) (z : ByteArray) : ∀ (i j : Nat) (hi : i < es.length) (hj : j < es.length), i ≤ j → Op.bytesLess es[j].1.toList z.toList = true → Op.bytesLess es[i].1.toList z.toList = true := fun i j hi hj hij hz => by
  rcases Nat.lt_or_eq_of_le hij with h1 | rfl
  · exact less_trans (List.pairwise_iff_getElem.1 h i j hi hj h1) hz
  · exact hz
/-- The inode whose attributes were put anew. -/
theorem inoG_attrs {W V : World} {B T : Nat} {D : InoD} {v1 v2 v3 v' : Value} {m : Nat} {es : List (ByteArray × ByteArray)} (g : InoG W B T D v1 v2 v3) (hk : KpT W V [5, 86]) (ho : OwnQ 89 V v' m (aP es)) : InoG V 0 V.heap.size { D with attrs := es } v1 v2 v' := by
  have h1 : OwnV 0 V v1 D.data.length D.data := row_kp g.data hk (by decide)
  have h2 : OwnQ 86 V v2 D.ents.length (eP D.ents) := row_kp g.ents hk (by decide)
  have hl : es.length = m := by have := ho.1; rw [pv_length, aP_length] at this; omega
  subst hl
  refine ⟨h1, g.byt, h2, ho, fun m hm => ⟨Nat.zero_le _, ?_⟩⟩
  rcases hm with hm | hm | hm
  · exact (World.ownsRow.lt h1 m hm).2
  · exact (World.ownsRow.lt h2 m hm).2
  · exact (World.ownsRow.lt ho m hm).2
/-- What setAttr answers. -/
def attrC (ds : List InoD) (p nm val : ByteArray) : Int := if nameOk nm.data.toList = false ∨ 16 < val.size then 1 else if (statD ds p).2 ≠ 0 then (statD ds p).2 else if val = ⟨#[]⟩ then 0 else if 4 ≤ (cutA (statD ds p).1.attrs nm).length then 5 else 0
def attrT (ds : List InoD) (p nm val : ByteArray) : List InoD := if val = ⟨#[]⟩ then setD ds { (statD ds p).1 with attrs := cutA (statD ds p).1.attrs nm } else setD ds { (statD ds p).1 with attrs := insBy (fun q => gtS nm q.1) (cutA (statD ds p).1.attrs nm) (nm, val) }
set_option maxRecDepth 100000 in
set_option maxHeartbeats 4000000 in
theorem attrM (a : Option Addr) (n cap : Nat) (nx : Int) (rs : List InoR) (p q : ByteArray) (k : Int) (da : Option Addr) (dn dc : Nat) (an av : ByteArray) (w : World) (ht : TR w a n rs) (hK : ∀ r ∈ rs, r.D.kind = 1 ∨ r.D.kind = 2) (hwf : ∀ r ∈ rs, (Lit.int .i64 r.D.ino).wf = true) (hwe : ∀ r ∈ rs, ∀ e ∈ r.D.ents, (Lit.int .i64 e.2).wf = true) (hs : p.size ≤ 4000000) (hA : ∀ r ∈ rs, attsOk r.D.attrs = true) (hs1 : an.size ≤ 1048576) (hs2 : av.size ≤ 1048576) :
    Calls Tryz.prog 186 #[.agg #[.slice a n cap, .int .i64 nx], .agg #[.string p, .string q, .int .i64 k, .slice da dn dc, .string an, .string av]] w fun e w' => EMeth w nx (attrT (rs.map InoR.D) p an av) (attrC (rs.map InoR.D) p an av) e w' := by
  have B0 : Below w.heap.size w (((w.alloc (.cells #[.slice a n cap, .int .i64 nx] 26)).alloc (.cells #[.string p, .string q, .int .i64 k, .slice da dn dc, .string an, .string av] 96)).alloc (.cells #[.slice none 0 0, .int .i64 0] 26)) := (((Below.refl _ w).alloc (Nat.le_refl _) _).alloc (by simp) _).alloc (by simp; omega) _
  have zT := ((Blk.new w 26 #[.slice a n cap, .int .i64 nx]).alloc (.cells #[.string p, .string q, .int .i64 k, .slice da dn dc, .string an, .string av] 96)).alloc (.cells #[.slice none 0 0, .int .i64 0] 26)
  have zC := (Blk.new (w.alloc (.cells #[.slice a n cap, .int .i64 nx] 26)) 96 #[.string p, .string q, .int .i64 k, .slice da dn dc, .string an, .string av]).alloc (.cells #[.slice none 0 0, .int .i64 0] 26)
  have zR := Blk.new ((w.alloc (.cells #[.slice a n cap, .int .i64 nx] 26)).alloc (.cells #[.string p, .string q, .int .i64 k, .slice da dn dc, .string an, .string av] 96)) 26 #[.slice none 0 0, .int .i64 0]
  simp only [World.size_alloc] at zC zR
  obtain ⟨ds, hds⟩ : ∃ ds, rs.map InoR.D = ds := ⟨_, rfl⟩
  rw [hds]
  have HDS : Hid _ := hds
  obtain ⟨CO, hCO⟩ : ∃ c, attrC ds p an av = c := ⟨_, rfl⟩
  obtain ⟨TT, hTT⟩ : ∃ c, attrT ds p an av = c := ⟨_, rfl⟩
  rw [hCO, hTT]
  unfold attrC at hCO
  unfold attrT at hTT
  have c4 := zC.cell 4
  have c5 := zC.cell 5
  have r0 := zR.cell 0
  have r1 := zR.cell 1
  have f0 := zR.frozen 0
  have f1 := zR.frozen 1
  simp at c4 c5 r0 r1
  have hcN := nameI an (((w.alloc (.cells #[.slice a n cap, .int .i64 nx] 26)).alloc (.cells #[.string p, .string q, .int .i64 k, .slice da dn dc, .string an, .string av] 96)).alloc (.cells #[.slice none 0 0, .int .i64 0] 26)) (by omega)
  by_cases hk : nameOk an.data.toList = false ∨ 16 < av.size
  · rw [if_pos hk] at hCO
    subst hCO
    have dd0 := zR.cell 0
    have dd1 := zR.cell 1
    simp at dd0 dd1
    have hend : Hid (EMeth w nx TT 1 (.returned (.tuple #[.agg #[.slice none 0 0, .int .i64 0], .iface 136 (.int .i64 1)])) (((w.alloc (.cells #[.slice a n cap, .int .i64 nx] 26)).alloc (.cells #[.string p, .string q, .int .i64 k, .slice da dn dc, .string an, .string av] 96)).alloc (.cells #[.slice none 0 0, .int .i64 0] 26))) := eMeth_no (by decide) B0
    clear zT zC zR B0 hTT HDS hds ht hK hwf hwe hA
    go_enter Tryz.func186, Tryz.ntmps186
    go_wp2_with fail
    (with_reducible refine hcN.mono ?_)
    rintro e w1 ⟨rfl, hw1⟩
    obtain rfl := hw1
    clear hcN
    cases hnn : nameOk an.data.toList with
    | false =>
      clear hk
      go_wp2
      refine bodyPost_ret (v := .tuple #[.agg #[.slice none 0 0, .int .i64 0], .iface 136 (.int .i64 1)]) (by simp [results, Tryz.f186, go_sem, dd0, dd1]) rfl ?_
      exact hend.out
    | true =>
      have hav : (av.size : Int) > 16 := by rcases hk with h | h <;> first | omega | (rw [hnn] at h; cases h)
      clear hk
      go_wp2
      refine bodyPost_ret (v := .tuple #[.agg #[.slice none 0 0, .int .i64 0], .iface 136 (.int .i64 1)]) (by simp [results, Tryz.f186, go_sem, dd0, dd1]) rfl ?_
      exact hend.out
  rw [if_neg hk] at hCO
  have hnm : nameOk an.data.toList = true := by cases h : nameOk an.data.toList with | true => rfl | false => exact absurd (.inl h) hk
  have hav16 : av.size ≤ 16 := by omega
  have hav : ¬ (av.size : Int) > 16 := by omega
  clear hk
  rw [hnm] at hcN
  have hcF := fun (W : World) (hW : Below w.heap.size w W) => statI a n cap nx rs p W (ht.keep hW) hK hwf hwe hs
  have HSM : Hid _ := ht.small
  have HLEN : Hid _ := ht.len
  have HNN : Hid _ := ht.n
  have HRD : Hid _ := ht.rd
  have HWF : Hid _ := hwf
  have HAA : Hid _ := hA
  rw [hds] at hcF
  have HMEM : Hid ((statD ds p).2 = 0 → (statD ds p).1 ∈ ds) := fun h => stat_in h
  obtain ⟨D, c, hDc⟩ : ∃ D c, statD ds p = (D, c) := ⟨_, _, rfl⟩
  rw [hDc] at hcF hCO hTT HMEM
  dsimp only at hcF hCO hTT HMEM
  have HTT : Hid _ := hTT
  clear hDc hTT ht hK hwf hwe hds hA
  go_enter Tryz.func186, Tryz.ntmps186
  go_wp2_with fail
  (with_reducible refine hcN.mono ?_)
  rintro e w1 ⟨rfl, hw1⟩
  obtain rfl := hw1
  clear hcN
  have t0 := zT.cell 0
  have t1 := zT.cell 1
  have c0 := zC.cell 0
  simp at t0 t1 c0
  go_wp2_with fail
  obtain ⟨Wz, hWz⟩ : ∃ W, (((w.alloc (.cells #[.slice a n cap, .int .i64 nx] 26)).alloc (.cells #[.string p, .string q, .int .i64 k, .slice da dn dc, .string an, .string av] 96)).alloc (.cells #[.slice none 0 0, .int .i64 0] 26)) = W := ⟨_, rfl⟩
  rw [hWz] at B0 zT zC zR c0 c4 c5 r0 r1 f0 f1 t0 t1 ⊢
  clear hWz
  (with_reducible refine (hcF Wz B0).mono ?_)
  rintro e w2 ⟨b1, d1, b2, d2, b3, d3, rfl, g2, bb2⟩
  have zt := (zT.keep bb2).alloc (.cells #[.int .i64 D.ino, .int .i64 D.kind, .int .i64 D.links, .slice b1 D.data.length d1, .slice b2 D.ents.length d2, .slice b3 D.attrs.length d3] 66)
  have zc := (zC.keep bb2).alloc (.cells #[.int .i64 D.ino, .int .i64 D.kind, .int .i64 D.links, .slice b1 D.data.length d1, .slice b2 D.ents.length d2, .slice b3 D.attrs.length d3] 66)
  have zr := (zR.keep bb2).alloc (.cells #[.int .i64 D.ino, .int .i64 D.kind, .int .i64 D.links, .slice b1 D.data.length d1, .slice b2 D.ents.length d2, .slice b3 D.attrs.length d3] 66)
  have hb2 := B0.trans (bb2.mono B0.size)
  have hb3 := hb2.alloc hb2.size (.cells #[.int .i64 D.ino, .int .i64 D.kind, .int .i64 D.links, .slice b1 D.data.length d1, .slice b2 D.ents.length d2, .slice b3 D.attrs.length d3] 66)
  have hbA : Below w2.heap.size w2 (w2.alloc (.cells #[.int .i64 D.ino, .int .i64 D.kind, .int .i64 D.links, .slice b1 D.data.length d1, .slice b2 D.ents.length d2, .slice b3 D.attrs.length d3] 66)) := (Below.refl _ w2).alloc (Nat.le_refl _) _
  have zX := Blk.new w2 66 #[.int .i64 D.ino, .int .i64 D.kind, .int .i64 D.links, .slice b1 D.data.length d1, .slice b2 D.ents.length d2, .slice b3 D.attrs.length d3]
  have g3 := g2.keep (Nat.le_refl _) hbA
  have hsR : w.heap.size + 1 + 1 < w2.heap.size := (zR.keep bb2).lt
  have HBZ : Hid (w.heap.size ≤ Wz.heap.size) := B0.size
  obtain ⟨X, hX⟩ : ∃ X, w2.heap.size = X := ⟨_, rfl⟩
  obtain ⟨W3, hW3⟩ : ∃ W, w2.alloc (.cells #[.int .i64 D.ino, .int .i64 D.kind, .int .i64 D.links, .slice b1 D.data.length d1, .slice b2 D.ents.length d2, .slice b3 D.attrs.length d3] 66) = W := ⟨_, rfl⟩
  rw [hW3] at zt zc zr hb3 zX g3
  rw [hX] at zX g3
  have hX0 := hX
  have HZT : Hid _ := zt
  have HZC : Hid _ := zc
  have HZR : Hid _ := zr
  have HB3 : Hid _ := hb3
  have HG3 : Hid _ := g3
  have HZX : Hid _ := zX
  have r0 := zr.cell 0
  have r1 := zr.cell 1
  have f0 := zr.frozen 0
  have f1 := zr.frozen 1
  have c4 := zc.cell 4
  have c5 := zc.cell 5
  obtain ⟨x0, x1, x2, x3, x4, x5⟩ := zX.six
  have fx := zX.frozen 5
  simp at r0 r1 c4 c5
  clear hcF zT zC zR g2 bb2 hb2 hbA B0 zt zc zr hb3 g3 zX
  by_cases hc0 : c = 0
  · subst hc0
    rw [if_neg (by simp)] at hCO
    rw [errV_zero]
    have hDm := HMEM.out rfl
    obtain ⟨rD, hrD, hrDD⟩ : ∃ r ∈ rs, r.D = D := by
      rw [← HDS.out] at hDm
      obtain ⟨r, hr, h⟩ := List.mem_map.1 hDm
      exact ⟨r, hr, h⟩
    have HSD : Hid (InoSmall D) := hrDD ▸ HSM.out rD hrD
    have HWD : Hid ((Lit.int .i64 D.ino).wf = true) := hrDD ▸ HWF.out rD hrD
    have hat : attsOk D.attrs = true := hrDD ▸ HAA.out rD hrD
    have hal := attsOk_len hat
    have HAT : Hid _ := atts_pair hat
    have hcZ := dropNAttr (.slice b3 D.attrs.length d3) D.attrs.length D.attrs an W3 (by omega) HG3.out.attrs
    rw [dropAttr_cut] at hcZ
    clear hDm hrD hrDD hat
    go_wp2_with fail
    (with_reducible refine hcZ.mono ?_)
    rintro e w4 ⟨v4, rfl, o4, g4, hob⟩
    obtain ⟨a4, cq, rfl⟩ := ownQ_shape o4
    have zt4 := Blk.rowQ HZT.out (by decide) HG3.out.attrs g4
    have zc4 := Blk.rowQ HZC.out (by decide) HG3.out.attrs g4
    have zr4 := Blk.rowQ HZR.out (by decide) HG3.out.attrs g4
    have zX4 := Blk.rowQ HZX.out (by decide) HG3.out.attrs g4
    have hk4 : KpT W3 w4 [5, 86] := KpT.row g4 HG3.out.attrs (by decide)
    have hb4 : Below w.heap.size w w4 := HB3.out.grown g4 HB3.out.size (fun m hm => by have h1 := HG3.out.within m (.inr (.inr hm)); have h2 := HBZ.out; omega)
    have c4 := zc4.cell 4
    have c5 := zc4.cell 5
    simp at c4 c5
    have HLOW : Hid (∀ g, (Value.slice a4 (cutA D.attrs an).length cq).ownBlock = some g → w.heap.size ≤ g) := fun g hg => by
      rw [hob] at hg
      have h1 := HG3.out.within g (.inr (.inr hg))
      have h2 := HBZ.out
      omega
    clear hob hcZ x0 x1 x2 x3 x4 x5 fx r0 r1 f0 f1
    have hcl : (cutA D.attrs an).length ≤ 4 := Nat.le_trans (List.length_filter_le _ _) hal
    by_cases hv0 : av = ⟨#[]⟩
    · rw [if_pos hv0] at hCO HTT
      subst hCO
      obtain ⟨es', hes'⟩ : ∃ l, cutA D.attrs an = l := ⟨_, rfl⟩
      have hsx : InoSmall { D with attrs := es' } := by rw [← hes']; exact cutA_small HSD.out an
      rw [hes'] at o4 HTT hcl ⊢
      obtain ⟨m4, hm4⟩ : ∃ k, es'.length = k := ⟨_, rfl⟩
      rw [hm4] at o4 hcl ⊢
      subst hv0
      clear g4 zc4
      have zX5 := zX4.set 5 (.slice a4 m4 cq)
      have zt5 := zt4.other (B' := X) (by omega) 5 (.slice a4 m4 cq)
      have zr5 := zr4.other (B' := X) (by omega) 5 (.slice a4 m4 cq)
      have hk5 : KpT w4 (w4.setCell ⟨X, 5, none⟩ (.slice a4 m4 cq)) [5, 86, 89] := KpT.grown (gr_setC w4 X 5 _) zX4 (by decide)
      have o5 : OwnQ 89 (w4.setCell ⟨X, 5, none⟩ (.slice a4 m4 cq)) (.slice a4 m4 cq) m4 (aP es') := row_kp o4 hk5 (by decide)
      have g5 := inoG_attrs HG3.out (hk4.tr (fun B cur t fr h1 h2 => hk5 B cur t fr h1 (List.mem_append_left [89] h2))) o5
      have hb5 := hb4.setCell (p := ⟨X, 5, none⟩) (show w.heap.size ≤ X by omega) (.slice a4 m4 cq)
      have fx5 := zX4.frozen 5
      have xx5 := zX4.cell 5
      simp at xx5
      obtain ⟨W5, hW5⟩ : ∃ W, w4.setCell ⟨X, 5, none⟩ (.slice a4 m4 cq) = W := ⟨_, rfl⟩
      rw [hW5] at zX5 zt5 zr5 g5 hb5
      have hrd5 : InoRd W5 { D with attrs := es' } b1 b2 a4 := InoG.rds (B := 0) (T := W5.heap.size) (c1 := d1) (c2 := d2) (c3 := cq) (by show InoG W5 0 W5.heap.size _ (.slice b1 D.data.length d1) (.slice b2 D.ents.length d2) (.slice a4 es'.length cq); rw [hm4]; exact g5)
      have hcI := setI a n cap nx rs { D with attrs := es' } b1 b2 a4 d1 d2 cq W5 HLEN.out HNN.out HWD.out HWF.out HSM.out hsx (RdI.keep HRD.out hb5) hrd5
      dsimp only at hcI
      rw [hm4] at hcI
      obtain ⟨x0, x1, x2, x3, x4, x5⟩ := zX5.six
      have t0 := zt5.cell 0
      have t1 := zt5.cell 1
      simp at t0 t1
      have HZR5 : Hid _ := zr5
      have HB5 : Hid _ := hb5
      have HHM : Hid _ := hm4
      clear o4 hk4 hk5 o5 g5 hb4 hb5 hrd5 hsx zt4 zr4 zt5 zr5 zX5 hes' hm4
      go_wp2_with fail
      (with_reducible refine hcI.mono ?_)
      intro e w6 hp6
      obtain ⟨v6, rfl, ht6⟩ := hp6.tab
      rw [setD_eq, HDS.out] at ht6
      dsimp only at ht6
      rw [HTT.out] at ht6
      have ht6' := ht6
      obtain ⟨ra, rc, js, rfl, _, b6⟩ := ht6'
      obtain ⟨rn, hrn⟩ : ∃ rn, js.length = rn := ⟨_, rfl⟩
      rw [hrn] at ht6 ⊢
      have HFIN : Hid (EMeth w nx TT 0 (.returned (.tuple #[.agg #[.slice ra rn rc, .int .i64 nx], .nilIface])) ((w6.setCell ⟨w.heap.size + 1 + 1, 0, none⟩ (.slice ra rn rc)).setCell ⟨w.heap.size + 1 + 1, 1, none⟩ (.int .i64 nx))) := eMeth_yes ht6 HB5.out (by omega) HZR5.out
      have zr7 := Blk.keep HZR5.out b6
      have r0 := zr7.cell 0
      have r1 := zr7.cell 1
      have f0 := zr7.frozen 0
      have f1 := zr7.frozen 1
      simp at r0 r1
      have zf := blk2 zr7 (.slice ra rn rc) (.int .i64 nx)
      have dd0 := zf.cell 0
      have dd1 := zf.cell 1
      simp at dd0 dd1
      clear hcI hp6 ht6 zf zr7 b6 x0 x1 x2 x3 x4 x5 t0 t1 hrn
      go_wp2
      refine bodyPost_ret (v := .tuple #[.agg #[.slice ra rn rc, .int .i64 nx], .nilIface]) (by simp [results, Tryz.f186, go_sem, dd0, dd1]) rfl ?_
      exact HFIN.out

    · rw [if_neg hv0] at hCO HTT
      have hvb : (av.toList == (⟨#[]⟩ : ByteArray).toList) = false := str_ne hv0
      have hvb2 := bytes_ne hv0
      have hvn : av.toList ≠ [] := fun e => hv0 (by
        rw [Lib.toList_data] at e
        rw [← Lib.mk_data av, e])
      have hvn2 : ¬ av.toList = [] := hvn
      have hvn3 : (av.toList == ([] : List UInt8)) = false := by simpa using hvn
      have hvn4 : av.toList.isEmpty = false := by
        cases hh : av.toList with
        | nil => exact absurd hh hvn
        | cons _ _ => rfl
      have hpw : (cutA D.attrs an).Pairwise (fun x y => Op.bytesLess x.1.toList y.1.toList = true) := List.Pairwise.filter _ HAT.out
      have hno : ∀ e ∈ cutA D.attrs an, (e.1.toList == an.toList) = false := fun e he => by
        unfold cutA at he
        have := (List.mem_filter.1 he).2
        exact str_ne (by simpa using this)
      by_cases hfull : 4 ≤ (cutA D.attrs an).length
      · rw [if_pos hfull] at hCO
        subst hCO
        have hend : Hid (EMeth w nx TT 5 (.returned (.tuple #[.agg #[.slice none 0 0, .int .i64 0], .iface 136 (.int .i64 5)])) ((w4.setCell ⟨w.heap.size + 1 + 1, 0, none⟩ (.slice none 0 0)).setCell ⟨w.heap.size + 1 + 1, 1, none⟩ (.int .i64 0))) := eMeth_no (by decide) ((hb4.setCell (p := ⟨w.heap.size + 1 + 1, 0, none⟩) (by show _ ≤ w.heap.size + 1 + 1; omega) _).setCell (p := ⟨w.heap.size + 1 + 1, 1, none⟩) (by show _ ≤ w.heap.size + 1 + 1; omega) _)
        have zf := blk2 zr4 (.slice none 0 0) (.int .i64 0)
        have dd0 := zf.cell 0
        have dd1 := zf.cell 1
        simp at dd0 dd1
        have r0 := zr4.cell 0
        have r1 := zr4.cell 1
        have f0 := zr4.frozen 0
        have f1 := zr4.frozen 1
        simp at r0 r1
        obtain ⟨m4, hm4⟩ : ∃ k, (cutA D.attrs an).length = k := ⟨_, rfl⟩
        rw [hm4] at hfull ⊢
        have hfi : (m4 : Int) ≥ 4 := by omega
        have hfj : (4 : Int) ≤ (m4 : Int) := by omega
        have hfk : ¬ (m4 : Int) < 4 := by omega
        clear zf hpw hno hv0 o4 hk4 hb4 zt4 zc4 zr4 zX4 g4 hm4 hcl
        go_wp2
        refine bodyPost_ret (v := .tuple #[.agg #[.slice none 0 0, .int .i64 0], .iface 136 (.int .i64 5)]) (by simp [results, Tryz.f186, go_sem, dd0, dd1]) rfl ?_
        exact hend.out
      rw [if_neg hfull] at hCO
      subst hCO
      obtain ⟨l4, hl4⟩ : ∃ l, cutA D.attrs an = l := ⟨_, rfl⟩
      have hsp := putA_small HSD.out an av hs1 hs2 (by omega)
      rw [hl4] at o4 HTT hcl hpw hno hfull hsp ⊢
      obtain ⟨m3, hm3⟩ : ∃ k, l4.length = k := ⟨_, rfl⟩
      rw [hm3] at o4 hfull ⊢
      have hfi : ¬ (m3 : Int) ≥ 4 := by omega
      have hfj : ¬ (4 : Int) ≤ (m3 : Int) := by omega
      have hfk : (m3 : Int) < 4 := by omega
      have hcP := putNAttr (.slice a4 m3 cq) m3 l4 an av w4 (by omega) o4 hno (pair_mono hpw an)
      have HO4 : Hid _ := o4
      have HX4 : Hid _ := zX4
      have HT4 : Hid _ := zt4
      have HR4 : Hid _ := zr4
      have HK4 : Hid _ := hk4
      have HB4 : Hid _ := hb4
      have HLO : Hid (∀ g, (Value.slice a4 m3 cq).ownBlock = some g → w.heap.size ≤ g) := fun g hg => HLOW.out g (by cases a4 with | none => cases hg | some x => exact hg)
      have HM3 : Hid _ := hm3
      clear hpw hno o4 zX4 zt4 zr4 hk4 hb4 zc4 g4 hv0 hm3
      go_wp2_with fail
      (with_reducible refine hcP.mono ?_)
      rintro e w4b ⟨v4b, rfl, o4b, g4b⟩
      obtain ⟨a4b, cqb, rfl⟩ := ownQ_shape o4b
      have zX4b := Blk.rowQ HX4.out (by decide) HO4.out g4b
      have zt4b := Blk.rowQ HT4.out (by decide) HO4.out g4b
      have zr4b := Blk.rowQ HR4.out (by decide) HO4.out g4b
      have hk4b : KpT W3 w4b [5, 86] := KpT.tr HK4.out (KpT.row g4b HO4.out (by decide))
      have hb4b : Below w.heap.size w w4b := HB4.out.grown g4b HB4.out.size (fun m hm => HLO.out m hm)
      obtain ⟨es', hes'⟩ : ∃ l, insBy (fun q => gtS an q.1) l4 (an, av) = l := ⟨_, rfl⟩
      have hm4 : es'.length = m3 + 1 := by rw [← hes', insBy_len, HM3.out]
      have hsx : InoSmall { D with attrs := es' } := by rw [← hes']; exact hsp
      rw [hes'] at o4b HTT
      obtain ⟨m4, hm4'⟩ : ∃ k, m3 + 1 = k := ⟨_, rfl⟩
      rw [hm4'] at o4b hm4 ⊢
      clear hcP g4b hm4' hsp c4 c5
      have zX5 := zX4b.set 5 (.slice a4b m4 cqb)
      have zt5 := zt4b.other (B' := X) (by omega) 5 (.slice a4b m4 cqb)
      have zr5 := zr4b.other (B' := X) (by omega) 5 (.slice a4b m4 cqb)
      have hk5 : KpT w4b (w4b.setCell ⟨X, 5, none⟩ (.slice a4b m4 cqb)) [5, 86, 89] := KpT.grown (gr_setC w4b X 5 _) zX4b (by decide)
      have o5 : OwnQ 89 (w4b.setCell ⟨X, 5, none⟩ (.slice a4b m4 cqb)) (.slice a4b m4 cqb) m4 (aP es') := row_kp o4b hk5 (by decide)
      have g5 := inoG_attrs HG3.out (hk4b.tr (fun B cur t fr h1 h2 => hk5 B cur t fr h1 (List.mem_append_left [89] h2))) o5
      have hb5 := hb4b.setCell (p := ⟨X, 5, none⟩) (show w.heap.size ≤ X by omega) (.slice a4b m4 cqb)
      have fx5 := zX4b.frozen 5
      have xx5 := zX4b.cell 5
      simp at xx5
      obtain ⟨W5, hW5⟩ : ∃ W, w4b.setCell ⟨X, 5, none⟩ (.slice a4b m4 cqb) = W := ⟨_, rfl⟩
      rw [hW5] at zX5 zt5 zr5 g5 hb5
      have hrd5 : InoRd W5 { D with attrs := es' } b1 b2 a4b := InoG.rds (B := 0) (T := W5.heap.size) (c1 := d1) (c2 := d2) (c3 := cqb) (by show InoG W5 0 W5.heap.size _ (.slice b1 D.data.length d1) (.slice b2 D.ents.length d2) (.slice a4b es'.length cqb); rw [hm4]; exact g5)
      have hcI := setI a n cap nx rs { D with attrs := es' } b1 b2 a4b d1 d2 cqb W5 HLEN.out HNN.out HWD.out HWF.out HSM.out hsx (RdI.keep HRD.out hb5) hrd5
      dsimp only at hcI
      rw [hm4] at hcI
      obtain ⟨x0, x1, x2, x3, x4, x5⟩ := zX5.six
      have t0 := zt5.cell 0
      have t1 := zt5.cell 1
      simp at t0 t1
      have HZR5 : Hid _ := zr5
      have HB5 : Hid _ := hb5
      have HHM : Hid _ := hm4
      clear o4b hk4b hk5 o5 g5 hb4b hb5 hrd5 hsx zt4b zr4b zt5 zr5 zX5 hes' hm4
      go_wp2_with fail
      (with_reducible refine hcI.mono ?_)
      intro e w6 hp6
      obtain ⟨v6, rfl, ht6⟩ := hp6.tab
      rw [setD_eq, HDS.out] at ht6
      dsimp only at ht6
      rw [HTT.out] at ht6
      have ht6' := ht6
      obtain ⟨ra, rc, js, rfl, _, b6⟩ := ht6'
      obtain ⟨rn, hrn⟩ : ∃ rn, js.length = rn := ⟨_, rfl⟩
      rw [hrn] at ht6 ⊢
      have HFIN : Hid (EMeth w nx TT 0 (.returned (.tuple #[.agg #[.slice ra rn rc, .int .i64 nx], .nilIface])) ((w6.setCell ⟨w.heap.size + 1 + 1, 0, none⟩ (.slice ra rn rc)).setCell ⟨w.heap.size + 1 + 1, 1, none⟩ (.int .i64 nx))) := eMeth_yes ht6 HB5.out (by omega) HZR5.out
      have zr7 := Blk.keep HZR5.out b6
      have r0 := zr7.cell 0
      have r1 := zr7.cell 1
      have f0 := zr7.frozen 0
      have f1 := zr7.frozen 1
      simp at r0 r1
      have zf := blk2 zr7 (.slice ra rn rc) (.int .i64 nx)
      have dd0 := zf.cell 0
      have dd1 := zf.cell 1
      simp at dd0 dd1
      clear hcI hp6 ht6 zf zr7 b6 x0 x1 x2 x3 x4 x5 t0 t1 hrn
      go_wp2
      refine bodyPost_ret (v := .tuple #[.agg #[.slice ra rn rc, .int .i64 nx], .nilIface]) (by simp [results, Tryz.f186, go_sem, dd0, dd1]) rfl ?_
      exact HFIN.out
  · rw [if_pos hc0] at hCO
    subst hCO
    have hend : Hid (∀ W : World, Below W3.heap.size W3 W → EMeth w nx TT c (.returned (.tuple #[.agg #[.slice none 0 0, .int .i64 0], .iface 136 (.int .i64 c)])) ((W.setCell ⟨w.heap.size + 1 + 1, 0, none⟩ (.slice none 0 0)).setCell ⟨w.heap.size + 1 + 1, 1, none⟩ (.int .i64 0))) := fun W hW => eMeth_no hc0 (((HB3.out.trans (hW.mono HB3.out.size)).setCell (p := ⟨w.heap.size + 1 + 1, 0, none⟩) (by show _ ≤ w.heap.size + 1 + 1; omega) _).setCell (p := ⟨w.heap.size + 1 + 1, 1, none⟩) (by show _ ≤ w.heap.size + 1 + 1; omega) _)
    rw [errV_some hc0]
    have zf := blk2 HZR.out (.slice none 0 0) (.int .i64 0)
    have dd0 := zf.cell 0
    have dd1 := zf.cell 1
    simp at dd0 dd1
    clear hc0 zf x0 x1 x2 x3 x4 x5 fx
    go_wp2
    refine bodyPost_ret (v := .tuple #[.agg #[.slice none 0 0, .int .i64 0], .iface 136 (.int .i64 c)]) (by simp [results, Tryz.f186, go_sem, dd0, dd1]) rfl ?_
    exact hend.out W3 (Below.refl _ _)
end

section
open Go.RowKit
theorem idx_setAttr (w : World) : (Instr.index 149 (.agg #[.func (.func 178) #[] #[], .func (.func 179) #[] #[], .func (.func 180) #[] #[], .func (.func 181) #[] #[], .func (.func 182) #[] #[], .func (.func 183) #[] #[], .func (.func 184) #[] #[], .func (.func 185) #[] #[], .func (.func 186) #[] #[]]) (.int .i64 8)).run Tryz.prog w = .ok (.func (.func 186) #[] #[]) w := by kernel_rfl
set_option maxRecDepth 100000 in
set_option maxHeartbeats 4000000 in
theorem changed_setAttr (a : Option Addr) (n cap : Nat) (nx : Int) (rs : List InoR) (p q : ByteArray) (k : Int) (da : Option Addr) (dn dc : Nat) (an av : ByteArray) (w : World) (ht : TR w a n rs) (hwf : ∀ r ∈ rs, (Lit.int .i64 r.D.ino).wf = true) (het : EtCell w) (nx' : Int) (ds' : List InoD) (c : Int) (N : Int) (D : List InoD) (C : Int)
    (h1 : treeD nx (rs.map InoR.D) = false → N = nx ∧ D = rs.map InoR.D ∧ C = 1) (h2 : treeD nx (rs.map InoR.D) = true → c ≠ 0 → N = nx ∧ D = rs.map InoR.D ∧ C = c) (h3 : treeD nx (rs.map InoR.D) = true → c = 0 → N = nx' ∧ D = ds' ∧ C = 0)
    (hm : treeD nx (rs.map InoR.D) = true → ∀ W : World, Below w.heap.size w W → Calls Tryz.prog 186 #[.agg #[.slice a n cap, .int .i64 nx], .agg #[.string p, .string q, .int .i64 k, .slice da dn dc, .string an, .string av]] W fun e w' => EMeth W nx' ds' c e w') :
    Calls Tryz.prog 81 #[.agg #[.slice a n cap, .int .i64 nx], .int .i64 8, .agg #[.string p, .string q, .int .i64 k, .slice da dn dc, .string an, .string av]] w fun e w' => TabC w N D C e w' := by
  have B0 : Below w.heap.size w (((w.alloc (.cells #[.slice a n cap, .int .i64 nx] 26)).alloc (.cells #[.string p, .string q, .int .i64 k, .slice da dn dc, .string an, .string av] 96)).alloc (.cells #[.slice none 0 0, .int .i64 0] 26)) := (((Below.refl _ w).alloc (Nat.le_refl _) _).alloc (by simp) _).alloc (by simp; omega) _
  have zT := ((Blk.new w 26 #[.slice a n cap, .int .i64 nx]).alloc (.cells #[.string p, .string q, .int .i64 k, .slice da dn dc, .string an, .string av] 96)).alloc (.cells #[.slice none 0 0, .int .i64 0] 26)
  have zC := (Blk.new (w.alloc (.cells #[.slice a n cap, .int .i64 nx] 26)) 96 #[.string p, .string q, .int .i64 k, .slice da dn dc, .string an, .string av]).alloc (.cells #[.slice none 0 0, .int .i64 0] 26)
  have zR := Blk.new ((w.alloc (.cells #[.slice a n cap, .int .i64 nx] 26)).alloc (.cells #[.string p, .string q, .int .i64 k, .slice da dn dc, .string an, .string av] 96)) 26 #[.slice none 0 0, .int .i64 0]
  simp only [World.size_alloc] at zC zR
  have hcT := treeI a n cap nx rs _ (ht.keep B0) hwf
  go_enter Tryz.func81, Tryz.ntmps81
  go_wp2_with fail
  obtain ⟨W0, hW0⟩ : ∃ W, (((w.alloc (.cells #[.slice a n cap, .int .i64 nx] 26)).alloc (.cells #[.string p, .string q, .int .i64 k, .slice da dn dc, .string an, .string av] 96)).alloc (.cells #[.slice none 0 0, .int .i64 0] 26)) = W := ⟨_, rfl⟩
  rw [hW0] at B0 zT zC zR hcT ⊢
  clear hW0
  (with_reducible refine hcT.mono ?_)
  rintro e w1 ⟨rfl, b1⟩
  clear hcT
  have hb1 := B0.trans (b1.mono B0.size)
  have zt := zT.keep b1
  have zc := zC.keep b1
  have zr := zR.keep b1
  have HT1 : Hid _ := ht.keep hb1
  have HE1 : Hid _ := het.keep hb1
  clear zT zC zR b1 ht het B0
  have t0 := zt.cell 0
  have t1 := zt.cell 1
  simp at t0 t1
  cases htr : treeD nx (rs.map InoR.D) with
  | false =>
    obtain ⟨rfl, rfl, rfl⟩ := h1 htr
    have hcC := copyTab_any a n cap N rs w1 HT1.out.len HT1.out.n HT1.out.small HT1.out.rd
    have HB1 : Hid _ := hb1
    have HZR : Hid _ := zr
    clear h1 h2 h3 hm htr hb1
    go_wp2_with fail
    (with_reducible refine hcC.mono ?_)
    intro e w2 hp2
    obtain ⟨g, rfl, b2, hfin⟩ := copyT hp2 HB1.out (by omega) HZR.out
    have zr2 := Blk.keep HZR.out b2
    have r0 := zr2.cell 0
    have r1 := zr2.cell 1
    have f0 := zr2.frozen 0
    have f1 := zr2.frozen 1
    simp at r0 r1
    have HFIN : Hid _ := hfin w2 (Below.refl _ _) 1
    have zf := blk2 zr2 (.slice (some ⟨g, 0, none⟩) n n) (.int .i64 N)
    have dd0 := zf.cell 0
    have dd1 := zf.cell 1
    simp at dd0 dd1
    clear hcC hp2 hfin zr2 zt zc zr t0 t1 zf
    go_wp2
    refine bodyPost_ret (v := .tuple #[.agg #[.slice (some ⟨g, 0, none⟩) n n, .int .i64 N], .int .i64 1]) (by simp [results, Tryz.f81, go_sem, dd0, dd1]) rfl ?_
    exact HFIN.out
  | true =>
    have hmm := hm htr
    have c0 := zc.cell 0
    have c1 := zc.cell 1
    have c2 := zc.cell 2
    have c3 := zc.cell 3
    have c4 := zc.cell 4
    have c5 := zc.cell 5
    simp at c0 c1 c2 c3 c4 c5
    have HB1 : Hid _ := hb1
    have HZR : Hid _ := zr
    have HZT : Hid _ := zt
    have HZC : Hid _ := zc
    have HMM : Hid _ := hmm
    have HH2 : Hid _ := h2 htr
    have HH3 : Hid _ := h3 htr
    have cC := changesI w1.drew
    have hsz : w.heap.size + 1 + 1 < w1.heap.size := zr.lt
    have hK : Hid (∀ W : World, Below w1.heap.size w1 W → W.cell? ⟨w.heap.size, 0, none⟩ = some (.slice a n cap) ∧ W.cell? ⟨w.heap.size, 1, none⟩ = some (.int .i64 nx) ∧ W.cell? ⟨w.heap.size + 1, 0, none⟩ = some (.string p) ∧ W.cell? ⟨w.heap.size + 1, 1, none⟩ = some (.string q) ∧ W.cell? ⟨w.heap.size + 1, 2, none⟩ = some (.int .i64 k) ∧ W.cell? ⟨w.heap.size + 1, 3, none⟩ = some (.slice da dn dc) ∧ W.cell? ⟨w.heap.size + 1, 4, none⟩ = some (.string an) ∧ W.cell? ⟨w.heap.size + 1, 5, none⟩ = some (.string av)) := fun W hW => by
      have z1 := Blk.keep HZT.out hW
      have z2 := Blk.keep HZC.out hW
      exact ⟨z1.cell 0, z1.cell 1, z2.cell 0, z2.cell 1, z2.cell 2, z2.cell 3, z2.cell 4, z2.cell 5⟩
    clear h1 h2 h3 hm htr hmm zt zc zr hb1
    go_upto_region 3 with fail
    have n0 : w1.heap.size ≠ w.heap.size := by omega
    have n1 : w1.heap.size ≠ w.heap.size + 1 := by omega
    have cC2 := changesI (w1.alloc (.cells #[.slice none 0 0, .int .i64 0] 26)).drew
    have zW1 := Blk.new w1 26 #[.slice none 0 0, .int .i64 0]
    have hix := idx_setAttr
    go_cut [8, 9] from 8 to 31 (fun bx er wx => ∃ (A : Nat) (ra : Option Addr) (rn rc : Nat) (rx : Int), bx = .pointer (some ⟨A, 0, none⟩) ∧ er = errV c ∧ Hid (CHR w1 nx' ds' c A (.slice ra rn rc) (.int .i64 rx) wx))
    case first =>
      go_region_held3 (fun W : World => W.cell? ⟨w.heap.size, 0, none⟩ = some (.slice a n cap) ∧ W.cell? ⟨w.heap.size, 1, none⟩ = some (.int .i64 nx) ∧ W.cell? ⟨w.heap.size + 1, 0, none⟩ = some (.string p) ∧ W.cell? ⟨w.heap.size + 1, 1, none⟩ = some (.string q) ∧ W.cell? ⟨w.heap.size + 1, 2, none⟩ = some (.int .i64 k) ∧ W.cell? ⟨w.heap.size + 1, 3, none⟩ = some (.slice da dn dc) ∧ W.cell? ⟨w.heap.size + 1, 4, none⟩ = some (.string an) ∧ W.cell? ⟨w.heap.size + 1, 5, none⟩ = some (.string av)) (go_keep) (first
        | (go_at_call 132; (with_reducible refine cC.mono ?_); rintro e w10 ⟨rfl, b10⟩; have B10 : Below w1.heap.size w1 w10 := (Below.refl _ w1).drew.trans b10; have K10 := hK.out w10 B10; obtain ⟨p0, p1, p2, p3, p4, p5, p6, p7⟩ := K10; have n2 : w10.heap.size ≠ w.heap.size := (by have := B10.size; omega); have n3 : w10.heap.size ≠ w.heap.size + 1 := (by have := B10.size; omega); have hm10 := HMM.out w10 (HB1.out.trans (B10.mono HB1.out.size)); have hm10a := HMM.out (w10.alloc (.cells #[.slice none 0 0, .int .i64 0] 26)) ((HB1.out.trans (B10.mono HB1.out.size)).alloc (by have := HB1.out.size; have := B10.size; omega) _))
        | (go_at_call 132; (with_reducible refine cC2.mono ?_); rintro e w11 ⟨rfl, b11⟩; have B11 : Below w1.heap.size w1 w11 := ((Below.refl _ w1).alloc (Nat.le_refl _) _).drew.trans (b11.mono (by show _ ≤ (w1.alloc _).heap.size; simp)); have K11 := hK.out w11 B11; obtain ⟨p0, p1, p2, p3, p4, p5, p6, p7⟩ := K11; have z11 : Blk w11 w1.heap.size 26 #[.slice none 0 0, .int .i64 0] := Blk.keep (Blk.drew zW1) b11; have hm11 := HMM.out w11 (HB1.out.trans (B11.mono HB1.out.size)))
        | (go_at_call 186; (with_reducible refine hm10.mono ?_); rintro e w12 ⟨ra, rn, rc, rx, rfl, b12, t12⟩; have B12 : Below w1.heap.size w1 w12 := B10.trans (b12.mono B10.size); have K12 := hK.out w12 B12; obtain ⟨q0, q1, q2, q3, q4, q5, q6, q7⟩ := K12)
        | (go_at_call 186; (with_reducible refine hm10a.mono ?_); rintro e w13 ⟨ra, rn, rc, rx, rfl, b13, t13⟩; have B13 : Below w1.heap.size w1 w13 := (B10.alloc B10.size _).trans (b13.mono (by have := B10.size; simp; omega)); have z13 := (Blk.new w10 26 #[.slice none 0 0, .int .i64 0]).keep b13; have u0 := z13.cell 0; have u1 := z13.cell 1; have x0 := z13.frozen 0; have x1 := z13.frozen 1; simp at u0 u1; have K13 := hK.out w13 B13; obtain ⟨q0, q1, q2, q3, q4, q5, q6, q7⟩ := K13)
        | (go_at_call 186; (with_reducible refine hm11.mono ?_); rintro e w14 ⟨ra, rn, rc, rx, rfl, b14, t14⟩; have B14 : Below w1.heap.size w1 w14 := B11.trans (b14.mono B11.size); have z14 := z11.keep b14; have u0 := z14.cell 0; have u1 := z14.cell 1; have x0 := z14.frozen 0; have x1 := z14.frozen 1; simp at u0 u1; have K14 := hK.out w14 B14; obtain ⟨q0, q1, q2, q3, q4, q5, q6, q7⟩ := K14))
      all_goals (go_wp2_with fail; go_meet)
      all_goals first
        | (have h := chr_new B12 b12 B10.size t12; exact ⟨_, _, _, _, _, rfl, rfl, h⟩)
        | (have h := chr_old B13 B10.size z13 (by simp) t13; exact ⟨_, _, _, _, _, rfl, rfl, h⟩)
        | (have h := chr_old B14 (Nat.le_refl _) z14 (Blk.lt z11) t14; exact ⟨_, _, _, _, _, rfl, rfl, h⟩)
        | fail
    case rest =>
      obtain ⟨A, ra, rn, rc, rx, rfl, rfl, hR⟩ := hcut
      obtain ⟨Wc, hwc⟩ : ∃ W, W = wc := ⟨_, rfl⟩
      subst hwc
      clear t0 t1 c0 c1 c2 c3 c4 c5 cC cC2 zW1 hK HMM n0 n1
      have zt := Blk.keep HZT.out hR.out.b
      have zr := Blk.keep HZR.out hR.out.b
      have hbc := HB1.out.trans (hR.out.b.mono HB1.out.size)
      have t0 := zt.cell 0
      have t1 := zt.cell 1
      simp at t0 t1
      by_cases hc0 : c = 0
      · obtain ⟨rfl, rfl, rfl⟩ := HH3.out hc0
        subst hc0
        rw [errV_zero]
        have HFIN : Hid _ := methT (hR.out.tab rfl) HB1.out (by omega) HZR.out Wc (Below.refl _ _)
        have a0 := hR.out.z.cell 0
        have a1 := hR.out.z.cell 1
        have r0 := zr.cell 0
        have r1 := zr.cell 1
        have f0 := zr.frozen 0
        have f1 := zr.frozen 1
        simp at a0 a1 r0 r1
        have zf := blk2 zr (.slice ra rn rc) (.int .i64 rx)
        have dd0 := zf.cell 0
        have dd1 := zf.cell 1
        simp at dd0 dd1
        clear zt zr zf hbc HH2 HH3 HT1 HE1 t0 t1
        go_wp2
        refine bodyPost_ret (v := .tuple #[.agg #[.slice ra rn rc, .int .i64 rx], .int .i64 0]) (by simp [results, Tryz.f81, go_sem, dd0, dd1]) rfl ?_
        exact HFIN.out
      · obtain ⟨rfl, rfl, rfl⟩ := HH2.out hc0
        rw [errV_some hc0]
        have hTc := HT1.out.keep hR.out.b
        have hEc := EtCell.keep HE1.out hR.out.b
        have hcC := copyTab_any a n cap N rs Wc hTc.len hTc.n hTc.small hTc.rd
        have HZ : Hid _ := zr
        have HBC : Hid _ := hbc
        have HEC : Hid _ := hEc
        have HC0 : Hid _ := hc0
        clear zt zr hbc HH2 HH3 HT1 HE1 hTc hEc hc0
        go_wp2_with fail
        (with_reducible refine hcC.mono ?_)
        intro e w2 hp2
        obtain ⟨g, rfl, b2, hfin⟩ := copyT hp2 HBC.out (by omega) HZ.out
        have hcO := codeOfI C w2 (EtCell.keep HEC.out b2)
        rw [errV_some HC0.out] at hcO
        clear hcC hp2 t0 t1
        go_wp2_with fail
        (with_reducible refine hcO.mono ?_)
        rintro e w3 ⟨rfl, b3⟩
        have zr3 := (Blk.keep HZ.out b2).keep b3
        have r0 := zr3.cell 0
        have r1 := zr3.cell 1
        have f0 := zr3.frozen 0
        have f1 := zr3.frozen 1
        simp at r0 r1
        have HFIN : Hid _ := hfin w3 b3 C
        have zf := blk2 zr3 (.slice (some ⟨g, 0, none⟩) n n) (.int .i64 N)
        have dd0 := zf.cell 0
        have dd1 := zf.cell 1
        simp at dd0 dd1
        clear hcO hfin zr3 zf
        go_wp2
        refine bodyPost_ret (v := .tuple #[.agg #[.slice (some ⟨g, 0, none⟩) n n, .int .i64 N], .int .i64 C]) (by simp [results, Tryz.f81, go_sem, dd0, dd1]) rfl ?_
        exact HFIN.out
end

section
open Go.RowKit
theorem attrI (a : Option Addr) (n cap : Nat) (nx : Int) (rs : List InoR) (s nm vl : ByteArray) (w : World) (ht : TR w a n rs) (hwf : ∀ r ∈ rs, (Lit.int .i64 r.D.ino).wf = true) (het : EtCell w) (hs : s.size ≤ 1048576) (hs1 : nm.size ≤ 1048576) (hs2 : vl.size ≤ 1048576) :
    Calls Tryz.prog 29 #[.agg #[.slice a n cap, .int .i64 nx], .string s, .string nm, .string vl] w fun e w' => TabC w nx (attrD nx (rs.map InoR.D) s nm vl).1 (attrD nx (rs.map InoR.D) s nm vl).2 e w' := by
  refine wrap_SetAttr a n cap nx s nm vl w nx _ _ (fun W hW => ?_)
  refine changed_setAttr a n cap nx rs s ⟨#[]⟩ 0 none 0 0 nm vl W (ht.keep hW) hwf (het.keep hW) nx (attrT (rs.map InoR.D) s nm vl) (attrC (rs.map InoR.D) s nm vl) nx _ _ ?_ ?_ ?_ ?_
  · intro h
    unfold attrD
    rw [h, if_pos (.inl rfl)]
    exact ⟨rfl, rfl, rfl⟩
  · intro h hc
    unfold attrC at hc ⊢
    unfold attrD
    by_cases hr : nameOk nm.data.toList = false ∨ 16 < vl.size
    · rw [if_pos hr, if_pos (.inr (.inr hr))]
      exact ⟨rfl, rfl, rfl⟩
    · rw [if_neg hr] at hc ⊢
      cases hsp : (splitOf s.data.toList).isSome with
      | false =>
        rw [if_pos (.inr (.inl rfl)), stat_form hsp]
        exact ⟨rfl, rfl, rfl⟩
      | true =>
        rw [if_neg (fun hh => hh.elim (fun h1 => by rw [h] at h1; cases h1) (fun h2 => h2.elim (fun h1 => by cases h1) hr))]
        by_cases h0 : (statD (rs.map InoR.D) s).2 = 0
        · rw [if_neg (by simp [h0])] at hc
          by_cases hv : vl = ⟨#[]⟩
          · rw [if_pos hv] at hc
            exact absurd rfl hc
          · rw [if_neg hv] at hc
            by_cases hf : 4 ≤ (cutA (statD (rs.map InoR.D) s).1.attrs nm).length
            · refine ⟨rfl, ?_, ?_⟩ <;> simp [h0, hv, hf]
            · rw [if_neg hf] at hc
              exact absurd rfl hc
        · refine ⟨rfl, ?_, ?_⟩ <;> simp [h0]
  · intro h hc
    unfold attrC at hc
    unfold attrD attrT
    by_cases hr : nameOk nm.data.toList = false ∨ 16 < vl.size
    · rw [if_pos hr] at hc
      exact absurd hc (by decide)
    · rw [if_neg hr] at hc
      by_cases h0 : (statD (rs.map InoR.D) s).2 = 0
      · rw [if_neg (by simp [h0])] at hc
        cases hsp : (splitOf s.data.toList).isSome with
        | false => rw [stat_form hsp] at h0; exact absurd h0 (by decide)
        | true =>
          rw [if_neg (fun hh => hh.elim (fun h1 => by rw [h] at h1; cases h1) (fun h2 => h2.elim (fun h1 => by cases h1) hr)), if_neg (by simp [h0])]
          by_cases hv : vl = ⟨#[]⟩
          · rw [if_pos hv, if_pos hv]
            exact ⟨rfl, rfl, rfl⟩
          · rw [if_neg hv] at hc
            by_cases hf : 4 ≤ (cutA (statD (rs.map InoR.D) s).1.attrs nm).length
            · rw [if_pos hf] at hc
              exact absurd hc (by decide)
            · rw [if_neg hv, if_neg hv, if_neg hf]
              exact ⟨rfl, rfl, rfl⟩
      · rw [if_pos h0] at hc
        exact absurd hc h0
  · intro h W' hW'
    obtain ⟨f1, f2, f3⟩ := tree_facts h
    exact attrM a n cap nx rs s ⟨#[]⟩ 0 none 0 0 nm vl W' ((ht.keep hW).keep hW') f1 f2 f3 (by omega) (fun r hr => (ok_parts ((tabD_ok (treeD_parts h).1).2.2.2.2.1 r.D (List.mem_map_of_mem hr)).1).2.2.2.2.2) hs1 hs2
theorem out_attr (s nm vl : ByteArray) (nx : Int) (rs : List InoR) (h : ∀ r ∈ rs, InoSmall r.D) (hc : rs.length + cntI rs ≤ 1048576) (_ : s.size ≤ 1048576) (hs1 : nm.size ≤ 1048576) (hs2 : vl.size ≤ 1048576) : Fit (attrD nx (rs.map InoR.D) s nm vl).1 := by
  have hf := fit_same h hc
  unfold attrD
  split
  · exact hf
  · rename_i hn
    have htr : treeD nx (rs.map InoR.D) = true := by
      cases ht : treeD nx (rs.map InoR.D) with
      | true => rfl
      | false => exact absurd (.inl ht) hn
    split
    · exact hf
    · rename_i hc0
      have h0 : (statD (rs.map InoR.D) s).2 = 0 := Classical.byContradiction fun c => hc0 c
      have ht := tree_tiny htr hf.small
      have hm := ht _ (stat_in h0)
      have h2 := (tabD_ok (treeD_parts htr).1).2.1
      have hma := hm.attrs
      have hcl : (cutA (statD (rs.map InoR.D) s).1.attrs nm).length ≤ 5 := Nat.le_trans (List.length_filter_le _ _) hma
      split
      · refine fit_tiny (fun D hD => ?_) (Nat.le_trans (setD_lenC _ _) (by omega))
        rcases setD_memC hD with rfl | hD
        · exact ⟨cutA_small hm.small nm, hm.data, hm.ents, hcl⟩
        · exact ht D hD
      · split
        · exact hf
        · rename_i h4
          refine fit_tiny (fun D hD => ?_) (Nat.le_trans (setD_lenC _ _) (by omega))
          rcases setD_memC hD with rfl | hD
          · refine ⟨putA_small hm.small nm vl hs1 hs2 (by omega), hm.data, hm.ents, ?_⟩
            show (insBy _ _ _).length ≤ _
            rw [insBy_len]
            omega
          · exact ht D hD
end

section
open Go.RowKit
set_option maxRecDepth 100000 in
set_option maxHeartbeats 16000000 in
theorem walkFnExactSetAttr (a : Option Addr) (cap : Nat) (nx : Int) (rs : List InoR) (s : ByteArray) (an : ByteArray) (av : ByteArray) (w : World) (hm : rs.length ≤ maxLen) (hi : ∀ r ∈ rs, InoIn r.D) (hr : RdI w a rs) (_hz0 : s.size ≤ maxLen) (_hz1 : an.size ≤ maxLen) (_hz2 : av.size ≤ maxLen) (het : EtCell w) :
    Calls Tryz.prog 14 #[.agg #[.slice a rs.length cap, .int .i64 nx], .string s, .string an, .string av] w fun e w' => e = .returned (.bool true) ∧ Below w.heap.size w w' := by
  obtain ⟨n, hn⟩ : ∃ n, rs.length = n := ⟨_, rfl⟩
  rw [hn] at hm ⊢
  have zb0 : ZT w (w.alloc (.cells #[.slice a n cap, .int .i64 nx] 49)) #[.slice a n cap, .int .i64 nx] := ⟨(Below.refl _ w).alloc (Nat.le_refl _) _, Blk.new w _ _⟩
  by_cases hl0 : 1048576 < s.size
  · have hli : (s.size : Int) > 1048576 := by omega
    have HB : Hid _ := zb0.below
    clear zb0
    go_enter Tryz.func14, Tryz.ntmps14
    go_wp2
    go_ret
    exact ⟨rfl, HB.out⟩
  by_cases hl1 : 1048576 < an.size
  · have hli : (an.size : Int) > 1048576 := by omega
    have HB : Hid _ := zb0.below
    have hlj0 : ¬ (s.size : Int) > 1048576 := by omega
    clear zb0
    go_enter Tryz.func14, Tryz.ntmps14
    go_wp2
    go_ret
    exact ⟨rfl, HB.out⟩
  by_cases hl2 : 1048576 < av.size
  · have hli : (av.size : Int) > 1048576 := by omega
    have HB : Hid _ := zb0.below
    have hlj0 : ¬ (s.size : Int) > 1048576 := by omega
    have hlj1 : ¬ (an.size : Int) > 1048576 := by omega
    clear zb0
    go_enter Tryz.func14, Tryz.ntmps14
    go_wp2
    go_ret
    exact ⟨rfl, HB.out⟩
  have hli0 : ¬ (s.size : Int) > 1048576 := by omega
  have hli1 : ¬ (an.size : Int) > 1048576 := by omega
  have hli2 : ¬ (av.size : Int) > 1048576 := by omega
  go_enter Tryz.func14, Tryz.ntmps14
  go_wp2_with fail
  obtain ⟨W0, hW0⟩ : ∃ W, w.alloc (.cells #[.slice a n cap, .int .i64 nx] 49) = W := ⟨_, rfl⟩
  rw [hW0] at zb0 ⊢
  clear hW0
  refine (szTab_w a n cap 1048576 nx rs W0 hn hm (by omega) hi (hr.keep zb0.below)).mono ?_
  rintro e w1 ⟨hsz, b1⟩
  have zb1 := zb0.keep b1
  clear zb0 b1
  rcases hsz with rfl | ⟨v, hv, rfl, hn1, hsm⟩
  · go_wp2
    go_ret
    exact ⟨rfl, zb1.below⟩
  have hx0 : ¬ (v : Int) < 0 := by omega
  have hwf : ∀ r ∈ rs, (Lit.int .i64 r.D.ino).wf = true := fun r h => (hi r h).ino
  have HS : Hid _ := hsm
  have hcn : n + cntI rs ≤ 1048576 := by omega
  have CA : Hid (∀ W : World, Below w.heap.size w W → _) := fun (W : World) (h : Below w.heap.size w W) => toTab_j a n cap nx rs W hn hn1 HS.out (hr.keep h)
  have hfit : Fit (attrD nx (rs.map InoR.D) s an av).1 := out_attr s an av nx rs HS.out (by rw [hn]; exact hcn) (by omega) (by omega) (by omega)
  have HET : Hid _ := het
  have cS := fun (W : World) (B g : Nat) (ts : List InoR) (h : TabQ W B g n rs ts) => attrS (some ⟨g, 0, none⟩) n n nx ts s an av W ⟨h.tlen, hn1, h.cpd.small HS.out, h.rd⟩ (by omega) (by omega) (by omega)
  have cI := fun (W : World) (B g : Nat) (ts : List InoR) (h : TabQ W B g n rs ts) (hb : Below w.heap.size w W) => attrI (some ⟨g, 0, none⟩) n n nx ts s an av W ⟨h.tlen, hn1, h.cpd.small HS.out, h.rd⟩ (fun r hr => by
    have h1 : r.D ∈ ts.map InoR.D := List.mem_map_of_mem hr
    rw [h.cpd.1] at h1
    obtain ⟨q, hq, hqr⟩ := List.mem_map.1 h1
    rw [← hqr]
    exact hwf q hq) (EtCell.keep HET.out hb) (by omega) (by omega) (by omega)
  have cS' : ∀ (W : World) (B g : Nat) (ts : List InoR), TabQ W B g n rs ts → Calls Tryz.prog 59 #[.agg #[.slice (some ⟨g, 0, none⟩) n n, .int .i64 nx], .string s, .string an, .string av] W fun e w' => TabC W nx (attrD nx (rs.map InoR.D) s an av).1 (attrD nx (rs.map InoR.D) s an av).2 e w' := fun W B g ts h => by
    have := cS W B g ts h
    rw [h.cpd.1] at this
    exact this
  have cI' : ∀ (W : World) (B g : Nat) (ts : List InoR), TabQ W B g n rs ts → Below w.heap.size w W → Calls Tryz.prog 29 #[.agg #[.slice (some ⟨g, 0, none⟩) n n, .int .i64 nx], .string s, .string an, .string av] W fun e w' => TabC W nx (attrD nx (rs.map InoR.D) s an av).1 (attrD nx (rs.map InoR.D) s an av).2 e w' := fun W B g ts h hb => by
    have := cI W B g ts h hb
    rw [h.cpd.1] at this
    exact this
  clear cS cI
  obtain ⟨CO, hCO⟩ : ∃ x, (attrD nx (rs.map InoR.D) s an av).2 = x := ⟨_, rfl⟩
  rw [hCO] at cS' cI'
  obtain ⟨ds, hds⟩ : ∃ x, (attrD nx (rs.map InoR.D) s an av).1 = x := ⟨_, rfl⟩
  rw [hds] at cS' cI' hfit
  obtain ⟨m, hml⟩ : ∃ m, ds.length = m := ⟨_, rfl⟩
  have hfc := hfit.cnt
  rw [hml] at hfc
  have hmb : m ≤ 2000000 := by omega
  have hdsm : ∀ r ∈ ds.map lift, InoSmall r.D := fun r hr => by
    obtain ⟨D, hD, rfl⟩ := List.mem_map.1 hr
    exact hfit.small D hD
  have hjl : ∀ (B : Nat) (W : World) (v : Value) (js : List InoJ), DQA B W v (ds.map lift) js → js.length = m := fun B W v js h => by have := h.len; rw [List.length_map] at this; omega
  have cK := fun (W : World) (g Lo Hi : Nat) (js : List InoJ) (h1 : (js.map InoJ.r).map InoR.D = rs.map InoR.D) (hap : ApJ g Lo Hi js) (hH : Hi ≤ W.heap.size) (hown : OwnI W g n n (js.map InoJ.r)) (hG : ∀ (i : Nat) (j : InoJ), js[i]? = some j → j.G W) => markTab_any nx g n n Lo Hi 1 js W (by have := congrArg List.length h1; simp at this; omega) (Nat.le_refl _) (by omega) (by have := q_bound4 h1 hn (by omega); omega) hap hH hown hG
  have cE : ∀ (W : World) (B B' : Nat) (a a' : Option Addr) (c c' : Nat) (js js' : List InoJ), DQA B W (.slice a m c) (ds.map lift) js → DQA B' W (.slice a' m c') (ds.map lift) js' → js.length = m → js'.length = m → Calls Tryz.prog 44 #[.agg #[.slice a m c, .int .i64 nx], .agg #[.slice a' m c', .int .i64 nx]] W fun e w' => e = .returned (.bool true) ∧ Below W.heap.size W w' := fun W B B' a a' c c' js js' h h' h1 h2 => eqVA nx (by omega) hdsm h h' h1 h2
  have cQ : ∀ (js : List InoJ) (W : World) (B : Nat) (v : Value), DQA B W v (ds.map lift) js → qAt 1 js m ≤ 9999990 := fun js W B v h => by have := q_bound4 (n := m) h.ds (by rw [List.length_map]; exact hml) (by omega); omega
  have CS : Hid _ := cS'
  have CI : Hid _ := cI'
  have CE : Hid _ := cE
  have CQ : Hid _ := cQ
  have CK : Hid _ := cK
  have CJ : Hid _ := hjl
  have hcoe : (CO != CO) = false := by simp
  have hcof : (CO == CO) = true := by simp
  clear cS' cI' cE cQ cK hr hn hsm hwf hi hm hv hcn hdsm hml hfit hfc hCO hds hjl het
  have t0 := zb1.t.cell 0
  have t1 := zb1.t.cell 1
  simp at t0 t1
  go_wp2_with fail
  (with_reducible refine (CA.out w1 zb1.below).mono ?_)
  rintro e w2 ⟨gA, jA, rfl, qA, _, b2⟩
  have zb2 := zb1.keep b2
  clear zb1 b2 t0 t1
  go_wp2_with fail
  (with_reducible refine (CS.out w2 _ gA _ qA).mono ?_)
  rintro e w3 ⟨aS, eS, jS, rfl, gS, b3⟩
  have hjS := CJ.out _ _ _ _ gS
  rw [hjS] at gS ⊢
  have b3' : Below w3.heap.size w3 (w3.alloc (.cells #[.slice aS m eS, .int .i64 nx] 26)) := (Below.refl _ w3).alloc (Nat.le_refl _) _
  have qs3 : QS (w3.alloc (.cells #[.slice aS m eS, .int .i64 nx] 26)) w3.heap.size w2.heap.size w3.heap.size (w3.heap.size + 1) aS m eS nx (ds.map lift) jS := ⟨Blk.new w3 _ _, gS.keep b3', hjS, gS.apV, by omega, by omega, by simp⟩
  have zb3 := zb2.keep (below_tr b3 b3')
  have hz2 := zb2.t.lt
  have hs3 := b3.size
  clear zb2 b3 b3' qA gS
  have t0 := zb3.t.cell 0
  have t1 := zb3.t.cell 1
  simp at t0 t1
  go_wp2_with fail
  obtain ⟨W3, hW3⟩ : ∃ W, w3.alloc (.cells #[.slice aS m eS, .int .i64 nx] 26) = W := ⟨_, rfl⟩
  obtain ⟨TS, hTS⟩ : ∃ X, w3.heap.size = X := ⟨_, rfl⟩
  obtain ⟨BS, hBS⟩ : ∃ X, w2.heap.size = X := ⟨_, rfl⟩
  rw [hW3] at qs3 zb3 t0 t1 ⊢
  rw [hTS] at qs3 hs3 ⊢
  rw [hBS] at qs3 hs3 hz2
  clear hW3 hTS hBS
  have HZL : Hid (w.heap.size + 1 ≤ W3.heap.size) := by have := qs3.tT; show _ ≤ _; omega
  (with_reducible refine (CA.out W3 zb3.below).mono ?_)
  rintro e w4 ⟨gB, jB, rfl, qB, jsB, b4⟩
  have b4' : Below w4.heap.size w4 (w4.alloc (.cells #[.slice (some ⟨gB, 0, none⟩) n n, .int .i64 nx] 26)) := (Below.refl _ w4).alloc (Nat.le_refl _) _
  have bb4 := below_tr b4 b4'
  have hs4 := b4.size
  have qt4 : QT (w4.alloc (.cells #[.slice (some ⟨gB, 0, none⟩) n n, .int .i64 nx] 26)) w4.heap.size W3.heap.size gB n W3.heap.size w4.heap.size nx rs jB := ⟨Blk.new w4 _ _, qB.keep b4', jsB.keep b4', jsB.ap (Nat.lt_succ_self _) qB.at_ qB.own.lt, Nat.le_refl _⟩
  have zb4 := zb3.keep bb4
  have qs4 := qs3.keep bb4
  have hU := qs3.tT
  have hs4' : w4.heap.size + 1 ≤ (w4.alloc (.cells #[.slice (some ⟨gB, 0, none⟩) n n, .int .i64 nx] 26)).heap.size := by simp
  clear zb3 qs3 b4 b4' bb4 qB jsB t0 t1
  obtain ⟨u0, u1⟩ := qt4.two
  go_wp2_with fail
  obtain ⟨W4, hW4⟩ : ∃ W, w4.alloc (.cells #[.slice (some ⟨gB, 0, none⟩) n n, .int .i64 nx] 26) = W := ⟨_, rfl⟩
  obtain ⟨XB, hXB⟩ : ∃ X, w4.heap.size = X := ⟨_, rfl⟩
  obtain ⟨Lo, hLo⟩ : ∃ X, W3.heap.size = X := ⟨_, rfl⟩
  rw [hW4] at qt4 zb4 qs4 hs4' u0 u1 ⊢
  rw [hXB] at qt4 hs4 hs4' u0 u1 ⊢
  rw [hLo] at qt4 hs4 hU
  clear hW4 hXB
  (with_reducible refine (CI.out W4 _ gB _ qt4.tq zb4.below).mono ?_)
  rintro e w6 ⟨aI, eI, jI, rfl, gI, b6⟩
  have hjI := CJ.out _ _ _ _ gI
  rw [hjI] at gI ⊢
  have b6' : Below w6.heap.size w6 (w6.alloc (.cells #[.slice aI m eI, .int .i64 nx] 26)) := (Below.refl _ w6).alloc (Nat.le_refl _) _
  have bb6 := below_tr b6 b6'
  have hs6 := b6.size
  have qi6 : QS (w6.alloc (.cells #[.slice aI m eI, .int .i64 nx] 26)) w6.heap.size W4.heap.size w6.heap.size (w6.heap.size + 1) aI m eI nx (ds.map lift) jI := ⟨Blk.new w6 _ _, gI.keep b6', hjI, gI.apV, by omega, by omega, by simp⟩
  have zb6 := zb4.keep bb6
  have qs6 := qs4.keep bb6
  have qt6 := qt4.keep bb6
  clear zb4 qs4 qt4 b6 b6' bb6 gI u0 u1
  obtain ⟨u0, u1⟩ := qi6.two
  obtain ⟨v0, v1⟩ := qs6.two
  go_wp2_with fail
  obtain ⟨W6, hW6⟩ : ∃ W, w6.alloc (.cells #[.slice aI m eI, .int .i64 nx] 26) = W := ⟨_, rfl⟩
  obtain ⟨TI, hTI⟩ : ∃ X, w6.heap.size = X := ⟨_, rfl⟩
  obtain ⟨BI, hBI⟩ : ∃ X, W4.heap.size = X := ⟨_, rfl⟩
  rw [hW6] at qi6 zb6 qs6 qt6 u0 u1 v0 v1 ⊢
  rw [hTI] at qi6 hs6 u0 u1 ⊢
  rw [hBI] at qi6 hs6 hs4'
  clear hW6 hTI
  (with_reducible refine (CE.out W6 BI BS _ _ _ _ jI jS qi6.q qs6.q qi6.len qs6.len).mono ?_)
  rintro e w7 ⟨rfl, b7⟩
  have zb7 := zb6.keep b7
  have qs7 := qs6.keep b7
  have qt7 := qt6.keep b7
  have qi7 := qi6.keep b7
  clear zb6 qs6 qt6 qi6 b7 u0 u1 v0 v1
  have t0 := zb7.t.cell 0
  have t1 := zb7.t.cell 1
  simp at t0 t1
  obtain ⟨u0, u1⟩ := qt7.two
  have zb7d := zb7.keep (Below.refl w7.heap.size w7).drew
  have qt7d := qt7.keep (Below.refl w7.heap.size w7).drew
  go_upto_region 16 with fail
  go_region_held3 (fun W : World => W.cell? ⟨XB, 0, none⟩ = some (.slice (some ⟨gB, 0, none⟩) n n) ∧ W.cell? ⟨XB, 1, none⟩ = some (.int .i64 nx) ∧ W.cell? ⟨w.heap.size, 0, none⟩ = some (.slice a n cap) ∧ W.cell? ⟨w.heap.size, 1, none⟩ = some (.int .i64 nx)) (go_keep) (first
    | (go_at_call 43; (with_reducible refine (CA.out _ zb7d.below).mono ?_); rintro e wA ⟨gC, jC, rfl, qC, _, b9⟩; have qAA := (qt7d.keep b9).tq; obtain ⟨s0, s1⟩ := (qt7d.keep b9).two; have s2 := (zb7d.keep b9).t.cell 0; have s3 := (zb7d.keep b9).t.cell 1; (simp at s2 s3))
    | (go_at_call 44; (with_reducible refine (eqTabQ _ _ gB gC n n n nx rs _ _ _ hn1 HS.out qAA qC).mono ?_); rintro e wB ⟨rfl, b10⟩; obtain ⟨s4, s5⟩ := ((qt7d.keep b9).keep b10).two; have s6 := ((zb7d.keep b9).keep b10).t.cell 0; have s7 := ((zb7d.keep b9).keep b10).t.cell 1; (simp at s6 s7))
    | fail)
  have bR : Below w7.heap.size w7 wB := below_tr (below_tr (Below.refl w7.heap.size w7).drew b9) b10
  have zb8 := zb7.keep bR
  have qs8 := qs7.keep bR
  have qt8 := qt7.keep bR
  have qi8 := qi7.keep bR
  clear zb7 qs7 qt7 qi7 bR b9 b10 zb7d qt7d qC qAA s0 s1 s2 s3 s4 s5 s6 s7 u0 u1 t0 t1
  obtain ⟨u0, u1⟩ := qt8.two
  have hXBl := qt8.box.lt
  have hqi := qi8.tT
  have hcp := qt8.tq.cpd.1
  go_wp2_with fail
  refine (CK.out wB gB Lo XB jB hcp qt8.ap (by omega) qt8.tq.own qt8.jq.G).mono ?_
  rintro e w10 ⟨rfl, hTL⟩
  have hout := hTL.out
  have hs10 := hout.size
  have hbs : w.heap.size + 1 ≤ Lo := by rw [← hLo]; exact HZL.out
  have zb10 := zb8.outs hout hbs
  have qs10 := qs8.outs hout (by omega)
  have qi10 := qi8.outsHi hout (by omega) (by omega)
  obtain ⟨qk, hqk⟩ : ∃ q, qAt 1 jB n = q := ⟨_, rfl⟩
  have hqm0 : ¬ (qk : Int) < 0 := by omega
  rw [hqk]
  clear zb8 qs8 qt8 qi8 hTL hout u0 u1 hqk
  obtain ⟨u0, u1⟩ := qi10.two
  obtain ⟨v0, v1⟩ := qs10.two
  go_wp2_with fail
  (with_reducible refine (CE.out w10 BI BS _ _ _ _ jI jS qi10.q qs10.q qi10.len qs10.len).mono ?_)
  rintro e w11 ⟨rfl, b11⟩
  have zb11 := zb10.keep b11
  have qs11 := qs10.keep b11
  have qi11 := qi10.keep b11
  clear zb10 qs10 qi10 b11 u0 u1 v0 v1
  obtain ⟨u0, u1⟩ := qi11.two
  have hqI := CQ.out jI _ _ _ qi11.q
  have hIl := qi11.box.lt
  have hqi11 := qi11.tT
  go_wp2_with fail
  (with_reducible refine (markVA (T := TI) nx hmb hqI qi11.q qi11.len (by omega) qi11.ap).mono ?_)
  rintro e w11c ⟨rfl, mG, hout⟩
  have hs11c := hout.size
  have zb11c := zb11.outs hout (by omega)
  have qs11c := qs11.outs hout (by omega)
  have xI := qi11.box.outs hout (by omega)
  have cH : ∀ W : World, TI ≤ W.heap.size → TV W BI TI aI m eI jI → _ := fun W hT h => heldV nx hmb hqI qi11.len hT h
  obtain ⟨mm, hmm⟩ : ∃ q, qAt 1 jI m = q := ⟨_, rfl⟩
  rw [hmm] at cH ⊢
  have CH : Hid _ := cH
  clear zb11 qs11 qi11 hout u0 u1 cH hqI hmm
  have u0 := xI.cell 0
  have u1 := xI.cell 1
  simp at u0 u1
  go_wp2_with fail
  (with_reducible refine (CH.out w11c (by omega) mG).mono ?_)
  rintro e w12 ⟨rfl, b13⟩
  have zb12 := zb11c.keep b13
  have qs12 := qs11c.keep b13
  have mG12 := mG.keep (by omega) b13
  have xI12 := xI.keep b13
  have hs12 := b13.size
  have hmm0 : ¬ (mm : Int) < 0 := by omega
  have hmme : ((mm : Int) != (mm : Int)) = false := by simp
  have hmmf : ((mm : Int) == (mm : Int)) = true := by simp
  clear zb11c qs11c mG xI b13 u0 u1
  have t0 := zb12.t.cell 0
  have t1 := zb12.t.cell 1
  simp at t0 t1
  go_wp2_with fail
  (with_reducible refine (CA.out w12 zb12.below).mono ?_)
  rintro e w14 ⟨gD, jD, rfl, qD, _, b14⟩
  have zb14 := zb12.keep b14
  have qs14 := qs12.keep b14
  have mG14 := mG12.keep (by omega) b14
  have xI14 := xI12.keep b14
  have hs14 := b14.size
  clear zb12 qs12 mG12 xI12 b14 t0 t1
  go_wp2_with fail
  (with_reducible refine (CI.out w14 _ gD _ qD zb14.below).mono ?_)
  rintro e w15 ⟨aJ, eJ, jJ, rfl, gJ, b15⟩
  have hjJ := CJ.out _ _ _ _ gJ
  rw [hjJ] at gJ ⊢
  have b15' : Below w15.heap.size w15 (w15.alloc (.cells #[.slice aJ m eJ, .int .i64 nx] 26)) := (Below.refl _ w15).alloc (Nat.le_refl _) _
  have bb15 := below_tr b15 b15'
  have qj : QS (w15.alloc (.cells #[.slice aJ m eJ, .int .i64 nx] 26)) w15.heap.size w14.heap.size w15.heap.size (w15.heap.size + 1) aJ m eJ nx (ds.map lift) jJ := ⟨Blk.new w15 _ _, gJ.keep b15', hjJ, gJ.apV, by omega, by omega, by simp⟩
  have zb15 := zb14.keep bb15
  have qs15 := qs14.keep bb15
  have mG15 := mG14.keep (by omega) bb15
  have xI15 := xI14.keep bb15
  have hs15 := bb15.size
  clear zb14 qs14 mG14 xI14 b15 b15' bb15 gJ qD
  obtain ⟨u0, u1⟩ := qj.two
  obtain ⟨v0, v1⟩ := qs15.two
  go_wp2_with fail
  obtain ⟨W15, hW15⟩ : ∃ W, w15.alloc (.cells #[.slice aJ m eJ, .int .i64 nx] 26) = W := ⟨_, rfl⟩
  rw [hW15] at qj zb15 qs15 mG15 xI15 hs15 u0 u1 v0 v1 ⊢
  clear hW15
  (with_reducible refine (CE.out W15 _ BS _ _ _ _ jJ jS qj.q qs15.q qj.len qs15.len).mono ?_)
  rintro e w16 ⟨rfl, b16⟩
  have zb16 := zb15.keep b16
  have mG16 := mG15.keep (by omega) b16
  have xI16 := xI15.keep b16
  have hs16 := b16.size
  clear zb15 qs15 qj mG15 xI15 b16 u0 u1 v0 v1
  have u0 := xI16.cell 0
  have u1 := xI16.cell 1
  simp at u0 u1
  go_wp2_with fail
  (with_reducible refine (CH.out w16 (by omega) mG16).mono ?_)
  rintro e w17 ⟨rfl, b17⟩
  have zb17 := zb16.keep b17
  have HEND : Hid _ := zb17.below
  clear zb16 mG16 xI16 b17 u0 u1 zb17
  go_wp2
  go_ret
  exact ⟨rfl, HEND.out⟩
end
end Go.Proofs.YtnfplimhhjpbkaaGreatDoor
