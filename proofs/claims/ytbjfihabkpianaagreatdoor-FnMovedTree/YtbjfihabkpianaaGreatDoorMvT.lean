/-
  Joined: Path, Eqs, Parent, InoOk, Rename6, UsageS, MovedM, WrapI, RenM, LinkT, RenI, ChgRename, RenT, UsageI, FnS, FnT, MovedW.
-/
import Derived.Test.YtbjfihabkpianaaGreatDoorJ00E
import Derived.Test.YtbjfihabkpianaaGreatDoorJ01E
import Derived.Test.YtbjfihabkpianaaGreatDoorJ02E
import Derived.Test.YtbjfihabkpianaaGreatDoorJ03E
import Derived.Test.YtbjfihabkpianaaGreatDoorJ04E
import Derived.Test.YtbjfihabkpianaaGreatDoorCopyIE
import Derived.Test.YtbjfihabkpianaaGreatDoorJ06E
import Derived.Test.YtbjfihabkpianaaGreatDoorJ07E
import Derived.Test.YtbjfihabkpianaaGreatDoorJ08E
import Derived.Test.YtbjfihabkpianaaGreatDoorEntsOkE
import Derived.Test.YtbjfihabkpianaaGreatDoorAttsOkE
import Derived.Test.YtbjfihabkpianaaGreatDoorAscIE
import Derived.Test.YtbjfihabkpianaaGreatDoorAscTE
import Derived.Test.YtbjfihabkpianaaGreatDoorInoOkE
import Derived.Test.YtbjfihabkpianaaGreatDoorAscAE
import Derived.Test.YtbjfihabkpianaaGreatDoorJ15E
import Derived.Test.YtbjfihabkpianaaGreatDoorTabOkSE
import Derived.Test.YtbjfihabkpianaaGreatDoorJ17E
import Derived.Test.YtbjfihabkpianaaGreatDoorNext7E
import Derived.Test.YtbjfihabkpianaaGreatDoorJ19E
import Derived.Test.YtbjfihabkpianaaGreatDoorTreeSE
import Derived.Test.YtbjfihabkpianaaGreatDoorJ21E
import Derived.Test.YtbjfihabkpianaaGreatDoorSetSE
import Derived.Test.YtbjfihabkpianaaGreatDoorJ23E
import Derived.Test.YtbjfihabkpianaaGreatDoorJ24E
import Derived.Test.YtbjfihabkpianaaGreatDoorJ25E
import Derived.Test.YtbjfihabkpianaaGreatDoorJ26E
import Derived.Test.YtbjfihabkpianaaGreatDoorJ27E
import Derived.Test.YtbjfihabkpianaaGreatDoorJ28E
import Derived.Test.YtbjfihabkpianaaGreatDoorSetIE
import Derived.Test.YtbjfihabkpianaaGreatDoorJ30E
import Derived.Test.YtbjfihabkpianaaGreatDoorJ31E
import Derived.Test.YtbjfihabkpianaaGreatDoorJ32E
import Derived.Test.YtbjfihabkpianaaGreatDoorDraw3E
import Derived.Test.YtbjfihabkpianaaGreatDoorJ34E
import Derived.Test.YtbjfihabkpianaaGreatDoorJ35E
import Derived.Test.YtbjfihabkpianaaGreatDoorJ36E
import Derived.Test.YtbjfihabkpianaaGreatDoorJ37E
import Derived.Test.YtbjfihabkpianaaGreatDoorGrownWE
import Derived.Test.YtbjfihabkpianaaGreatDoorJ40E
import Derived.WalkKit
import Derived.WalkSpells
import Derived.WalkLawsBesides
import Derived.Deep.QuietTactic
import Derived.BigQuiet
import Derived.OpenShut
import Derived.Laws.BitsAllLaws
import Derived.Maps.AppendAt
import Derived.Lib.SliceRun
import Derived.Lib.Strings
import Derived.Deep.RegionWith
import Derived.Laws.IdiomStrings
import Derived.Lib.Slices
import Derived.Lib.Walk
import Derived.Lib.Bytealg
import Derived.Lib.IndexLaws
import Derived.Lib.BufferWrite
import Derived.Lib.UnsafeStr
import Derived.Laws.MakeOwn
import Derived.Laws.Strings3
import Derived.RangeFuncBox
import Derived.RangeFuncNested
import Derived.RangeFuncBound
import Derived.RangeFuncCalls
import Derived.RangeFuncLeaves
import Derived.Shelf.Abstract
import Derived.Shelf.RegionOpen
import Derived.OwnWalkIn
import Derived.TacticsInMore
import Derived.LoopNIn
import Derived.LoopIn
import Derived.Deep.Slices
import Derived.ProofKit
import Derived.ChangeOld
import Derived.Below
import Derived.Deep.DeepCutAuto
import Derived.Lib.AppendStr
import Derived.Lib.ConvBytes
import Derived.Deep.RegionHeld3
import Derived.Deep.AppendLies
import Derived.Deep.AppendSrc
import Derived.Maps.OwnSet
import Derived.Maps.OwnOps
import Derived.Deep.RegionLaw
import Derived.Deep.CutBlock
import Derived.OwnWalk
import Derived.Deep.DeepAppendRoom
import Derived.KernelRfl
import Derived.Laws.BitsLemmas
import Derived.Laws.StructEq
import Derived.Laws.BytesString
import Derived.LaidEql
import Derived.Stop.Asserts
import Derived.RowKitTokens
import Derived.Shelf.SlGeneric
import Derived.Shelf.SlIterI.Nil
import Derived.Shelf.SortM.Plain
import Derived.Shelf.SortM.SortNone
import Derived.Ground.GgzProg
import Derived.Ground.SlgmProg
import Derived.Lib.AppendZerosOnto
import Derived.Laws.CopyRow
import Derived.Lib.Overlaps
import Derived.Deep.OwnRows
import Derived.Lib.SlBytesConst
namespace Go.Proofs.YtbjfihabkpianaaGreatDoor
section
/-- A path is below another: its names begin with those. -/
def belowOf (a b : Str) : Bool := match splitOf a, splitOf b with
  | some x, some y => decide (x.length ≤ y.length) && decide (y.take x.length = x)
  | _, _ => false
end

section
open Go.RowKit
theorem drew_drew (w : World) (d n : Nat) : (w.drewN d).drewN n = w.drewN (d + n) := by simp [World.drewN, Nat.add_assoc]
theorem list_ne {zs ys : List ByteArray} {k : Nat} (h : zs.getD k ⟨#[]⟩ ≠ ys.getD k ⟨#[]⟩) : zs ≠ ys := by
  rintro rfl; exact h rfl
theorem take_step {zs ys : List ByteArray} {k : Nat} (h1 : k < zs.length) (h2 : k < ys.length) (h : zs.getD k ⟨#[]⟩ = ys.getD k ⟨#[]⟩) (ht : zs.take k = ys.take k) : zs.take (k + 1) = ys.take (k + 1) := by
  rw [List.take_succ_eq_append_getElem h1, List.take_succ_eq_append_getElem h2, ht]
  have e1 : zs.getD k ⟨#[]⟩ = zs[k] := by simp [h1]
  have e2 : ys.getD k ⟨#[]⟩ = ys[k] := by simp [h2]
  rw [← e1, ← e2, h]
set_option maxHeartbeats 800000 in
theorem equal_any (a a' : Option Addr) (n cap cap' : Nat) (zs ys : List ByteArray) (w : World) (hn : zs.length = n) (hm : ys.length = n) (hs : n ≤ 4000000) (hr : RdS w a zs) (hr' : RdS w a' ys) :
    Calls Tryz.prog 255 #[.slice a n cap, .slice a' n cap'] w fun e w' => e = .returned (.bool (decide (zs = ys))) ∧ ∃ d, w' = w.drewN d := by
  by_cases h0 : n = 0
  · subst h0
    obtain rfl : zs = [] := List.length_eq_zero_iff.1 hn
    obtain rfl : ys = [] := List.length_eq_zero_iff.1 hm
    go_enter Tryz.func255, Tryz.ntmps255
    go_wp2
    refine wp_loop_rounds 1 ?_; rw [rounds_succ]
    go_wp2
    go_ret
    exact ⟨rfl, 0, rfl⟩
  · obtain ⟨b, off, rfl, hlt, hc⟩ := hr.lt (by intro h; subst h; simp at hn; omega)
    obtain ⟨b', off', rfl, hlt', hc'⟩ := hr'.lt (by intro h; subst h; simp at hm; omega)
    clear hr hr'
    have hn' : Hid (zs.length = n) := hn
    have hm' : Hid (ys.length = n) := hm
    clear hn hm
    go_enter Tryz.func255, Tryz.ntmps255
    go_wp2
    go_loopw [13] (fun i wr => ∃ k d : Nat, k ≤ n ∧ i = .int .i64 k ∧ wr = w.drewN d ∧ Hid (zs.take k = ys.take k)) (fun i _ => n - (intOf i).toNat)
    case atStart => exact ⟨0, 0, Nat.zero_le _, rfl, rfl, rfl⟩
    case round =>
      obtain ⟨k, d, hk, rfl, rfl, ht⟩ := hrel
      by_cases hkn : k < n
      · have hcx := hc k (by rw [hn'.out]; exact hkn)
        have hcy := hc' k (by rw [hm'.out]; exact hkn)
        have hst := take_step (zs := zs) (ys := ys) (k := k) (by rw [hn'.out]; exact hkn) (by rw [hm'.out]; exact hkn)
        have hno := list_ne (zs := zs) (ys := ys) (k := k)
        obtain ⟨z, hz⟩ : ∃ z, zs.getD k ⟨#[]⟩ = z := ⟨_, rfl⟩
        obtain ⟨y, hy⟩ : ∃ y, ys.getD k ⟨#[]⟩ = y := ⟨_, rfl⟩
        rw [hz] at hcx hst hno
        rw [hy] at hcy hst hno
        clear hz hy
        have hki : (k : Int) < (n : Int) := by omega
        by_cases hzy : z = y
        · have hst' : Hid (zs.take (k + 1) = ys.take (k + 1)) := hst hzy ht.out
          subst hzy
          clear hst hno ht
          go_wp2
          go_quiet (fail)
          go_wp2
          go_roundw
          case rel => exact ⟨k + 1, d + nq, by omega, by go_num, rfl, hst'⟩
          case measure => simp [intOf]; omega
        · have hno' : Hid (decide (zs = ys) = false) := decide_eq_false (hno hzy)
          have hb := str_ne hzy
          clear hst hno ht
          go_wp2
          go_quiet (fail)
          go_wp2
          go_ret
          exact ⟨ret_bool hno'.out.symm, d + nq, drew_drew w d nq⟩
      · have hyes : Hid (decide (zs = ys) = true) := decide_eq_true (by
          have h := ht.out
          rw [List.take_of_length_le (by rw [hn'.out]; omega), List.take_of_length_le (by rw [hm'.out]; omega)] at h
          exact h)
        go_wp2
        go_ret
        exact ⟨ret_bool hyes.out.symm, d, rfl⟩
end

section
open Go.RowKit
theorem be_left {a b : Str} (h : splitOf a = none) : belowOf a b = false := by unfold belowOf; rw [h]
theorem be_right {a b : Str} (h : splitOf b = none) : belowOf a b = false := by
  unfold belowOf
  rw [h]
  cases splitOf a <;> rfl
theorem be_some {a b : Str} {xs ys : List ByteArray} (h : splitOf a = some (strs xs)) (h' : splitOf b = some (strs ys)) : belowOf a b = (decide (xs.length ≤ ys.length) && decide (xs = ys.take xs.length)) := by
  unfold belowOf
  rw [h, h']
  simp only [strs_length]
  congr 1
  rw [Bool.eq_iff_iff, decide_eq_true_eq, decide_eq_true_eq]
  constructor
  · intro e
    have e2 : strs (ys.take xs.length) = strs xs := by unfold strs; rw [List.map_take]; exact e
    exact (strs_inj e2).symm
  · intro e
    have e2 : strs (ys.take xs.length) = (strs ys).take xs.length := by unfold strs; rw [List.map_take]
    rw [← e2, ← e]
/-- What both Below functions answer. -/
def BePost (a b : ByteArray) (w : World) (e : Ending) (w' : World) : Prop := e = .returned (.bool (belowOf a.data.toList b.data.toList)) ∧ Below w.heap.size w w'
set_option maxHeartbeats 1000000 in
theorem belowI (a b : ByteArray) (w : World) (ha : a.size ≤ 4000000) (hb : b.size ≤ 4000000) : Calls Tryz.prog 214 #[.string a, .string b] w (BePost a b w) := by
  cases hsa : splitOf a.data.toList with
  | none =>
    have hno : Hid (belowOf a.data.toList b.data.toList = false) := be_left hsa
    have hsa' : Hid (splitOf a.data.toList = none) := hsa
    clear hsa
    go_enter Tryz.func214, Tryz.ntmps214
    go_wp2_with fail
    refine (splitI a w ha).mono ?_
    intro e w1 h1
    obtain ⟨hb1, a1, c1, rfl⟩ := h1.no hsa'.out
    clear h1
    go_wp2_with fail
    refine (splitI b w1 hb).mono ?_
    rintro e w2 ⟨hb2, (⟨_, a2, c2, rfl⟩ | ⟨ys, g2, c2, _, rfl, _, _⟩)⟩
    · go_wp2
      go_ret
      exact ⟨ret_bool hno.out.symm, hb1.trans (hb2.mono hb1.size)⟩
    · go_wp2
      go_ret
      exact ⟨ret_bool hno.out.symm, hb1.trans (hb2.mono hb1.size)⟩
  | some ps =>
    obtain ⟨xs, hxs, hx30⟩ := split_strs hsa
    have hsa' : Hid (splitOf a.data.toList = some (strs xs)) := hxs
    clear hsa
    obtain ⟨n, hn⟩ : ∃ n, xs.length = n := ⟨_, rfl⟩
    have hn' : Hid (xs.length = n) := hn
    cases hsb : splitOf b.data.toList with
    | none =>
      have hno : Hid (belowOf a.data.toList b.data.toList = false) := be_right hsb
      have hsb' : Hid (splitOf b.data.toList = none) := hsb
      clear hsb hxs hn hx30
      go_enter Tryz.func214, Tryz.ntmps214
      go_wp2_with fail
      refine (splitI a w ha).mono ?_
      intro e w1 h1
      obtain ⟨hb1, g1, c1, rfl, hg1, ho1⟩ := h1.yes hsa'.out
      clear h1
      rw [hn'.out] at ho1 ⊢
      go_wp2_with fail
      refine (splitI b w1 hb).mono ?_
      intro e w2 h2
      obtain ⟨hb2, a2, c2, rfl⟩ := h2.no hsb'.out
      clear h2
      go_wp2
      go_ret
      exact ⟨ret_bool hno.out.symm, hb1.trans (hb2.mono hb1.size)⟩
    | some qs =>
      obtain ⟨ys, hys, hy30⟩ := split_strs hsb
      have hsb' : Hid (splitOf b.data.toList = some (strs ys)) := hys
      clear hsb
      obtain ⟨m, hm⟩ : ∃ m, ys.length = m := ⟨_, rfl⟩
      have hm' : Hid (ys.length = m) := hm
      have hbe := be_some hxs hys
      rw [hn, hm] at hbe
      have hn30 : n ≤ 30 := by omega
      have hm30 : m ≤ 30 := by omega
      have hbe' : Hid (belowOf a.data.toList b.data.toList = (decide (n ≤ m) && decide (xs = ys.take n))) := hbe
      clear hxs hys hn hm hx30 hy30 hbe
      go_enter Tryz.func214, Tryz.ntmps214
      go_wp2_with fail
      refine (splitI a w ha).mono ?_
      intro e w1 h1
      obtain ⟨hb1, g1, c1, rfl, hg1, ho1⟩ := h1.yes hsa'.out
      clear h1
      rw [hn'.out] at ho1 ⊢
      go_wp2_with fail
      refine (splitI b w1 hb).mono ?_
      intro e w2 h2
      obtain ⟨hb2, g2, c2, rfl, hg2, ho2⟩ := h2.yes hsb'.out
      clear h2
      rw [hm'.out] at ho2 ⊢
      have B2 := hb1.trans (hb2.mono hb1.size)
      have ho12 := ho1.keep hb2
      have hcap := ho2.cap
      by_cases hnm : n ≤ m
      · have hnm' : (n : Int) ≤ (m : Int) := by omega
        have q1 : (0 : Int) ≤ (n : Int) := by omega
        have q2 : (n : Int) ≤ (c2 : Int) := by omega
        have hEq := equal_any (some ⟨g1, 0, none⟩) (some ⟨g2, 0, none⟩) n c1 c2 xs (ys.take n) w2 hn'.out (by simp [hm'.out]; omega) (by omega) ho12.rd (ho2.rd.take n)
        go_wp2_with fail
        refine hEq.mono ?_
        rintro e w3 ⟨rfl, d, rfl⟩
        clear hEq
        obtain ⟨B, hB⟩ : ∃ B, decide (xs = ys.take n) = B := ⟨_, rfl⟩
        have hB' : Hid (belowOf a.data.toList b.data.toList = B) := by show _ = _; rw [hbe'.out, hB, decide_eq_true hnm]; rfl
        rw [hB]
        clear hB
        go_wp2
        go_ret
        exact ⟨ret_bool hB'.out.symm, below_drewN B2 d⟩
      · have hnm' : ¬ (n : Int) ≤ (m : Int) := by omega
        have hno : Hid (belowOf a.data.toList b.data.toList = false) := by show _ = _; rw [hbe'.out, decide_eq_false hnm]; rfl
        go_wp2
        go_ret
        exact ⟨ret_bool hno.out.symm, B2⟩
end

section
open Go.RowKit
theorem drewN_below {w w' : World} {B : Nat} (h : ∃ d, w' = w.drewN d) : Below B w w' := by
  obtain ⟨d, rfl⟩ := h
  exact below_drewN (Below.refl _ _) d
end

section
open Go.RowKit
def renameD (nx : Int) (ds : List InoD) (s tp : ByteArray) : List InoD × Int :=
  if treeD nx ds = false ∨ (parentOf s.data.toList).2.2 = false ∨ (parentOf tp.data.toList).2.2 = false then (ds, 1)
  else if (walkP ds s).2 ≠ 0 then (ds, (walkP ds s).2)
  else if belowOf s.data.toList tp.data.toList = true then (ds, 6)
  else if (spotD ds tp (walkP ds (strB (parentOf s.data.toList).1)).1).2.2 ≠ 0 then (ds, (spotD ds tp (walkP ds (strB (parentOf s.data.toList).1)).1).2.2)
  else (setD (dropP ds s) { (statD (dropP ds s) (strB (parentOf tp.data.toList).1)).1 with ents := insBy (fun q => gtS (spotD ds tp (walkP ds (strB (parentOf s.data.toList).1)).1).2.1 q.1) (statD (dropP ds s) (strB (parentOf tp.data.toList).1)).1.ents ((spotD ds tp (walkP ds (strB (parentOf s.data.toList).1)).1).2.1, (walkP ds s).1) }, 0)
end

section
open Go.RowKit
def attU (l : List (ByteArray × ByteArray)) : Nat := (l.map fun e => e.1.size + e.2.size).sum
def restU (ds : List InoD) : Nat := (ds.map fun D => D.data.length + attU D.attrs).sum
/-- What a table uses. -/
def usageD (ds : List InoD) : Nat := ds.length * 32 + restU ds
theorem attU_snoc {l : List (ByteArray × ByteArray)} {k : Nat} {q : ByteArray × ByteArray} (h : l[k]? = some q) : attU (l.take (k + 1)) = attU (l.take k) + (q.1.size + q.2.size) := by
  unfold attU
  rw [List.take_add_one, h]
  simp
theorem restU_snoc {ds : List InoD} {k : Nat} {D : InoD} (h : ds[k]? = some D) : restU (ds.take (k + 1)) = restU (ds.take k) + (D.data.length + attU D.attrs) := by
  unfold restU
  rw [List.take_add_one, h]
  simp
end

section
open Go.RowKit
/-- The path to which it is moved, and what is within. -/
def mP (k : Nat) : ByteArray := ⟨#[47, 109, UInt8.ofNat (97 + k)]⟩
def mO (k : Nat) : ByteArray := ⟨#[47, 109, UInt8.ofNat (97 + k), 47, 111, 110, 101]⟩
def nM (k : Nat) : ByteArray := ⟨#[109, UInt8.ofNat (97 + k)]⟩
def pSub : ByteArray := ⟨#[47, 100, 105, 114, 47, 115, 117, 98]⟩
/-- The table behind it. -/
def mX (k : Nat) (K L M : List Int) : List InoD := [⟨1, 2, 0, [], [(nM k, 2), (nTop, 5)], []⟩, ⟨2, 2, 1, [], [(nOne, 3), (nTwo, 4)], []⟩, ⟨3, 1, 1, K, [], []⟩, ⟨4, 1, 1, L, [], []⟩, ⟨5, 1, 1, M, [], []⟩]
theorem mP_eq {k : Nat} (hk : k < 26) : (⟨#[47, 109]⟩ : ByteArray) ++ str [97 + (k : Int)] = mP k := by
  have h : ∀ k : Fin 26, (⟨#[47, 109]⟩ : ByteArray) ++ str [97 + ((k : Nat) : Int)] = mP k := by decide
  exact h ⟨k, hk⟩
theorem mO_eq {k : Nat} (hk : k < 26) : mP k ++ (⟨#[47, 111, 110, 101]⟩ : ByteArray) = mO k := by
  have h : ∀ k : Fin 26, mP k ++ (⟨#[47, 111, 110, 101]⟩ : ByteArray) = mO k := by decide
  exact h ⟨k, hk⟩
/-- Rename of a tree. -/
def renE (ds : List InoD) (s tp : ByteArray) : List InoD × Int := (fun b => if b = false ∨ (parentOf s.data.toList).2.2 = false ∨ (parentOf tp.data.toList).2.2 = false then (ds, 1)
  else if (walkP ds s).2 ≠ 0 then (ds, (walkP ds s).2)
  else if belowOf s.data.toList tp.data.toList = true then (ds, 6)
  else if (spotD ds tp (walkP ds (strB (parentOf s.data.toList).1)).1).2.2 ≠ 0 then (ds, (spotD ds tp (walkP ds (strB (parentOf s.data.toList).1)).1).2.2)
  else (setD (dropP ds s) { (statD (dropP ds s) (strB (parentOf tp.data.toList).1)).1 with ents := insBy (fun q => gtS (spotD ds tp (walkP ds (strB (parentOf s.data.toList).1)).1).2.1 q.1) (statD (dropP ds s) (strB (parentOf tp.data.toList).1)).1.ents ((spotD ds tp (walkP ds (strB (parentOf s.data.toList).1)).1).2.1, (walkP ds s).1) }, 0)) true
theorem renE_eq {nx : Int} {ds : List InoD} {s tp : ByteArray} (ht : treeD nx ds = true) : renameD nx ds s tp = renE ds s tp := by
  unfold renameD renE
  rw [ht]
set_option maxRecDepth 100000 in
theorem mv_ren : ∀ k : Nat, k < 26 → ∀ K L M : List Int, renE (gX K L M) pDir (mP k) = (mX k K L M, 0)
  | 0, _ => fun _ _ _ => by kernel_rfl
  | 1, _ => fun _ _ _ => by kernel_rfl
  | 2, _ => fun _ _ _ => by kernel_rfl
  | 3, _ => fun _ _ _ => by kernel_rfl
  | 4, _ => fun _ _ _ => by kernel_rfl
  | 5, _ => fun _ _ _ => by kernel_rfl
  | 6, _ => fun _ _ _ => by kernel_rfl
  | 7, _ => fun _ _ _ => by kernel_rfl
  | 8, _ => fun _ _ _ => by kernel_rfl
  | 9, _ => fun _ _ _ => by kernel_rfl
  | 10, _ => fun _ _ _ => by kernel_rfl
  | 11, _ => fun _ _ _ => by kernel_rfl
  | 12, _ => fun _ _ _ => by kernel_rfl
  | 13, _ => fun _ _ _ => by kernel_rfl
  | 14, _ => fun _ _ _ => by kernel_rfl
  | 15, _ => fun _ _ _ => by kernel_rfl
  | 16, _ => fun _ _ _ => by kernel_rfl
  | 17, _ => fun _ _ _ => by kernel_rfl
  | 18, _ => fun _ _ _ => by kernel_rfl
  | 19, _ => fun _ _ _ => by kernel_rfl
  | 20, _ => fun _ _ _ => by kernel_rfl
  | 21, _ => fun _ _ _ => by kernel_rfl
  | 22, _ => fun _ _ _ => by kernel_rfl
  | 23, _ => fun _ _ _ => by kernel_rfl
  | 24, _ => fun _ _ _ => by kernel_rfl
  | 25, _ => fun _ _ _ => by kernel_rfl
  | _ + 26, h => absurd h (by omega)
set_option maxRecDepth 100000 in
theorem mv_stat : ∀ k : Nat, k < 26 → ∀ K L M : List Int, statD (mX k K L M) (mO k) = (⟨3, 1, 1, K, [], []⟩, 0)
  | 0, _ => fun _ _ _ => by kernel_rfl
  | 1, _ => fun _ _ _ => by kernel_rfl
  | 2, _ => fun _ _ _ => by kernel_rfl
  | 3, _ => fun _ _ _ => by kernel_rfl
  | 4, _ => fun _ _ _ => by kernel_rfl
  | 5, _ => fun _ _ _ => by kernel_rfl
  | 6, _ => fun _ _ _ => by kernel_rfl
  | 7, _ => fun _ _ _ => by kernel_rfl
  | 8, _ => fun _ _ _ => by kernel_rfl
  | 9, _ => fun _ _ _ => by kernel_rfl
  | 10, _ => fun _ _ _ => by kernel_rfl
  | 11, _ => fun _ _ _ => by kernel_rfl
  | 12, _ => fun _ _ _ => by kernel_rfl
  | 13, _ => fun _ _ _ => by kernel_rfl
  | 14, _ => fun _ _ _ => by kernel_rfl
  | 15, _ => fun _ _ _ => by kernel_rfl
  | 16, _ => fun _ _ _ => by kernel_rfl
  | 17, _ => fun _ _ _ => by kernel_rfl
  | 18, _ => fun _ _ _ => by kernel_rfl
  | 19, _ => fun _ _ _ => by kernel_rfl
  | 20, _ => fun _ _ _ => by kernel_rfl
  | 21, _ => fun _ _ _ => by kernel_rfl
  | 22, _ => fun _ _ _ => by kernel_rfl
  | 23, _ => fun _ _ _ => by kernel_rfl
  | 24, _ => fun _ _ _ => by kernel_rfl
  | 25, _ => fun _ _ _ => by kernel_rfl
  | _ + 26, h => absurd h (by omega)
set_option maxRecDepth 100000 in
theorem mv_gone : ∀ k : Nat, k < 26 → ∀ K L M : List Int, walkP (mX k K L M) pOne = (0, 2)
  | 0, _ => fun _ _ _ => by kernel_rfl
  | 1, _ => fun _ _ _ => by kernel_rfl
  | 2, _ => fun _ _ _ => by kernel_rfl
  | 3, _ => fun _ _ _ => by kernel_rfl
  | 4, _ => fun _ _ _ => by kernel_rfl
  | 5, _ => fun _ _ _ => by kernel_rfl
  | 6, _ => fun _ _ _ => by kernel_rfl
  | 7, _ => fun _ _ _ => by kernel_rfl
  | 8, _ => fun _ _ _ => by kernel_rfl
  | 9, _ => fun _ _ _ => by kernel_rfl
  | 10, _ => fun _ _ _ => by kernel_rfl
  | 11, _ => fun _ _ _ => by kernel_rfl
  | 12, _ => fun _ _ _ => by kernel_rfl
  | 13, _ => fun _ _ _ => by kernel_rfl
  | 14, _ => fun _ _ _ => by kernel_rfl
  | 15, _ => fun _ _ _ => by kernel_rfl
  | 16, _ => fun _ _ _ => by kernel_rfl
  | 17, _ => fun _ _ _ => by kernel_rfl
  | 18, _ => fun _ _ _ => by kernel_rfl
  | 19, _ => fun _ _ _ => by kernel_rfl
  | 20, _ => fun _ _ _ => by kernel_rfl
  | 21, _ => fun _ _ _ => by kernel_rfl
  | 22, _ => fun _ _ _ => by kernel_rfl
  | 23, _ => fun _ _ _ => by kernel_rfl
  | 24, _ => fun _ _ _ => by kernel_rfl
  | 25, _ => fun _ _ _ => by kernel_rfl
  | _ + 26, h => absurd h (by omega)
set_option maxRecDepth 100000 in
theorem mv_good : ((List.range 26).all fun k => goodB 6 (mX k [] [] [])) = true := by kernel_rfl
set_option maxRecDepth 100000 in
theorem mv_sub (K L M : List Int) : renE (gX K L M) pDir pSub = (gX K L M, 6) := by kernel_rfl
set_option maxRecDepth 100000 in
theorem mv_self (K L M : List Int) : renE (gX K L M) pDir pDir = (gX K L M, 6) := by kernel_rfl
set_option maxRecDepth 100000 in
theorem mv_one (K L M : List Int) : statD (gX K L M) pOne = (⟨3, 1, 1, K, [], []⟩, 0) := by kernel_rfl
theorem mX_sk (k : Nat) (K L M : List Int) : (mX k K L M).map sk = mX k [] [] [] := rfl
theorem mX_tree {k : Nat} (hk : k < 26) {K L M : List Int} (hK : K.length ≤ 100) (hL : L.length ≤ 100) (hM : M.length ≤ 100) : treeD 6 (mX k K L M) = true := by
  refine tree_sk (by rw [mX_sk]; exact (goodB_small (range_all mv_good hk)).2.2) ?_
  intro D hD
  simp only [mX, List.mem_cons, List.not_mem_nil, or_false] at hD
  rcases hD with rfl | rfl | rfl | rfl | rfl
  · exact ⟨by simp, .inr rfl⟩
  · exact ⟨by simp, .inr rfl⟩
  · exact ⟨hK, .inl rfl⟩
  · exact ⟨hL, .inl rfl⟩
  · exact ⟨hM, .inl rfl⟩
theorem mX_small {k : Nat} (hk : k < 26) {K L M : List Int} (hK : K.length ≤ 100) (hL : L.length ≤ 100) (hM : M.length ≤ 100) : ∀ D ∈ mX k K L M, InoSmall D := by
  have h0 := (goodB_small (range_all mv_good hk)).1
  intro D hD
  simp only [mX, List.mem_cons, List.not_mem_nil, or_false] at hD
  rcases hD with rfl | rfl | rfl | rfl | rfl
  · exact h0 _ (by simp [mX])
  · exact h0 _ (by simp [mX])
  · exact small_file hK
  · exact small_file hL
  · exact small_file hM
theorem mv_usage (k : Nat) (K L M : List Int) : usageD (mX k K L M) = usageD (gX K L M) := rfl
end

section
open Go.RowKit
set_option maxRecDepth 100000 in
set_option maxHeartbeats 4000000 in
theorem wrap_Rename (a : Option Addr) (n cap : Nat) (nx : Int) (s tt : ByteArray) (w : World) (N : Int) (D : List InoD) (C : Int)
    (hc : ∀ W : World, Below w.heap.size w W → Calls Tryz.prog 76 #[.agg #[.slice a n cap, .int .i64 nx], .int .i64 7, .agg #[.string s, .string tt, .int .i64 0, .slice none 0 0, .string ⟨#[]⟩, .string ⟨#[]⟩]] W fun e w' => TabC W N D C e w') :
    Calls Tryz.prog 49 #[.agg #[.slice a n cap, .int .i64 nx], .string s, .string tt] w fun e w' => TabC w N D C e w' := by
  have B0 : Below w.heap.size w ((w.alloc (.cells #[.slice a n cap, .int .i64 nx] 47)).alloc (.cells #[.slice none 0 0, .int .i64 0] 47)) := ((Below.refl _ w).alloc (Nat.le_refl _) _).alloc (by simp) _
  have zR := Blk.new (w.alloc (.cells #[.slice a n cap, .int .i64 nx] 47)) 47 #[.slice none 0 0, .int .i64 0]
  simp only [World.size_alloc] at zR
  go_enter Tryz.func49, Tryz.ntmps49
  go_wp2_with fail
  obtain ⟨W0, hW0⟩ : ∃ W, ((w.alloc (.cells #[.slice a n cap, .int .i64 nx] 47)).alloc (.cells #[.slice none 0 0, .int .i64 0] 47)) = W := ⟨_, rfl⟩
  rw [hW0] at B0 zR ⊢
  clear hW0
  (with_reducible refine (hc W0 B0).mono ?_)
  intro e w2 hp
  obtain ⟨ra, rn, rc, rfl, zz, hfin⟩ := tabC_box hp B0 (by omega) zR
  have HFIN : Hid (TabC w N D C (.returned (.tuple #[.agg #[.slice ra rn rc, .int .i64 N], .int .i64 C])) ((w2.setCell ⟨w.heap.size + 1, 0, none⟩ (.slice ra rn rc)).setCell ⟨w.heap.size + 1, 1, none⟩ (.int .i64 N))) := hfin
  have r0 := zz.cell 0
  have r1 := zz.cell 1
  have f0 := zz.frozen 0
  have f1 := zz.frozen 1
  simp at r0 r1
  have zf := blk2 zz (.slice ra rn rc) (.int .i64 N)
  have dd0 := zf.cell 0
  have dd1 := zf.cell 1
  simp at dd0 dd1
  clear hp hfin zf zz zR B0 hc
  go_wp2
  refine bodyPost_ret (v := .tuple #[.agg #[.slice ra rn rc, .int .i64 N], .int .i64 C]) (by simp [results, Tryz.f49, go_sem, dd0, dd1]) rfl ?_
  exact HFIN.out
end

section
open Go.RowKit
theorem entOf_mem {nm : ByteArray} : ∀ {es : List (ByteArray × Int)}, entOf nm es ≠ 0 → (nm, entOf nm es) ∈ es
  | [], h => absurd rfl h
  | q :: es, h => by
    unfold entOf at h ⊢
    by_cases hq : q.1 = nm
    · rw [if_pos hq]
      rw [← hq]
      exact List.mem_cons_self ..
    · rw [if_neg hq] at h ⊢
      exact List.mem_cons_of_mem _ (entOf_mem h)
theorem entOf_cut {nm z : ByteArray} (h : z ≠ nm) : ∀ (es : List (ByteArray × Int)), entOf z (cutE es nm) = entOf z es
  | [] => rfl
  | q :: es => by
    have ih := entOf_cut h es
    unfold cutE at ih ⊢
    by_cases hq : q.1 = nm
    · rw [List.filter_cons_of_neg (by simp [hq]), ih]
      conv => rhs; unfold entOf
      rw [if_neg (by rw [hq]; exact Ne.symm h)]
    · rw [List.filter_cons_of_pos (by simp [hq])]
      conv => lhs; unfold entOf
      conv => rhs; unfold entOf
      rw [ih]
theorem walkD_step {ds : List InoD} {x : Int} {D : InoD} {z : ByteArray} (l : List ByteArray) (hl : look ds x = some D) (hk : D.kind = 2) (he : entOf z D.ents ≠ 0) : walkD ds x (z :: l) = walkD ds (entOf z D.ents) l := by
  conv => lhs; unfold walkD
  rw [hl]
  dsimp only
  rw [if_pos hk, if_neg he]
theorem walkD_two (ds : List InoD) : ∀ (l m : List ByteArray) (x : Int), (walkD ds x l).2 = 0 → walkD ds x (l ++ m) = walkD ds (walkD ds x l).1 m
  | [], m, x, _ => rfl
  | z :: l, m, x, h => by
    have hD : ∃ D, look ds x = some D ∧ D.kind = 2 ∧ entOf z D.ents ≠ 0 := by
      unfold walkD at h
      cases hl : look ds x with
      | none => rw [hl] at h; simp at h
      | some D =>
        rw [hl] at h
        dsimp only at h
        by_cases hk : D.kind = 2
        · rw [if_pos hk] at h
          by_cases he : entOf z D.ents = 0
          · rw [if_pos he] at h
            simp at h
          · exact ⟨D, rfl, hk, he⟩
        · rw [if_neg hk] at h
          simp at h
    obtain ⟨D, hl, hk, he⟩ := hD
    rw [walkD_step l hl hk he] at h ⊢
    rw [List.cons_append, walkD_step (l ++ m) hl hk he]
    exact walkD_two ds l m _ h
theorem walkD_one {ds : List InoD} {u : Int} {D : InoD} {nm : ByteArray} (hl : look ds u = some D) (hk : D.kind = 2) (he : entOf nm D.ents ≠ 0) : walkD ds u [nm] = (entOf nm D.ents, 0) := by
  unfold walkD
  rw [hl]
  dsimp only
  rw [if_pos hk, if_neg he]
  rfl
theorem walkD_snoc {ds : List InoD} {l : List ByteArray} {nm : ByteArray} {x y : Int} (h : walkD ds x (l ++ [nm]) = (y, 0)) : ∃ u E, walkD ds x l = (u, 0) ∧ look ds u = some E ∧ E.kind = 2 ∧ entOf nm E.ents = y ∧ y ≠ 0 := by
  obtain ⟨h1, E, h2, h3⟩ := walkD_app (nm := nm) l x (by rw [h])
  refine ⟨(walkD ds x l).1, E, Prod.ext rfl h1, h2, h3, ?_⟩
  rw [walkD_two ds l [nm] x h1] at h
  unfold walkD at h
  rw [h2] at h
  dsimp only at h
  rw [if_pos h3] at h
  by_cases he : entOf nm E.ents = 0
  · rw [if_pos he] at h
    simp at h
  · rw [if_neg he] at h
    unfold walkD at h
    have := congrArg Prod.fst h
    dsimp only at this
    exact ⟨this, by rw [← this]; exact he⟩
theorem sum_two {α : Type} (f : α → Nat) {a b : α} (hab : a ≠ b) : ∀ (l : List α), a ∈ l → b ∈ l → f a + f b ≤ (l.map f).sum
  | [], h, _ => by cases h
  | x :: l, ha, hb => by
    rw [List.map_cons, List.sum_cons]
    have one : ∀ (c : α) (m : List α), c ∈ m → f c ≤ (m.map f).sum := by
      intro c m
      induction m with
      | nil => intro h; cases h
      | cons y m ih =>
        intro h
        rw [List.map_cons, List.sum_cons]
        rcases List.mem_cons.1 h with rfl | h
        · omega
        · have := ih h
          omega
    rcases List.mem_cons.1 ha with ha' | ha'
    · rcases List.mem_cons.1 hb with hb' | hb'
      · exact absurd (ha'.trans hb'.symm) hab
      · have := one b l hb'
        rw [ha']
        omega
    · rcases List.mem_cons.1 hb with hb' | hb'
      · have := one a l ha'
        rw [hb']
        omega
      · have := sum_two f hab l ha' hb'
        omega
theorem sum_one {α : Type} (f : α → Nat) {a : α} : ∀ (l : List α), a ∈ l → f a ≤ (l.map f).sum
  | [], h => by cases h
  | x :: l, h => by
    rw [List.map_cons, List.sum_cons]
    rcases List.mem_cons.1 h with rfl | h
    · omega
    · have := sum_one f l h
      omega
theorem two_one {α : Type} {l : List α} (h : l.length ≤ 1) {a b : α} (ha : a ∈ l) (hb : b ∈ l) : a = b := by
  match l, h, ha, hb with
  | [x], _, ha, hb => rw [List.mem_singleton.1 ha, List.mem_singleton.1 hb]
theorem lead_in {D : InoD} {x : Int} {nm : ByteArray} (hk : D.kind = 2) (h : (nm, x) ∈ D.ents) : 1 ≤ linksIn D x := by
  unfold linksIn
  rw [if_pos hk]
  have : (nm, x) ∈ D.ents.filter fun e => e.2 == x := List.mem_filter.2 ⟨h, by simp⟩
  exact List.length_pos_of_mem this
/-- What one entry alone leads to. -/
theorem lead_one {ds : List InoD} {x : Int} (h : linksD ds x ≤ 1) {D E : InoD} (hD : D ∈ ds) (hE : E ∈ ds) (hDk : D.kind = 2) (hEk : E.kind = 2) {a b : ByteArray} (ha : (a, x) ∈ D.ents) (hb : (b, x) ∈ E.ents) : D = E ∧ a = b := by
  have h1 := lead_in hDk ha
  have h2 := lead_in hEk hb
  unfold linksD at h
  by_cases hDE : D = E
  · subst hDE
    refine ⟨rfl, ?_⟩
    have h3 : linksIn D x ≤ 1 := Nat.le_trans (sum_one (fun D => linksIn D x) ds hD) h
    unfold linksIn at h3
    rw [if_pos hDk] at h3
    have := two_one h3 (List.mem_filter.2 ⟨ha, by simp⟩) (List.mem_filter.2 ⟨hb, by simp⟩)
    exact congrArg Prod.fst this
  · have h3 := sum_two (fun D => linksIn D x) hDE ds hD hE
    omega
theorem tree_links {nx : Int} {ds : List InoD} (h : treeD nx ds = true) {D : InoD} (hD : D ∈ ds) (hk : D.kind = 2) : linksD ds D.ino ≤ 1 ∧ (D.ino = 1 → linksD ds D.ino = 0) := by
  have h1 := ((treeD_parts h).2.2 D hD).1
  have h2 := ((tabD_ok (treeD_parts h).1).2.2.2.2.1 D hD).1
  unfold inoOk kindR at h2
  simp only [Bool.and_eq_true, Bool.or_eq_true, decide_eq_true_eq, beq_iff_eq] at h2
  obtain ⟨⟨⟨⟨⟨⟨_, h3⟩, h4⟩, _⟩, _⟩, _⟩, h5⟩ := h2
  refine ⟨?_, fun h6 => ?_⟩
  · rcases h5 with h5 | h5
    · omega
    · have := h5.2.2
      omega
  · rw [h6] at h4 h1 ⊢
    have : D.links = 0 := by simpa using h4
    omega
/-- One path alone leads to a directory. -/
theorem path_one {nx : Int} {ds : List InoD} (ht : treeD nx ds = true) : ∀ (k : Nat) (l m : List ByteArray) (x : Int) (D : InoD), l.length = k → walkD ds 1 l = (x, 0) → walkD ds 1 m = (x, 0) → look ds x = some D → D.kind = 2 → l = m := by
  intro k
  induction k with
  | zero =>
    intro l m x D hl h1 h2 h3 h4
    have hl0 : l = [] := List.eq_nil_of_length_eq_zero hl
    subst hl0
    rcases List.eq_nil_or_concat m with rfl | ⟨m', b, rfl⟩
    · rfl
    · rw [List.concat_eq_append] at h2
      obtain ⟨u, E, _, e2, e3, e4, e5⟩ := walkD_snoc h2
      have hx : x = 1 := (congrArg Prod.fst h1).symm
      subst hx
      have hi := (look_mem h3).2
      have h5 := (tree_links ht (look_mem h3).1 h4).2 hi
      have h6 := lead_in e3 (entOf_mem (by rw [e4]; exact e5))
      rw [e4] at h6
      have h7 := sum_one (fun D => linksIn D 1) ds (look_mem e2).1
      unfold linksD at h5
      rw [hi] at h5
      omega
  | succ k ih =>
    intro l m x D hl h1 h2 h3 h4
    rcases List.eq_nil_or_concat l with rfl | ⟨l', a, rfl⟩
    · simp at hl
    rw [List.concat_eq_append] at h1 hl ⊢
    obtain ⟨u, E, d1, d2, d3, d4, d5⟩ := walkD_snoc h1
    have ha := entOf_mem (nm := a) (es := E.ents) (by rw [d4]; exact d5)
    rw [d4] at ha
    have hi := (look_mem h3).2
    have hlk := tree_links ht (look_mem h3).1 h4
    rw [hi] at hlk
    rcases List.eq_nil_or_concat m with rfl | ⟨m', b, rfl⟩
    · exfalso
      have hx : x = 1 := (congrArg Prod.fst h2).symm
      subst hx
      have h5 := hlk.2 rfl
      have h6 := lead_in d3 ha
      have h7 := sum_one (fun D => linksIn D 1) ds (look_mem d2).1
      unfold linksD at h5
      omega
    · rw [List.concat_eq_append] at h2 ⊢
      obtain ⟨v, F, e1, e2, e3, e4, e5⟩ := walkD_snoc h2
      have hb := entOf_mem (nm := b) (es := F.ents) (by rw [e4]; exact e5)
      rw [e4] at hb
      obtain ⟨hEF, hab⟩ := lead_one hlk.1 (look_mem d2).1 (look_mem e2).1 d3 e3 ha hb
      subst hEF
      subst hab
      have huv : u = v := by rw [← (look_mem d2).2, ← (look_mem e2).2]
      subst huv
      rw [ih l' m' u E (by simp at hl; exact hl) d1 e1 d2 d3]
/-- A walk that does not pass the entry that is cut. -/
theorem walk_cut {nx : Int} {ds : List InoD} (ht : treeD nx ds = true) {pl : List ByteArray} {nm : ByteArray} {E : InoD} (hp : walkD ds 1 pl = (E.ino, 0)) (hE : look ds E.ino = some E) (hk : E.kind = 2) : ∀ (suf pre : List ByteArray) (x : Int), walkD ds 1 pre = (x, 0) → ¬ (pl ++ [nm]) <+: (pre ++ suf) → walkD (setD ds { E with ents := cutE E.ents nm }) x suf = walkD ds x suf
  | [], _, _, _, _ => rfl
  | z :: suf, pre, x, h, hn => by
    unfold walkD
    rw [look_setD]
    dsimp only
    by_cases hx : x = E.ino
    · rw [if_pos hx, hx, hE]
      dsimp only
      rw [if_pos hk, if_pos hk]
      have hz : z ≠ nm := fun hz => by
        rw [hx] at h
        have := path_one ht _ pl pre E.ino E rfl hp h hE hk
        subst this
        subst hz
        exact hn ⟨suf, by simp⟩
      rw [entOf_cut hz]
      by_cases h0 : entOf z E.ents = 0
      · rw [if_pos h0, if_pos h0]
      · rw [if_neg h0, if_neg h0]
        refine walk_cut ht hp hE hk suf (pre ++ [z]) _ ?_ (by rw [List.append_assoc]; exact hn)
        rw [walkD_two ds pre [z] 1 (by rw [h]), h]
        dsimp only
        rw [hx]
        exact walkD_one hE hk h0
    · rw [if_neg hx]
      cases hl : look ds x with
      | none => rfl
      | some D =>
        dsimp only
        by_cases hk2 : D.kind = 2
        · rw [if_pos hk2, if_pos hk2]
          by_cases h0 : entOf z D.ents = 0
          · rw [if_pos h0, if_pos h0]
          · rw [if_neg h0, if_neg h0]
            refine walk_cut ht hp hE hk suf (pre ++ [z]) _ ?_ (by rw [List.append_assoc]; exact hn)
            rw [walkD_two ds pre [z] 1 (by rw [h]), h]
            exact walkD_one hl hk2 h0
        · rw [if_neg hk2, if_neg hk2]
theorem strs_map (zs : List Str) : strs (zs.map strB) = zs := by
  unfold strs
  rw [List.map_map]
  conv => rhs; rw [← List.map_id zs]
  refine List.map_congr_left fun z _ => ?_
  simp [strB]
/-- What a path that has a parent is. -/
theorem path_parts {s : ByteArray} (h : (parentOf s.data.toList).2.2 = true) : ∃ zs : List Str, splitOf s.data.toList = some zs ∧ zs ≠ [] ∧ (parentOf s.data.toList).1 = joinOf zs.dropLast ∧ (parentOf s.data.toList).2.1 = zs.getLastD [] ∧ splitOf (joinOf zs.dropLast) = some zs.dropLast := by
  cases hs : splitOf s.data.toList with
  | none => unfold parentOf at h; rw [hs] at h; simp at h
  | some zs =>
    have hne : zs ≠ [] := by
      rintro rfl
      unfold parentOf at h
      rw [hs] at h
      simp at h
    have hpa : parentOf s.data.toList = (joinOf zs.dropLast, zs.getLastD [], true) := by
      unfold parentOf
      rw [hs]
      dsimp only
      rw [if_neg hne]
    rw [hpa]
    exact ⟨zs, rfl, hne, rfl, rfl, split_parent hs hne⟩
theorem walkP_of {ds : List InoD} {l : Str} {zs : List Str} (h : splitOf l = some zs) : walkP ds (strB l) = walkD ds 1 (zs.map strB) := by
  unfold walkP
  rw [show (strB l).data.toList = l from by simp [strB], h]
theorem stat_look {ds : List InoD} {s : ByteArray} {D : InoD} (h : statD ds s = (D, 0)) (hs : ∀ E ∈ ds, look ds E.ino = some E) : walkP ds s = (D.ino, 0) ∧ look ds D.ino = some D := by
  have hw := stat_walk (ds := ds) (s := s) (by rw [h])
  unfold statD at h
  rw [if_pos hw] at h
  cases hl : look ds (walkP ds s).1 with
  | none => rw [hl] at h; simp at h
  | some E =>
    rw [hl] at h
    dsimp only at h
    have he : E = D := congrArg Prod.fst h
    subst he
    have h2 := look_mem hl
    exact ⟨Prod.ext h2.2.symm hw, hs E h2.1⟩
/-- Behind an entry that was cut, the directory of a path that is not below it. -/
theorem stat_cut {nx : Int} {ds : List InoD} {s tp : ByteArray} {D : InoD} (ht : treeD nx ds = true) (hw : (walkP ds s).2 = 0) (hp : (parentOf s.data.toList).2.2 = true) (hq : (parentOf tp.data.toList).2.2 = true) (hb : belowOf s.data.toList tp.data.toList = false) (hD : statD ds (strB (parentOf tp.data.toList).1) = (D, 0)) :
    statD (dropP ds s) (strB (parentOf tp.data.toList).1) = (if D.ino = (statD ds (strB (parentOf s.data.toList).1)).1.ino then { D with ents := cutE D.ents (strB (parentOf s.data.toList).2.1) } else D, 0) := by
  have hself := look_self (treeD_parts ht).1
  obtain ⟨E, hE, hEk⟩ := parent_stat hw hp
  obtain ⟨e1, e2⟩ := stat_look hE hself
  obtain ⟨d1, d2⟩ := stat_look hD hself
  obtain ⟨zs, p1, p2, p3, p4, p5⟩ := path_parts hp
  obtain ⟨ys, q1, q2, q3, q4, q5⟩ := path_parts hq
  unfold dropP
  rw [hE]
  dsimp only
  rw [p3, walkP_of p5] at e1
  rw [q3, walkP_of q5] at d1
  rw [p4, q3]
  have hn : ¬ (zs.dropLast.map strB ++ [strB (zs.getLastD [])]) <+: ([] ++ ys.dropLast.map strB) := by
    rintro ⟨t, h⟩
    rw [List.nil_append] at h
    have h1 : strs (zs.dropLast.map strB ++ [strB (zs.getLastD [])] ++ t) = ys.dropLast := by rw [h, strs_map]
    have h2 : zs = zs.dropLast ++ [zs.getLastD []] := by
      conv => lhs; rw [← List.dropLast_concat_getLast p2]
      rw [List.getLastD_eq_getLast?, List.getLast?_eq_some_getLast p2]
      rfl
    have h3 : strs (zs.dropLast.map strB ++ [strB (zs.getLastD [])] ++ t) = zs ++ strs t := by
      unfold strs
      rw [List.map_append]
      congr 1
      have := strs_map (zs.dropLast ++ [zs.getLastD []])
      rw [List.map_append, List.map_cons, List.map_nil] at this
      unfold strs at this
      rw [this]
      exact h2.symm
    rw [h3] at h1
    have h4 : zs <+: ys := List.IsPrefix.trans (⟨strs t, h1⟩ : zs <+: ys.dropLast) (List.dropLast_prefix ys)
    unfold belowOf at hb
    rw [p1, q1] at hb
    dsimp only at hb
    have h5 := List.prefix_iff_eq_take.1 h4
    rw [← h5] at hb
    simp [h4.length_le] at hb
  have hc := walk_cut ht (nm := strB (zs.getLastD [])) e1 e2 hEk (ys.dropLast.map strB) [] 1 rfl hn
  unfold statD
  rw [walkP_of q5, hc, d1]
  dsimp only
  rw [if_pos rfl, look_setD]
  dsimp only
  by_cases hx : D.ino = E.ino
  · rw [if_pos hx, if_pos hx]
    rw [hx, e2] at d2
    cases d2
    rfl
  · rw [if_neg hx, if_neg hx, d2]
/-- Two paths have one directory above them just if the paths of these are one. -/
theorem same_above {nx : Int} {ds : List InoD} {s tp : ByteArray} {D E : InoD} (ht : treeD nx ds = true) (hp : (parentOf s.data.toList).2.2 = true) (hq : (parentOf tp.data.toList).2.2 = true) (hE : statD ds (strB (parentOf s.data.toList).1) = (E, 0)) (hD : statD ds (strB (parentOf tp.data.toList).1) = (D, 0)) (hk : D.kind = 2) : strB (parentOf s.data.toList).1 = strB (parentOf tp.data.toList).1 ↔ D.ino = E.ino := by
  have hself := look_self (treeD_parts ht).1
  obtain ⟨e1, e2⟩ := stat_look hE hself
  obtain ⟨d1, d2⟩ := stat_look hD hself
  obtain ⟨zs, p1, p2, p3, p4, p5⟩ := path_parts hp
  obtain ⟨ys, q1, q2, q3, q4, q5⟩ := path_parts hq
  constructor
  · intro h
    rw [h, hD] at hE
    cases hE
    rfl
  · intro h
    rw [p3, walkP_of p5] at e1
    rw [q3, walkP_of q5] at d1
    rw [h] at d1 d2
    have h1 := path_one ht _ _ _ E.ino D rfl e1 d1 d2 hk
    have h2 : strs (zs.dropLast.map strB) = strs (ys.dropLast.map strB) := by rw [h1]
    rw [strs_map, strs_map] at h2
    rw [p3, q3, h2]
end

section
open Go.RowKit
theorem dirFor_in {ds : List InoD} {q : ByteArray} (h : (dirFor ds q).2 = 0) : (dirFor ds q).1 ∈ ds := by
  have hD := dirFor_ok (show dirFor ds q = ((dirFor ds q).1, 0) from Prod.ext rfl h)
  have := @badK_mem 1 ds (strB (parentOf q.data.toList).1)
  rw [hD.1] at this
  exact this rfl
end

section
open Go.RowKit
theorem strs_row2 {W : World} {g : Nat} {z y : ByteArray} (h : Blk W g 9 #[.string z, .string y]) : RdS W (some ⟨g, 0, none⟩) [z, y] := by
  refine .inr ⟨g, 0, rfl, fun i hi => ?_⟩
  rcases (show i = 0 ∨ i = 1 by simp at hi; omega) with rfl | rfl
  · exact h.cell 0
  · exact h.cell 1
def renC (ds : List InoD) (p q : ByteArray) : Int := if (notR p && notR q) = false then 1 else if (walkP ds p).2 ≠ 0 then (walkP ds p).2 else if belowOf p.data.toList q.data.toList = true then 6 else if (dirFor ds q).2 ≠ 0 then (dirFor ds q).2 else if strB (parentOf p.data.toList).1 ≠ strB (parentOf q.data.toList).1 ∧ 10 ≤ (dirFor ds q).1.ents.length then 5 else 0
def renT (ds : List InoD) (p q : ByteArray) (E F : InoD) : List InoD := setD (setD ds { E with ents := cutE E.ents (strB (parentOf p.data.toList).2.1) }) { F with ents := insBy (fun x => gtS (strB (parentOf q.data.toList).2.1) x.1) F.ents (strB (parentOf q.data.toList).2.1, (walkP ds p).1) }
set_option maxRecDepth 100000 in
set_option maxHeartbeats 4000000 in
theorem renM (a : Option Addr) (n cap : Nat) (nx : Int) (rs : List InoR) (p q : ByteArray) (k : Int) (da : Option Addr) (dn dc : Nat) (an av : ByteArray) (w : World) (ht : TR w a n rs) (htr : treeD nx (rs.map InoR.D) = true) (hs : p.size ≤ 1048576) (hs1 : q.size ≤ 1048576) (E F : InoD) (hEF : renC (rs.map InoR.D) p q = 0 → badK 1 (rs.map InoR.D) (strB (parentOf p.data.toList).1) = (E, 0) ∧ badK 1 (setD (rs.map InoR.D) { E with ents := cutE E.ents (strB (parentOf p.data.toList).2.1) }) (strB (parentOf q.data.toList).1) = (F, 0) ∧ (∀ e ∈ F.ents, (e.1.toList == (strB (parentOf q.data.toList).2.1).toList) = false) ∧ ∀ (i j : Nat) (hi : i < F.ents.length) (hj : j < F.ents.length), i ≤ j → Op.bytesLess F.ents[j].1.toList (strB (parentOf q.data.toList).2.1).toList = true → Op.bytesLess F.ents[i].1.toList (strB (parentOf q.data.toList).2.1).toList = true) :
    Calls Tryz.prog 161 #[.agg #[.slice a n cap, .int .i64 nx], .agg #[.string p, .string q, .int .i64 k, .slice da dn dc, .string an, .string av]] w fun e w' => EMeth w nx (renT (rs.map InoR.D) p q E F) (renC (rs.map InoR.D) p q) e w' := by
  have B0 : Below w.heap.size w (((w.alloc (.cells #[.slice a n cap, .int .i64 nx] 47)).alloc (.cells #[.string p, .string q, .int .i64 k, .slice da dn dc, .string an, .string av] 108)).alloc (.cells #[.slice none 0 0, .int .i64 0] 47)) := (((Below.refl _ w).alloc (Nat.le_refl _) _).alloc (by simp) _).alloc (by simp; omega) _
  have zT := ((Blk.new w 47 #[.slice a n cap, .int .i64 nx]).alloc (.cells #[.string p, .string q, .int .i64 k, .slice da dn dc, .string an, .string av] 108)).alloc (.cells #[.slice none 0 0, .int .i64 0] 47)
  have zC := (Blk.new (w.alloc (.cells #[.slice a n cap, .int .i64 nx] 47)) 108 #[.string p, .string q, .int .i64 k, .slice da dn dc, .string an, .string av]).alloc (.cells #[.slice none 0 0, .int .i64 0] 47)
  have zR := Blk.new ((w.alloc (.cells #[.slice a n cap, .int .i64 nx] 47)).alloc (.cells #[.string p, .string q, .int .i64 k, .slice da dn dc, .string an, .string av] 108)) 47 #[.slice none 0 0, .int .i64 0]
  simp only [World.size_alloc] at zC zR
  have bN : Below w.heap.size w ((((w.alloc (.cells #[.slice a n cap, .int .i64 nx] 47)).alloc (.cells #[.string p, .string q, .int .i64 k, .slice da dn dc, .string an, .string av] 108)).alloc (.cells #[.slice none 0 0, .int .i64 0] 47)).alloc (.cells #[.string p, .string q] 9)) := B0.alloc B0.size _
  have zN := Blk.new (((w.alloc (.cells #[.slice a n cap, .int .i64 nx] 47)).alloc (.cells #[.string p, .string q, .int .i64 k, .slice da dn dc, .string an, .string av] 108)).alloc (.cells #[.slice none 0 0, .int .i64 0] 47)) 9 #[.string p, .string q]
  simp only [World.size_alloc] at zN
  have zTn := zT.alloc (.cells #[.string p, .string q] 9)
  have zCn := zC.alloc (.cells #[.string p, .string q] 9)
  have zRn := zR.alloc (.cells #[.string p, .string q] 9)
  have c0 := zC.cell 0
  have c1 := zC.cell 1
  simp at c0 c1
  obtain ⟨hK, hwf, hwe⟩ := tree_facts htr
  obtain ⟨f4, f5, f6⟩ := tree_more htr
  have hpsp := parent_size p
  have hpsq := parent_size q
  have hnz : (strB (parentOf q.data.toList).2.1).size ≤ 1048576 := by have := (parent_small q.data.toList).2; rw [strB_size]; omega
  have hcF := fun (W : World) (hW : Below w.heap.size w W) => walkI a n cap nx rs p W (ht.keep hW) hK hwf hwe (by omega)
  have hcE := fun (W : World) (hW : Below w.heap.size w W) => dirForI a n cap nx rs q W (ht.keep hW) hK hwf hwe (by omega)
  have hcO := fun (W : World) (hW : Below w.heap.size w W) (D : InoD) (hD : badK 1 (rs.map InoR.D) (strB (parentOf p.data.toList).1) = (D, 0)) => withoutI a n cap nx rs p W (ht.keep hW) hK hwf hwe (fun r hr => f4 r.D (List.mem_map_of_mem hr)) (by omega) (by omega) D hD
  have hlen : (rs.map InoR.D).length = n := by rw [List.length_map, ht.len]
  have HTR : Hid _ := htr
  obtain ⟨ds, hds⟩ : ∃ ds, rs.map InoR.D = ds := ⟨_, rfl⟩
  rw [hds] at hcF hcE hcO HTR f4 f5 f6 hlen hEF ⊢
  have HDS : Hid _ := hds
  have HT : Hid _ := ht
  have HKK : Hid (∀ D ∈ ds, D.kind = 1 ∨ D.kind = 2) := fun D hD => by rw [← hds] at hD; obtain ⟨r, hr, rfl⟩ := List.mem_map.1 hD; exact hK r hr
  have HWF : Hid (∀ D ∈ ds, (Lit.int .i64 D.ino).wf = true) := fun D hD => by rw [← hds] at hD; obtain ⟨r, hr, rfl⟩ := List.mem_map.1 hD; exact hwf r hr
  have HWE : Hid (∀ D ∈ ds, ∀ e ∈ D.ents, (Lit.int .i64 e.2).wf = true) := fun D hD => by rw [← hds] at hD; obtain ⟨r, hr, rfl⟩ := List.mem_map.1 hD; exact hwe r hr
  have HSM : Hid (∀ D ∈ ds, InoSmall D) := fun D hD => by rw [← hds] at hD; obtain ⟨r, hr, rfl⟩ := List.mem_map.1 hD; exact ht.small r hr
  obtain ⟨CO, hCO⟩ : ∃ c, renC ds p q = c := ⟨_, rfl⟩
  obtain ⟨TT, hTT⟩ : ∃ c, renT ds p q E F = c := ⟨_, rfl⟩
  rw [hCO] at hEF
  rw [hCO, hTT]
  unfold renC at hCO
  unfold renT at hTT
  obtain ⟨x, c, hDc⟩ : ∃ D c, walkP ds p = (D, c) := ⟨_, _, rfl⟩
  obtain ⟨G, c2, hEc⟩ : ∃ D c, dirFor ds q = (D, c) := ⟨_, _, rfl⟩
  obtain ⟨bl, hbl⟩ : ∃ b, belowOf p.data.toList q.data.toList = b := ⟨_, rfl⟩
  rw [hDc] at hcF hCO hTT
  rw [hEc] at hcE hCO
  rw [hbl] at hCO
  dsimp only at hcF hcE hCO hTT
  have HTT : Hid _ := hTT
  have HEF : Hid _ := hEF
  have HF4 : Hid _ := f4
  have HF6 : Hid _ := f6
  have HLL : Hid _ := hlen
  have HCE : Hid _ := hcE
  have HCO' : Hid _ := hcO
  have hcP := fun W => parentI p W (by omega)
  have hcQ := fun W => parentI q W (by omega)
  have hcB := fun W => belowI p q W (by omega) (by omega)
  unfold PaPost at hcP hcQ
  unfold BePost at hcB
  rw [hbl] at hcB
  have HCP : Hid _ := hcP
  have HCQ : Hid _ := hcQ
  have HCB : Hid _ := hcB
  have hcn := notRootI (some ⟨_, 0, none⟩) 2 2 [p, q] _ rfl (by omega) (fun z hz => by
    rcases List.mem_cons.1 hz with rfl | hz
    · omega
    · rw [List.mem_singleton.1 hz]
      omega) (strs_row2 zN)
  simp only [List.all_cons, List.all_nil, Bool.and_true] at hcn
  clear hTT hDc hEc ht hK hwf hwe hds htr hlen f4 f5 f6 hcE hcO hEF hbl hcP hcQ hcB
  go_enter Tryz.func161, Tryz.ntmps161
  go_wp2_with fail
  obtain ⟨Wz, hWz⟩ : ∃ W, (((w.alloc (.cells #[.slice a n cap, .int .i64 nx] 47)).alloc (.cells #[.string p, .string q, .int .i64 k, .slice da dn dc, .string an, .string av] 108)).alloc (.cells #[.slice none 0 0, .int .i64 0] 47)).alloc (.cells #[.string p, .string q] 9) = W := ⟨_, rfl⟩
  rw [hWz] at bN zN zTn zCn zRn hcn ⊢
  clear hWz zT zC zR B0 c0 c1 zN
  (with_reducible refine hcn.mono ?_)
  rintro e w1 ⟨rfl, b1⟩
  have zt1 := zTn.keep b1
  have zc1 := zCn.keep b1
  have zr1 := zRn.keep b1
  have hb1 := bN.trans (b1.mono bN.size)
  have c0 := zc1.cell 0
  have c1 := zc1.cell 1
  have t0 := zt1.cell 0
  have t1 := zt1.cell 1
  have r0 := zr1.cell 0
  have r1 := zr1.cell 1
  have f0 := zr1.frozen 0
  have f1 := zr1.frozen 1
  simp at c0 c1 t0 t1 r0 r1
  clear hcn zTn zCn zRn bN b1
  cases hnr : (notR p && notR q) with
  | false =>
    rw [hnr, if_pos rfl] at hCO
    subst hCO
    rw [if_neg (by decide), errV_some (by decide)]
    clear hnr hcF
    have hend : Hid (EMeth w nx TT 1 (.returned (.tuple #[.agg #[.slice none 0 0, .int .i64 0], .iface 139 (.int .i64 1)])) ((w1.setCell ⟨w.heap.size + 1 + 1, 0, none⟩ (.slice none 0 0)).setCell ⟨w.heap.size + 1 + 1, 1, none⟩ (.int .i64 0))) := eMeth_no (by decide) ((hb1.setCell (p := ⟨w.heap.size + 1 + 1, 0, none⟩) (by show _ ≤ w.heap.size + 1 + 1; omega) _).setCell (p := ⟨w.heap.size + 1 + 1, 1, none⟩) (by show _ ≤ w.heap.size + 1 + 1; omega) _)
    have zf := blk2 zr1 (.slice none 0 0) (.int .i64 0)
    have dd0 := zf.cell 0
    have dd1 := zf.cell 1
    simp at dd0 dd1
    clear zf
    go_wp2
    refine bodyPost_ret (v := .tuple #[.agg #[.slice none 0 0, .int .i64 0], .iface 139 (.int .i64 1)]) (by simp [results, Tryz.f161, go_sem, dd0, dd1]) rfl ?_
    exact hend.out
  | true =>
    rw [hnr, if_neg (by decide)] at hCO
    rw [if_pos rfl, errV_zero]
    have hcf := hcF w1 hb1
    clear hcF hnr
    go_wp2_with fail
    (with_reducible refine hcf.mono ?_)
    rintro e w2 ⟨rfl, bb2⟩
    have zt2 := zt1.keep bb2
    have zc2 := zc1.keep bb2
    have zr2 := zr1.keep bb2
    have hb2 := hb1.trans (bb2.mono hb1.size)
    have r0 := zr2.cell 0
    have r1 := zr2.cell 1
    have f0 := zr2.frozen 0
    have f1 := zr2.frozen 1
    have c0 := zc2.cell 0
    have c1 := zc2.cell 1
    simp at r0 r1 c0 c1
    clear hcf zt1 zc1 zr1 bb2 hb1 t0 t1
    by_cases hc0 : c = 0
    · subst hc0
      rw [if_neg (by simp)] at hCO
      rw [errV_zero]
      have hcb := HCB.out w2
      clear HCB
      go_wp2_with fail
      (with_reducible refine hcb.mono ?_)
      rintro e w3 ⟨rfl, bb3⟩
      have zt3 := zt2.keep bb3
      have zc3 := zc2.keep bb3
      have zr3 := zr2.keep bb3
      have hb3 := hb2.trans (bb3.mono hb2.size)
      have r0 := zr3.cell 0
      have r1 := zr3.cell 1
      have f0 := zr3.frozen 0
      have f1 := zr3.frozen 1
      have c0 := zc3.cell 0
      have c1 := zc3.cell 1
      have t0 := zt3.cell 0
      have t1 := zt3.cell 1
      simp at r0 r1 c0 c1 t0 t1
      clear hcb zt2 zc2 zr2 bb3 hb2
      cases bl with
      | true =>
        rw [if_pos rfl] at hCO
        subst hCO
        clear c0 c1 t0 t1
        have hend : Hid (EMeth w nx TT 6 (.returned (.tuple #[.agg #[.slice none 0 0, .int .i64 0], .iface 139 (.int .i64 6)])) ((w3.setCell ⟨w.heap.size + 1 + 1, 0, none⟩ (.slice none 0 0)).setCell ⟨w.heap.size + 1 + 1, 1, none⟩ (.int .i64 0))) := eMeth_no (by decide) ((hb3.setCell (p := ⟨w.heap.size + 1 + 1, 0, none⟩) (by show _ ≤ w.heap.size + 1 + 1; omega) _).setCell (p := ⟨w.heap.size + 1 + 1, 1, none⟩) (by show _ ≤ w.heap.size + 1 + 1; omega) _)
        have zf := blk2 zr3 (.slice none 0 0) (.int .i64 0)
        have dd0 := zf.cell 0
        have dd1 := zf.cell 1
        simp at dd0 dd1
        clear zf
        go_wp2
        refine bodyPost_ret (v := .tuple #[.agg #[.slice none 0 0, .int .i64 0], .iface 139 (.int .i64 6)]) (by simp [results, Tryz.f161, go_sem, dd0, dd1]) rfl ?_
        exact hend.out
      | false =>
        rw [if_neg (by decide)] at hCO
        have hce := HCE.out w3 hb3
        clear HCE
        go_wp2_with fail
        (with_reducible refine hce.mono ?_)
        rintro e w4 ⟨e1, g1, e2, g2, e3, g3, rfl, gE, b4⟩
        have zt := (zt3.keep b4).alloc (.cells #[.int .i64 G.ino, .int .i64 G.kind, .int .i64 G.links, .slice e1 G.data.length g1, .slice e2 G.ents.length g2, .slice e3 G.attrs.length g3] 68)
        have zc := (zc3.keep b4).alloc (.cells #[.int .i64 G.ino, .int .i64 G.kind, .int .i64 G.links, .slice e1 G.data.length g1, .slice e2 G.ents.length g2, .slice e3 G.attrs.length g3] 68)
        have zr := (zr3.keep b4).alloc (.cells #[.int .i64 G.ino, .int .i64 G.kind, .int .i64 G.links, .slice e1 G.data.length g1, .slice e2 G.ents.length g2, .slice e3 G.attrs.length g3] 68)
        have zY := Blk.new w4 68 #[.int .i64 G.ino, .int .i64 G.kind, .int .i64 G.links, .slice e1 G.data.length g1, .slice e2 G.ents.length g2, .slice e3 G.attrs.length g3]
        have bA : Below w4.heap.size w4 (w4.alloc (.cells #[.int .i64 G.ino, .int .i64 G.kind, .int .i64 G.links, .slice e1 G.data.length g1, .slice e2 G.ents.length g2, .slice e3 G.attrs.length g3] 68)) := (Below.refl _ w4).alloc (Nat.le_refl _) _
        have hb4 := hb3.trans (b4.mono hb3.size)
        have hb5 := hb4.trans (bA.mono hb4.size)
        have hXl : w.heap.size + 1 + 1 < w4.heap.size := (zr3.keep b4).lt
        obtain ⟨Y, hY⟩ : ∃ X, w4.heap.size = X := ⟨_, rfl⟩
        obtain ⟨W5, hW5⟩ : ∃ W, w4.alloc (.cells #[.int .i64 G.ino, .int .i64 G.kind, .int .i64 G.links, .slice e1 G.data.length g1, .slice e2 G.ents.length g2, .slice e3 G.attrs.length g3] 68) = W := ⟨_, rfl⟩
        rw [hW5] at zt zc zr zY hb5
        rw [hY] at zY hXl
        have HZT5 : Hid _ := zt
        have HZC5 : Hid _ := zc
        have HZR5 : Hid _ := zr
        have HZY5 : Hid _ := zY
        have HB5 : Hid _ := hb5
        have r0 := zr.cell 0
        have r1 := zr.cell 1
        have f0 := zr.frozen 0
        have f1 := zr.frozen 1
        have c0 := zc.cell 0
        have c1 := zc.cell 1
        simp at r0 r1 c0 c1
        clear hce b4 zt zc zr zY bA hb4 hb5 gE zt3 zc3 zr3 hb3 t0 t1
        by_cases hc2 : c2 = 0
        · subst hc2
          rw [if_neg (by simp)] at hCO
          rw [errV_zero]
          obtain ⟨m, hm⟩ : ∃ m, G.ents.length = m := ⟨_, rfl⟩
          rw [hm] at hCO HZY5 hW5 ⊢
          obtain ⟨pa, hpa⟩ : ∃ z, strB (parentOf p.data.toList).1 = z := ⟨_, rfl⟩
          obtain ⟨qa, hqa⟩ : ∃ z, strB (parentOf q.data.toList).1 = z := ⟨_, rfl⟩
          have hcp := HCP.out W5
          have hcq := HCQ.out
          rw [hpa] at hcp
          rw [hqa] at hcq
          obtain ⟨pn, hpn⟩ : ∃ z, strB (parentOf p.data.toList).2.1 = z := ⟨_, rfl⟩
          obtain ⟨qn, hqn⟩ : ∃ z, strB (parentOf q.data.toList).2.1 = z := ⟨_, rfl⟩
          obtain ⟨pb, hpb⟩ : ∃ z, (parentOf p.data.toList).2.2 = z := ⟨_, rfl⟩
          obtain ⟨qb, hqb⟩ : ∃ z, (parentOf q.data.toList).2.2 = z := ⟨_, rfl⟩
          rw [hpn, hpb] at hcp
          rw [hqn, hqb] at hcq
          rw [hpa, hqa] at hCO
          clear hm hpa hqa hpn hqn hpb hqb HCP HCQ
          have HCQ : Hid _ := hcq
          clear hcq
          go_wp2_with fail
          (with_reducible refine hcp.mono ?_)
          rintro e w6 ⟨b6, rfl⟩
          have zt6 := Blk.keep HZT5.out b6
          have zc6 := Blk.keep HZC5.out b6
          have zr6 := Blk.keep HZR5.out b6
          have zy6 := Blk.keep HZY5.out b6
          have hb6 := HB5.out.trans (b6.mono HB5.out.size)
          have c1 := zc6.cell 1
          simp at c1
          have hcq := HCQ.out w6
          clear hcp b6 c0 r0 r1 f0 f1 HCQ
          go_wp2_with fail
          (with_reducible refine hcq.mono ?_)
          rintro e w7 ⟨b7, rfl⟩
          have zt7 := zt6.keep b7
          have zc7 := zc6.keep b7
          have zr7 := zr6.keep b7
          have zy7 := zy6.keep b7
          have hb7 := hb6.trans (b7.mono hb6.size)
          have y4 := zy7.cell 4
          have r0 := zr7.cell 0
          have r1 := zr7.cell 1
          have f0 := zr7.frozen 0
          have f1 := zr7.frozen 1
          simp at y4 r0 r1
          clear hcq b7 zt6 zc6 zr6 zy6 hb6 c1
          by_cases hfull : pa ≠ qa ∧ 10 ≤ m
          · rw [if_pos hfull] at hCO
            subst hCO
            have h10i : (10 : Int) ≤ (m : Int) := by omega
            have h10k : ¬ (m : Int) < 10 := by omega
            have h10j : (m : Int) ≥ 10 := by omega
            have hsn : (pa.toList == qa.toList) = false := str_ne hfull.1
            have hsm : (pa.toList != qa.toList) = true := by unfold bne; rw [hsn]; rfl
            have hend : Hid (EMeth w nx TT 5 (.returned (.tuple #[.agg #[.slice none 0 0, .int .i64 0], .iface 139 (.int .i64 5)])) ((w7.setCell ⟨w.heap.size + 1 + 1, 0, none⟩ (.slice none 0 0)).setCell ⟨w.heap.size + 1 + 1, 1, none⟩ (.int .i64 0))) := eMeth_no (by decide) ((hb7.setCell (p := ⟨w.heap.size + 1 + 1, 0, none⟩) (by show _ ≤ w.heap.size + 1 + 1; omega) _).setCell (p := ⟨w.heap.size + 1 + 1, 1, none⟩) (by show _ ≤ w.heap.size + 1 + 1; omega) _)
            have zf := blk2 zr7 (.slice none 0 0) (.int .i64 0)
            have dd0 := zf.cell 0
            have dd1 := zf.cell 1
            simp at dd0 dd1
            clear zf
            go_wp2
            refine bodyPost_ret (v := .tuple #[.agg #[.slice none 0 0, .int .i64 0], .iface 139 (.int .i64 5)]) (by simp [results, Tryz.f161, go_sem, dd0, dd1]) rfl ?_
            exact hend.out
          rw [if_neg hfull] at hCO
          subst hCO
          have hdec : (pa.toList == qa.toList) = true ∨ ((pa.toList == qa.toList) = false ∧ m < 10) := by
            by_cases hpq : pa = qa
            · left
              rw [hpq]
              simp
            · right
              exact ⟨str_ne hpq, Classical.byContradiction fun h => hfull ⟨hpq, by omega⟩⟩
          obtain ⟨hE1, hF1, hno, hmo⟩ := HEF.out rfl
          have hEm : E ∈ ds := by
            have := @badK_mem 1 ds (strB (parentOf p.data.toList).1)
            rw [hE1] at this
            exact this rfl
          obtain ⟨D1, hD1⟩ : ∃ l, setD ds { E with ents := cutE E.ents (strB (parentOf p.data.toList).2.1) } = l := ⟨_, rfl⟩
          have hm1 : ∀ F ∈ D1, F = { E with ents := cutE E.ents (strB (parentOf p.data.toList).2.1) } ∨ F ∈ ds := fun F hF => setD_memC (by rw [hD1]; exact hF)
          have HS1 : Hid (∀ F ∈ D1, InoSmall F) := fun F hF => (hm1 F hF).elim (fun h => by rw [h]; exact cutE_small (HSM.out E hEm) _) (fun h => HSM.out F h)
          have HL1 : Hid (D1.length ≤ 1048576) := by
            have h1 := setD_lenC ds { E with ents := cutE E.ents (strB (parentOf p.data.toList).2.1) }
            rw [hD1] at h1
            have h2 := HF6.out
            show _ ≤ _
            omega
          have HK1 : Hid (∀ F ∈ D1, F.kind = 1 ∨ F.kind = 2) := fun F hF => (hm1 F hF).elim (fun h => by rw [h]; exact HKK.out E hEm) (fun h => HKK.out F h)
          have HF1 : Hid (∀ F ∈ D1, (Lit.int .i64 F.ino).wf = true) := fun F hF => (hm1 F hF).elim (fun h => by rw [h]; exact HWF.out E hEm) (fun h => HWF.out F h)
          have HE1 : Hid (∀ F ∈ D1, ∀ e ∈ F.ents, (Lit.int .i64 e.2).wf = true) := fun F hF => (hm1 F hF).elim (fun h => by rw [h]; exact fun e he => HWE.out E hEm e (List.mem_filter.1 he).1) (fun h => HWE.out F h)
          have HN1 : Hid (∀ F ∈ D1, F.ents.length ≤ 100) := fun F hF => (hm1 F hF).elim (fun h => by rw [h]; exact Nat.le_trans (List.length_filter_le _ _) (HF4.out E hEm)) (fun h => HF4.out F h)
          have HBK1 : Hid (badK 1 D1 (strB (parentOf q.data.toList).1) = (F, 0)) := by show _ = _; rw [← hD1]; exact hF1
          have HNO : Hid _ := hno
          have HMO : Hid _ := hmo
          have HCW : Hid (∀ (W : World) (ra : Option Addr) (rn rc : Nat) (rs' : List InoR), TR W ra rn rs' → rs'.map InoR.D = D1 → Calls Tryz.prog 213 #[.agg #[.slice ra rn rc, .int .i64 nx], .string q, .int .i64 x] W fun e w' => ∃ v, e = .returned v ∧ TabAt W nx TT v w') := fun W ra rn rc rs' hT hr => by
            have hin : ∀ r ∈ rs', r.D ∈ D1 := fun r hr' => by rw [← hr]; exact List.mem_map_of_mem hr'
            have := withI ra rn rc nx rs' q x W hT (fun r hr' => HK1.out _ (hin r hr')) (fun r hr' => HF1.out _ (hin r hr')) (fun r hr' => HE1.out _ (hin r hr')) (fun r hr' => HN1.out _ (hin r hr')) (by omega) (by omega) F (by rw [hr]; exact HBK1.out) hnz HNO.out HMO.out
            rw [hr, ← hD1, HTT.out] at this
            exact this
          have hcw := HCO'.out w7.drew hb7.drew E hE1
          rw [hD1] at hcw
          have HK7 : Hid (∀ V : World, Below w7.heap.size w7 V → V.cell? ⟨w.heap.size, 0, none⟩ = some (.slice a n cap) ∧ V.cell? ⟨w.heap.size, 1, none⟩ = some (.int .i64 nx) ∧ V.cell? ⟨w.heap.size + 1, 0, none⟩ = some (.string p) ∧ V.cell? ⟨w.heap.size + 1, 1, none⟩ = some (.string q)) := fun V hV => ⟨(Blk.keep zt7 hV).cell 0, (Blk.keep zt7 hV).cell 1, (Blk.keep zc7 hV).cell 0, (Blk.keep zc7 hV).cell 1⟩
          obtain ⟨u0, u1, u2, u3⟩ := HK7.out w7 (Below.refl _ w7)
          have HZR7 : Hid _ := zr7
          have HB7 : Hid _ := hb7
          have nq1 : ¬ w.heap.size + 1 + 1 = w.heap.size := by omega
          have nq2 : ¬ w.heap.size = w.heap.size + 1 + 1 := by omega
          have nq5 : ¬ w.heap.size + 1 = w.heap.size + 1 + 1 := by omega
          have nq6 : ¬ w.heap.size + 1 + 1 = w.heap.size + 1 := by omega
          clear hE1 hF1 hno hmo hEm hm1 hD1 zt7 zc7 zr7 zy7 hb7 HEF hfull r0 r1 f0 f1
          rcases hdec with hsn | ⟨hsn, h10⟩
          · have hsm : (pa.toList != qa.toList) = false := by unfold bne; rw [hsn]; rfl
            go_upto_region 16 with fail
            go_region_held3 (fun V : World => V.cell? ⟨w.heap.size, 0, none⟩ = some (.slice a n cap) ∧ V.cell? ⟨w.heap.size, 1, none⟩ = some (.int .i64 nx) ∧ V.cell? ⟨w.heap.size + 1, 0, none⟩ = some (.string p) ∧ V.cell? ⟨w.heap.size + 1, 1, none⟩ = some (.string q)) (go_keep) (first
              | (go_at_call 209; (with_reducible refine hcw.mono ?_); rintro e w8 ⟨v8, rfl, ta8⟩; obtain ⟨a8, n8, c8, rs8, rfl, hT8, hR8, b8⟩ := ta8.read HS1.out HL1.out; have B8 : Below w7.heap.size w7 w8 := (Below.refl _ w7).drew.trans b8; obtain ⟨s0, s1, s2, s3⟩ := HK7.out w8 B8; have hcE := HCW.out w8 a8 n8 c8 rs8 (hT8 w8 (Below.refl _ _)) hR8)
              | (go_at_call 213; (with_reducible refine hcE.mono ?_); rintro e w9 ⟨v9, rfl, ta9⟩; have ta9' := ta9; obtain ⟨ra, rc, js, rfl, _, b9⟩ := ta9'; obtain ⟨rn, hrn⟩ : ∃ rn, js.length = rn := ⟨_, rfl⟩; rw [hrn] at ta9 ⊢; have B9 : Below w7.heap.size w7 w9 := B8.trans (b9.mono B8.size); obtain ⟨v0, v1, v2, v3⟩ := HK7.out w9 B9; have zr9 := Blk.keep HZR7.out B9; have y0 := zr9.cell 0; have y1 := zr9.cell 1; have yf0 := zr9.frozen 0; have yf1 := zr9.frozen 1; simp at y0 y1)
              | fail)
            have hb8 := HB7.out.trans (B8.mono HB7.out.size)
            have HFIN : Hid (EMeth w nx TT 0 (.returned (.tuple #[.agg #[.slice ra rn rc, .int .i64 nx], .nilIface])) ((w9.setCell ⟨w.heap.size + 1 + 1, 0, none⟩ (.slice ra rn rc)).setCell ⟨w.heap.size + 1 + 1, 1, none⟩ (.int .i64 nx))) := eMeth_yes ta9 hb8 (by omega) (Blk.keep HZR7.out B8)
            have zf := blk2 zr9 (.slice ra rn rc) (.int .i64 nx)
            have dd0 := zf.cell 0
            have dd1 := zf.cell 1
            simp at dd0 dd1
            clear hcE ta8 ta9 zf zr9 b9 hrn hT8 hR8 b8 B8 B9 hb8 s0 s1 s2 s3 v0 v1 v2 v3 u0 u1 u2 u3 hcw
            go_wp2
            refine bodyPost_ret (v := .tuple #[.agg #[.slice ra rn rc, .int .i64 nx], .nilIface]) (by simp [results, Tryz.f161, go_sem, dd0, dd1]) rfl ?_
            exact HFIN.out
          · have hsm : (pa.toList != qa.toList) = true := by unfold bne; rw [hsn]; rfl
            have h10i : ¬ (10 : Int) ≤ (m : Int) := by omega
            have h10k : (m : Int) < 10 := by omega
            have h10j : ¬ (m : Int) ≥ 10 := by omega
            go_upto_region 16 with fail
            go_region_held3 (fun V : World => V.cell? ⟨w.heap.size, 0, none⟩ = some (.slice a n cap) ∧ V.cell? ⟨w.heap.size, 1, none⟩ = some (.int .i64 nx) ∧ V.cell? ⟨w.heap.size + 1, 0, none⟩ = some (.string p) ∧ V.cell? ⟨w.heap.size + 1, 1, none⟩ = some (.string q)) (go_keep) (first
              | (go_at_call 209; (with_reducible refine hcw.mono ?_); rintro e w8 ⟨v8, rfl, ta8⟩; obtain ⟨a8, n8, c8, rs8, rfl, hT8, hR8, b8⟩ := ta8.read HS1.out HL1.out; have B8 : Below w7.heap.size w7 w8 := (Below.refl _ w7).drew.trans b8; obtain ⟨s0, s1, s2, s3⟩ := HK7.out w8 B8; have hcE := HCW.out w8 a8 n8 c8 rs8 (hT8 w8 (Below.refl _ _)) hR8)
              | (go_at_call 213; (with_reducible refine hcE.mono ?_); rintro e w9 ⟨v9, rfl, ta9⟩; have ta9' := ta9; obtain ⟨ra, rc, js, rfl, _, b9⟩ := ta9'; obtain ⟨rn, hrn⟩ : ∃ rn, js.length = rn := ⟨_, rfl⟩; rw [hrn] at ta9 ⊢; have B9 : Below w7.heap.size w7 w9 := B8.trans (b9.mono B8.size); obtain ⟨v0, v1, v2, v3⟩ := HK7.out w9 B9; have zr9 := Blk.keep HZR7.out B9; have y0 := zr9.cell 0; have y1 := zr9.cell 1; have yf0 := zr9.frozen 0; have yf1 := zr9.frozen 1; simp at y0 y1)
              | fail)
            have hb8 := HB7.out.trans (B8.mono HB7.out.size)
            have HFIN : Hid (EMeth w nx TT 0 (.returned (.tuple #[.agg #[.slice ra rn rc, .int .i64 nx], .nilIface])) ((w9.setCell ⟨w.heap.size + 1 + 1, 0, none⟩ (.slice ra rn rc)).setCell ⟨w.heap.size + 1 + 1, 1, none⟩ (.int .i64 nx))) := eMeth_yes ta9 hb8 (by omega) (Blk.keep HZR7.out B8)
            have zf := blk2 zr9 (.slice ra rn rc) (.int .i64 nx)
            have dd0 := zf.cell 0
            have dd1 := zf.cell 1
            simp at dd0 dd1
            clear hcE ta8 ta9 zf zr9 b9 hrn hT8 hR8 b8 B8 B9 hb8 s0 s1 s2 s3 v0 v1 v2 v3 u0 u1 u2 u3 hcw
            go_wp2
            refine bodyPost_ret (v := .tuple #[.agg #[.slice ra rn rc, .int .i64 nx], .nilIface]) (by simp [results, Tryz.f161, go_sem, dd0, dd1]) rfl ?_
            exact HFIN.out
        · rw [if_pos hc2] at hCO
          subst hCO
          rw [errV_some hc2]
          clear c0 c1
          have hend : Hid (EMeth w nx TT c2 (.returned (.tuple #[.agg #[.slice none 0 0, .int .i64 0], .iface 139 (.int .i64 c2)])) ((W5.setCell ⟨w.heap.size + 1 + 1, 0, none⟩ (.slice none 0 0)).setCell ⟨w.heap.size + 1 + 1, 1, none⟩ (.int .i64 0))) := eMeth_no hc2 ((HB5.out.setCell (p := ⟨w.heap.size + 1 + 1, 0, none⟩) (by show _ ≤ w.heap.size + 1 + 1; omega) _).setCell (p := ⟨w.heap.size + 1 + 1, 1, none⟩) (by show _ ≤ w.heap.size + 1 + 1; omega) _)
          have zf := blk2 HZR5.out (.slice none 0 0) (.int .i64 0)
          have dd0 := zf.cell 0
          have dd1 := zf.cell 1
          simp at dd0 dd1
          clear zf
          go_wp2
          refine bodyPost_ret (v := .tuple #[.agg #[.slice none 0 0, .int .i64 0], .iface 139 (.int .i64 c2)]) (by simp [results, Tryz.f161, go_sem, dd0, dd1]) rfl ?_
          exact hend.out
    · rw [if_pos hc0] at hCO
      subst hCO
      rw [errV_some hc0]
      clear HCE HCB c0 c1
      have hend : Hid (EMeth w nx TT c (.returned (.tuple #[.agg #[.slice none 0 0, .int .i64 0], .iface 139 (.int .i64 c)])) ((w2.setCell ⟨w.heap.size + 1 + 1, 0, none⟩ (.slice none 0 0)).setCell ⟨w.heap.size + 1 + 1, 1, none⟩ (.int .i64 0))) := eMeth_no hc0 ((hb2.setCell (p := ⟨w.heap.size + 1 + 1, 0, none⟩) (by show _ ≤ w.heap.size + 1 + 1; omega) _).setCell (p := ⟨w.heap.size + 1 + 1, 1, none⟩) (by show _ ≤ w.heap.size + 1 + 1; omega) _)
      have zf := blk2 zr2 (.slice none 0 0) (.int .i64 0)
      have dd0 := zf.cell 0
      have dd1 := zf.cell 1
      simp at dd0 dd1
      clear zf
      go_wp2
      refine bodyPost_ret (v := .tuple #[.agg #[.slice none 0 0, .int .i64 0], .iface 139 (.int .i64 c)]) (by simp [results, Tryz.f161, go_sem, dd0, dd1]) rfl ?_
      exact hend.out
end

section
open Go.RowKit
theorem idx_rename (w : World) : (Instr.index 151 (.agg #[.func (.func 154) #[] #[], .func (.func 155) #[] #[], .func (.func 156) #[] #[], .func (.func 157) #[] #[], .func (.func 158) #[] #[], .func (.func 159) #[] #[], .func (.func 160) #[] #[], .func (.func 161) #[] #[], .func (.func 162) #[] #[]]) (.int .i64 7)).run Tryz.prog w = .ok (.func (.func 161) #[] #[]) w := by kernel_rfl
set_option maxRecDepth 100000 in
set_option maxHeartbeats 4000000 in
theorem changed_rename (a : Option Addr) (n cap : Nat) (nx : Int) (rs : List InoR) (p q : ByteArray) (k : Int) (da : Option Addr) (dn dc : Nat) (an av : ByteArray) (w : World) (ht : TR w a n rs) (hwf : ∀ r ∈ rs, (Lit.int .i64 r.D.ino).wf = true) (het : EtCell w) (nx' : Int) (ds' : List InoD) (c : Int) (N : Int) (D : List InoD) (C : Int)
    (h1 : treeD nx (rs.map InoR.D) = false → N = nx ∧ D = rs.map InoR.D ∧ C = 1) (h2 : treeD nx (rs.map InoR.D) = true → c ≠ 0 → N = nx ∧ D = rs.map InoR.D ∧ C = c) (h3 : treeD nx (rs.map InoR.D) = true → c = 0 → N = nx' ∧ D = ds' ∧ C = 0)
    (hm : treeD nx (rs.map InoR.D) = true → ∀ W : World, Below w.heap.size w W → Calls Tryz.prog 161 #[.agg #[.slice a n cap, .int .i64 nx], .agg #[.string p, .string q, .int .i64 k, .slice da dn dc, .string an, .string av]] W fun e w' => EMeth W nx' ds' c e w') :
    Calls Tryz.prog 76 #[.agg #[.slice a n cap, .int .i64 nx], .int .i64 7, .agg #[.string p, .string q, .int .i64 k, .slice da dn dc, .string an, .string av]] w fun e w' => TabC w N D C e w' := by
  have B0 : Below w.heap.size w (((w.alloc (.cells #[.slice a n cap, .int .i64 nx] 47)).alloc (.cells #[.string p, .string q, .int .i64 k, .slice da dn dc, .string an, .string av] 108)).alloc (.cells #[.slice none 0 0, .int .i64 0] 47)) := (((Below.refl _ w).alloc (Nat.le_refl _) _).alloc (by simp) _).alloc (by simp; omega) _
  have zT := ((Blk.new w 47 #[.slice a n cap, .int .i64 nx]).alloc (.cells #[.string p, .string q, .int .i64 k, .slice da dn dc, .string an, .string av] 108)).alloc (.cells #[.slice none 0 0, .int .i64 0] 47)
  have zC := (Blk.new (w.alloc (.cells #[.slice a n cap, .int .i64 nx] 47)) 108 #[.string p, .string q, .int .i64 k, .slice da dn dc, .string an, .string av]).alloc (.cells #[.slice none 0 0, .int .i64 0] 47)
  have zR := Blk.new ((w.alloc (.cells #[.slice a n cap, .int .i64 nx] 47)).alloc (.cells #[.string p, .string q, .int .i64 k, .slice da dn dc, .string an, .string av] 108)) 47 #[.slice none 0 0, .int .i64 0]
  simp only [World.size_alloc] at zC zR
  have hcT := treeI a n cap nx rs _ (ht.keep B0) hwf
  go_enter Tryz.func76, Tryz.ntmps76
  go_wp2_with fail
  obtain ⟨W0, hW0⟩ : ∃ W, (((w.alloc (.cells #[.slice a n cap, .int .i64 nx] 47)).alloc (.cells #[.string p, .string q, .int .i64 k, .slice da dn dc, .string an, .string av] 108)).alloc (.cells #[.slice none 0 0, .int .i64 0] 47)) = W := ⟨_, rfl⟩
  rw [hW0] at B0 zT zC zR hcT ⊢
  clear hW0
  (with_reducible refine hcT.mono ?_)
  rintro e w1 ⟨rfl, b1⟩
  clear hcT
  have hb1 := B0.trans (b1.mono B0.size)
  have zt := zT.keep b1
  have zc := zC.keep b1
  have zr := zR.keep b1
  have HT1 : Hid _ := ht.keep hb1
  have HE1 : Hid _ := het.keep hb1
  clear zT zC zR b1 ht het B0
  have t0 := zt.cell 0
  have t1 := zt.cell 1
  simp at t0 t1
  cases htr : treeD nx (rs.map InoR.D) with
  | false =>
    obtain ⟨rfl, rfl, rfl⟩ := h1 htr
    have hcC := copyTab_any a n cap N rs w1 HT1.out.len HT1.out.n HT1.out.small HT1.out.rd
    have HB1 : Hid _ := hb1
    have HZR : Hid _ := zr
    clear h1 h2 h3 hm htr hb1
    go_wp2_with fail
    (with_reducible refine hcC.mono ?_)
    intro e w2 hp2
    obtain ⟨g, rfl, b2, hfin⟩ := copyT hp2 HB1.out (by omega) HZR.out
    have zr2 := Blk.keep HZR.out b2
    have r0 := zr2.cell 0
    have r1 := zr2.cell 1
    have f0 := zr2.frozen 0
    have f1 := zr2.frozen 1
    simp at r0 r1
    have HFIN : Hid _ := hfin w2 (Below.refl _ _) 1
    have zf := blk2 zr2 (.slice (some ⟨g, 0, none⟩) n n) (.int .i64 N)
    have dd0 := zf.cell 0
    have dd1 := zf.cell 1
    simp at dd0 dd1
    clear hcC hp2 hfin zr2 zt zc zr t0 t1 zf
    go_wp2
    refine bodyPost_ret (v := .tuple #[.agg #[.slice (some ⟨g, 0, none⟩) n n, .int .i64 N], .int .i64 1]) (by simp [results, Tryz.f76, go_sem, dd0, dd1]) rfl ?_
    exact HFIN.out
  | true =>
    have hmm := hm htr
    have c0 := zc.cell 0
    have c1 := zc.cell 1
    have c2 := zc.cell 2
    have c3 := zc.cell 3
    have c4 := zc.cell 4
    have c5 := zc.cell 5
    simp at c0 c1 c2 c3 c4 c5
    have HB1 : Hid _ := hb1
    have HZR : Hid _ := zr
    have HZT : Hid _ := zt
    have HZC : Hid _ := zc
    have HMM : Hid _ := hmm
    have HH2 : Hid _ := h2 htr
    have HH3 : Hid _ := h3 htr
    have cC := changesI w1.drew
    have hsz : w.heap.size + 1 + 1 < w1.heap.size := zr.lt
    have hK : Hid (∀ W : World, Below w1.heap.size w1 W → W.cell? ⟨w.heap.size, 0, none⟩ = some (.slice a n cap) ∧ W.cell? ⟨w.heap.size, 1, none⟩ = some (.int .i64 nx) ∧ W.cell? ⟨w.heap.size + 1, 0, none⟩ = some (.string p) ∧ W.cell? ⟨w.heap.size + 1, 1, none⟩ = some (.string q) ∧ W.cell? ⟨w.heap.size + 1, 2, none⟩ = some (.int .i64 k) ∧ W.cell? ⟨w.heap.size + 1, 3, none⟩ = some (.slice da dn dc) ∧ W.cell? ⟨w.heap.size + 1, 4, none⟩ = some (.string an) ∧ W.cell? ⟨w.heap.size + 1, 5, none⟩ = some (.string av)) := fun W hW => by
      have z1 := Blk.keep HZT.out hW
      have z2 := Blk.keep HZC.out hW
      exact ⟨z1.cell 0, z1.cell 1, z2.cell 0, z2.cell 1, z2.cell 2, z2.cell 3, z2.cell 4, z2.cell 5⟩
    clear h1 h2 h3 hm htr hmm zt zc zr hb1
    go_upto_region 3 with fail
    have n0 : w1.heap.size ≠ w.heap.size := by omega
    have n1 : w1.heap.size ≠ w.heap.size + 1 := by omega
    have cC2 := changesI (w1.alloc (.cells #[.slice none 0 0, .int .i64 0] 47)).drew
    have zW1 := Blk.new w1 47 #[.slice none 0 0, .int .i64 0]
    have hix := idx_rename
    go_cut [8, 9] from 8 to 31 (fun bx er wx => ∃ (A : Nat) (ra : Option Addr) (rn rc : Nat) (rx : Int), bx = .pointer (some ⟨A, 0, none⟩) ∧ er = errV c ∧ Hid (CHR w1 nx' ds' c A (.slice ra rn rc) (.int .i64 rx) wx))
    case first =>
      go_region_held3 (fun W : World => W.cell? ⟨w.heap.size, 0, none⟩ = some (.slice a n cap) ∧ W.cell? ⟨w.heap.size, 1, none⟩ = some (.int .i64 nx) ∧ W.cell? ⟨w.heap.size + 1, 0, none⟩ = some (.string p) ∧ W.cell? ⟨w.heap.size + 1, 1, none⟩ = some (.string q) ∧ W.cell? ⟨w.heap.size + 1, 2, none⟩ = some (.int .i64 k) ∧ W.cell? ⟨w.heap.size + 1, 3, none⟩ = some (.slice da dn dc) ∧ W.cell? ⟨w.heap.size + 1, 4, none⟩ = some (.string an) ∧ W.cell? ⟨w.heap.size + 1, 5, none⟩ = some (.string av)) (go_keep) (first
        | (go_at_call 110; (with_reducible refine cC.mono ?_); rintro e w10 ⟨rfl, b10⟩; have B10 : Below w1.heap.size w1 w10 := (Below.refl _ w1).drew.trans b10; have K10 := hK.out w10 B10; obtain ⟨p0, p1, p2, p3, p4, p5, p6, p7⟩ := K10; have n2 : w10.heap.size ≠ w.heap.size := (by have := B10.size; omega); have n3 : w10.heap.size ≠ w.heap.size + 1 := (by have := B10.size; omega); have hm10 := HMM.out w10 (HB1.out.trans (B10.mono HB1.out.size)); have hm10a := HMM.out (w10.alloc (.cells #[.slice none 0 0, .int .i64 0] 47)) ((HB1.out.trans (B10.mono HB1.out.size)).alloc (by have := HB1.out.size; have := B10.size; omega) _))
        | (go_at_call 110; (with_reducible refine cC2.mono ?_); rintro e w11 ⟨rfl, b11⟩; have B11 : Below w1.heap.size w1 w11 := ((Below.refl _ w1).alloc (Nat.le_refl _) _).drew.trans (b11.mono (by show _ ≤ (w1.alloc _).heap.size; simp)); have K11 := hK.out w11 B11; obtain ⟨p0, p1, p2, p3, p4, p5, p6, p7⟩ := K11; have z11 : Blk w11 w1.heap.size 47 #[.slice none 0 0, .int .i64 0] := Blk.keep (Blk.drew zW1) b11; have hm11 := HMM.out w11 (HB1.out.trans (B11.mono HB1.out.size)))
        | (go_at_call 161; (with_reducible refine hm10.mono ?_); rintro e w12 ⟨ra, rn, rc, rx, rfl, b12, t12⟩; have B12 : Below w1.heap.size w1 w12 := B10.trans (b12.mono B10.size); have K12 := hK.out w12 B12; obtain ⟨q0, q1, q2, q3, q4, q5, q6, q7⟩ := K12)
        | (go_at_call 161; (with_reducible refine hm10a.mono ?_); rintro e w13 ⟨ra, rn, rc, rx, rfl, b13, t13⟩; have B13 : Below w1.heap.size w1 w13 := (B10.alloc B10.size _).trans (b13.mono (by have := B10.size; simp; omega)); have z13 := (Blk.new w10 47 #[.slice none 0 0, .int .i64 0]).keep b13; have u0 := z13.cell 0; have u1 := z13.cell 1; have x0 := z13.frozen 0; have x1 := z13.frozen 1; simp at u0 u1; have K13 := hK.out w13 B13; obtain ⟨q0, q1, q2, q3, q4, q5, q6, q7⟩ := K13)
        | (go_at_call 161; (with_reducible refine hm11.mono ?_); rintro e w14 ⟨ra, rn, rc, rx, rfl, b14, t14⟩; have B14 : Below w1.heap.size w1 w14 := B11.trans (b14.mono B11.size); have z14 := z11.keep b14; have u0 := z14.cell 0; have u1 := z14.cell 1; have x0 := z14.frozen 0; have x1 := z14.frozen 1; simp at u0 u1; have K14 := hK.out w14 B14; obtain ⟨q0, q1, q2, q3, q4, q5, q6, q7⟩ := K14))
      all_goals (go_wp2_with fail; go_meet)
      all_goals first
        | (have h := chr_new B12 b12 B10.size t12; exact ⟨_, _, _, _, _, rfl, rfl, h⟩)
        | (have h := chr_old B13 B10.size z13 (by simp) t13; exact ⟨_, _, _, _, _, rfl, rfl, h⟩)
        | (have h := chr_old B14 (Nat.le_refl _) z14 (Blk.lt z11) t14; exact ⟨_, _, _, _, _, rfl, rfl, h⟩)
        | fail
    case rest =>
      obtain ⟨A, ra, rn, rc, rx, rfl, rfl, hR⟩ := hcut
      obtain ⟨Wc, hwc⟩ : ∃ W, W = wc := ⟨_, rfl⟩
      subst hwc
      clear t0 t1 c0 c1 c2 c3 c4 c5 cC cC2 zW1 hK HMM n0 n1
      have zt := Blk.keep HZT.out hR.out.b
      have zr := Blk.keep HZR.out hR.out.b
      have hbc := HB1.out.trans (hR.out.b.mono HB1.out.size)
      have t0 := zt.cell 0
      have t1 := zt.cell 1
      simp at t0 t1
      by_cases hc0 : c = 0
      · obtain ⟨rfl, rfl, rfl⟩ := HH3.out hc0
        subst hc0
        rw [errV_zero]
        have HFIN : Hid _ := methT (hR.out.tab rfl) HB1.out (by omega) HZR.out Wc (Below.refl _ _)
        have a0 := hR.out.z.cell 0
        have a1 := hR.out.z.cell 1
        have r0 := zr.cell 0
        have r1 := zr.cell 1
        have f0 := zr.frozen 0
        have f1 := zr.frozen 1
        simp at a0 a1 r0 r1
        have zf := blk2 zr (.slice ra rn rc) (.int .i64 rx)
        have dd0 := zf.cell 0
        have dd1 := zf.cell 1
        simp at dd0 dd1
        clear zt zr zf hbc HH2 HH3 HT1 HE1 t0 t1
        go_wp2
        refine bodyPost_ret (v := .tuple #[.agg #[.slice ra rn rc, .int .i64 rx], .int .i64 0]) (by simp [results, Tryz.f76, go_sem, dd0, dd1]) rfl ?_
        exact HFIN.out
      · obtain ⟨rfl, rfl, rfl⟩ := HH2.out hc0
        rw [errV_some hc0]
        have hTc := HT1.out.keep hR.out.b
        have hEc := EtCell.keep HE1.out hR.out.b
        have hcC := copyTab_any a n cap N rs Wc hTc.len hTc.n hTc.small hTc.rd
        have HZ : Hid _ := zr
        have HBC : Hid _ := hbc
        have HEC : Hid _ := hEc
        have HC0 : Hid _ := hc0
        clear zt zr hbc HH2 HH3 HT1 HE1 hTc hEc hc0
        go_wp2_with fail
        (with_reducible refine hcC.mono ?_)
        intro e w2 hp2
        obtain ⟨g, rfl, b2, hfin⟩ := copyT hp2 HBC.out (by omega) HZ.out
        have hcO := codeOfI C w2 (EtCell.keep HEC.out b2)
        rw [errV_some HC0.out] at hcO
        clear hcC hp2 t0 t1
        go_wp2_with fail
        (with_reducible refine hcO.mono ?_)
        rintro e w3 ⟨rfl, b3⟩
        have zr3 := (Blk.keep HZ.out b2).keep b3
        have r0 := zr3.cell 0
        have r1 := zr3.cell 1
        have f0 := zr3.frozen 0
        have f1 := zr3.frozen 1
        simp at r0 r1
        have HFIN : Hid _ := hfin w3 b3 C
        have zf := blk2 zr3 (.slice (some ⟨g, 0, none⟩) n n) (.int .i64 N)
        have dd0 := zf.cell 0
        have dd1 := zf.cell 1
        simp at dd0 dd1
        clear hcO hfin zr3 zf
        go_wp2
        refine bodyPost_ret (v := .tuple #[.agg #[.slice (some ⟨g, 0, none⟩) n n, .int .i64 N], .int .i64 C]) (by simp [results, Tryz.f76, go_sem, dd0, dd1]) rfl ?_
        exact HFIN.out
end

section
open Go.RowKit
theorem spot_fr {ds : List InoD} (hK : ∀ D ∈ ds, D.kind = 1 ∨ D.kind = 2) (s : ByteArray) (fr : Int) : spotD ds s fr = if (dirFor ds s).2 ≠ 0 then (inoZ.D, ⟨#[]⟩, (dirFor ds s).2) else if 10 ≤ (dirFor ds s).1.ents.length ∧ (dirFor ds s).1.ino ≠ fr then (inoZ.D, ⟨#[]⟩, 5) else ((dirFor ds s).1, strB (parentOf s.data.toList).2.1, 0) := by
  unfold spotD dirFor badK
  by_cases h1 : (parentOf s.data.toList).2.2 = false
  · simp [h1]
  · by_cases h2 : (statD ds (strB (parentOf s.data.toList).1)).2 = 0
    · have hm := stat_in h2
      rcases hK _ hm with h3 | h3
      · simp [h1, h2, h3]
      · by_cases h4 : entOf (strB (parentOf s.data.toList).2.1) (statD ds (strB (parentOf s.data.toList).1)).1.ents = 0
        · by_cases h5 : 10 ≤ (statD ds (strB (parentOf s.data.toList).1)).1.ents.length ∧ (statD ds (strB (parentOf s.data.toList).1)).1.ino ≠ fr
          · simp [h1, h2, h3, h4, h5]
          · simp [h1, h2, h3, h4, h5]
        · simp [h1, h2, h3, h4]
    · simp [h1, h2]
/-- What is known where a rename is not refused ahead of its room. -/
theorem ren_dirs {nx : Int} {ds : List InoD} {s q : ByteArray} (h : treeD nx ds = true) (hK : ∀ D ∈ ds, D.kind = 1 ∨ D.kind = 2) (hp : (parentOf s.data.toList).2.2 = true) (hw : (walkP ds s).2 = 0) (hd : (dirFor ds q).2 = 0) : ∃ E, statD ds (strB (parentOf s.data.toList).1) = (E, 0) ∧ E.kind = 2 ∧ E ∈ ds ∧ (walkP ds (strB (parentOf s.data.toList).1)).1 = E.ino ∧ statD ds (strB (parentOf q.data.toList).1) = ((dirFor ds q).1, 0) ∧ (dirFor ds q).1.kind = 2 ∧ entOf (strB (parentOf q.data.toList).2.1) (dirFor ds q).1.ents = 0 := by
  obtain ⟨E, h1, h2⟩ := parent_stat hw hp
  obtain ⟨h3, h4⟩ := stat_look h1 (look_self (treeD_parts h).1)
  obtain ⟨h5, h6⟩ := dirFor_ok (show dirFor ds q = ((dirFor ds q).1, 0) from Prod.ext rfl hd)
  obtain ⟨h7, h8⟩ := badK_kind h5
  refine ⟨E, h1, h2, (look_mem h4).1, by rw [h3], h8, ?_, h6⟩
  rcases hK _ (dirFor_in hd) with h9 | h9
  · exact absurd h9 h7
  · exact h9
theorem ren_code {nx : Int} {ds : List InoD} {s q : ByteArray} (h : treeD nx ds = true) (hK : ∀ D ∈ ds, D.kind = 1 ∨ D.kind = 2) : renameD nx ds s q = if renC ds s q ≠ 0 then (ds, renC ds s q) else (renT ds s q (statD ds (strB (parentOf s.data.toList).1)).1 (statD (dropP ds s) (strB (parentOf q.data.toList).1)).1, 0) := by
  unfold renameD renC renT notR
  have hdp : setD ds { (statD ds (strB (parentOf s.data.toList).1)).1 with ents := cutE (statD ds (strB (parentOf s.data.toList).1)).1.ents (strB (parentOf s.data.toList).2.1) } = dropP ds s := rfl
  rw [hdp, spot_fr hK q]
  cases hp : (parentOf s.data.toList).2.2 with
  | false => simp [h]
  | true =>
    cases hq : (parentOf q.data.toList).2.2 with
    | false => simp [h]
    | true =>
      by_cases h0 : (walkP ds s).2 = 0
      · cases hb : belowOf s.data.toList q.data.toList with
        | true => simp [h, h0]
        | false =>
          by_cases h1 : (dirFor ds q).2 = 0
          · obtain ⟨E, e1, e2, _, e4, e5, e6, _⟩ := ren_dirs h hK hp h0 h1
            have hsame := same_above h hp hq e1 e5 e6
            rw [e4]
            by_cases h2 : 10 ≤ (dirFor ds q).1.ents.length
            · by_cases h3 : (dirFor ds q).1.ino = E.ino
              · have h4 := hsame.2 h3
                simp [h, h0, h1, h2, h3, h4]
              · have h4 : strB (parentOf s.data.toList).1 ≠ strB (parentOf q.data.toList).1 := fun c => h3 (hsame.1 c)
                simp [h, h0, h1, h2, h3, h4]
            · simp [h, h0, h1, h2]
          · simp [h, h0, h1]
      · simp [h, h0]
theorem ren_facts {ds : List InoD} {s q : ByteArray} (hC : renC ds s q = 0) : (parentOf s.data.toList).2.2 = true ∧ (parentOf q.data.toList).2.2 = true ∧ (walkP ds s).2 = 0 ∧ belowOf s.data.toList q.data.toList = false ∧ (dirFor ds q).2 = 0 ∧ ¬ (strB (parentOf s.data.toList).1 ≠ strB (parentOf q.data.toList).1 ∧ 10 ≤ (dirFor ds q).1.ents.length) := by
  unfold renC notR at hC
  split at hC
  · exact absurd hC (by decide)
  · rename_i h0
    split at hC
    · rename_i h
      exact absurd hC h
    · rename_i h1
      split at hC
      · exact absurd hC (by decide)
      · rename_i h2
        split at hC
        · rename_i h
          exact absurd hC h
        · rename_i h3
          split at hC
          · exact absurd hC (by decide)
          · rename_i h4
            simp only [Bool.not_eq_false, Bool.and_eq_true] at h0
            exact ⟨h0.1, h0.2, Classical.byContradiction fun c => h1 c, by simpa using h2, Classical.byContradiction fun c => h3 c, h4⟩
theorem ents_pair {es : List (ByteArray × Int)} (h : entsOk es = true) : es.Pairwise fun a b => Op.bytesLess a.1.toList b.1.toList = true := by
  rw [List.pairwise_iff_getElem]
  intro i j hi hj hij
  have := ents_ascM h j i hij hj
  simpa [hi, hj] using this
theorem pair_mono {es : List (ByteArray × Int)} (h : es.Pairwise fun a b => Op.bytesLess a.1.toList b.1.toList = true) (z : ByteArray) : ∀ (i j : Nat) (hi : i < es.length) (hj : j < es.length), i ≤ j → Op.bytesLess es[j].1.toList z.toList = true → Op.bytesLess es[i].1.toList z.toList = true := fun i j hi hj hij hz => by
  rcases Nat.lt_or_eq_of_le hij with h1 | rfl
  · exact less_trans (List.pairwise_iff_getElem.1 h i j hi hj h1) hz
  · exact hz
theorem ren_last {nx : Int} {ds : List InoD} {s q : ByteArray} (h : treeD nx ds = true) (hK : ∀ D ∈ ds, D.kind = 1 ∨ D.kind = 2) (hC : renC ds s q = 0) : statD (dropP ds s) (strB (parentOf q.data.toList).1) = ((statD (dropP ds s) (strB (parentOf q.data.toList).1)).1, 0) ∧ (statD (dropP ds s) (strB (parentOf q.data.toList).1)).1.kind = 2 ∧ (∃ D ∈ ds, (statD (dropP ds s) (strB (parentOf q.data.toList).1)).1 = D ∨ (statD (dropP ds s) (strB (parentOf q.data.toList).1)).1 = { D with ents := cutE D.ents (strB (parentOf s.data.toList).2.1) }) ∧ (∀ e ∈ (statD (dropP ds s) (strB (parentOf q.data.toList).1)).1.ents, e.1 ≠ strB (parentOf q.data.toList).2.1) ∧ (statD (dropP ds s) (strB (parentOf q.data.toList).1)).1.ents.Pairwise fun a b => Op.bytesLess a.1.toList b.1.toList = true := by
  obtain ⟨hp, hq, hw, hb, hd, _⟩ := ren_facts hC
  obtain ⟨E, e1, e2, e3, e4, e5, e6, e7⟩ := ren_dirs h hK hp hw hd
  have hst := stat_cut h hw hp hq hb e5
  have hDm := dirFor_in hd
  have hok := ok_parts ((tabD_ok (treeD_parts h).1).2.2.2.2.1 _ hDm).1
  have hpr := ents_pair hok.2.2.1
  have hno : ∀ e ∈ (dirFor ds q).1.ents, e.1 ≠ strB (parentOf q.data.toList).2.1 := entOf_zero e7 fun x hx => by
    have h1 := ((treeD_parts h).2.2 _ hDm).2 x hx
    cases hl : look ds x.2 with
    | none => rw [hl] at h1; cases h1
    | some F =>
      have h2 := look_mem hl
      have h3 := ((tabD_ok (treeD_parts h).1).2.2.2.2.1 F h2.1).1
      unfold inoOk at h3
      simp only [Bool.and_eq_true, decide_eq_true_eq] at h3
      omega
  rw [hst]
  dsimp only
  refine ⟨rfl, ?_⟩
  by_cases hx : (dirFor ds q).1.ino = (statD ds (strB (parentOf s.data.toList).1)).1.ino
  · rw [if_pos hx]
    exact ⟨e6, ⟨_, hDm, .inr rfl⟩, fun e he => hno e (List.mem_filter.1 he).1, hpr.filter _⟩
  · rw [if_neg hx]
    exact ⟨e6, ⟨_, hDm, .inl rfl⟩, hno, hpr⟩
theorem renameI (a : Option Addr) (n cap : Nat) (nx : Int) (rs : List InoR) (s q : ByteArray) (w : World) (ht : TR w a n rs) (hwf : ∀ r ∈ rs, (Lit.int .i64 r.D.ino).wf = true) (het : EtCell w) (hs : s.size ≤ 1048576) (hs1 : q.size ≤ 1048576) :
    Calls Tryz.prog 49 #[.agg #[.slice a n cap, .int .i64 nx], .string s, .string q] w fun e w' => TabC w nx (renameD nx (rs.map InoR.D) s q).1 (renameD nx (rs.map InoR.D) s q).2 e w' := by
  refine wrap_Rename a n cap nx s q w nx _ _ (fun W hW => ?_)
  refine changed_rename a n cap nx rs s q 0 none 0 0 ⟨#[]⟩ ⟨#[]⟩ W (ht.keep hW) hwf (het.keep hW) nx (renT (rs.map InoR.D) s q (statD (rs.map InoR.D) (strB (parentOf s.data.toList).1)).1 (statD (dropP (rs.map InoR.D) s) (strB (parentOf q.data.toList).1)).1) (renC (rs.map InoR.D) s q) nx _ _ ?_ ?_ ?_ ?_
  · intro h
    unfold renameD
    rw [if_pos (.inl h)]
    exact ⟨rfl, rfl, rfl⟩
  · intro h hc
    rw [ren_code h (tree_kind h), if_pos hc]
    exact ⟨rfl, rfl, rfl⟩
  · intro h hc
    rw [ren_code h (tree_kind h), if_neg (by rw [hc]; simp)]
    exact ⟨rfl, rfl, rfl⟩
  · intro h W' hW'
    refine renM a n cap nx rs s q 0 none 0 0 ⟨#[]⟩ ⟨#[]⟩ W' ((ht.keep hW).keep hW') h hs hs1 _ _ fun hC => ?_
    obtain ⟨hp, hq, hw, hb, hd, _⟩ := ren_facts hC
    obtain ⟨l1, l2, _, l4, l5⟩ := ren_last h (tree_kind h) hC
    refine ⟨parent_bad hw hp, ?_, fun e he => str_ne (l4 e he), pair_mono l5 _⟩
    show badK 1 (dropP (rs.map InoR.D) s) _ = _
    unfold badK
    rw [if_neg (fun c => by have := c.2; omega), ← l1]
end

section
open Go.RowKit
set_option maxRecDepth 100000 in
set_option maxHeartbeats 4000000 in
theorem usageI (a : Option Addr) (n cap : Nat) (nx : Int) (rs : List InoR) (w : World) (ht : TR w a n rs) :
    Calls Tryz.prog 44 #[.agg #[.slice a n cap, .int .i64 nx]] w fun e w' => e = .returned (.int .i64 (usageD (rs.map InoR.D) : Nat)) ∧ Below w.heap.size w w' := by
  have B0 : Below w.heap.size w (w.alloc (.cells #[.slice a n cap, .int .i64 nx] 47)) := (Below.refl _ w).alloc (Nat.le_refl _) _
  have z0 := Blk.new w 47 #[.slice a n cap, .int .i64 nx]
  have ht0 := ht.keep B0
  have HB : Hid _ := B0
  have HT : Hid _ := ht0
  have hln : Hid (rs.length = n) := ht.len
  have hn1 := ht.n
  obtain ⟨R, hR⟩ : ∃ R, usageD (rs.map InoR.D) = R := ⟨_, rfl⟩
  rw [hR]
  have HR : Hid _ := hR
  clear ht ht0 hR B0
  go_enter Tryz.func44, Tryz.ntmps44
  have t0 := z0.cell 0
  simp at t0
  have hw32 : IntKind.i64.wrap ((n : Int) * 32) = ((n * 32 : Nat) : Int) := by
    rw [show ((n * 32 : Nat) : Int) = (n : Int) * 32 by omega]
    exact wrap_small _ (by omega) (by omega)
  go_wp2
  obtain ⟨W0, hW0⟩ : ∃ W, w.alloc (.cells #[.slice a n cap, .int .i64 nx] 47) = W := ⟨_, rfl⟩
  rw [hW0] at z0 HB HT ⊢
  clear hW0 z0 t0
  go_loopw [3, 15] (fun c i wr => ∃ k m : Nat, k ≤ n ∧ i = .int .i64 k ∧ c = .int .i64 ((n * 32 + m : Nat) : Int) ∧ m ≤ k * 2199024304160 ∧ Hid (restU ((rs.map InoR.D).take k) = m) ∧ Hid (Below W0.heap.size W0 wr)) (fun _ i _ => n - (intOf i).toNat)
  case atStart => exact ⟨0, 0, Nat.zero_le _, rfl, by go_num, Nat.zero_le _, rfl, Below.refl _ _⟩
  case round =>
    obtain ⟨k, m, hk, rfl, rfl, hm, hlk, hB⟩ := hrel
    have hm2 : m ≤ 2305844108758876160 := by
      have : k * 2199024304160 ≤ 1048576 * 2199024304160 := Nat.mul_le_mul_right _ (by omega)
      omega
    by_cases hkn : k < n
    · have hki : (k : Int) < (n : Int) := by omega
      have hk0 : (0 : Int) ≤ (k : Int) := by omega
      obtain ⟨r, hrk⟩ : ∃ r, rs[k]? = some r := ⟨_, List.getElem?_eq_getElem (by rw [hln.out]; exact hkn)⟩
      have hTr := HT.out.keep hB.out
      obtain ⟨b, off, rfl, hlt, hc⟩ := RdI.lt hTr.rd (by intro h; rw [h] at hrk; simp at hrk)
      obtain ⟨x6, xr⟩ := hc k r hrk
      have hsm := hTr.small r (List.mem_of_getElem? hrk)
      have hds := hsm.data
      have hes := hsm.attrs
      have hnx : Hid (restU ((rs.map InoR.D).take (k + 1)) = m + (r.D.data.length + attU r.D.attrs)) := by
        show _ = _
        rw [restU_snoc (D := r.D) (by simp [hrk]), hlk.out]
      obtain ⟨es, hes'⟩ : ∃ es, r.D.attrs = es := ⟨_, rfl⟩
      have hre : RdP wr r.a3 (aP es) := by rw [← hes']; exact xr.attrs
      have HSZ : Hid (∀ q ∈ es, q.1.size ≤ 1048576 ∧ q.2.size ≤ 1048576) := by rw [← hes']; exact hsm.attrsz
      obtain ⟨x0, x1, x2, x3, x4, x5⟩ := x6
      rw [hes'] at x5 hes hnx
      obtain ⟨n3, hn3⟩ : ∃ n3, es.length = n3 := ⟨_, rfl⟩
      rw [hn3] at x5 hes
      have HN : Hid _ := hn3
      generalize r.D.ino = i1 at x0
      generalize r.D.kind = i2 at x1
      generalize r.D.links = i3 at x2
      generalize r.D.data.length = n1 at x3 hds hnx
      generalize r.D.ents.length = n2 at x4
      have bx := Blk.new wr 68 #[.int .i64 i1, .int .i64 i2, .int .i64 i3, .slice r.a1 n1 r.c1, .slice r.a2 n2 r.c2, .slice r.a3 n3 r.c3]
      have hbA : Below wr.heap.size wr (wr.alloc (.cells #[.int .i64 i1, .int .i64 i2, .int .i64 i3, .slice r.a1 n1 r.c1, .slice r.a2 n2 r.c2, .slice r.a3 n3 r.c3] 68)) := (Below.refl _ wr).alloc (Nat.le_refl _) _
      have HE : Hid _ := RdP.keep hre hbA
      have HBA : Hid (Below W0.heap.size W0 (wr.alloc (.cells #[.int .i64 i1, .int .i64 i2, .int .i64 i3, .slice r.a1 n1 r.c1, .slice r.a2 n2 r.c2, .slice r.a3 n3 r.c3] 68))) := hB.out.trans (hbA.mono hB.out.size)
      have y3 := bx.cell 3
      have y5 := bx.cell 5
      simp at y3 y5
      have HBX : Hid _ := bx
      clear hc xr hsm hrk hlk hes' hn3 hre hTr bx hbA
      go_wp2
      obtain ⟨Wb, hWb⟩ : ∃ W, wr.alloc (.cells #[.int .i64 i1, .int .i64 i2, .int .i64 i3, .slice r.a1 n1 r.c1, .slice r.a2 n2 r.c2, .slice r.a3 n3 r.c3] 68) = W := ⟨_, rfl⟩
      rw [hWb] at HE HBA HBX ⊢
      clear hWb y3 y5 x0 x1 x2 x3 x4 x5
      clear HBX
      go_loopw [3, 27] (fun c j wi => ∃ p q : Nat, p ≤ n3 ∧ j = .int .i64 p ∧ c = .int .i64 ((n * 32 + (m + (n1 + q)) : Nat) : Int) ∧ q ≤ p * 2097152 ∧ Hid (attU (es.take p) = q) ∧ Hid (Below Wb.heap.size Wb wi)) (fun _ j _ => n3 - (intOf j).toNat)
      case atStart => exact ⟨0, 0, Nat.zero_le _, rfl, by go_num, Nat.zero_le _, rfl, Below.refl _ _⟩
      case round =>
        obtain ⟨p, q, hp, rfl, rfl, hq, hcq, hBi⟩ := hrel
        have hq2 : q ≤ 2199023255552 := by
          have : p * 2097152 ≤ 1048576 * 2097152 := Nat.mul_le_mul_right _ (by omega)
          omega
        by_cases hpn : p < n3
        · have hpi : (p : Int) < (n3 : Int) := by omega
          have hp0 : (0 : Int) ≤ (p : Int) := by omega
          have hpl : p < es.length := by rw [HN.out]; exact hpn
          obtain ⟨eb, eo, hea, helt, hec⟩ := RdP.lt (RdP.keep HE.out hBi.out) (by intro h; have := congrArg List.length h; rw [aP_length] at this; simp at this; rw [this] at hpl; simp at hpl)
          have hx := hec p (by rw [aP_length]; exact hpl)
          rw [aP_at es p hpl] at hx
          have hsn := attU_snoc (List.getElem?_eq_getElem hpl)
          have hss := HSZ.out es[p] (List.getElem_mem hpl)
          obtain ⟨zn, hz⟩ : ∃ z, es[p].1 = z := ⟨_, rfl⟩
          obtain ⟨u, hu⟩ : ∃ u, es[p].2 = u := ⟨_, rfl⟩
          rw [hz, hu] at hx hsn hss
          rw [hcq.out] at hsn
          obtain ⟨x1, x2⟩ := hx
          dsimp only at x1 x2
          obtain ⟨s1, s2⟩ := hss
          rw [hea]
          have bA : Below wr.heap.size wr (wr.alloc (.cells #[.string zn, .string u] 106)) := (Below.refl _ wr).alloc (Nat.le_refl _) _
          have HBI : Hid (Below Wb.heap.size Wb (wr.alloc (.cells #[.string zn, .string u] 106))) := hBi.out.trans (bA.mono hBi.out.size)
          clear bA
          have hs1 : Hid (attU (es.take (p + 1)) = q + (zn.size + u.size)) := hsn
          clear hec hz hu hcq hsn
          generalize hzn : zn.size = sn at s1 hs1
          generalize hun : u.size = su at s2 hs1
          go_wp2
          go_roundw
          case rel => exact ⟨p + 1, q + (sn + su), by omega, by go_num, by go_num, by omega, hs1, HBI⟩
          case measure => simp [intOf]; omega
        · have hpi : ¬ (p : Int) < (n3 : Int) := by omega
          have hfin : Hid (restU ((rs.map InoR.D).take (k + 1)) = m + (n1 + q)) := by
            show _ = _
            rw [hnx.out, ← hcq.out, List.take_of_length_le (by rw [HN.out]; omega)]
          have hB2 : Hid _ := HBA.out.trans (hBi.out.mono HBA.out.size)
          go_wp2
          go_roundw
          case rel => exact ⟨k + 1, m + (n1 + q), by omega, by go_num, by go_num, by omega, hfin, hB2⟩
          case measure => simp [intOf]; omega
    · have hki : ¬ (k : Int) < (n : Int) := by omega
      have hend : Hid (((n * 32 + m : Nat) : Int) = (R : Int)) := by
        have h1 := hlk.out
        rw [List.take_of_length_le (by rw [List.length_map, hln.out]; omega)] at h1
        have h2 := HR.out
        unfold usageD at h2; rw [h1, List.length_map, hln.out] at h2
        show _ = _
        rw [h2]
      have hfb : Hid _ := HB.out.trans (hB.out.mono HB.out.size)
      go_wp2
      go_ret
      exact ⟨ret_int hend.out, hfb.out⟩
end

section
open Go.RowKit
set_option maxHeartbeats 1000000 in
theorem sameL_any (a a' : Option Addr) (n m cap cap' : Nat) (zs ys : List Int) (w : World) (hn : zs.length = n) (hm : ys.length = m) (hs : n ≤ 4000000) (hs' : m ≤ 4000000) (hr : Rd w a zs) (hr' : Rd w a' ys) :
    Calls Tryz.prog 50 #[.slice a n cap, .slice a' m cap'] w fun e w' => e = .returned (.bool (decide (zs = ys))) ∧ ∃ d, w' = w.drewN d := by
  by_cases hnm : n = m
  · subst hnm
    by_cases h0 : n = 0
    · subst h0
      obtain rfl : zs = [] := List.length_eq_zero_iff.1 hn
      obtain rfl : ys = [] := List.length_eq_zero_iff.1 hm
      go_enter Tryz.func50, Tryz.ntmps50
      go_wp2
      refine wp_loop_rounds 1 ?_; rw [rounds_succ]
      go_wp2
      go_ret
      exact ⟨rfl, 0, rfl⟩
    · obtain ⟨b, off, rfl, hlt, hc⟩ := hr.lt (by intro h; subst h; simp at hn; omega)
      obtain ⟨b', off', rfl, hlt', hc'⟩ := hr'.lt (by intro h; subst h; simp at hm; omega)
      have HC : Hid _ := hc
      have HC' : Hid _ := hc'
      have hn' : Hid (zs.length = n) := hn
      have hm' : Hid (ys.length = n) := hm
      clear hr hr' hc hc' hn hm
      go_enter Tryz.func50, Tryz.ntmps50
      go_wp2
      go_loopw [5] (fun i wr => ∃ k d : Nat, k ≤ n ∧ i = .int .i64 k ∧ wr = w.drewN d ∧ Hid (∀ j, j < k → zs.getD j 0 = ys.getD j 0)) (fun i _ => n - (intOf i).toNat)
      case atStart => exact ⟨0, 0, Nat.zero_le _, rfl, rfl, fun j hj => by omega⟩
      case round =>
        obtain ⟨k, d, hk, rfl, hwr0, hall⟩ := hrel
        have hwr : Hid (wr = w.drewN d) := hwr0
        have hcells : ∀ p, wr.cell? p = w.cell? p := fun p => by rw [hwr0]; rfl
        clear hwr0
        by_cases hkn : k < n
        · have hki : (k : Int) < (n : Int) := by omega
          have x1 := HC.out k (by rw [hn'.out]; exact hkn)
          have y1 := HC'.out k (by rw [hm'.out]; exact hkn)
          rw [← hcells] at x1 y1
          have hyes : zs.getD k 0 = ys.getD k 0 → ∀ j, j < k + 1 → zs.getD j 0 = ys.getD j 0 := by
            intro e j hj
            rcases (show j < k ∨ j = k by omega) with hj | rfl
            · exact hall.out j hj
            · exact e
          have hno : zs.getD k 0 ≠ ys.getD k 0 → decide (zs = ys) = false := fun e => decide_eq_false (fun e' => e (by rw [e']))
          obtain ⟨z, hz⟩ : ∃ z, zs.getD k 0 = z := ⟨_, rfl⟩
          obtain ⟨y, hy⟩ : ∃ y, ys.getD k 0 = y := ⟨_, rfl⟩
          rw [hz] at x1 hyes hno
          rw [hy] at y1 hyes hno
          by_cases heq : z = y
          · have heq' : (z == y) = true := by simp [heq]
            have hnx : Hid _ := hyes heq
            clear hyes hno heq hz hy hcells hall
            go_wp2
            go_quiet (fail)
            go_wp2
            go_roundw
            case rel => exact ⟨k + 1, d + nq, by omega, by go_num, by rw [hwr.out, World.drewN_drewN], hnx⟩
            case measure => simp [intOf]; omega
          · have heq' : (z == y) = false := by simp [heq]
            have hfin : Hid _ := hno heq
            clear hyes hno heq hz hy hcells hall
            go_wp2
            go_quiet (fail)
            go_wp2
            go_ret
            exact ⟨ret_bool hfin.out.symm, d + nq, by rw [hwr.out, World.drewN_drewN]⟩
        · have hki : ¬ (k : Int) < (n : Int) := by omega
          have hfin : Hid (decide (zs = ys) = true) := decide_eq_true (List.ext_getElem (by rw [hn'.out, hm'.out]) (fun j h h' => by
            have := hall.out j (by rw [hn'.out] at h; omega)
            simpa [h, h'] using this))
          clear hcells hall
          go_wp2
          go_ret
          exact ⟨ret_bool hfin.out.symm, d, hwr.out⟩
  · have hne : Hid (decide (zs = ys) = false) := decide_eq_false (fun e => hnm (by rw [← hn, ← hm, e]))
    have hnm' : ((n : Int) == (m : Int)) = false := by simp; omega
    clear hr hr' hn hm hnm
    go_enter Tryz.func50, Tryz.ntmps50
    go_wp2
    go_ret
    exact ⟨ret_bool hne.out.symm, 0, rfl⟩
theorem gr6 (W : World) (H : Nat) (v0 v1 v2 v3 v4 v5 : Value) : W.grownBy ((((((W.setCell ⟨H, 0, none⟩ v0).setCell ⟨H, 1, none⟩ v1).setCell ⟨H, 2, none⟩ v2).setCell ⟨H, 3, none⟩ v3).setCell ⟨H, 4, none⟩ v4).setCell ⟨H, 5, none⟩ v5) (some H) :=
  gr_more (gr_more (gr_more (gr_more (gr_more (gr_setC W H 0 v0) 1 v1) 2 v2) 3 v3) 4 v4) 5 v5
end

section
open Go.RowKit
theorem sameL_self (a a' : Option Addr) (n cap cap' : Nat) (ys : List Int) (w : World) (hn : ys.length = n) (hs : n ≤ 4000000) (hr : Rd w a ys) (hr' : Rd w a' ys) :
    Calls Tryz.prog 50 #[.slice a n cap, .slice a' n cap'] w fun e w' => e = .returned (.bool true) ∧ Below w.heap.size w w' :=
  (sameL_any a a' n n cap cap' ys ys w hn hn hs hs hr hr').mono fun _ _ ⟨h1, d, h2⟩ => ⟨by rw [h1]; simp, drewN_below ⟨d, h2⟩⟩
end

section
open Go.RowKit
set_option maxRecDepth 100000 in
set_option maxHeartbeats 16000000 in
theorem walkFnMovedTree (a : Option Addr) (n cap : Nat) (zs : List Int) (w : World) (hr : ByteRow w a n cap zs) (het : EtCell w) :
    Calls Tryz.prog 13 #[.slice a n cap] w fun e w' => e = .returned (.bool true) ∧ Below w.heap.size w w' := by
  by_cases hbig : (1048576 : Int) < (n : Int)
  · have hd : decide ((1048576 : Int) < (n : Int)) = true := decide_eq_true hbig
    have hc := big8_any a n cap w
    rw [hd] at hc
    go_enter Tryz.func13, Tryz.ntmps13
    go_wp2_with fail
    (with_reducible refine hc.mono ?_)
    rintro e w1 ⟨rfl, hw1⟩
    obtain rfl := hw1.symm
    go_wp2
    go_ret
    exact ⟨rfl, Below.refl _ _⟩
  have hd : decide ((1048576 : Int) < (n : Int)) = false := decide_eq_false hbig
  have hc := big8_any a n cap w
  rw [hd] at hc
  have HET : Hid _ := het
  have hn20 : n ≤ 1048576 := by omega
  obtain ⟨ys, hyl, hyr, hyb⟩ := rd_of_row hr
  have hG := grownI a n cap ys w hyl hn20 hyr hyb het
  obtain ⟨v, hv⟩ : ∃ v, atV8 ys n 2 = v := ⟨_, rfl⟩
  obtain ⟨p, hp⟩ : ∃ v, atV8 ys n 3 % 50 = v := ⟨_, rfl⟩
  rw [hv, hp] at hG
  have hp50 : p < 50 := by omega
  obtain ⟨u, hu⟩ : ∃ v, atV8 ys n 4 = v := ⟨_, rfl⟩
  have hu255 : u ≤ 255 := by rw [← hu]; exact atV8_le ys n 4 hyb
  have HAT : Hid (∀ W : World, Below w.heap.size w W → Calls Tryz.prog 31 #[.slice a n cap, .int .i64 4] W fun e w' => e = .returned (.int .i64 (u : Int)) ∧ w' = W) := fun W hW => by
    have h := at8_any a n cap ys 4 W hyl hn20 (by omega) (hyr.keep hW) hyb
    rw [hu] at h
    exact h
  obtain ⟨k, hk⟩ : ∃ k, u % 26 = k := ⟨_, rfl⟩
  have hkl : k < 26 := by omega
  have hmod : (u : Int) % 26 = (k : Int) := by omega
  have hmod2 : Int.tmod (u : Int) 26 = (k : Int) := by rw [Int.tmod_eq_emod_of_nonneg (by omega)]; exact hmod
  have hw64 : IntKind.i64.wrap (97 + (k : Int)) = 97 + (k : Int) := by rw [IntKind.wrap_i64]; omega
  have hw8 : IntKind.u8.wrap (97 + (k : Int)) = 97 + (k : Int) := by rw [IntKind.wrap_u8]; omega
  clear hd hbig het hk hp hv hu hr hyl hyr hyb
  go_enter Tryz.func13, Tryz.ntmps13
  go_wp2_with fail
  (with_reducible refine hc.mono ?_)
  rintro e w1 ⟨rfl, hw1⟩
  obtain rfl := hw1.symm
  clear hc
  go_wp2_with fail
  (with_reducible refine hG.mono ?_)
  rintro e w2 ⟨b, m, c, rs, rfl, hTr, hRr, b2⟩
  have bT : Below w2.heap.size w2 (w2.alloc (.cells #[.slice b m c, .int .i64 6] 47)) := (Below.refl _ w2).alloc (Nat.le_refl _) _
  have zT := Blk.new w2 47 #[.slice b m c, .int .i64 6]
  have B2 := b2.trans (bT.mono b2.size)
  have hTr2 := hTr.keep bT
  go_upto_region 4 with fail
  obtain ⟨W2, hW2⟩ : ∃ W, w2.alloc (.cells #[.slice b m c, .int .i64 6] 47) = W := ⟨_, rfl⟩
  rw [hW2] at zT B2 hTr2 ⊢
  obtain ⟨T, hT⟩ : ∃ X, w2.heap.size = X := ⟨_, rfl⟩
  rw [hT] at zT ⊢
  have lK : ([(v : Int), 7] : List Int).length ≤ 100 := by simp
  have lL : ([] : List Int).length ≤ 100 := by simp
  have lM : (gTop p).length ≤ 100 := by rw [gTop_len]; omega
  have htree := gX_tree lK lL lM
  have htm := mX_tree hkl lK lL lM
  have hsm := mX_small hkl lK lL lM
  obtain ⟨t1, t2, t3⟩ := tree_facts (nx := 6) (rs := rs) (by rw [hRr]; exact htree)
  have HEW : Hid (∀ W : World, Below W2.heap.size W2 W → EtCell W) := fun W hW => EtCell.keep HET.out (B2.trans (hW.mono B2.size))
  have cR : Hid (∀ W : World, Below W2.heap.size W2 W → Calls Tryz.prog 34 #[.agg #[.slice b m c, .int .i64 6], .string ⟨#[47, 100, 105, 114, 47, 111, 110, 101]⟩, .int .i64 0, .int .i64 10] W fun e w' => ∃ x y, e = .returned (.tuple #[.slice x 2 y, .int .i64 0]) ∧ Rd w' x [(v : Int), 7] ∧ Below W.heap.size W w') := fun W hW => by
    have h := readI b m c 6 rs pOne 10 W (hTr2.keep hW) t1 t2 t3 (HEW.out W hW) (by decide) (by omega) (by rw [hRr, mv_one]; simp)
    have hrd : readD (rs.map InoR.D) pOne 10 = ([(v : Int), 7], 0) := by
      unfold readD
      rw [hRr, mv_one]
      rfl
    rw [hrd] at h
    exact h
  have cN : Hid (∀ W : World, Below W2.heap.size W2 W → Calls Tryz.prog 49 #[.agg #[.slice b m c, .int .i64 6], .string ⟨#[47, 100, 105, 114]⟩, .string (mP k)] W fun e w' => TabC W 6 (mX k [(v : Int), 7] [] (gTop p)) 0 e w') := fun W hW => by
    have h := renameI b m c 6 rs pDir (mP k) W (hTr2.keep hW) t2 (HEW.out W hW) (by decide) (show (mP k).size ≤ 1048576 from by show (3 : Nat) ≤ _; omega)
    rw [hRr, renE_eq htree, mv_ren k hkl] at h
    exact h
  have cS : Hid (∀ W : World, Below W2.heap.size W2 W → Calls Tryz.prog 49 #[.agg #[.slice b m c, .int .i64 6], .string ⟨#[47, 100, 105, 114]⟩, .string ⟨#[47, 100, 105, 114, 47, 115, 117, 98]⟩] W fun e w' => ∃ a4 n4 c4 m4, e = .returned (.tuple #[.agg #[.slice a4 n4 c4, .int .i64 m4], .int .i64 6]) ∧ Below W.heap.size W w') := fun W hW => by
    have h := renameI b m c 6 rs pDir pSub W (hTr2.keep hW) t2 (HEW.out W hW) (by decide) (by decide)
    rw [hRr, renE_eq htree, mv_sub] at h
    exact h.mono fun e w' ⟨a4, c4, js, h1, _, h3⟩ => ⟨a4, _, c4, _, h1, h3⟩
  have cF : Hid (∀ W : World, Below W2.heap.size W2 W → Calls Tryz.prog 49 #[.agg #[.slice b m c, .int .i64 6], .string ⟨#[47, 100, 105, 114]⟩, .string ⟨#[47, 100, 105, 114]⟩] W fun e w' => ∃ a4 n4 c4 m4, e = .returned (.tuple #[.agg #[.slice a4 n4 c4, .int .i64 m4], .int .i64 6]) ∧ Below W.heap.size W w') := fun W hW => by
    have h := renameI b m c 6 rs pDir pDir W (hTr2.keep hW) t2 (HEW.out W hW) (by decide) (by decide)
    rw [hRr, renE_eq htree, mv_self] at h
    exact h.mono fun e w' ⟨a4, c4, js, h1, _, h3⟩ => ⟨a4, _, c4, _, h1, h3⟩
  obtain ⟨uu, huu⟩ : ∃ x, usageD (gX [(v : Int), 7] [] (gTop p)) = x := ⟨_, rfl⟩
  have hum : usageD (mX k [(v : Int), 7] [] (gTop p)) = uu := by rw [mv_usage]; exact huu
  have cU : Hid (∀ W : World, Below W2.heap.size W2 W → Calls Tryz.prog 44 #[.agg #[.slice b m c, .int .i64 6]] W fun e w' => e = .returned (.int .i64 (uu : Int)) ∧ Below W.heap.size W w') := fun W hW => by
    have h := usageI b m c 6 rs W (hTr2.keep hW)
    rw [hRr, huu] at h
    exact h
  have HZ : Hid (∀ W : World, Below W2.heap.size W2 W → W.cell? ⟨T, 0, none⟩ = some (.slice b m c) ∧ W.cell? ⟨T, 1, none⟩ = some (.int .i64 6)) := fun W hW => ⟨(zT.keep hW).cell 0, (zT.keep hW).cell 1⟩
  have HST := mv_stat k hkl [(v : Int), 7] [] (gTop p)
  have HGO := mv_gone k hkl [(v : Int), 7] [] (gTop p)
  have hcv := conv_any (W2.alloc (.cells #[.int .u8 (97 + (k : Int))] 5)) (some ⟨W2.heap.size, 0, none⟩) 1 1 [97 + (k : Int)] rfl (rd_one W2 _)
  have hzz := str_one (97 + (k : Int))
  have hfs := mP_eq hkl
  have hgs := mO_eq hkl
  obtain ⟨z, hz⟩ : ∃ z, str [97 + (k : Int)] = z := ⟨_, rfl⟩
  rw [hz] at hcv hzz hfs
  have hPs : (mP k).size = 3 := rfl
  have hOs : (mO k).size ≤ 4000000 := by show (7 : Nat) ≤ _; omega
  obtain ⟨P, hP⟩ : ∃ s, mP k = s := ⟨_, rfl⟩
  obtain ⟨O, hO⟩ : ∃ s, mO k = s := ⟨_, rfl⟩
  rw [hP] at cN hfs hgs hPs
  rw [hO] at HST hgs hOs
  have hlim : ¬ 9223372036854775807 < (⟨#[47, 109]⟩ : ByteArray).size + z.size := by rw [hzz]; decide
  have hlin : ¬ 9223372036854775807 < P.size + (⟨#[47, 111, 110, 101]⟩ : ByteArray).size := by rw [hPs]; decide
  have b3 : Below W2.heap.size W2 (W2.alloc (.cells #[.int .u8 (97 + (k : Int))] 5)) := (Below.refl _ W2).alloc (Nat.le_refl _) _
  have HB2 : Hid _ := B2
  have HTM : Hid _ := And.intro htm (And.intro hsm (And.intro HST (And.intro HGO hum)))
  have HOS : Hid _ := hOs
  clear hTr hTr2 hRr htree htm hsm t1 t2 t3 hW2 hT bT b2 zT hG lK lL lM HST HGO hum huu hz hP hO hPs hkl hp50 hOs
  go_wp2_with fail
  (with_reducible refine (HAT.out W2 HB2.out).mono ?_)
  rintro e w1' ⟨rfl, hw1⟩
  obtain rfl := hw1.symm
  go_upto_region 5 with fail
  obtain ⟨W3, hW3⟩ : ∃ W, W2.alloc (.cells #[.int .u8 (97 + (k : Int))] 5) = W := ⟨_, rfl⟩
  rw [hW3] at b3 ⊢
  clear hW3 hcv hlim hzz hfs HAT hw64 hw8
  obtain ⟨z0, z1⟩ := HZ.out W3 b3
  go_wp2_with fail
  (with_reducible refine (cR.out W3 b3).mono ?_)
  rintro e w4 ⟨xa, ya, rfl, hra, b4⟩
  have E4 := b3.trans (b4.mono b3.size)
  clear z0 z1 b3 b4 cR
  obtain ⟨z0, z1⟩ := HZ.out w4 E4
  go_wp2_with fail
  (with_reducible refine (cN.out w4 E4).mono ?_)
  intro e w5 hp5
  obtain ⟨a5, n5, c5, rs5, rfl, hT5, hR5, b5⟩ := hp5.open HTM.out.2.1 (by show (5 : Nat) ≤ _; omega)
  have bA : Below w5.heap.size w5 (w5.alloc (.cells #[.slice a5 n5 c5, .int .i64 6] 47)) := (Below.refl _ w5).alloc (Nat.le_refl _) _
  have zX := Blk.new w5 47 #[.slice a5 n5 c5, .int .i64 6]
  have E5 := (E4.trans (b5.mono E4.size)).trans (bA.mono (Nat.le_trans E4.size b5.size))
  have hra5 := (hra.keep b5).keep bA
  have hTr5 := (hT5 _ bA).1
  clear z0 z1 E4 cN hp5 hT5 b5 bA hra
  go_upto_region 7 with fail
  obtain ⟨W5, hW5⟩ : ∃ W, w5.alloc (.cells #[.slice a5 n5 c5, .int .i64 6] 47) = W := ⟨_, rfl⟩
  obtain ⟨X, hX⟩ : ∃ X, w5.heap.size = X := ⟨_, rfl⟩
  rw [hW5] at zX E5 hra5 hTr5 ⊢
  rw [hX] at zX ⊢
  clear hW5 hX
  obtain ⟨htm, hsm, hST, hGO, hum⟩ := HTM.out
  obtain ⟨t1, t2, t3⟩ := tree_facts (nx := 6) (rs := rs5) (by rw [hR5]; exact htm)
  have dR : Calls Tryz.prog 34 #[.agg #[.slice a5 n5 c5, .int .i64 6], .string O, .int .i64 0, .int .i64 10] W5 fun e w' => ∃ x y, e = .returned (.tuple #[.slice x 2 y, .int .i64 0]) ∧ Rd w' x [(v : Int), 7] ∧ Below W5.heap.size W5 w' := by
    have h := readI a5 n5 c5 6 rs5 O 10 W5 hTr5 t1 t2 t3 (HEW.out W5 E5) HOS.out (by omega) (by rw [hR5, hST]; simp)
    have hrd : readD (rs5.map InoR.D) O 10 = ([(v : Int), 7], 0) := by
      unfold readD
      rw [hR5, hST]
      rfl
    rw [hrd] at h
    exact h
  have dW : Hid (∀ W : World, Below W5.heap.size W5 W → Calls Tryz.prog 41 #[.agg #[.slice a5 n5 c5, .int .i64 6], .string ⟨#[47, 100, 105, 114, 47, 111, 110, 101]⟩] W fun e w' => e = .returned (.tuple #[.int .i64 0, .int .i64 2]) ∧ Below W.heap.size W w') := fun W hW => by
    have h := walkCI a5 n5 c5 6 rs5 pOne W (hTr5.keep hW) t1 t2 t3 (HEW.out W (E5.trans (hW.mono E5.size))) (by decide)
    rw [hR5, hGO] at h
    exact h
  have dU : Hid (∀ W : World, Below W5.heap.size W5 W → Calls Tryz.prog 44 #[.agg #[.slice a5 n5 c5, .int .i64 6]] W fun e w' => e = .returned (.int .i64 (uu : Int)) ∧ Below W.heap.size W w') := fun W hW => by
    have h := usageI a5 n5 c5 6 rs5 W (hTr5.keep hW)
    rw [hR5, hum] at h
    exact h
  have HX : Hid (∀ W : World, Below W5.heap.size W5 W → W.cell? ⟨X, 0, none⟩ = some (.slice a5 n5 c5) ∧ W.cell? ⟨X, 1, none⟩ = some (.int .i64 6)) := fun W hW => ⟨(zX.keep hW).cell 0, (zX.keep hW).cell 1⟩
  have HRA : Hid (∀ W : World, Below W5.heap.size W5 W → Rd W xa [(v : Int), 7]) := fun W hW => hra5.keep hW
  have HE5 : Hid (∀ W : World, Below W5.heap.size W5 W → Below W2.heap.size W2 W) := fun W hW => E5.trans (hW.mono E5.size)
  clear zX E5 hra5 hTr5 hR5 t1 t2 t3 htm hsm hST hGO hum HTM HEW HOS
  obtain ⟨z0, z1⟩ := HX.out W5 (Below.refl _ _)
  go_wp2_with fail
  (with_reducible refine dR.mono ?_)
  rintro e w6 ⟨xb, yb, rfl, hrb, b6⟩
  clear z0 z1 dR hlin
  obtain ⟨z0, z1⟩ := HX.out w6 b6
  go_wp2_with fail
  (with_reducible refine (dW.out w6 b6).mono ?_)
  rintro e w7 ⟨rfl, b7⟩
  have F7 := b6.trans (b7.mono b6.size)
  have hrb7 := hrb.keep b7
  clear z0 z1 b6 b7 hrb dW
  obtain ⟨z0, z1⟩ := HZ.out w7 (HE5.out w7 F7)
  go_wp2_with fail
  (with_reducible refine (cS.out w7 (HE5.out w7 F7)).mono ?_)
  rintro e w8 ⟨a8, n8, c8, m8, rfl, b8⟩
  have F8 : Below W5.heap.size W5 (w8.alloc (.cells #[.slice a8 n8 c8, .int .i64 m8] 47)) := (F7.trans (b8.mono F7.size)).alloc (Nat.le_trans F7.size b8.size) _
  have hrb8 := (hrb7.keep b8).keep ((Below.refl _ w8).alloc (Nat.le_refl _) (.cells #[.slice a8 n8 c8, .int .i64 m8] 47))
  clear z0 z1 b8 F7 hrb7 cS
  obtain ⟨z0, z1⟩ := HZ.out _ (HE5.out _ F8)
  go_wp2_with fail
  (with_reducible refine (cF.out _ (HE5.out _ F8)).mono ?_)
  rintro e w9 ⟨a9, n9, c9, m9, rfl, b9⟩
  have F9 : Below W5.heap.size W5 (w9.alloc (.cells #[.slice a9 n9 c9, .int .i64 m9] 47)) := (F8.trans (b9.mono F8.size)).alloc (Nat.le_trans F8.size b9.size) _
  have hrb9 := (hrb8.keep b9).keep ((Below.refl _ w9).alloc (Nat.le_refl _) (.cells #[.slice a9 n9 c9, .int .i64 m9] 47))
  clear z0 z1 b9 F8 hrb8 cF
  go_upto_region 11 with fail
  obtain ⟨W9, hW9⟩ : ∃ W, w9.alloc (.cells #[.slice a9 n9 c9, .int .i64 m9] 47) = W := ⟨_, rfl⟩
  rw [hW9] at F9 hrb9 ⊢
  clear hW9
  have hsb : Calls Tryz.prog 50 #[.slice xa 2 ya, .slice xb 2 yb] W9.drew fun e w' => e = .returned (.bool true) ∧ Below W9.drew.heap.size W9.drew w' := sameL_self xa xb 2 ya yb [(v : Int), 7] W9.drew rfl (by omega) ((HRA.out W9 F9).keep (Below.refl _ _).drew) (hrb9.keep (Below.refl _ _).drew)
  obtain ⟨z0, z1⟩ := HZ.out W9 (HE5.out W9 F9)
  obtain ⟨x0, x1⟩ := HX.out W9 F9
  have hbb : ((uu : Int) == (uu : Int)) = true := by simp
  have HK : Hid (∀ W : World, Below W5.heap.size W5 W → W.cell? ⟨T, 0, none⟩ = some (.slice b m c) ∧ W.cell? ⟨T, 1, none⟩ = some (.int .i64 6) ∧ W.cell? ⟨X, 0, none⟩ = some (.slice a5 n5 c5) ∧ W.cell? ⟨X, 1, none⟩ = some (.int .i64 6)) := fun W hW => ⟨(HZ.out W (HE5.out W hW)).1, (HZ.out W (HE5.out W hW)).2, (HX.out W hW).1, (HX.out W hW).2⟩
  refine wp_region_noPanic ?_
  refine wp_region_held_drew (S := fun W : World => W.cell? ⟨T, 0, none⟩ = some (.slice b m c) ∧ W.cell? ⟨T, 1, none⟩ = some (.int .i64 6) ∧ W.cell? ⟨X, 0, none⟩ = some (.slice a5 n5 c5) ∧ W.cell? ⟨X, 1, none⟩ = some (.int .i64 6)) (by kernel_rfl) (by go_keep) (fun hS => ?_)
  refine wpAnyH_take (i := 0) (v := ?gv1) rfl (by kernel_rfl) (by kernel_rfl) (by kernel_rfl) (fun _ _ _ h => h) (Or.inl ⟨by kernel_rfl, ?gy1⟩) (by assumption) ?gr1
  case gy1 => (intro w' hSw; (try dsimp only at hSw); go_simp; (try with_reducible rfl))
  try simp only [Act.put, List.setIfInBounds_toArray, List.set_cons_zero, List.set_cons_succ, List.getElem_toArray, List.getElem_cons_zero]
  refine wpAnyH_take (i := 1) (v := ?gv2) rfl (by kernel_rfl) (by kernel_rfl) (by kernel_rfl) (fun _ _ _ h => h) (Or.inl ⟨by kernel_rfl, ?gy2⟩) (by assumption) ?gr2
  case gy2 => (intro w' hSw; (try dsimp only at hSw); go_simp; (try with_reducible rfl))
  try simp only [Act.put, List.setIfInBounds_toArray, List.set_cons_zero, List.set_cons_succ, List.getElem_toArray, List.getElem_cons_succ, List.getElem_cons_zero]
  refine wpAnyH_take (i := 2) (v := ?gv3) rfl (by kernel_rfl) (by kernel_rfl) (by kernel_rfl) (fun _ _ _ h => h) (Or.inl ⟨by kernel_rfl, ?gy3⟩) (by assumption) ?gr3
  case gy3 => (intro w' hSw; (try dsimp only at hSw); go_simp; (try with_reducible rfl))
  try simp only [Act.put, List.setIfInBounds_toArray, List.set_cons_zero, List.set_cons_succ, List.getElem_toArray, List.getElem_cons_succ, List.getElem_cons_zero]
  refine wpAnyH_take (i := 3) (v := ?gv4) rfl (by kernel_rfl) (by kernel_rfl) (by kernel_rfl) (fun _ _ _ h => h) (Or.inl ⟨by kernel_rfl, ?gy4⟩) (by assumption) ?gr4
  case gy4 => (intro w' hSw; (try dsimp only at hSw); go_simp; (try with_reducible rfl))
  try simp only [Act.put, List.setIfInBounds_toArray, List.set_cons_zero, List.set_cons_succ, List.getElem_toArray, List.getElem_cons_succ, List.getElem_cons_zero]
  refine wpAnyH_take (i := 4) (v := ?gv5) rfl (by kernel_rfl) (by kernel_rfl) (by kernel_rfl) (fun _ _ _ h => h) (Or.inl ⟨by kernel_rfl, ?gy5⟩) (by assumption) ?gr5
  case gy5 => (intro w' hSw; (try dsimp only at hSw); go_simp; (try with_reducible rfl))
  try simp only [Act.put, List.setIfInBounds_toArray, List.set_cons_zero, List.set_cons_succ, List.getElem_toArray, List.getElem_cons_succ, List.getElem_cons_zero]
  refine wpAnyH_take (i := 5) (v := ?gv6) rfl (by kernel_rfl) (by kernel_rfl) (by kernel_rfl) (fun _ _ _ h => h) (Or.inl ⟨by kernel_rfl, ?gy6⟩) (by assumption) ?gr6
  case gy6 => (intro w' hSw; (try dsimp only at hSw); go_simp; (try with_reducible rfl))
  try simp only [Act.put, List.setIfInBounds_toArray, List.set_cons_zero, List.set_cons_succ, List.getElem_toArray, List.getElem_cons_succ, List.getElem_cons_zero]
  refine wpAnyH_take (i := 6) (v := ?gv7) rfl (by kernel_rfl) (by kernel_rfl) (by kernel_rfl) (fun _ _ _ h => h) (Or.inl ⟨by kernel_rfl, ?gy7⟩) (by assumption) ?gr7
  case gy7 => (intro w' hSw; (try dsimp only at hSw); go_simp; (try with_reducible rfl))
  try simp only [Act.put, List.setIfInBounds_toArray, List.set_cons_zero, List.set_cons_succ, List.getElem_toArray, List.getElem_cons_succ, List.getElem_cons_zero]
  refine wpAnyH_take (i := 7) (v := ?gv8) rfl (by kernel_rfl) (by kernel_rfl) (by kernel_rfl) (fun _ _ _ h => h) (Or.inl ⟨by kernel_rfl, ?gy8⟩) (by assumption) ?gr8
  case gy8 => (intro w' hSw; (try dsimp only at hSw); go_simp; (try with_reducible rfl))
  try simp only [Act.put, List.setIfInBounds_toArray, List.set_cons_zero, List.set_cons_succ, List.getElem_toArray, List.getElem_cons_succ, List.getElem_cons_zero]
  refine wpAnyH_take (i := 8) (v := ?gv9) rfl (by kernel_rfl) (by kernel_rfl) (by kernel_rfl) (fun _ _ _ h => h) (Or.inl ⟨by kernel_rfl, ?gy9⟩) (by assumption) ?gr9
  case gy9 => (intro w' hSw; (try dsimp only at hSw); go_simp; (try with_reducible rfl))
  try simp only [Act.put, List.setIfInBounds_toArray, List.set_cons_zero, List.set_cons_succ, List.getElem_toArray, List.getElem_cons_succ, List.getElem_cons_zero]
  refine wpAnyH_take (i := 9) (v := ?gv10) rfl (by kernel_rfl) (by kernel_rfl) (by kernel_rfl) (fun _ _ _ h => h) (Or.inl ⟨by kernel_rfl, ?gy10⟩) (by assumption) ?gr10
  case gy10 => (intro w' hSw; (try dsimp only at hSw); go_simp; (try with_reducible rfl))
  try simp only [Act.put, List.setIfInBounds_toArray, List.set_cons_zero, List.set_cons_succ, List.getElem_toArray, List.getElem_cons_succ, List.getElem_cons_zero]
  refine wpAnyH_take (i := 10) (v := ?gv11) rfl (by kernel_rfl) (by kernel_rfl) (by kernel_rfl) (fun _ _ _ h => h) (Or.inl ⟨by kernel_rfl, ?gy11⟩) (by assumption) ?gr11
  case gy11 => (intro w' hSw; (try dsimp only at hSw); go_simp; (try with_reducible rfl))
  try simp only [Act.put, List.setIfInBounds_toArray, List.set_cons_zero, List.set_cons_succ, List.getElem_toArray, List.getElem_cons_succ, List.getElem_cons_zero]
  refine wpAnyH_take (i := 11) (v := ?gv12) rfl (by kernel_rfl) (by kernel_rfl) (by kernel_rfl) (fun _ _ _ h => h) (Or.inl ⟨by kernel_rfl, ?gy12⟩) (by assumption) ?gr12
  case gy12 => (intro w' hSw; (try dsimp only at hSw); go_simp; (try with_reducible rfl))
  try simp only [Act.put, List.setIfInBounds_toArray, List.set_cons_zero, List.set_cons_succ, List.getElem_toArray, List.getElem_cons_succ, List.getElem_cons_zero]
  refine wpAnyH_take (i := 12) (v := ?gv13) rfl (by kernel_rfl) (by kernel_rfl) (by kernel_rfl) (fun _ _ _ h => h) (Or.inl ⟨by kernel_rfl, ?gy13⟩) (by assumption) ?gr13
  case gy13 => (intro w' hSw; (try dsimp only at hSw); go_simp; (try with_reducible rfl))
  try simp only [Act.put, List.setIfInBounds_toArray, List.set_cons_zero, List.set_cons_succ, List.getElem_toArray, List.getElem_cons_succ, List.getElem_cons_zero]
  refine wpAnyH_take (i := 13) (v := ?gv14) rfl (by kernel_rfl) (by kernel_rfl) (by kernel_rfl) (fun _ _ _ h => h) (Or.inl ⟨by kernel_rfl, ?gy14⟩) (by assumption) ?gr14
  case gy14 => (intro w' hSw; (try dsimp only at hSw); go_simp; (try with_reducible rfl))
  try simp only [Act.put, List.setIfInBounds_toArray, List.set_cons_zero, List.set_cons_succ, List.getElem_toArray, List.getElem_cons_succ, List.getElem_cons_zero]
  refine wpAnyH_take (i := 14) (v := ?gv15) rfl (by kernel_rfl) (by kernel_rfl) (by kernel_rfl) (fun _ _ _ h => h) (Or.inl ⟨by kernel_rfl, ?gy15⟩) (by assumption) ?gr15
  case gy15 => (intro w' hSw; (try dsimp only at hSw); go_simp; (try with_reducible rfl))
  try simp only [Act.put, List.setIfInBounds_toArray, List.set_cons_zero, List.set_cons_succ, List.getElem_toArray, List.getElem_cons_succ, List.getElem_cons_zero]
  refine wpAnyH_take (i := 15) (v := ?gv16) rfl (by kernel_rfl) (by kernel_rfl) (by kernel_rfl) (fun _ _ _ h => h) (Or.inl ⟨by kernel_rfl, ?gy16⟩) (by assumption) ?gr16
  case gy16 => (intro w' hSw; (try dsimp only at hSw); go_simp; (try with_reducible rfl))
  try simp only [Act.put, List.setIfInBounds_toArray, List.set_cons_zero, List.set_cons_succ, List.getElem_toArray, List.getElem_cons_succ, List.getElem_cons_zero]
  refine wpAnyH_ready (rs := [16]) (by kernel_rfl) (by simp) ?_
  refine AllReadyH.cons rfl (fun K hK => ?_) AllReadyH.nil
  go_simp
  go_at_call 50
  (with_reducible refine hsb.mono ?_)
  rintro e w10 ⟨rfl, b10⟩
  have F10 : Below W5.heap.size W5 w10 := F9.drew.trans (b10.mono F9.size)
  clear hS
  dsimp only
  refine Shut.out hK _ _ (HK.out w10 F10) (fun hS => ?_)
  try simp only [Act.put, List.setIfInBounds_toArray, List.set_cons_zero, List.set_cons_succ, List.getElem_toArray, List.getElem_cons_succ, List.getElem_cons_zero]
  refine wpAnyH_take (i := 17) (v := ?gv17) rfl (by kernel_rfl) (by kernel_rfl) (by kernel_rfl) (fun _ _ _ h => h) (Or.inl ⟨by kernel_rfl, ?gy17⟩) (by assumption) ?gr17
  case gy17 => (intro w' hSw; (try dsimp only at hSw); go_simp; (try with_reducible rfl))
  try simp only [Act.put, List.setIfInBounds_toArray, List.set_cons_zero, List.set_cons_succ, List.getElem_toArray, List.getElem_cons_succ, List.getElem_cons_zero]
  refine wpAnyH_take (i := 18) (v := ?gv18) rfl (by kernel_rfl) (by kernel_rfl) (by kernel_rfl) (fun _ _ _ h => h) (Or.inl ⟨by kernel_rfl, ?gy18⟩) (by assumption) ?gr18
  case gy18 => (intro w' hSw; (try dsimp only at hSw); go_simp; (try with_reducible rfl))
  try simp only [Act.put, List.setIfInBounds_toArray, List.set_cons_zero, List.set_cons_succ, List.getElem_toArray, List.getElem_cons_succ, List.getElem_cons_zero]
  refine wpAnyH_take (i := 19) (v := ?gv19) rfl (by kernel_rfl) (by kernel_rfl) (by kernel_rfl) (fun _ _ _ h => h) (Or.inl ⟨by kernel_rfl, ?gy19⟩) (by assumption) ?gr19
  case gy19 => (intro w' hSw; (try dsimp only at hSw); go_simp; (try with_reducible rfl))
  try simp only [Act.put, List.setIfInBounds_toArray, List.set_cons_zero, List.set_cons_succ, List.getElem_toArray, List.getElem_cons_succ, List.getElem_cons_zero]
  refine wpAnyH_take (i := 20) (v := ?gv20) rfl (by kernel_rfl) (by kernel_rfl) (by kernel_rfl) (fun _ _ _ h => h) (Or.inl ⟨by kernel_rfl, ?gy20⟩) (by assumption) ?gr20
  case gy20 => (intro w' hSw; (try dsimp only at hSw); go_simp; (try with_reducible rfl))
  try simp only [Act.put, List.setIfInBounds_toArray, List.set_cons_zero, List.set_cons_succ, List.getElem_toArray, List.getElem_cons_succ, List.getElem_cons_zero]
  refine wpAnyH_take (i := 21) (v := ?gv21) rfl (by kernel_rfl) (by kernel_rfl) (by kernel_rfl) (fun _ _ _ h => h) (Or.inl ⟨by kernel_rfl, ?gy21⟩) (by assumption) ?gr21
  case gy21 => (intro w' hSw; (try dsimp only at hSw); go_simp; (try with_reducible rfl))
  try simp only [Act.put, List.setIfInBounds_toArray, List.set_cons_zero, List.set_cons_succ, List.getElem_toArray, List.getElem_cons_succ, List.getElem_cons_zero]
  refine wpAnyH_take (i := 22) (v := ?gv22) rfl (by kernel_rfl) (by kernel_rfl) (by kernel_rfl) (fun _ _ _ h => h) (Or.inl ⟨by kernel_rfl, ?gy22⟩) (by assumption) ?gr22
  case gy22 => (intro w' hSw; (try dsimp only at hSw); go_simp; (try with_reducible rfl))
  try simp only [Act.put, List.setIfInBounds_toArray, List.set_cons_zero, List.set_cons_succ, List.getElem_toArray, List.getElem_cons_succ, List.getElem_cons_zero]
  refine wpAnyH_take (i := 23) (v := ?gv23) rfl (by kernel_rfl) (by kernel_rfl) (by kernel_rfl) (fun _ _ _ h => h) (Or.inl ⟨by kernel_rfl, ?gy23⟩) (by assumption) ?gr23
  case gy23 => (intro w' hSw; (try dsimp only at hSw); go_simp; (try with_reducible rfl))
  try simp only [Act.put, List.setIfInBounds_toArray, List.set_cons_zero, List.set_cons_succ, List.getElem_toArray, List.getElem_cons_succ, List.getElem_cons_zero]
  refine wpAnyH_take (i := 24) (v := ?gv24) rfl (by kernel_rfl) (by kernel_rfl) (by kernel_rfl) (fun _ _ _ h => h) (Or.inl ⟨by kernel_rfl, ?gy24⟩) (by assumption) ?gr24
  case gy24 => (intro w' hSw; (try dsimp only at hSw); go_simp; (try with_reducible rfl))
  try simp only [Act.put, List.setIfInBounds_toArray, List.set_cons_zero, List.set_cons_succ, List.getElem_toArray, List.getElem_cons_succ, List.getElem_cons_zero]
  refine wpAnyH_take (i := 25) (v := ?gv25) rfl (by kernel_rfl) (by kernel_rfl) (by kernel_rfl) (fun _ _ _ h => h) (Or.inl ⟨by kernel_rfl, ?gy25⟩) (by assumption) ?gr25
  case gy25 => (intro w' hSw; (try dsimp only at hSw); go_simp; (try with_reducible rfl))
  try simp only [Act.put, List.setIfInBounds_toArray, List.set_cons_zero, List.set_cons_succ, List.getElem_toArray, List.getElem_cons_succ, List.getElem_cons_zero]
  refine wpAnyH_take (i := 26) (v := ?gv26) rfl (by kernel_rfl) (by kernel_rfl) (by kernel_rfl) (fun _ _ _ h => h) (Or.inl ⟨by kernel_rfl, ?gy26⟩) (by assumption) ?gr26
  case gy26 => (intro w' hSw; (try dsimp only at hSw); go_simp; (try with_reducible rfl))
  try simp only [Act.put, List.setIfInBounds_toArray, List.set_cons_zero, List.set_cons_succ, List.getElem_toArray, List.getElem_cons_succ, List.getElem_cons_zero]
  refine wpAnyH_take (i := 27) (v := ?gv27) rfl (by kernel_rfl) (by kernel_rfl) (by kernel_rfl) (fun _ _ _ h => h) (Or.inl ⟨by kernel_rfl, ?gy27⟩) (by assumption) ?gr27
  case gy27 => (intro w' hSw; (try dsimp only at hSw); go_simp; (try with_reducible rfl))
  try simp only [Act.put, List.setIfInBounds_toArray, List.set_cons_zero, List.set_cons_succ, List.getElem_toArray, List.getElem_cons_succ, List.getElem_cons_zero]
  refine wpAnyH_take (i := 28) (v := ?gv28) rfl (by kernel_rfl) (by kernel_rfl) (by kernel_rfl) (fun _ _ _ h => h) (Or.inl ⟨by kernel_rfl, ?gy28⟩) (by assumption) ?gr28
  case gy28 => (intro w' hSw; (try dsimp only at hSw); go_simp; (try with_reducible rfl))
  try simp only [Act.put, List.setIfInBounds_toArray, List.set_cons_zero, List.set_cons_succ, List.getElem_toArray, List.getElem_cons_succ, List.getElem_cons_zero]
  refine wpAnyH_take (i := 29) (v := ?gv29) rfl (by kernel_rfl) (by kernel_rfl) (by kernel_rfl) (fun _ _ _ h => h) (Or.inl ⟨by kernel_rfl, ?gy29⟩) (by assumption) ?gr29
  case gy29 => (intro w' hSw; (try dsimp only at hSw); go_simp; (try with_reducible rfl))
  try simp only [Act.put, List.setIfInBounds_toArray, List.set_cons_zero, List.set_cons_succ, List.getElem_toArray, List.getElem_cons_succ, List.getElem_cons_zero]
  refine wpAnyH_take (i := 30) (v := ?gv30) rfl (by kernel_rfl) (by kernel_rfl) (by kernel_rfl) (fun _ _ _ h => h) (Or.inl ⟨by kernel_rfl, ?gy30⟩) (by assumption) ?gr30
  case gy30 => (intro w' hSw; (try dsimp only at hSw); go_simp; (try with_reducible rfl))
  try simp only [Act.put, List.setIfInBounds_toArray, List.set_cons_zero, List.set_cons_succ, List.getElem_toArray, List.getElem_cons_succ, List.getElem_cons_zero]
  refine wpAnyH_take (i := 31) (v := ?gv31) rfl (by kernel_rfl) (by kernel_rfl) (by kernel_rfl) (fun _ _ _ h => h) (Or.inl ⟨by kernel_rfl, ?gy31⟩) (by assumption) ?gr31
  case gy31 => (intro w' hSw; (try dsimp only at hSw); go_simp; (try with_reducible rfl))
  try simp only [Act.put, List.setIfInBounds_toArray, List.set_cons_zero, List.set_cons_succ, List.getElem_toArray, List.getElem_cons_succ, List.getElem_cons_zero]
  refine wpAnyH_take (i := 32) (v := ?gv32) rfl (by kernel_rfl) (by kernel_rfl) (by kernel_rfl) (fun _ _ _ h => h) (Or.inl ⟨by kernel_rfl, ?gy32⟩) (by assumption) ?gr32
  case gy32 => (intro w' hSw; (try dsimp only at hSw); go_simp; (try with_reducible rfl))
  try simp only [Act.put, List.setIfInBounds_toArray, List.set_cons_zero, List.set_cons_succ, List.getElem_toArray, List.getElem_cons_succ, List.getElem_cons_zero]
  refine wpAnyH_take (i := 33) (v := ?gv33) rfl (by kernel_rfl) (by kernel_rfl) (by kernel_rfl) (fun _ _ _ h => h) (Or.inl ⟨by kernel_rfl, ?gy33⟩) (by assumption) ?gr33
  case gy33 => (intro w' hSw; (try dsimp only at hSw); go_simp; (try with_reducible rfl))
  try simp only [Act.put, List.setIfInBounds_toArray, List.set_cons_zero, List.set_cons_succ, List.getElem_toArray, List.getElem_cons_succ, List.getElem_cons_zero]
  refine wpAnyH_take (i := 34) (v := ?gv34) rfl (by kernel_rfl) (by kernel_rfl) (by kernel_rfl) (fun _ _ _ h => h) (Or.inl ⟨by kernel_rfl, ?gy34⟩) (by assumption) ?gr34
  case gy34 => (intro w' hSw; (try dsimp only at hSw); go_simp; (try with_reducible rfl))
  try simp only [Act.put, List.setIfInBounds_toArray, List.set_cons_zero, List.set_cons_succ, List.getElem_toArray, List.getElem_cons_succ, List.getElem_cons_zero]
  refine wpAnyH_take (i := 35) (v := ?gv35) rfl (by kernel_rfl) (by kernel_rfl) (by kernel_rfl) (fun _ _ _ h => h) (Or.inl ⟨by kernel_rfl, ?gy35⟩) (by assumption) ?gr35
  case gy35 => (intro w' hSw; (try dsimp only at hSw); go_simp; (try with_reducible rfl))
  try simp only [Act.put, List.setIfInBounds_toArray, List.set_cons_zero, List.set_cons_succ, List.getElem_toArray, List.getElem_cons_succ, List.getElem_cons_zero]
  refine wpAnyH_take (i := 36) (v := ?gv36) rfl (by kernel_rfl) (by kernel_rfl) (by kernel_rfl) (fun _ _ _ h => h) (Or.inl ⟨by kernel_rfl, ?gy36⟩) (by assumption) ?gr36
  case gy36 => (intro w' hSw; (try dsimp only at hSw); go_simp; (try with_reducible rfl))
  try simp only [Act.put, List.setIfInBounds_toArray, List.set_cons_zero, List.set_cons_succ, List.getElem_toArray, List.getElem_cons_succ, List.getElem_cons_zero]
  refine wpAnyH_take (i := 38) (v := ?gv37) rfl (by kernel_rfl) (by kernel_rfl) (by kernel_rfl) (fun _ _ _ h => h) (Or.inl ⟨by kernel_rfl, ?gy37⟩) (by assumption) ?gr37
  case gy37 => (intro w' hSw; (try dsimp only at hSw); go_simp; (try with_reducible rfl))
  try simp only [Act.put, List.setIfInBounds_toArray, List.set_cons_zero, List.set_cons_succ, List.getElem_toArray, List.getElem_cons_succ, List.getElem_cons_zero]
  refine wpAnyH_ready (rs := [37]) (by kernel_rfl) (by simp) ?_
  refine AllReadyH.cons rfl (fun K hK => ?_) AllReadyH.nil
  go_simp
  go_at_call 44
  (with_reducible refine (dU.out w10 F10).mono ?_)
  rintro e w11 ⟨rfl, b11⟩
  have F11 : Below W5.heap.size W5 w11 := F10.trans (b11.mono F10.size)
  clear hS
  dsimp only
  refine Shut.out hK _ _ (HK.out w11 F11) (fun hS => ?_)
  try simp only [Act.put, List.setIfInBounds_toArray, List.set_cons_zero, List.set_cons_succ, List.getElem_toArray, List.getElem_cons_succ, List.getElem_cons_zero]
  refine wpAnyH_ready (rs := [39]) (by kernel_rfl) (by simp) ?_
  refine AllReadyH.cons rfl (fun K hK => ?_) AllReadyH.nil
  go_simp
  go_at_call 44
  (with_reducible refine (cU.out w11 (HE5.out w11 F11)).mono ?_)
  rintro e w12 ⟨rfl, b12⟩
  have F12 : Below W5.heap.size W5 w12 := F11.trans (b12.mono F11.size)
  clear hS
  dsimp only
  refine Shut.out hK _ _ (HK.out w12 F12) (fun hS => ?_)
  try simp only [Act.put, List.setIfInBounds_toArray, List.set_cons_zero, List.set_cons_succ, List.getElem_toArray, List.getElem_cons_succ, List.getElem_cons_zero]
  refine wpAnyH_take (i := 40) (v := ?gv38) rfl (by kernel_rfl) (by kernel_rfl) (by kernel_rfl) (fun _ _ _ h => h) (Or.inl ⟨by kernel_rfl, ?gy38⟩) (by assumption) ?gr38
  case gy38 => (intro w' hSw; (try dsimp only at hSw); go_simp; (try with_reducible rfl))
  try simp only [Act.put, List.setIfInBounds_toArray, List.set_cons_zero, List.set_cons_succ, List.getElem_toArray, List.getElem_cons_succ, List.getElem_cons_zero]
  refine wpAnyH_take (i := 41) (v := ?gv39) rfl (by kernel_rfl) (by kernel_rfl) (by kernel_rfl) (fun _ _ _ h => h) (Or.inl ⟨by kernel_rfl, ?gy39⟩) (by assumption) ?gr39
  case gy39 => (intro w' hSw; (try dsimp only at hSw); go_simp; (try with_reducible rfl))
  try simp only [Act.put, List.setIfInBounds_toArray, List.set_cons_zero, List.set_cons_succ, List.getElem_toArray, List.getElem_cons_succ, List.getElem_cons_zero]
  refine wpAnyH_take (i := 42) (v := ?gv40) rfl (by kernel_rfl) (by kernel_rfl) (by kernel_rfl) (fun _ _ _ h => h) (Or.inl ⟨by kernel_rfl, ?gy40⟩) (by assumption) ?gr40
  case gy40 => (intro w' hSw; (try dsimp only at hSw); go_simp; (try with_reducible rfl))
  try simp only [Act.put, List.setIfInBounds_toArray, List.set_cons_zero, List.set_cons_succ, List.getElem_toArray, List.getElem_cons_succ, List.getElem_cons_zero]
  refine wpAnyH_done (by kernel_rfl) (NoPanic.normal ?_) _
  have HF : Hid (Below w.heap.size w w12) := HB2.out.trans ((HE5.out w12 F12).mono HB2.out.size)
  clear z0 z1 x0 x1 HK F9 F10 F11 F12 b10 b11 b12 hrb9 hsb
  go_wp2
  go_ret
  exact ⟨rfl, HF.out⟩
end
end Go.Proofs.YtbjfihabkpianaaGreatDoor
