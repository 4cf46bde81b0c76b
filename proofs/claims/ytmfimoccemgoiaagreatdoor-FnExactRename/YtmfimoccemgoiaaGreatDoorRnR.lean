/-
  Joined: Path, Eqs, Parent, Paths, RowP, IdxP, DelP, Cut6, Drop6, Unlink6, Rename6, WithoutI, NotRootI, WrapI, UnlinkT, RenM, RenI, LinkI, MakeT, LinkT, ChgRename, RenT, FnExactRenameW.
-/
import Derived.Test.YtmfimoccemgoiaaGreatDoorJ00B
import Derived.Test.YtmfimoccemgoiaaGreatDoorJ01B
import Derived.Test.YtmfimoccemgoiaaGreatDoorEqInoB
import Derived.Test.YtmfimoccemgoiaaGreatDoorJ03B
import Derived.Test.YtmfimoccemgoiaaGreatDoorEqTabB
import Derived.Test.YtmfimoccemgoiaaGreatDoorJ05B
import Derived.Test.YtmfimoccemgoiaaGreatDoorJ06B
import Derived.Test.YtmfimoccemgoiaaGreatDoorJ07B
import Derived.Test.YtmfimoccemgoiaaGreatDoorJ08B
import Derived.Test.YtmfimoccemgoiaaGreatDoorCopyIB
import Derived.Test.YtmfimoccemgoiaaGreatDoorJ10B
import Derived.Test.YtmfimoccemgoiaaGreatDoorJ11B
import Derived.Test.YtmfimoccemgoiaaGreatDoorSetSB
import Derived.Test.YtmfimoccemgoiaaGreatDoorJ13B
import Derived.Test.YtmfimoccemgoiaaGreatDoorSetIB
import Derived.Test.YtmfimoccemgoiaaGreatDoorJ15B
import Derived.Test.YtmfimoccemgoiaaGreatDoorJ16B
import Derived.Test.YtmfimoccemgoiaaGreatDoorJ17B
import Derived.Test.YtmfimoccemgoiaaGreatDoorEntsOkB
import Derived.Test.YtmfimoccemgoiaaGreatDoorAttsOkB
import Derived.Test.YtmfimoccemgoiaaGreatDoorAscIB
import Derived.Test.YtmfimoccemgoiaaGreatDoorAscTB
import Derived.Test.YtmfimoccemgoiaaGreatDoorInoOkB
import Derived.Test.YtmfimoccemgoiaaGreatDoorAscAB
import Derived.Test.YtmfimoccemgoiaaGreatDoorJ24B
import Derived.Test.YtmfimoccemgoiaaGreatDoorTabOkSB
import Derived.Test.YtmfimoccemgoiaaGreatDoorJ26B
import Derived.Test.YtmfimoccemgoiaaGreatDoorNext7B
import Derived.Test.YtmfimoccemgoiaaGreatDoorJ28B
import Derived.Test.YtmfimoccemgoiaaGreatDoorTreeSB
import Derived.Test.YtmfimoccemgoiaaGreatDoorJ30B
import Derived.Test.YtmfimoccemgoiaaGreatDoorJ31B
import Derived.Test.YtmfimoccemgoiaaGreatDoorJ32B
import Derived.Test.YtmfimoccemgoiaaGreatDoorJ33B
import Derived.Test.YtmfimoccemgoiaaGreatDoorJ34R
import Derived.Test.YtmfimoccemgoiaaGreatDoorJ35R
import Derived.Test.YtmfimoccemgoiaaGreatDoorJ36R
import Derived.Test.YtmfimoccemgoiaaGreatDoorJ37R
import Derived.Test.YtmfimoccemgoiaaGreatDoorJ38R
import Derived.Test.YtmfimoccemgoiaaGreatDoorJ39R
import Derived.WalkKit
import Derived.WalkSpells
import Derived.WalkLawsBesides
import Derived.Deep.QuietTactic
import Derived.BigQuiet
import Derived.OpenShut
import Derived.Laws.BitsAllLaws
import Derived.Maps.AppendAt
import Derived.Lib.SliceRun
import Derived.Lib.Strings
import Derived.Deep.RegionWith
import Derived.Laws.IdiomStrings
import Derived.Lib.Slices
import Derived.Lib.Walk
import Derived.Lib.Bytealg
import Derived.Lib.IndexLaws
import Derived.Lib.BufferWrite
import Derived.Lib.UnsafeStr
import Derived.Laws.MakeOwn
import Derived.Laws.Strings3
import Derived.RangeFuncBox
import Derived.RangeFuncNested
import Derived.RangeFuncBound
import Derived.RangeFuncCalls
import Derived.RangeFuncLeaves
import Derived.Shelf.Abstract
import Derived.Shelf.RegionOpen
import Derived.OwnWalkIn
import Derived.TacticsInMore
import Derived.LoopNIn
import Derived.LoopIn
import Derived.Deep.Slices
import Derived.ProofKit
import Derived.ChangeOld
import Derived.Below
import Derived.Deep.RegionHeld3
import Derived.Deep.DeepCutAuto
import Derived.Lib.AppendStr
import Derived.Lib.ConvBytes
import Derived.Deep.AppendLies
import Derived.Deep.AppendSrc
import Derived.Maps.OwnSet
import Derived.Maps.OwnOps
import Derived.Deep.RegionLaw
import Derived.Deep.CutBlock
import Derived.OwnWalk
import Derived.Deep.DeepAppendRoom
import Derived.Lib.AppendZerosOnto
import Derived.Laws.CopyRow
import Derived.LaidEql
import Derived.Stop.Asserts
import Derived.RowKitTokens
import Derived.Shelf.SlGeneric
import Derived.Shelf.SlIterI.Nil
import Derived.Shelf.SortM.Plain
import Derived.Shelf.SortM.SortNone
import Derived.Ground.GgzProg
import Derived.Ground.SlgmProg
import Derived.Laws.BitsLemmas
import Derived.Laws.StructEq
import Derived.Laws.BytesString
import Derived.Lib.Overlaps
import Derived.Deep.OwnRows
namespace Go.Proofs.YtmfimoccemgoiaaGreatDoor
section
theorem sign_slash : sign 47 = false := by decide
theorem nameOk_slash {l : Str} (h : nameOk l = true) : 47 ∉ l := by
  intro hm
  unfold nameOk at h
  simp only [Bool.and_eq_true, List.all_eq_true] at h
  have := h.2 _ hm
  rw [sign_slash] at this
  simp at this
theorem nameOk_ne {l : Str} (h : nameOk l = true) : l ≠ [] := by rintro rfl; simp [nameOk] at h
theorem pieces_of (z : Str) (zs : List Str) (hz : 47 ∉ z) (h : ∀ x ∈ zs, 47 ∉ x) : pieces (z ++ zs.flatMap (fun p => 47 :: p)) = z :: zs := by
  induction zs generalizing z with
  | nil => simp [pieces_miss z hz]
  | cons y ys ih =>
    simp only [List.flatMap_cons, List.cons_append]
    rw [pieces_hit z _ hz, ih y (h y (by simp)) (fun x hx => h x (by simp [hx]))]
theorem split_join {zs : List Str} (h : joinOf zs ≠ []) : splitOf (joinOf zs) = some zs := by
  cases zs with
  | nil => decide
  | cons z zs =>
    have hg : good (z :: zs) = true := by
      cases hg : good (z :: zs) with
      | true => rfl
      | false => exact absurd (by simp [joinOf, hg]) h
    have ha := good_all hg
    have hp := pieces_of z zs (nameOk_slash (ha z (by simp))) (fun x hx => nameOk_slash (ha x (by simp [hx])))
    rw [joinOf, if_neg (by simp), if_pos hg]
    simp only [List.flatMap_cons, List.cons_append]
    have hne : z ++ zs.flatMap (fun p => 47 :: p) ≠ [] := by
      have := nameOk_ne (ha z (by simp))
      simp [this]
    rw [splitOf_cons, if_pos rfl, if_neg hne, hp, if_pos hg]
/-- A path is below another: its names begin with those. -/
def belowOf (a b : Str) : Bool := match splitOf a, splitOf b with
  | some x, some y => decide (x.length ≤ y.length) && decide (y.take x.length = x)
  | _, _ => false
end

section
open Go.RowKit
theorem drew_drew (w : World) (d n : Nat) : (w.drewN d).drewN n = w.drewN (d + n) := by simp [World.drewN, Nat.add_assoc]
theorem list_ne {zs ys : List ByteArray} {k : Nat} (h : zs.getD k ⟨#[]⟩ ≠ ys.getD k ⟨#[]⟩) : zs ≠ ys := by
  rintro rfl; exact h rfl
theorem take_step {zs ys : List ByteArray} {k : Nat} (h1 : k < zs.length) (h2 : k < ys.length) (h : zs.getD k ⟨#[]⟩ = ys.getD k ⟨#[]⟩) (ht : zs.take k = ys.take k) : zs.take (k + 1) = ys.take (k + 1) := by
  rw [List.take_succ_eq_append_getElem h1, List.take_succ_eq_append_getElem h2, ht]
  have e1 : zs.getD k ⟨#[]⟩ = zs[k] := by simp [h1]
  have e2 : ys.getD k ⟨#[]⟩ = ys[k] := by simp [h2]
  rw [← e1, ← e2, h]
set_option maxHeartbeats 800000 in
theorem equal_any (a a' : Option Addr) (n cap cap' : Nat) (zs ys : List ByteArray) (w : World) (hn : zs.length = n) (hm : ys.length = n) (hs : n ≤ 4000000) (hr : RdS w a zs) (hr' : RdS w a' ys) :
    Calls Tryz.prog 261 #[.slice a n cap, .slice a' n cap'] w fun e w' => e = .returned (.bool (decide (zs = ys))) ∧ ∃ d, w' = w.drewN d := by
  by_cases h0 : n = 0
  · subst h0
    obtain rfl : zs = [] := List.length_eq_zero_iff.1 hn
    obtain rfl : ys = [] := List.length_eq_zero_iff.1 hm
    go_enter Tryz.func261, Tryz.ntmps261
    go_wp2
    refine wp_loop_rounds 1 ?_; rw [rounds_succ]
    go_wp2
    go_ret
    exact ⟨rfl, 0, rfl⟩
  · obtain ⟨b, off, rfl, hlt, hc⟩ := hr.lt (by intro h; subst h; simp at hn; omega)
    obtain ⟨b', off', rfl, hlt', hc'⟩ := hr'.lt (by intro h; subst h; simp at hm; omega)
    clear hr hr'
    have hn' : Hid (zs.length = n) := hn
    have hm' : Hid (ys.length = n) := hm
    clear hn hm
    go_enter Tryz.func261, Tryz.ntmps261
    go_wp2
    go_loopw [13] (fun i wr => ∃ k d : Nat, k ≤ n ∧ i = .int .i64 k ∧ wr = w.drewN d ∧ Hid (zs.take k = ys.take k)) (fun i _ => n - (intOf i).toNat)
    case atStart => exact ⟨0, 0, Nat.zero_le _, rfl, rfl, rfl⟩
    case round =>
      obtain ⟨k, d, hk, rfl, rfl, ht⟩ := hrel
      by_cases hkn : k < n
      · have hcx := hc k (by rw [hn'.out]; exact hkn)
        have hcy := hc' k (by rw [hm'.out]; exact hkn)
        have hst := take_step (zs := zs) (ys := ys) (k := k) (by rw [hn'.out]; exact hkn) (by rw [hm'.out]; exact hkn)
        have hno := list_ne (zs := zs) (ys := ys) (k := k)
        obtain ⟨z, hz⟩ : ∃ z, zs.getD k ⟨#[]⟩ = z := ⟨_, rfl⟩
        obtain ⟨y, hy⟩ : ∃ y, ys.getD k ⟨#[]⟩ = y := ⟨_, rfl⟩
        rw [hz] at hcx hst hno
        rw [hy] at hcy hst hno
        clear hz hy
        have hki : (k : Int) < (n : Int) := by omega
        by_cases hzy : z = y
        · have hst' : Hid (zs.take (k + 1) = ys.take (k + 1)) := hst hzy ht.out
          subst hzy
          clear hst hno ht
          go_wp2
          go_quiet (fail)
          go_wp2
          go_roundw
          case rel => exact ⟨k + 1, d + nq, by omega, by go_num, rfl, hst'⟩
          case measure => simp [intOf]; omega
        · have hno' : Hid (decide (zs = ys) = false) := decide_eq_false (hno hzy)
          have hb := str_ne hzy
          clear hst hno ht
          go_wp2
          go_quiet (fail)
          go_wp2
          go_ret
          exact ⟨ret_bool hno'.out.symm, d + nq, drew_drew w d nq⟩
      · have hyes : Hid (decide (zs = ys) = true) := decide_eq_true (by
          have h := ht.out
          rw [List.take_of_length_le (by rw [hn'.out]; omega), List.take_of_length_le (by rw [hm'.out]; omega)] at h
          exact h)
        go_wp2
        go_ret
        exact ⟨ret_bool hyes.out.symm, d, rfl⟩
end

section
open Go.RowKit
theorem be_left {a b : Str} (h : splitOf a = none) : belowOf a b = false := by unfold belowOf; rw [h]
theorem be_right {a b : Str} (h : splitOf b = none) : belowOf a b = false := by
  unfold belowOf
  rw [h]
  cases splitOf a <;> rfl
theorem be_some {a b : Str} {xs ys : List ByteArray} (h : splitOf a = some (strs xs)) (h' : splitOf b = some (strs ys)) : belowOf a b = (decide (xs.length ≤ ys.length) && decide (xs = ys.take xs.length)) := by
  unfold belowOf
  rw [h, h']
  simp only [strs_length]
  congr 1
  rw [Bool.eq_iff_iff, decide_eq_true_eq, decide_eq_true_eq]
  constructor
  · intro e
    have e2 : strs (ys.take xs.length) = strs xs := by unfold strs; rw [List.map_take]; exact e
    exact (strs_inj e2).symm
  · intro e
    have e2 : strs (ys.take xs.length) = (strs ys).take xs.length := by unfold strs; rw [List.map_take]
    rw [← e2, ← e]
/-- What both Below functions answer. -/
def BePost (a b : ByteArray) (w : World) (e : Ending) (w' : World) : Prop := e = .returned (.bool (belowOf a.data.toList b.data.toList)) ∧ Below w.heap.size w w'
set_option maxHeartbeats 1000000 in
theorem belowI (a b : ByteArray) (w : World) (ha : a.size ≤ 4000000) (hb : b.size ≤ 4000000) : Calls Tryz.prog 227 #[.string a, .string b] w (BePost a b w) := by
  cases hsa : splitOf a.data.toList with
  | none =>
    have hno : Hid (belowOf a.data.toList b.data.toList = false) := be_left hsa
    have hsa' : Hid (splitOf a.data.toList = none) := hsa
    clear hsa
    go_enter Tryz.func227, Tryz.ntmps227
    go_wp2_with fail
    refine (splitI a w ha).mono ?_
    intro e w1 h1
    obtain ⟨hb1, a1, c1, rfl⟩ := h1.no hsa'.out
    clear h1
    go_wp2_with fail
    refine (splitI b w1 hb).mono ?_
    rintro e w2 ⟨hb2, (⟨_, a2, c2, rfl⟩ | ⟨ys, g2, c2, _, rfl, _, _⟩)⟩
    · go_wp2
      go_ret
      exact ⟨ret_bool hno.out.symm, hb1.trans (hb2.mono hb1.size)⟩
    · go_wp2
      go_ret
      exact ⟨ret_bool hno.out.symm, hb1.trans (hb2.mono hb1.size)⟩
  | some ps =>
    obtain ⟨xs, hxs, hx30⟩ := split_strs hsa
    have hsa' : Hid (splitOf a.data.toList = some (strs xs)) := hxs
    clear hsa
    obtain ⟨n, hn⟩ : ∃ n, xs.length = n := ⟨_, rfl⟩
    have hn' : Hid (xs.length = n) := hn
    cases hsb : splitOf b.data.toList with
    | none =>
      have hno : Hid (belowOf a.data.toList b.data.toList = false) := be_right hsb
      have hsb' : Hid (splitOf b.data.toList = none) := hsb
      clear hsb hxs hn hx30
      go_enter Tryz.func227, Tryz.ntmps227
      go_wp2_with fail
      refine (splitI a w ha).mono ?_
      intro e w1 h1
      obtain ⟨hb1, g1, c1, rfl, hg1, ho1⟩ := h1.yes hsa'.out
      clear h1
      rw [hn'.out] at ho1 ⊢
      go_wp2_with fail
      refine (splitI b w1 hb).mono ?_
      intro e w2 h2
      obtain ⟨hb2, a2, c2, rfl⟩ := h2.no hsb'.out
      clear h2
      go_wp2
      go_ret
      exact ⟨ret_bool hno.out.symm, hb1.trans (hb2.mono hb1.size)⟩
    | some qs =>
      obtain ⟨ys, hys, hy30⟩ := split_strs hsb
      have hsb' : Hid (splitOf b.data.toList = some (strs ys)) := hys
      clear hsb
      obtain ⟨m, hm⟩ : ∃ m, ys.length = m := ⟨_, rfl⟩
      have hm' : Hid (ys.length = m) := hm
      have hbe := be_some hxs hys
      rw [hn, hm] at hbe
      have hn30 : n ≤ 30 := by omega
      have hm30 : m ≤ 30 := by omega
      have hbe' : Hid (belowOf a.data.toList b.data.toList = (decide (n ≤ m) && decide (xs = ys.take n))) := hbe
      clear hxs hys hn hm hx30 hy30 hbe
      go_enter Tryz.func227, Tryz.ntmps227
      go_wp2_with fail
      refine (splitI a w ha).mono ?_
      intro e w1 h1
      obtain ⟨hb1, g1, c1, rfl, hg1, ho1⟩ := h1.yes hsa'.out
      clear h1
      rw [hn'.out] at ho1 ⊢
      go_wp2_with fail
      refine (splitI b w1 hb).mono ?_
      intro e w2 h2
      obtain ⟨hb2, g2, c2, rfl, hg2, ho2⟩ := h2.yes hsb'.out
      clear h2
      rw [hm'.out] at ho2 ⊢
      have B2 := hb1.trans (hb2.mono hb1.size)
      have ho12 := ho1.keep hb2
      have hcap := ho2.cap
      by_cases hnm : n ≤ m
      · have hnm' : (n : Int) ≤ (m : Int) := by omega
        have q1 : (0 : Int) ≤ (n : Int) := by omega
        have q2 : (n : Int) ≤ (c2 : Int) := by omega
        have hEq := equal_any (some ⟨g1, 0, none⟩) (some ⟨g2, 0, none⟩) n c1 c2 xs (ys.take n) w2 hn'.out (by simp [hm'.out]; omega) (by omega) ho12.rd (ho2.rd.take n)
        go_wp2_with fail
        refine hEq.mono ?_
        rintro e w3 ⟨rfl, d, rfl⟩
        clear hEq
        obtain ⟨B, hB⟩ : ∃ B, decide (xs = ys.take n) = B := ⟨_, rfl⟩
        have hB' : Hid (belowOf a.data.toList b.data.toList = B) := by show _ = _; rw [hbe'.out, hB, decide_eq_true hnm]; rfl
        rw [hB]
        clear hB
        go_wp2
        go_ret
        exact ⟨ret_bool hB'.out.symm, below_drewN B2 d⟩
      · have hnm' : ¬ (n : Int) ≤ (m : Int) := by omega
        have hno : Hid (belowOf a.data.toList b.data.toList = false) := by show _ = _; rw [hbe'.out, decide_eq_false hnm]; rfl
        go_wp2
        go_ret
        exact ⟨ret_bool hno.out.symm, B2⟩
set_option maxHeartbeats 1000000 in
theorem belowS (a b : ByteArray) (w : World) (ha : a.size ≤ 4000000) (hb : b.size ≤ 4000000) : Calls Tryz.prog 73 #[.string a, .string b] w (BePost a b w) := by
  cases hsa : splitOf a.data.toList with
  | none =>
    have hno : Hid (belowOf a.data.toList b.data.toList = false) := be_left hsa
    have hsa' : Hid (splitOf a.data.toList = none) := hsa
    clear hsa
    go_enter Tryz.func73, Tryz.ntmps73
    go_wp2_with fail
    refine (splitS a w ha).mono ?_
    intro e w1 h1
    obtain ⟨hb1, a1, c1, rfl⟩ := h1.no hsa'.out
    clear h1
    go_wp2_with fail
    refine (splitS b w1 hb).mono ?_
    rintro e w2 ⟨hb2, (⟨_, a2, c2, rfl⟩ | ⟨ys, g2, c2, _, rfl, _, _⟩)⟩
    · go_wp2
      go_ret
      exact ⟨ret_bool hno.out.symm, hb1.trans (hb2.mono hb1.size)⟩
    · go_wp2
      go_ret
      exact ⟨ret_bool hno.out.symm, hb1.trans (hb2.mono hb1.size)⟩
  | some ps =>
    obtain ⟨xs, hxs, hx30⟩ := split_strs hsa
    have hsa' : Hid (splitOf a.data.toList = some (strs xs)) := hxs
    clear hsa
    obtain ⟨n, hn⟩ : ∃ n, xs.length = n := ⟨_, rfl⟩
    have hn' : Hid (xs.length = n) := hn
    cases hsb : splitOf b.data.toList with
    | none =>
      have hno : Hid (belowOf a.data.toList b.data.toList = false) := be_right hsb
      have hsb' : Hid (splitOf b.data.toList = none) := hsb
      clear hsb hxs hn hx30
      go_enter Tryz.func73, Tryz.ntmps73
      go_wp2_with fail
      refine (splitS a w ha).mono ?_
      intro e w1 h1
      obtain ⟨hb1, g1, c1, rfl, hg1, ho1⟩ := h1.yes hsa'.out
      clear h1
      rw [hn'.out] at ho1 ⊢
      go_wp2_with fail
      refine (splitS b w1 hb).mono ?_
      intro e w2 h2
      obtain ⟨hb2, a2, c2, rfl⟩ := h2.no hsb'.out
      clear h2
      go_wp2
      go_ret
      exact ⟨ret_bool hno.out.symm, hb1.trans (hb2.mono hb1.size)⟩
    | some qs =>
      obtain ⟨ys, hys, hy30⟩ := split_strs hsb
      have hsb' : Hid (splitOf b.data.toList = some (strs ys)) := hys
      clear hsb
      obtain ⟨m, hm⟩ : ∃ m, ys.length = m := ⟨_, rfl⟩
      have hm' : Hid (ys.length = m) := hm
      have hbe := be_some hxs hys
      rw [hn, hm] at hbe
      have hn30 : n ≤ 30 := by omega
      have hm30 : m ≤ 30 := by omega
      have hbe' : Hid (belowOf a.data.toList b.data.toList = (decide (n ≤ m) && decide (xs = ys.take n))) := hbe
      clear hxs hys hn hm hx30 hy30 hbe
      go_enter Tryz.func73, Tryz.ntmps73
      go_wp2_with fail
      refine (splitS a w ha).mono ?_
      intro e w1 h1
      obtain ⟨hb1, g1, c1, rfl, hg1, ho1⟩ := h1.yes hsa'.out
      clear h1
      rw [hn'.out] at ho1 ⊢
      go_wp2_with fail
      refine (splitS b w1 hb).mono ?_
      intro e w2 h2
      obtain ⟨hb2, g2, c2, rfl, hg2, ho2⟩ := h2.yes hsb'.out
      clear h2
      rw [hm'.out] at ho2 ⊢
      have B2 := hb1.trans (hb2.mono hb1.size)
      have ho12 := ho1.keep hb2
      by_cases hnm : n ≤ m
      · have hnm' : (n : Int) ≤ (m : Int) := by omega
        have hyes0 : Hid (xs = ys.take n → belowOf a.data.toList b.data.toList = true) := by intro h; rw [hbe'.out, decide_eq_true hnm, decide_eq_true h]; rfl
        have hno0 : Hid (xs ≠ ys.take n → belowOf a.data.toList b.data.toList = false) := by intro h; rw [hbe'.out, decide_eq_true hnm, decide_eq_false h]; rfl
        clear hbe' hsa' hsb'
        go_wp2
        go_loopw [9] (fun i wr => ∃ k d : Nat, k ≤ n ∧ i = .int .i64 k ∧ wr = w2.drewN d ∧ Hid (xs.take k = (ys.take n).take k)) (fun i _ => n - (intOf i).toNat)
        case atStart => exact ⟨0, 0, Nat.zero_le _, rfl, rfl, rfl⟩
        case round =>
          obtain ⟨k, d, hk, rfl, rfl, ht⟩ := hrel
          by_cases hkn : k < n
          · have hkx : k < xs.length := by rw [hn'.out]; exact hkn
            have hky : k < (ys.take n).length := by simp [hm'.out]; omega
            have hcx := World.ownsRow.cellAt ho12 k (by omega)
            have hcy := World.ownsRow.cellAt ho2 k (by omega)
            have hky' : k < ys.length := by rw [hm'.out]; omega
            simp only [List.getElem?_map, List.getElem?_eq_getElem hkx, Option.map_some] at hcx
            simp only [List.getElem?_map, List.getElem?_eq_getElem hky', Option.map_some] at hcy
            have hst := take_step (zs := xs) (ys := ys.take n) (k := k) hkx hky
            have hno := list_ne (zs := xs) (ys := ys.take n) (k := k)
            have ez : xs.getD k ⟨#[]⟩ = xs[k] := by simp [hkx]
            have ey : (ys.take n).getD k ⟨#[]⟩ = ys[k] := by simp [hkn, hky']
            rw [ez, ey] at hst hno
            obtain ⟨z, hz⟩ : ∃ z, xs[k] = z := ⟨_, rfl⟩
            obtain ⟨y, hy⟩ : ∃ y, ys[k] = y := ⟨_, rfl⟩
            rw [hz] at hcx hst hno
            rw [hy] at hcy hst hno
            clear hz hy ez ey
            have hki : (k : Int) < (n : Int) := by omega
            have hkm : (k : Int) < (m : Int) := by omega
            by_cases hzy : z = y
            · have hst' : Hid (xs.take (k + 1) = (ys.take n).take (k + 1)) := hst hzy ht.out
              subst hzy
              clear hst hno ht hkx hky hky'
              go_wp2
              go_quiet (fail)
              go_wp2
              go_roundw
              case rel => exact ⟨k + 1, d + nq, by omega, by go_num, rfl, hst'⟩
              case measure => simp [intOf]; omega
            · have hno' : Hid (belowOf a.data.toList b.data.toList = false) := hno0.out (hno hzy)
              have hbz := str_ne hzy
              clear hst hno ht hkx hky hky'
              go_wp2
              go_quiet (fail)
              go_wp2
              go_ret
              exact ⟨ret_bool hno'.out.symm, by rw [drew_drew]; exact below_drewN B2 _⟩
          · have hki : ¬ (k : Int) < (n : Int) := by omega
            have hyes : Hid (belowOf a.data.toList b.data.toList = true) := hyes0.out (by
              have h := ht.out
              rw [List.take_of_length_le (by rw [hn'.out]; omega), List.take_of_length_le (by simp; omega)] at h
              exact h)
            go_wp2
            go_ret
            exact ⟨ret_bool hyes.out.symm, below_drewN B2 d⟩
      · have hnm' : ¬ (n : Int) ≤ (m : Int) := by omega
        have hno : Hid (belowOf a.data.toList b.data.toList = false) := by show _ = _; rw [hbe'.out, decide_eq_false hnm]; rfl
        go_wp2
        go_ret
        exact ⟨ret_bool hno.out.symm, B2⟩
end

section
open Go.RowKit
theorem asc_lt {nx : Int} {ds : List InoD} (h : tabD nx ds = true) : ∀ (j i : Nat) (D E : InoD), i < j → ds[i]? = some D → ds[j]? = some E → D.ino < E.ino := by
  have hs : ∀ (i : Nat) (D E : InoD), ds[i]? = some D → ds[i + 1]? = some E → D.ino < E.ino := by
    intro i D E h1 h2
    unfold tabD tabS at h
    simp only [List.length_map, Bool.and_eq_true, decide_eq_true_eq, List.all_eq_true, List.mem_range] at h
    have := h.2.2.1 (i + 1) (List.getElem?_eq_some_iff.1 h2).1
    unfold stepT at this
    rw [Nat.add_sub_cancel] at this
    have e1 : ((ds.map lift).getD i inoZ).D = D := by rw [List.getD_eq_getElem?_getD, List.getElem?_map, h1]; rfl
    have e2 : ((ds.map lift).getD (i + 1) inoZ).D = E := by rw [List.getD_eq_getElem?_getD, List.getElem?_map, h2]; rfl
    rw [e1, e2] at this
    simp only [Bool.and_eq_true, Bool.or_eq_true, decide_eq_true_eq] at this
    rcases this.2.2 with h | h
    · omega
    · exact h
  intro j
  induction j with
  | zero => intro i D E hij; omega
  | succ j ih =>
    intro i D E hij h1 h2
    obtain ⟨F, hF⟩ : ∃ F, ds[j]? = some F := ⟨_, List.getElem?_eq_getElem (by have := (List.getElem?_eq_some_iff.1 h2).1; omega)⟩
    have h3 := hs j F E hF h2
    rcases (show i = j ∨ i < j by omega) with rfl | hij
    · rw [hF] at h1
      simp at h1
      rw [← h1]
      exact h3
    · have := ih i D F hij h1 hF
      omega
theorem look_self {nx : Int} {ds : List InoD} (h : tabD nx ds = true) : ∀ D ∈ ds, look ds D.ino = some D := by
  intro D hD
  obtain ⟨i, hi⟩ := List.getElem?_of_mem hD
  cases hl : look ds D.ino with
  | none =>
    unfold look at hl
    rw [List.find?_eq_none] at hl
    exact absurd (by simp) (hl D hD)
  | some E =>
    obtain ⟨hE, he⟩ := look_mem hl
    obtain ⟨j, hj⟩ := List.getElem?_of_mem hE
    rcases Nat.lt_trichotomy i j with hij | rfl | hij
    · have := asc_lt h j i D E hij hi hj
      omega
    · rw [hi] at hj
      exact hj.symm
    · have := asc_lt h i j E D hij hj hi
      omega
end

section
open Go.RowKit
/-- The same where nothing is drawn. -/
theorem wpList_run (W : World) {ops : Array Oper} {rest : List Oper} {o : Oper} {a : Act} {Q : Exit → Act → World → Prop} (hgd : o.guard = none) (s x : Operand) (t : TypeId)
    (ho : o.op = .call { callee := .builtin .append, args := #[s, x], argTypes := #[t, t] }) (v1 v2 : Value) (hs : a.eval s = v1) (hx : a.eval x = v2) (R : Value → World → Prop)
    (hr : ∀ ty, ∃ v' W', (Builtin.append_ #[t, t] ty #[v1, v2]).run Tryz.prog W = .ok v' W' ∧ R v' W')
    (h : ∀ v' W', R v' W' → wpList Tryz.prog ops Q rest (a.put o.dst v') W') :
    wpList Tryz.prog ops Q (o :: rest) a W := by
  refine wpList_plain hgd fun K hK => ?_
  obtain ⟨v', W', h1, h2⟩ := hr o.type
  unfold Oper.wp execOp
  simp only [ho, resolve, invoke, builtin, Sem.run_bind, Sem.run_pure, Result.andThen_ok, List.map_toArray, List.map_cons, List.map_nil, hs, hx, h1]
  exact hK _ _ (h v' W' h2)
end

section
open Go.RowKit
/-- The closure's two variables: the name's function, the text. -/
structure CVEnt (w : World) (FB SB : Nat) (s : ByteArray) : Prop where
  f : Blk w FB 219 #[.func (.func 210) #[] #[]]
  s : Blk w SB 9 #[.string s]
theorem CVEnt.keep {w w' : World} {FB SB : Nat} {s : ByteArray} (h : CVEnt w FB SB s) (hb : Below w.heap.size w w') : CVEnt w' FB SB s := ⟨h.f.keep hb, h.s.keep hb⟩
theorem CVEnt.row {w w' : World} {FB SB : Nat} {s : ByteArray} {g n c : Nat} {ps : List VP} (h : CVEnt w FB SB s) (ho : OwnP 89 w g n c ps) (hg : w.grownBy w' (some g)) : CVEnt w' FB SB s := by
  have hk : KpT w w' [219, 9] := KpT.row (v := .slice (some ⟨g, 0, none⟩) n c) hg ho (by decide)
  exact ⟨h.f.kp hk (by decide), h.s.kp hk (by decide)⟩
set_option maxRecDepth 100000 in
set_option maxHeartbeats 2000000 in
theorem sameEnt (z : ByteArray) (u : Int) (s : ByteArray) (FB SB : Nat) (w : World) (hv : CVEnt w FB SB s) :
    Calls Tryz.prog 279 #[.agg #[.string z, .int .i64 u], .pointer (some ⟨FB, 0, none⟩), .pointer (some ⟨SB, 0, none⟩)] w fun e w' => e = .returned (.bool (z.toList == s.toList)) ∧ Below w.heap.size w w' := by
  have b0 : Below w.heap.size w (w.alloc (.cells #[.string z, .int .i64 u] 89)) := (Below.refl _ w).alloc (Nat.le_refl _) _
  have hv0 := hv.keep b0
  have z0 := Blk.new w 89 #[.string z, .int .i64 u]
  have hn := entName_any z u
  go_enter Tryz.func279, Tryz.ntmps279
  go_wp2_with fail
  obtain ⟨W, hW⟩ : ∃ W, w.alloc (.cells #[.string z, .int .i64 u] 89) = W := ⟨_, rfl⟩
  rw [hW] at hv0 z0 b0 ⊢
  clear hW hv
  have HK : Hid (∀ V : World, Below W.heap.size W V → V.cell? ⟨FB, 0, none⟩ = some (.func (.func 210) #[] #[]) ∧ V.cell? ⟨SB, 0, none⟩ = some (.string s) ∧ V.cell? ⟨w.heap.size, 0, none⟩ = some (.string z) ∧ V.cell? ⟨w.heap.size, 1, none⟩ = some (.int .i64 u)) := fun V hV => ⟨(hv0.keep hV).f.cell 0, (hv0.keep hV).s.cell 0, (z0.keep hV).cell 0, (z0.keep hV).cell 1⟩
  obtain ⟨k0, k1, k2, k3⟩ := HK.out W (Below.refl _ _)
  go_region_held3 (fun V : World => V.cell? ⟨FB, 0, none⟩ = some (.func (.func 210) #[] #[]) ∧ V.cell? ⟨SB, 0, none⟩ = some (.string s) ∧ V.cell? ⟨w.heap.size, 0, none⟩ = some (.string z) ∧ V.cell? ⟨w.heap.size, 1, none⟩ = some (.int .i64 u)) (go_keep) (first
    | (go_at_call 210; (with_reducible refine (hn W.drew).mono ?_); rintro e w1 ⟨rfl, b1⟩; have B1 : Below W.heap.size W w1 := (Below.refl _ W).drew.trans b1; obtain ⟨q0, q1, q2, q3⟩ := HK.out w1 B1)
    | fail)
  have hend : Hid _ := b0.trans (B1.mono b0.size)
  clear q0 q1 q2 q3 k0 k1 k2 k3 b1 B1 z0 hv0 b0
  go_wp2
  go_ret
  exact ⟨rfl, hend.out⟩
/-- The place of the first one of this name, or -1. -/
def firstEnt (es : List (ByteArray × Int)) (s : ByteArray) : Int := match es.findIdx? (fun e => e.1.toList == s.toList) with | some k => (k : Int) | none => -1
theorem firstEnt_at {es : List (ByteArray × Int)} {s : ByteArray} {k : Nat} (hk : k < es.length) (h : (es[k].1.toList == s.toList) = true) (ha : ∀ (j : Nat) (hj : j < es.length), j < k → (es[j].1.toList == s.toList) = false) : firstEnt es s = (k : Int) := by
  unfold firstEnt
  have : es.findIdx? (fun e => e.1.toList == s.toList) = some k := List.findIdx?_eq_some_iff_getElem.2 ⟨hk, h, fun j hj => by rw [ha j (by omega) hj]; decide⟩
  rw [this]
theorem firstEnt_none {es : List (ByteArray × Int)} {s : ByteArray} (ha : ∀ (j : Nat) (hj : j < es.length), (es[j].1.toList == s.toList) = false) : firstEnt es s = -1 := by
  unfold firstEnt
  have : es.findIdx? (fun e => e.1.toList == s.toList) = none := List.findIdx?_eq_none_iff.2 fun e he => by
    obtain ⟨j, hj, rfl⟩ := List.getElem_of_mem he
    exact ha j hj
  rw [this]
set_option maxRecDepth 100000 in
set_option maxHeartbeats 2000000 in
theorem indexEnt (a : Option Addr) (n cap : Nat) (es : List (ByteArray × Int)) (s : ByteArray) (FB SB : Nat) (w : World) (hn : es.length = n) (hs : n ≤ 4000000) (hr : RdP w a (eP es)) (hv : CVEnt w FB SB s) :
    Calls Tryz.prog 289 #[.slice a n cap, .func (.func 279) #[] #[.pointer (some ⟨FB, 0, none⟩), .pointer (some ⟨SB, 0, none⟩)]] w fun e w' => e = .returned (.int .i64 (firstEnt es s)) ∧ Below w.heap.size w w' := by
  have HR : Hid _ := hr
  have HV : Hid _ := hv
  have HN : Hid (es.length = n) := hn
  obtain ⟨R, hR⟩ : ∃ R, firstEnt es s = R := ⟨_, rfl⟩
  rw [hR]
  have HRR : Hid _ := hR
  clear hr hv hn hR
  go_enter Tryz.func289, Tryz.ntmps289
  go_wp2
  go_loopw [8] (fun i wr => ∃ k : Nat, k ≤ n ∧ i = .int .i64 k ∧ Hid (∀ (j : Nat) (hj : j < es.length), j < k → (es[j].1.toList == s.toList) = false) ∧ Hid (Below w.heap.size w wr)) (fun i _ => n - (intOf i).toNat)
  case atStart => exact ⟨0, Nat.zero_le _, rfl, fun j _ hj => by omega, Below.refl _ _⟩
  case round =>
    obtain ⟨k, hk, rfl, hall, hB⟩ := hrel
    by_cases hkn : k < n
    · have hki : (k : Int) < (n : Int) := by omega
      have hk0 : (0 : Int) ≤ (k : Int) := by omega
      have hkl : k < es.length := by rw [HN.out]; exact hkn
      obtain ⟨eb, eo, rfl, helt, hec⟩ := RdP.lt (RdP.keep HR.out hB.out) (by intro h; have := congrArg List.length h; rw [eP_length] at this; simp at this; rw [this] at hkl; simp at hkl)
      have hx := hec k (by rw [eP_length]; exact hkl)
      rw [eP_at es k hkl] at hx
      have hyes : Hid ((es[k].1.toList == s.toList) = true → (k : Int) = R) := fun h => by rw [← HRR.out]; exact (firstEnt_at hkl h hall.out).symm
      have hno : Hid ((es[k].1.toList == s.toList) = false → ∀ (j : Nat) (hj : j < es.length), j < k + 1 → (es[j].1.toList == s.toList) = false) := fun h j hj hjk => by
        rcases (show j < k ∨ j = k by omega) with h1 | rfl
        · exact hall.out j hj h1
        · exact h
      obtain ⟨z, u, hzu⟩ : ∃ z u, es[k] = (z, u) := ⟨_, _, rfl⟩
      rw [hzu] at hx hyes hno
      obtain ⟨x1, x2⟩ := hx
      dsimp only at x1 x2 hyes hno
      have hcc := sameEnt z u s FB SB wr (CVEnt.keep HV.out hB.out)
      obtain ⟨bb, hbb⟩ : ∃ b, (z.toList == s.toList) = b := ⟨_, rfl⟩
      rw [hbb] at hcc hyes hno
      clear hec hzu hall hbb
      cases bb with
      | true =>
        have hend : Hid ((k : Int) = R) := hyes.out rfl
        clear hyes hno
        go_wp2_with (go_at_call 279; (with_reducible refine hcc.mono ?_); rintro e w1 ⟨rfl, b1⟩)
        go_ret
        exact ⟨ret_int hend.out, hB.out.trans (b1.mono hB.out.size)⟩
      | false =>
        have hnx : Hid _ := hno.out rfl
        clear hyes hno
        go_wp2_with (go_at_call 279; (with_reducible refine hcc.mono ?_); rintro e w1 ⟨rfl, b1⟩)
        go_roundw
        case rel => exact ⟨k + 1, by omega, by go_num, hnx, hB.out.trans (b1.mono hB.out.size)⟩
        case measure => simp [intOf]; omega
    · have hki : ¬ (k : Int) < (n : Int) := by omega
      have hend : Hid ((-1 : Int) = R) := by show _ = _; rw [← HRR.out]; exact (firstEnt_none (fun j hj => hall.out j hj (by rw [HN.out] at hj; omega))).symm
      clear hall
      go_wp2
      go_ret
      exact ⟨ret_int hend.out, hB.out⟩
end

section
open Go.RowKit
theorem zc_one {z1 z2 : Value} {m : Nat} (h1 : z1.oneCell' = true) (h2 : z2.oneCell' = true) : ∀ v ∈ (Builtin.zeroCells #[z1, z2] m).toList, v.oneCell' = true := by
  intro v hv
  unfold Builtin.zeroCells at hv
  rw [Array.toList_map, List.mem_map] at hv
  obtain ⟨i, _, rfl⟩ := hv
  rcases Nat.mod_two_eq_zero_or_one i with h | h
  · show (#[z1, z2][i % 2]!).oneCell' = true
    rw [h]
    exact h1
  · show (#[z1, z2][i % 2]!).oneCell' = true
    rw [h]
    exact h2
theorem wpList_clear (W : World) {ops : Array Oper} {rest : List Oper} {o : Oper} {a : Act} {Q : Exit → Act → World → Prop} (hgd : o.guard = none) (s : Operand) (T : TypeId)
    (ho : o.op = .call { callee := .builtin .clear, args := #[s], argTypes := #[T] }) (v : Value) (W' : World) (hs : a.eval s = v) (hr : ∀ ty, (Builtin.clear_ #[T] ty #[v]).run Tryz.prog W = .ok (.tuple #[]) W')
    (h : wpList Tryz.prog ops Q rest (a.put o.dst (.tuple #[])) W') : wpList Tryz.prog ops Q (o :: rest) a W := by
  refine wpList_plain hgd fun K hK => ?_
  unfold Oper.wp execOp
  simp only [ho, resolve, invoke, builtin, Sem.run_bind, Sem.run_pure, Result.andThen_ok, List.map_toArray, List.map_cons, List.map_nil, hs, hr]
  exact hK _ _ h
theorem gr_setCells (g : Nat) : ∀ (zs : List Value) (o : Nat) (w : World), w.grownBy (w.setCells g o zs) (some g)
  | [], _, _ => ⟨rfl, rfl, rfl, Nat.le_refl _, fun _ _ _ => rfl⟩
  | z :: zs, o, w => (gr_setC w g o z).trans (gr_setCells g zs (o + 1) _)
theorem ownP_setCells {e : TypeId} {g i cap : Nat} {ps : List VP} : ∀ (zs : List Value) (o : Nat) (w : World), OwnP e w g i cap ps → i * 2 ≤ o → OwnP e (w.setCells g o zs) g i cap ps
  | [], _, _, h, _ => h
  | z :: zs, o, w, h, ho => by
    have h1 := (World.ownsRow.stored h o z).1
    rw [List.set_eq_of_length_le (by have := h.1; omega)] at h1
    exact ownP_setCells zs (o + 1) _ h1 (by omega)
theorem own_takeP {e : TypeId} {w : World} {g n i cap : Nat} {ps : List VP} (h : OwnP e w g n cap ps) (hi : i ≤ n) : OwnP e w g i cap (ps.take i) := by
  have hl := h.len
  refine ⟨by rw [pv_length, List.length_take]; omega, ?_⟩
  rcases h.2 with ⟨h0, _⟩ | ⟨g', c', cur, h0, hg, hh, hnc, hcm, hcs, htk⟩
  · cases h0
  · cases h0
    refine .inr ⟨g, cap, cur, rfl, hg, hh, by omega, hcm, hcs, ?_⟩
    have e1 := congrArg (List.take (i * 2)) htk
    rw [List.take_take, Nat.min_eq_left (by omega)] at e1
    rw [e1, pv_take]
/-- What is left without those of this name. -/
def dropEnt (es : List (ByteArray × Int)) (s : ByteArray) : List (ByteArray × Int) := es.filter fun e => !(e.1.toList == s.toList)
theorem eP_append (l m : List (ByteArray × Int)) : eP (l ++ m) = eP l ++ eP m := by unfold eP; rw [List.map_append]
/-- In the midst of it: the first i are what is left of the first j; from j on all is as it was. -/
structure DFEnt (es : List (ByteArray × Int)) (s : ByteArray) (ps : List VP) (i j : Nat) : Prop where
  lt : i < j
  le : j ≤ es.length
  len : ps.length = es.length
  left : ps.take i = eP (dropEnt (es.take j) s)
  rest : ps.drop j = eP (es.drop j)
theorem DFEnt.start {es : List (ByteArray × Int)} {s : ByteArray} {k : Nat} (hk : k < es.length) (h : (es[k].1.toList == s.toList) = true) (ha : ∀ (j : Nat) (hj : j < es.length), j < k → (es[j].1.toList == s.toList) = false) : DFEnt es s (eP es) k (k + 1) := by
  refine ⟨by omega, hk, eP_length es, ?_, eP_drop _ _⟩
  rw [eP_take]
  congr 1
  unfold dropEnt
  rw [List.take_add_one, List.getElem?_eq_getElem hk, Option.toList_some, List.filter_append, List.filter_cons_of_neg (by rw [h]; decide), List.filter_nil, List.append_nil]
  refine (List.filter_eq_self.2 fun e he => ?_).symm
  obtain ⟨j, hj, rfl⟩ := List.getElem_of_mem he
  rw [List.length_take] at hj
  rw [List.getElem_take, ha j (by omega) (by omega)]
  rfl
theorem DFEnt.get {es : List (ByteArray × Int)} {s : ByteArray} {ps : List VP} {i j : Nat} (h : DFEnt es s ps i j) (hj : j < es.length) : ps.getD j (undef, undef) = (.string es[j].1, .int .i64 es[j].2) := by
  have h1 : (ps.drop j)[0]? = (eP (es.drop j))[0]? := by rw [h.rest]
  rw [List.getElem?_drop, Nat.add_zero] at h1
  rw [List.getD_eq_getElem?_getD, h1, ← eP_drop, List.getElem?_drop, Nat.add_zero, ← List.getD_eq_getElem?_getD]
  exact eP_at es j hj
theorem DFEnt.skip {es : List (ByteArray × Int)} {s : ByteArray} {ps : List VP} {i j : Nat} (h : DFEnt es s ps i j) (hj : j < es.length) (he : (es[j].1.toList == s.toList) = true) : DFEnt es s ps i (j + 1) := by
  refine ⟨by have := h.lt; omega, hj, h.len, ?_, ?_⟩
  · rw [h.left]
    congr 1
    unfold dropEnt
    rw [List.take_add_one, List.getElem?_eq_getElem hj, Option.toList_some, List.filter_append, List.filter_cons_of_neg (by rw [he]; decide), List.filter_nil, List.append_nil]
  · have := congrArg (List.drop 1) h.rest
    rw [List.drop_drop, eP_drop, List.drop_drop] at this
    exact this
theorem DFEnt.move {es : List (ByteArray × Int)} {s : ByteArray} {ps : List VP} {i j : Nat} (h : DFEnt es s ps i j) (hj : j < es.length) (he : (es[j].1.toList == s.toList) = false) : DFEnt es s (ps.set i (.string es[j].1, .int .i64 es[j].2)) (i + 1) (j + 1) := by
  have hlt := h.lt
  have hl := h.len
  refine ⟨by omega, hj, by rw [List.length_set]; exact hl, ?_, ?_⟩
  · rw [List.take_add_one, List.take_set_of_le (by omega), h.left, List.getElem?_set_self (by omega), Option.toList_some]
    unfold dropEnt
    rw [List.take_add_one, List.getElem?_eq_getElem hj, Option.toList_some, List.filter_append, List.filter_cons_of_pos (by rw [he]; rfl), List.filter_nil, eP_append]
    rfl
  · rw [List.drop_set_of_lt (by omega)]
    have := congrArg (List.drop 1) h.rest
    rw [List.drop_drop, eP_drop, List.drop_drop] at this
    exact this
theorem DFEnt.fin {es : List (ByteArray × Int)} {s : ByteArray} {ps : List VP} {i j : Nat} (h : DFEnt es s ps i j) (hj : es.length ≤ j) : ps.take i = eP (dropEnt es s) ∧ (dropEnt es s).length = i := by
  have h1 := h.left
  rw [List.take_of_length_le hj] at h1
  refine ⟨h1, ?_⟩
  have h2 := congrArg List.length h1
  rw [eP_length, List.length_take] at h2
  have := h.lt
  have := h.le
  have := h.len
  omega
theorem zeroEnt (w : World) : (zeroValue 89).run Tryz.prog w = .ok (.agg #[.string ⟨#[]⟩, .int .i64 0]) w := by kernel_rfl
/-- clear of the last ones. -/
theorem clearEnt (w : World) (g i n c cap : Nat) (ps : List VP) (ty : TypeId) (ho : OwnP 89 w g n cap ps) (hi : i < n) :
    ∃ w', (Builtin.clear_ #[65] ty #[.slice (some ⟨g, i * 2, none⟩) (n - i) c]).run Tryz.prog w = .ok (.tuple #[]) w' ∧ OwnP 89 w' g i cap (ps.take i) ∧ w.grownBy w' (some g) := by
  obtain ⟨zs, hzs⟩ : ∃ zs, (Builtin.zeroCells (Value.agg #[.string ⟨#[]⟩, .int .i64 0]).cells (n - i)).toList = zs := ⟨_, rfl⟩
  have hzl : zs.length = (n - i) * 2 := by rw [← hzs, Array.length_toList, size_zeroCells]; rfl
  have hz1 : ∀ v ∈ zs, v.oneCell' = true := by
    intro v hv
    rw [← hzs] at hv
    exact zc_one rfl rfl v hv
  have hst := run_storeCells_cells (P := Tryz.prog) g (i * 2) zs 0 w (fun j hj => by
      have h1 := ho.len
      rw [hzl] at hj
      have hp : (pv ps)[i * 2 + j]? ≠ none := by
        rw [ne_eq, List.getElem?_eq_none_iff, pv_length]
        omega
      have := World.ownsRow.cellAt ho (i * 2 + j) (by omega)
      rw [Nat.add_zero, this]
      exact Option.isSome_iff_ne_none.2 hp) (fun j _ => by rw [Nat.add_zero]; exact ho.frozen _) hz1
  rw [Nat.add_zero] at hst
  refine ⟨w.setCells g (i * 2) zs, ?_, ?_, gr_setCells _ _ _ _⟩
  · obtain ⟨m, hm⟩ : ∃ m, n - i = m + 1 := ⟨n - i - 1, by omega⟩
    rw [hm] at hzs ⊢
    simp [Builtin.clear_, run_underlying Tryz.underlying65, hzs, hst]
  · exact ownP_setCells _ _ _ (own_takeP ho (by omega)) (Nat.le_refl _)
set_option maxRecDepth 100000 in
set_option maxHeartbeats 4000000 in
theorem deleteEnt (v : Value) (n : Nat) (es : List (ByteArray × Int)) (s : ByteArray) (FB SB : Nat) (w : World) (hs : n ≤ 1000000) (ho : OwnQ 89 w v n (eP es)) (hv : CVEnt w FB SB s) :
    Calls Tryz.prog 278 #[v, .func (.func 279) #[] #[.pointer (some ⟨FB, 0, none⟩), .pointer (some ⟨SB, 0, none⟩)]] w fun e w' => ∃ v', e = .returned v' ∧ OwnQ 89 w' v' (dropEnt es s).length (eP (dropEnt es s)) ∧ w.grownBy w' v.ownBlock := by
  have hn : es.length = n := by
    have := ho.1
    rw [pv_length, eP_length] at this
    omega
  obtain ⟨a, cap, rfl⟩ := ownQ_shape ho
  have hrd : RdP w a (eP es) := by
    rcases ho.cases with ⟨h1, rfl, h2⟩ | ⟨g, c, h1, h2⟩
    · exact .inl h2
    · cases h1
      exact h2.rd
  have hcI := indexEnt a n cap es s FB SB w hn (by omega) hrd hv
  rcases Classical.em (∃ (k : Nat) (hk : k < es.length), (es[k].1.toList == s.toList) = true ∧ ∀ (j : Nat) (hj : j < es.length), j < k → (es[j].1.toList == s.toList) = false) with ⟨k, hk, hke, hka⟩ | hno
  · rw [firstEnt_at hk hke hka] at hcI
    have hdf := DFEnt.start hk hke hka
    rcases ho.cases with ⟨h1, rfl, h2⟩ | ⟨g, c, h1, ho'⟩
    · rw [hn] at hk
      omega
    cases h1
    have hkn : k < n := by omega
    have hkm : ((k : Int) == -1) = false := beq_false_of_ne (by omega)
    have HV : Hid _ := hv
    have HN : Hid _ := hn
    obtain ⟨L, hL⟩ : ∃ L, dropEnt es s = L := ⟨_, rfl⟩
    rw [hL]
    have HL : Hid _ := hL
    have HO : Hid _ := ho'
    have HDF : Hid _ := hdf
    have hnc : n ≤ cap := by
      rcases ho'.2 with ⟨h0, _⟩ | ⟨g', c', cur, h0, _, _, h3, _⟩
      · cases h0
      · cases h0
        exact h3
    clear hrd ho hv hn hL hke hka hk ho' hdf
    go_enter Tryz.func278, Tryz.ntmps278
    go_wp2_with fail
    (with_reducible refine hcI.mono ?_)
    rintro e w1 ⟨rfl, b1⟩
    have ho1 : Hid _ := OwnP.keep HO.out b1
    have hv1 : Hid _ := CVEnt.keep HV.out b1
    have hg1 : Hid (w.grownBy w1 (some g)) := Below.gr b1 _
    clear hcI HO HV
    go_wp2_with fail
    go_loopw [5, 6] (fun i j wr => ∃ (i' j' : Nat) (ps : List VP), i = .int .i64 i' ∧ j = .int .i64 j' ∧ i' < j' ∧ j' ≤ n ∧ Hid (DFEnt es s ps i' j') ∧ Hid (OwnP 89 wr g n cap ps) ∧ Hid (CVEnt wr FB SB s) ∧ Hid (w.grownBy wr (some g))) (fun _ j _ => n - (intOf j).toNat)
    case atStart => exact ⟨k, k + 1, eP es, rfl, by go_num, by omega, by omega, HDF, ho1, hv1, hg1⟩
    case round =>
      obtain ⟨i, j, ps, rfl, rfl, hij, hjn, hD, hO, hV, hG⟩ := hrel
      clear ho1 hv1 hg1 HDF b1
      by_cases hj : j < n
      · have hji : (j : Int) < (n : Int) := by omega
        have hj0 : (0 : Int) ≤ (j : Int) := by omega
        have hi0 : (0 : Int) ≤ (i : Int) := by omega
        have hin : (i : Int) < (n : Int) := by omega
        have hjl : j < es.length := by rw [HN.out]; exact hj
        obtain ⟨x1, x2⟩ := OwnP.cells hO.out j hj
        rw [hD.out.get hjl] at x1 x2
        have hsk : Hid ((es[j].1.toList == s.toList) = true → DFEnt es s ps i (j + 1)) := hD.out.skip hjl
        have hmv : Hid ((es[j].1.toList == s.toList) = false → DFEnt es s (ps.set i (.string es[j].1, .int .i64 es[j].2)) (i + 1) (j + 1)) := hD.out.move hjl
        obtain ⟨z, u, hzu⟩ : ∃ z u, es[j] = (z, u) := ⟨_, _, rfl⟩
        rw [hzu] at x1 x2 hsk hmv
        dsimp only at x1 x2 hsk hmv
        have bA : Below wr.heap.size wr (wr.alloc (.cells #[.string z, .int .i64 u] 89)) := (Below.refl _ wr).alloc (Nat.le_refl _) _
        have zA := Blk.new wr 89 #[.string z, .int .i64 u]
        have hcc := sameEnt z u s FB SB _ (CVEnt.keep hV.out bA)
        have hOA : Hid _ := OwnP.keep hO.out bA
        have hVA : Hid _ := CVEnt.keep hV.out bA
        have hGA : Hid _ := gr_tr hG.out (Below.gr bA (some g))
        have hgA : g ≠ wr.heap.size := by have := OwnP.lt hO.out; omega
        have HZA : Hid _ := zA
        obtain ⟨bb, hbb⟩ : ∃ b, (z.toList == s.toList) = b := ⟨_, rfl⟩
        rw [hbb] at hcc hsk hmv
        clear hzu hbb bA zA hD hO hV hG
        go_wp2_with fail
        obtain ⟨W2, hW2⟩ : ∃ W, wr.alloc (.cells #[.string z, .int .i64 u] 89) = W := ⟨_, rfl⟩
        obtain ⟨E, hE⟩ : ∃ E, wr.heap.size = E := ⟨_, rfl⟩
        rw [hW2] at hcc hOA hVA hGA HZA ⊢
        rw [hE] at hgA HZA ⊢
        clear hW2 hE
        (with_reducible refine hcc.mono ?_)
        rintro e w3 ⟨rfl, b3⟩
        have zE := Blk.keep HZA.out b3
        have y0 := zE.cell 0
        have y1 := zE.cell 1
        simp at y0 y1
        have hO3 := OwnP.keep hOA.out b3
        have hV3 : Hid _ := CVEnt.keep hVA.out b3
        have hG3 : Hid _ := gr_tr hGA.out (Below.gr b3 (some g))
        cases bb with
        | true =>
          have hnx : Hid _ := hsk.out rfl
          have HO3 : Hid _ := hO3
          clear hsk hmv hcc hOA hVA hGA HZA b3 zE hO3 y0 y1
          go_wp2
          go_roundw
          case rel => exact ⟨i, j + 1, ps, rfl, by go_num, by omega, by omega, hnx, HO3, hV3, hG3⟩
          case measure => simp [intOf]; omega
        | false =>
          have hnx : Hid _ := hmv.out rfl
          obtain ⟨q0, q1⟩ := OwnP.cells hO3 i (by omega)
          have fr0 := OwnP.frozen hO3 (i * 2)
          have fr1 := OwnP.frozen hO3 (i * 2 + 1)
          have HO4 : Hid _ := ownP_stored hO3 i (by omega) (.string z, .int .i64 u)
          have HG4 : Hid _ := gr_tr hG3.out (gr_tr (gr_setC w3 g (i * 2) (.string z)) (gr_setC (w3.setCell ⟨g, i * 2, none⟩ (.string z)) g (i * 2 + 1) (.int .i64 u)))
          have HV4 : Hid _ := CVEnt.row hV3.out hO3 (gr_tr (gr_setC w3 g (i * 2) (.string z)) (gr_setC (w3.setCell ⟨g, i * 2, none⟩ (.string z)) g (i * 2 + 1) (.int .i64 u)))
          obtain ⟨o0, ho0⟩ : ∃ v, (ps.getD i (undef, undef)).1 = v := ⟨_, rfl⟩
          obtain ⟨o1, ho1⟩ : ∃ v, (ps.getD i (undef, undef)).2 = v := ⟨_, rfl⟩
          rw [ho0] at q0
          rw [ho1] at q1
          clear hsk hmv hcc hOA hVA hGA HZA b3 zE hO3 hV3 hG3 ho0 ho1
          go_wp2
          go_roundw
          case rel => exact ⟨i + 1, j + 1, _, by go_num, by go_num, by omega, by omega, hnx, HO4, HV4, HG4⟩
          case measure => simp [intOf]; omega
      · have hji : ¬ (j : Int) < (n : Int) := by omega
        obtain ⟨hfl, hfn⟩ := hD.out.fin (by rw [HN.out]; omega)
        rw [HL.out] at hfl hfn
        have hiN : i < n := by omega
        have hi0 : (0 : Int) ≤ (i : Int) := by omega
        have hin : (i : Int) ≤ (n : Int) := by omega
        have hic : (i : Int) ≤ (cap : Int) := by omega
        obtain ⟨w', hcl⟩ : ∃ w', (∀ ty, (Builtin.clear_ #[65] ty #[.slice (some ⟨g, i * 2, none⟩) (n - i) (cap - i)]).run Tryz.prog wr = .ok (.tuple #[]) w') ∧ OwnP 89 w' g i cap (ps.take i) ∧ wr.grownBy w' (some g) := by
          obtain ⟨w', h1, h2⟩ := clearEnt wr g i n (cap - i) cap ps 0 hO.out hiN
          exact ⟨w', fun _ => h1, h2⟩
        have hend : Hid (OwnQ 89 w' (.slice (some ⟨g, 0, none⟩) i cap) L.length (eP L) ∧ w.grownBy w' (some g)) := by
          refine ⟨?_, gr_tr hG.out hcl.2.2⟩
          have h1 := hcl.2.1
          rw [hfl] at h1
          rw [hfn]
          exact h1
        have hrun := hcl.1
        clear hcl hfl hfn hD hO hV hG
        go_wp2_with (first
          | (at_builtin; refine wpList_clear wr rfl (.tmp 38) 65 rfl (.slice (some ⟨g, i * 2, none⟩) (n - i) (cap - i)) w' (by first | rfl | simp) hrun ?_)
          | go_in)
        go_ret
        exact ⟨_, rfl, hend.out⟩
  · have hall : ∀ (j : Nat) (hj : j < es.length), (es[j].1.toList == s.toList) = false := by
      intro j
      induction j using Nat.strongRecOn with
      | ind j ih =>
        intro hj
        cases hc : (es[j].1.toList == s.toList) with
        | false => rfl
        | true => exact absurd ⟨j, hj, hc, fun i hi hij => ih i hij hi⟩ hno
    rw [firstEnt_none hall] at hcI
    have hL : dropEnt es s = es := List.filter_eq_self.2 fun e he => by
      obtain ⟨j, hj, rfl⟩ := List.getElem_of_mem he
      rw [hall j hj]
      rfl
    rw [hL, hn]
    have HO : Hid _ := ho
    clear hrd ho hv hn hL hall hno
    go_enter Tryz.func278, Tryz.ntmps278
    go_wp2_with fail
    (with_reducible refine hcI.mono ?_)
    rintro e w1 ⟨rfl, b1⟩
    have hend : Hid (OwnQ 89 w1 (.slice a n cap) n (eP es) ∧ w.grownBy w1 (Value.slice a n cap).ownBlock) := ⟨row_kp HO.out (KpT.below b1 [89]) (by simp), Below.gr b1 _⟩
    clear hcI HO b1
    go_wp2
    go_ret
    exact ⟨_, rfl, hend.out⟩
end

section
open Go.RowKit
def cutE (es : List (ByteArray × Int)) (nm : ByteArray) : List (ByteArray × Int) := es.filter fun q => decide (q.1 ≠ nm)
theorem cutE_take {es : List (ByteArray × Int)} {nm : ByteArray} {k : Nat} {q : ByteArray × Int} (h : es[k]? = some q) : cutE (es.take (k + 1)) nm = cutE (es.take k) nm ++ (if q.1 = nm then [] else [q]) := by
  unfold cutE
  rw [List.take_add_one, h, List.filter_append]
  by_cases hq : q.1 = nm
  · simp [hq]
  · simp [hq]
theorem cutE_le (es : List (ByteArray × Int)) (nm : ByteArray) (k : Nat) : (cutE (es.take k) nm).length ≤ k := by
  have := List.length_filter_le (fun q : ByteArray × Int => decide (q.1 ≠ nm)) (es.take k)
  unfold cutE
  simp only [List.length_take] at this
  omega
set_option maxRecDepth 100000 in
set_option maxHeartbeats 4000000 in
theorem l6CutS (a : Option Addr) (n cap : Nat) (es : List (ByteArray × Int)) (nm : ByteArray) (w : World) (hn : es.length = n) (hs : n ≤ 1048576) (hr : RdP w a (eP es)) :
    Calls Tryz.prog 124 #[.slice a n cap, .string nm] w fun e w' => ∃ g c, e = .returned (.slice (some ⟨g, 0, none⟩) (cutE es nm).length c) ∧ w'.ownsRow w.heap.size 89 2 (.slice (some ⟨g, 0, none⟩) (cutE es nm).length c) (cutE es nm).length (pv (eP (cutE es nm))) ∧ Below w.heap.size w w' := by
  have hn' : Hid (es.length = n) := hn
  obtain ⟨i0, hi, hz0, hz1, hz2⟩ := info_parts Tryz.infoEnt
  have B0 : Below w.heap.size w (w.alloc (.cells #[] 89)) := (Below.refl _ w).alloc (Nat.le_refl _) _
  have oE : (w.alloc (.cells #[] 89)).ownsRow w.heap.size 89 2 (.slice (some ⟨w.heap.size, 0, none⟩) (cutE (es.take 0) nm).length 0) (cutE (es.take 0) nm).length (pv (eP (cutE (es.take 0) nm))) := empty_row w w.heap.size 89 2 (Nat.le_refl _)
  have HR : Hid _ := hr
  obtain ⟨R, hR⟩ : ∃ R, cutE es nm = R := ⟨_, rfl⟩
  rw [hR]
  have HRR : Hid _ := hR
  clear hn hr hR
  go_enter Tryz.func124, Tryz.ntmps124
  go_wp2
  go_loopw [5, 6] (fun o i wr => ∃ (k g c m : Nat), k ≤ n ∧ i = .int .i64 k ∧ o = .slice (some ⟨g, 0, none⟩) m c ∧ (cutE (es.take k) nm).length = m ∧ wr.ownsRow w.heap.size 89 2 (.slice (some ⟨g, 0, none⟩) m c) m (pv (eP (cutE (es.take k) nm))) ∧ Below w.heap.size w wr) (fun _ i _ => n - (intOf i).toNat)
  case atStart => exact ⟨0, w.heap.size, 0, 0, Nat.zero_le _, rfl, rfl, rfl, oE, B0⟩
  case round =>
    obtain ⟨k, g, c, m, hk, rfl, rfl, hm, ho, hB⟩ := hrel
    clear oE B0
    by_cases hkn : k < n
    · have hki : (k : Int) < (n : Int) := by omega
      have hkl : k < es.length := by rw [hn'.out]; exact hkn
      obtain ⟨b, off, rfl, hlt, hc⟩ := RdP.lt HR.out (by intro h; have := congrArg List.length h; rw [eP_length] at this; simp at this; rw [this] at hkl; simp at hkl)
      have hx := hc k (by rw [eP_length]; exact hkl)
      rw [eP_at es k hkl] at hx
      have hct := cutE_take (nm := nm) (List.getElem?_eq_getElem hkl)
      have hle := cutE_le es nm k
      obtain ⟨z, u, hzu⟩ : ∃ z u, es[k] = (z, u) := ⟨_, _, rfl⟩
      rw [hzu] at hx hct
      have x1 : wr.cell? ⟨b, off + k * 2, none⟩ = some (.string z) := (hB.cell (p := ⟨b, off + k * 2, none⟩) hlt).trans hx.1
      have x2 : wr.cell? ⟨b, off + k * 2 + 1, none⟩ = some (.int .i64 u) := (hB.cell (p := ⟨b, off + k * 2 + 1, none⟩) hlt).trans hx.2
      dsimp only at hct
      rw [hm] at hle
      by_cases hz : z = nm
      · rw [if_pos hz, List.append_nil] at hct
        have hnx : Hid _ := hct
        have heb : (z.toList == nm.toList) = true := by rw [hz]; exact beq_self_eq_true _
        have heb' : (z.toList != nm.toList) = false := by rw [bne, heb]; rfl
        subst hz
        clear hc hx hct hzu hle
        go_wp2
        go_roundw
        case rel => exact ⟨k + 1, g, c, m, by omega, by go_num, rfl, by rw [hnx.out]; exact hm, by rw [hnx.out]; exact ho, hB⟩
        case measure => simp [intOf]; omega
      · rw [if_neg hz] at hct
        have hnx : Hid _ := hct
        have heb := bytes_ne hz
        have heb' : (z.toList != nm.toList) = true := by rw [bne, heb]; rfl
        have hap := app_pair (wr.alloc (.cells #[.string z, .int .i64 u] 89)) w.heap.size 65 89 i0 (.agg #[.string ⟨#[]⟩, .int .i64 0]) 24 Tryz.underlying65 hi hz0 hz1 hz2 rfl (by omega) g m c (eP (cutE (es.take k) nm)) (World.ownsRow.alloc ho _) (by omega) wr.heap.size (.string z, .int .i64 u) ((Blk.new wr 89 #[.string z, .int .i64 u]).cell 0) ((Blk.new wr 89 #[.string z, .int .i64 u]).cell 1) rfl rfl (by have := hB.size; simp; omega)
        clear hc hx hct hzu
        go_wp2_with (at_builtin; refine wpList_run _ rfl (.tmp 21) (.tmp 26) 65 rfl (.slice (some ⟨g, 0, none⟩) m c) (.slice (some ⟨wr.heap.size, 0, none⟩) 1 1) rfl rfl _ hap ?_; rintro v5 V5 ⟨g5, c5, rfl, o5, hg5, hat5⟩)
        have hB1 := hB.alloc hB.size (.cells #[.string z, .int .i64 u] 89)
        have hlow := (World.ownsRow.lt ho g rfl).1
        have hB2 := hB1.grown hg5 hB1.size (fun q hq => by simp at hq; omega)
        have hfin : Hid (V5.ownsRow w.heap.size 89 2 (.slice (some ⟨g5, 0, none⟩) (m + 1) c5) (m + 1) (pv (eP (cutE (es.take (k + 1)) nm))) ∧ Below w.heap.size w V5) := ⟨by rw [hnx.out, eP_snoc]; exact o5, hB2⟩
        have hlen : Hid ((cutE (es.take (k + 1)) nm).length = m + 1) := by show _ = _; rw [hnx.out, List.length_append, hm]; rfl
        clear hap o5 hg5 hB1 hB2 ho hB x1 x2 hat5
        go_wp2
        go_roundw
        all_goals first
          | (case rel => (repeat apply Exists.intro); exact ⟨⟨k + 1, g5, c5, m + 1, by omega, by go_num, rfl, hlen.out, hfin.out⟩, rfl⟩)
          | (case rel => exact ⟨k + 1, g5, c5, m + 1, by omega, by go_num, rfl, hlen.out, hfin.out⟩)
          | (case measure => simp [intOf]; omega)
          | fail
    · have hki : ¬ (k : Int) < (n : Int) := by omega
      have he : es.take k = es := List.take_of_length_le (by rw [hn'.out]; omega)
      rw [he, HRR.out] at hm ho
      subst hm
      have HD : Hid _ := And.intro ho hB
      clear ho hB
      go_wp2
      go_ret
      first | exact ⟨_, _, rfl, HD.out⟩ | exact ⟨_, ⟨_, rfl⟩, HD.out⟩
end

section
open Go.RowKit
/-- A table without an entry. -/
def dropP (ds : List InoD) (s : ByteArray) : List InoD := setD ds { (statD ds (strB (parentOf s.data.toList).1)).1 with ents := cutE (statD ds (strB (parentOf s.data.toList).1)).1.ents (strB (parentOf s.data.toList).2.1) }
theorem cutE_small {D : InoD} (h : InoSmall D) (nm : ByteArray) : InoSmall { D with ents := cutE D.ents nm } := by
  refine ⟨h.data, ?_, h.attrs, fun q hq => h.entsz q (List.mem_filter.1 hq).1, h.attrsz⟩
  exact Nat.le_trans (List.length_filter_le _ _) h.ents
set_option maxRecDepth 100000 in
set_option maxHeartbeats 8000000 in
theorem dropPS (a : Option Addr) (n cap : Nat) (nx : Int) (rs : List InoR) (s : ByteArray) (w : World) (ht : TR w a n rs) (hs : s.size ≤ 4000000) :
    Calls Tryz.prog 74 #[.agg #[.slice a n cap, .int .i64 nx], .string s] w fun e w' => ∃ v, e = .returned v ∧ TabAt w nx (dropP (rs.map InoR.D) s) v w' := by
  have B0 : Below w.heap.size w ((w.alloc (.cells #[.slice a n cap, .int .i64 nx] 28)).alloc (.cells #[.slice none 0 0, .int .i64 0] 28)) := ((Below.refl _ w).alloc (Nat.le_refl _) _).alloc (by simp) _
  have zT : Blk ((w.alloc (.cells #[.slice a n cap, .int .i64 nx] 28)).alloc (.cells #[.slice none 0 0, .int .i64 0] 28)) w.heap.size 28 #[.slice a n cap, .int .i64 nx] := (Blk.new w _ _).alloc _
  have zR := Blk.new (w.alloc (.cells #[.slice a n cap, .int .i64 nx] 28)) 28 #[.slice none 0 0, .int .i64 0]
  simp only [World.size_alloc] at zR
  obtain ⟨ds, hds⟩ : ∃ ds, rs.map InoR.D = ds := ⟨_, rfl⟩
  rw [hds]
  have HDS : Hid _ := hds
  have HT : Hid _ := ht
  have HSm : Hid (∀ F ∈ ds, InoSmall F) := by
    intro F hF
    exact ht.smallD F (by rw [hds]; exact hF)
  have hn1 := ht.n
  obtain ⟨R, hR⟩ : ∃ R, dropP ds s = R := ⟨_, rfl⟩
  rw [hR]
  unfold dropP at hR
  have hps := parent_small s.data.toList
  go_enter Tryz.func74, Tryz.ntmps74
  go_wp2_with fail
  obtain ⟨W0, hW0⟩ : ∃ W, (w.alloc (.cells #[.slice a n cap, .int .i64 nx] 28)).alloc (.cells #[.slice none 0 0, .int .i64 0] 28) = W := ⟨_, rfl⟩
  rw [hW0] at B0 zT zR ⊢
  clear hW0 ht hds
  refine (parentS s W0 hs).mono ?_
  rintro e w1 ⟨bb1, rfl⟩
  obtain ⟨P1, P2, P3, hP⟩ : ∃ P1 P2 P3, parentOf s.data.toList = (P1, P2, P3) := ⟨_, _, _, rfl⟩
  rw [hP] at hR hps ⊢
  dsimp only at hR hps ⊢
  have hB1 := B0.trans (bb1.mono B0.size)
  have zr1 := zR.keep bb1
  have zt1 := zT.keep bb1
  have t0 := zt1.cell 0
  have t1 := zt1.cell 1
  simp at t0 t1
  have hcS := statS a n cap nx rs (strB P1) w1 (HT.out.keep hB1) (by rw [strB_size]; omega)
  rw [HDS.out] at hcS
  have hsm : InoSmall (statD ds (strB P1)).1 := statD_small HSm.out
  obtain ⟨D, c, hDc⟩ : ∃ D c, statD ds (strB P1) = (D, c) := ⟨_, _, rfl⟩
  rw [hDc] at hR hcS hsm
  dsimp only at hR hcS hsm
  have hrl : w.heap.size + 1 < w1.heap.size := zr1.lt
  clear B0 zR zT bb1 hP hDc
  go_wp2_with fail
  (with_reducible refine hcS.mono ?_)
  rintro e w2 ⟨b1, d1, b2, d2, b3, d3, rfl, g2, bb2⟩
  clear hcS t0 t1
  have hs12 := bb2.size
  have zr3 := (zr1.keep bb2).alloc (.cells #[.int .i64 D.ino, .int .i64 D.kind, .int .i64 D.links, .slice b1 D.data.length d1, .slice b2 D.ents.length d2, .slice b3 D.attrs.length d3] 68)
  have zt3 := (zt1.keep bb2).alloc (.cells #[.int .i64 D.ino, .int .i64 D.kind, .int .i64 D.links, .slice b1 D.data.length d1, .slice b2 D.ents.length d2, .slice b3 D.attrs.length d3] 68)
  have hb2 := hB1.trans (bb2.mono hB1.size)
  have hb3 := hb2.alloc hb2.size (.cells #[.int .i64 D.ino, .int .i64 D.kind, .int .i64 D.links, .slice b1 D.data.length d1, .slice b2 D.ents.length d2, .slice b3 D.attrs.length d3] 68)
  have zX := Blk.new w2 68 #[.int .i64 D.ino, .int .i64 D.kind, .int .i64 D.links, .slice b1 D.data.length d1, .slice b2 D.ents.length d2, .slice b3 D.attrs.length d3]
  have g3 := g2.keep (Nat.le_refl _) ((Below.refl _ w2).alloc (Nat.le_refl _) (.cells #[.int .i64 D.ino, .int .i64 D.kind, .int .i64 D.links, .slice b1 D.data.length d1, .slice b2 D.ents.length d2, .slice b3 D.attrs.length d3] 68))
  have hlt : w2.heap.size < (w2.alloc (.cells #[.int .i64 D.ino, .int .i64 D.kind, .int .i64 D.links, .slice b1 D.data.length d1, .slice b2 D.ents.length d2, .slice b3 D.attrs.length d3] 68)).heap.size := by simp
  obtain ⟨W3, hW3⟩ : ∃ W, w2.alloc (.cells #[.int .i64 D.ino, .int .i64 D.kind, .int .i64 D.links, .slice b1 D.data.length d1, .slice b2 D.ents.length d2, .slice b3 D.attrs.length d3] 68) = W := ⟨_, rfl⟩
  rw [hW3] at zr3 zt3 hb3 zX g3 hlt
  have x4 := zX.cell 4
  simp at x4
  have hcC := l6CutS b2 D.ents.length d2 D.ents (strB P2) W3 rfl hsm.ents g3.rds.ents
  clear zr1 zt1 hB1 hb2 g2 bb2
  go_wp2_with fail
  (with_reducible refine hcC.mono ?_)
  rintro e w5 ⟨g5, c5, rfl, o5, b6⟩
  clear hcC x4
  have x4 := (zX.keep b6).cell 4
  have xf := (zX.keep b6).frozen 4
  simp at x4
  have hs56 := b6.size
  have hg5 := (World.ownsRow.lt o5 g5 rfl).1
  have gX := gr_setC w5 w2.heap.size 4 (.slice (some ⟨g5, 0, none⟩) (cutE D.ents (strB P2)).length c5)
  have zX6 : Blk (w5.setCell ⟨w2.heap.size, 4, none⟩ (.slice (some ⟨g5, 0, none⟩) (cutE D.ents (strB P2)).length c5)) w2.heap.size 68 #[.int .i64 D.ino, .int .i64 D.kind, .int .i64 D.links, .slice b1 D.data.length d1, .slice (some ⟨g5, 0, none⟩) (cutE D.ents (strB P2)).length c5, .slice b3 D.attrs.length d3] := (zX.keep b6).set 4 _
  have zt6 := (zt3.keep b6).kept gX (by omega)
  have zr6 := (zr3.keep b6).kept gX (by omega)
  have o6 := row_kept o5 gX (fun z hz e => by simp [Value.ownBlock] at hz; simp at e; omega)
  have hG6 : InoG (w5.setCell ⟨w2.heap.size, 4, none⟩ (.slice (some ⟨g5, 0, none⟩) (cutE D.ents (strB P2)).length c5)) w1.heap.size w2.heap.size D (.slice b1 D.data.length d1) (.slice b2 D.ents.length d2) (.slice b3 D.attrs.length d3) := (g3.keep (by omega) b6).kept fun k h1 h2 => gX.block k (by omega) (by simp; omega)
  have hB6 : Below w.heap.size w (w5.setCell ⟨w2.heap.size, 4, none⟩ (.slice (some ⟨g5, 0, none⟩) (cutE D.ents (strB P2)).length c5)) := by
    have h2 := hb3.trans (b6.mono hb3.size)
    exact h2.setCell (p := ⟨w2.heap.size, 4, none⟩) (by show w.heap.size ≤ w2.heap.size; omega) _
  obtain ⟨E, hE⟩ : ∃ E, ({ D with ents := cutE D.ents (strB P2) } : InoD) = E := ⟨_, rfl⟩
  have hEl : E.ents.length = (cutE D.ents (strB P2)).length := by rw [← hE]
  have hEr : InoRd (w5.setCell ⟨w2.heap.size, 4, none⟩ (.slice (some ⟨g5, 0, none⟩) (cutE D.ents (strB P2)).length c5)) E b1 (some ⟨g5, 0, none⟩) b3 := by
    rw [← hE]
    exact ⟨hG6.rds.data, hG6.rds.byt, (show OwnP 89 _ g5 _ c5 _ from row_lower o6 (Nat.zero_le _)).rd, hG6.rds.attrs⟩
  have hEs : InoSmall E := by rw [← hE]; exact cutE_small hsm _
  have e1 : D.ino = E.ino ∧ D.kind = E.kind ∧ D.links = E.links ∧ D.data.length = E.data.length ∧ D.attrs.length = E.attrs.length := by rw [← hE]; exact ⟨rfl, rfl, rfl, rfl, rfl⟩
  have hcF := setT a n cap nx rs E b1 (some ⟨g5, 0, none⟩) b3 d1 c5 d3 (w5.setCell ⟨w2.heap.size, 4, none⟩ (.slice (some ⟨g5, 0, none⟩) (cutE D.ents (strB P2)).length c5)) (HT.out.keep hB6) hEs hEr
  rw [HDS.out, ← e1.1, ← e1.2.1, ← e1.2.2.1, ← e1.2.2.2.1, ← e1.2.2.2.2, hEl] at hcF
  have HRR : Hid (setD ds E = R) := by show _ = _; rw [← hR, hE]
  obtain ⟨y0, y1, y2, y3, y4, y5⟩ := zX6.six
  have t0 := zt6.cell 0
  have t1 := zt6.cell 1
  simp at t0 t1
  obtain ⟨W6, hW6⟩ : ∃ W, w5.setCell ⟨w2.heap.size, 4, none⟩ (.slice (some ⟨g5, 0, none⟩) (cutE D.ents (strB P2)).length c5) = W := ⟨_, rfl⟩
  rw [hW6] at hcF hB6 zr6 y0 y1 y2 y3 y4 y5 t0 t1
  have HZ6 : Hid _ := zr6
  have HB6 : Hid _ := hB6
  clear zX zt3 zr3 hb3 g3 o5 b6 gX zX6 zt6 zr6 o6 hG6 hB6 hE hEl hEr hEs e1 hR hsm
  go_wp2_with fail
  (with_reducible refine hcF.mono ?_)
  rintro e w7 ⟨v, rfl, b, cc, js, rfl, q7, b7⟩
  clear hcF t0 t1 y0 y1 y2 y3 y4 y5
  obtain ⟨m, hm⟩ : ∃ m, js.length = m := ⟨_, rfl⟩
  rw [hm] at q7 ⊢
  have z7 := Blk.keep HZ6.out b7
  have r0 := z7.cell 0
  have r1 := z7.cell 1
  have f0 := z7.frozen 0
  have f1 := z7.frozen 1
  simp at r0 r1
  have HQ : Hid _ := And.intro z7 (q7.boxed (HB6.out.trans (b7.mono HB6.out.size)) (R := w.heap.size + 1) (by omega) (Blk.lt HZ6.out) (.slice b m cc) (.int .i64 nx))
  clear z7 q7 b7
  go_wp2
  have zf := blk2 HQ.out.1 (.slice b m cc) (.int .i64 nx)
  have dd0 := zf.cell 0
  have dd1 := zf.cell 1
  simp at dd0 dd1
  refine bodyPost_ret (v := .agg #[.slice b m cc, .int .i64 nx]) (by simp [results, Tryz.f74, go_sem, dd0, dd1]) rfl ?_
  subst hm
  have h1 := HQ.out.2
  rw [HRR.out] at h1
  exact ⟨_, rfl, b, cc, js, rfl, h1.1, h1.2⟩
end

section
open Go.RowKit
theorem TabAt.trs {w V : World} {nx : Int} {ds : List InoD} {v : Value} (h : TabAt w nx ds v V) (hs : ∀ D ∈ ds, InoSmall D) (hl : ds.length ≤ 1048576) : ∃ a n c rs, v = .agg #[.slice a n c, .int .i64 nx] ∧ (∀ V', Below V.heap.size V V' → TR V' a n rs ∧ ∀ (X i : Nat) (u : Value), X < w.heap.size → TR (V'.setCell ⟨X, i, none⟩ u) a n rs) ∧ rs.map InoR.D = ds ∧ Below w.heap.size w V := by
  obtain ⟨a, c, js, rfl, hq, hb⟩ := h
  have h1 : (js.map InoJ.r).map InoR.D = ds := by rw [hq.ds, lift_map]
  have h2 : js.length = ds.length := by rw [← h1]; simp
  have hsm : ∀ r ∈ js.map InoJ.r, InoSmall r.D := fun r hr => hs r.D (by rw [← h1]; exact List.mem_map_of_mem hr)
  refine ⟨a, js.length, c, js.map InoJ.r, rfl, fun V' hV => ⟨⟨by simp, by omega, hsm, (hq.keep hV).rd rfl⟩, fun X i u hX => ⟨by simp, by omega, hsm, ((hq.keep hV).setX hX i u).rd rfl⟩⟩, h1, hb⟩
theorem dropP_small {ds : List InoD} (h : ∀ E ∈ ds, InoSmall E) (s : ByteArray) : ∀ E ∈ dropP ds s, InoSmall E := setD_small h (cutE_small (statD_small h) _)
theorem dropP_len (ds : List InoD) (s : ByteArray) : (dropP ds s).length ≤ ds.length + 1 := setD_len _ _
end

section
open Go.RowKit
def renameD (nx : Int) (ds : List InoD) (s tp : ByteArray) : List InoD × Int :=
  if treeD nx ds = false ∨ (parentOf s.data.toList).2.2 = false ∨ (parentOf tp.data.toList).2.2 = false then (ds, 1)
  else if (walkP ds s).2 ≠ 0 then (ds, (walkP ds s).2)
  else if belowOf s.data.toList tp.data.toList = true then (ds, 6)
  else if (spotD ds tp (walkP ds (strB (parentOf s.data.toList).1)).1).2.2 ≠ 0 then (ds, (spotD ds tp (walkP ds (strB (parentOf s.data.toList).1)).1).2.2)
  else (setD (dropP ds s) { (statD (dropP ds s) (strB (parentOf tp.data.toList).1)).1 with ents := insBy (fun q => gtS (spotD ds tp (walkP ds (strB (parentOf s.data.toList).1)).1).2.1 q.1) (statD (dropP ds s) (strB (parentOf tp.data.toList).1)).1.ents ((spotD ds tp (walkP ds (strB (parentOf s.data.toList).1)).1).2.1, (walkP ds s).1) }, 0)
theorem setD_mem {ds : List InoD} {D E : InoD} (h : E ∈ setD ds D) : E ∈ ds ∨ E = D := by
  unfold setD at h
  obtain ⟨r, hr, rfl⟩ := List.mem_map.1 h
  rcases setR_mem hr with h' | rfl
  · obtain ⟨F, hF, rfl⟩ := List.mem_map.1 h'
    exact .inl hF
  · exact .inr rfl
theorem statD_few {ds : List InoD} (h : ∀ D ∈ ds, D.ents.length ≤ 10) (s : ByteArray) : (statD ds s).1.ents.length ≤ 10 := by
  unfold statD
  split
  · split
    · simp [inoZ]
    · rename_i D hD
      exact h D (look_mem hD).1
  · simp [inoZ]
theorem dropP_few {ds : List InoD} (h : ∀ D ∈ ds, D.ents.length ≤ 10) (s : ByteArray) : ∀ D ∈ dropP ds s, D.ents.length ≤ 10 := fun D hD => by
  rcases setD_mem hD with hD | rfl
  · exact h D hD
  · exact Nat.le_trans (List.length_filter_le _ _) (statD_few h _)
set_option maxRecDepth 100000 in
set_option maxHeartbeats 8000000 in
theorem renameS (a : Option Addr) (n cap : Nat) (nx : Int) (rs : List InoR) (s tp : ByteArray) (w : World) (ht : TR w a n rs) (hs : s.size ≤ 4000000) (hto : tp.size ≤ 4000000) :
    Calls Tryz.prog 26 #[.agg #[.slice a n cap, .int .i64 nx], .string s, .string tp] w fun e w' => TabC w nx (renameD nx (rs.map InoR.D) s tp).1 (renameD nx (rs.map InoR.D) s tp).2 e w' := by
  have B0 : Below w.heap.size w ((w.alloc (.cells #[.slice a n cap, .int .i64 nx] 28)).alloc (.cells #[.slice none 0 0, .int .i64 0] 28)) := ((Below.refl _ w).alloc (Nat.le_refl _) _).alloc (by simp) _
  have zT : Blk ((w.alloc (.cells #[.slice a n cap, .int .i64 nx] 28)).alloc (.cells #[.slice none 0 0, .int .i64 0] 28)) w.heap.size 28 #[.slice a n cap, .int .i64 nx] := (Blk.new w _ _).alloc _
  have zR := Blk.new (w.alloc (.cells #[.slice a n cap, .int .i64 nx] 28)) 28 #[.slice none 0 0, .int .i64 0]
  simp only [World.size_alloc] at zR
  obtain ⟨ds, hds⟩ : ∃ ds, rs.map InoR.D = ds := ⟨_, rfl⟩
  have hdn : ds.length = n := by rw [← hds, List.length_map, ht.len]
  have hp : Hid (∀ (e : Ending) (w' : World) (l : List InoD) (q : Int), renameD nx ds s tp = (l, q) → TabC w nx l q e w' → TabC w nx (renameD nx ds s tp).1 (renameD nx ds s tp).2 e w') := fun e w' l q h hh => by rw [h]; exact hh
  rw [hds]
  generalize TabC w nx (renameD nx ds s tp).1 (renameD nx ds s tp).2 = P at hp ⊢
  have hmd : renameD nx ds s tp = renameD nx ds s tp := rfl
  conv at hmd => rhs; unfold renameD
  have HDS : Hid _ := hds
  have HDN : Hid _ := hdn
  have HT : Hid _ := ht
  have HSm : Hid (∀ F ∈ ds, InoSmall F) := by
    intro F hF
    exact ht.smallD F (by rw [hds]; exact hF)
  have hn1 := ht.n
  have href : Hid (∀ (W : World) (q : Int), Below w.heap.size w W → Blk W (w.heap.size + 1) 28 #[.slice none 0 0, .int .i64 0] → renameD nx ds s tp = (ds, q) → Calls Tryz.prog 67 #[.agg #[.slice a n cap, .int .i64 nx]] W fun e V => ∃ (b : Option Addr) (m cc : Nat), e = .returned (.agg #[.slice b m cc, .int .i64 nx]) ∧ Blk V (w.heap.size + 1) 28 #[.slice none 0 0, .int .i64 0] ∧ P (.returned (.tuple #[.agg #[.slice b m cc, .int .i64 nx], .int .i64 q])) ((V.setCell ⟨w.heap.size + 1, 0, none⟩ (.slice b m cc)).setCell ⟨w.heap.size + 1, 1, none⟩ (.int .i64 nx))) := fun W q hb hz hq => by
    have hT := HT.out.keep hb
    refine (l4CopyS a n cap nx rs W hT.len hT.n hT.small hT.rd).mono fun e V h => ?_
    obtain ⟨b, m, cc, h1, h2, h3⟩ := copyC h hb (Nat.le_succ _) hz
    rw [HDS.out] at h3
    exact ⟨b, m, cc, h1, h2, hp.out _ _ _ _ hq (h3 q)⟩
  have hset : Hid (∀ (W V : World) (v : Value) (l : List InoD), TabAt W nx l v V → Below w.heap.size w W → Blk W (w.heap.size + 1) 28 #[.slice none 0 0, .int .i64 0] → renameD nx ds s tp = (l, 0) → ∃ (b : Option Addr) (m cc : Nat), v = .agg #[.slice b m cc, .int .i64 nx] ∧ Blk V (w.heap.size + 1) 28 #[.slice none 0 0, .int .i64 0] ∧ P (.returned (.tuple #[.agg #[.slice b m cc, .int .i64 nx], .int .i64 0])) ((V.setCell ⟨w.heap.size + 1, 0, none⟩ (.slice b m cc)).setCell ⟨w.heap.size + 1, 1, none⟩ (.int .i64 nx))) := fun W V v l h hb hz hq => by
    obtain ⟨b, cc, js, rfl, hQ, hbV⟩ := h
    refine ⟨b, js.length, cc, rfl, hz.keep hbV, hp.out _ _ _ _ hq ?_⟩
    have := hQ.boxed (hb.trans (hbV.mono hb.size)) (R := w.heap.size + 1) (by omega) hz.lt (.slice b js.length cc) (.int .i64 nx)
    exact ⟨b, cc, js, rfl, this.1, this.2⟩
  go_enter Tryz.func26, Tryz.ntmps26
  go_wp2_with fail
  obtain ⟨W0, hW0⟩ : ∃ W, (w.alloc (.cells #[.slice a n cap, .int .i64 nx] 28)).alloc (.cells #[.slice none 0 0, .int .i64 0] 28) = W := ⟨_, rfl⟩
  rw [hW0] at B0 zT zR ⊢
  clear hW0 ht hds hdn
  have hps := parent_small s.data.toList
  have hpt := parent_small tp.data.toList
  have hpp := parentS s W0 hs
  refine hpp.mono ?_
  rintro e w1 ⟨bb1, rfl⟩
  clear hpp
  obtain ⟨Q1, Q2, Q3, hQ⟩ : ∃ P1 P2 P3, parentOf s.data.toList = (P1, P2, P3) := ⟨_, _, _, rfl⟩
  rw [hQ] at hmd hps ⊢
  dsimp only at hmd hps ⊢
  have hB0 := B0
  have zr0 := zR
  have zt0 := zT
  clear B0 zR zT hQ
  have hB1 := hB0.trans (bb1.mono hB0.size)
  have zr1 := zr0.keep bb1
  have zt1 := zt0.keep bb1
  clear hB0 zr0 zt0 bb1

  have hpp := parentS tp w1 hto
  go_wp2_with fail
  refine hpp.mono ?_
  rintro e w2 ⟨bb2, rfl⟩
  clear hpp
  obtain ⟨P1, P2, P3, hP⟩ : ∃ P1 P2 P3, parentOf tp.data.toList = (P1, P2, P3) := ⟨_, _, _, rfl⟩
  rw [hP] at hmd hpt ⊢
  dsimp only at hmd hpt ⊢
  have HP : Hid _ := hP
  have hB2 := hB1.trans (bb2.mono hB1.size)
  have zr2 := zr1.keep bb2
  have zt2 := zt1.keep bb2
  clear hB1 zr1 zt1 bb2

  have t0 := zt2.cell 0
  have t1 := zt2.cell 1
  simp at t0 t1
  have hcT := treeS a n cap nx rs w2 (HT.out.keep hB2)
  rw [HDS.out] at hcT
  clear hP
  go_wp2_with fail
  (with_reducible refine hcT.mono ?_)
  rintro e w3 ⟨rfl, bb3⟩
  clear hcT t0 t1
  have hB3 := hB2.trans (bb3.mono hB2.size)
  have zr3 := zr2.keep bb3
  have zt3 := zt2.keep bb3
  clear hB2 zr2 zt2 bb3

  have t0 := zt3.cell 0
  have t1 := zt3.cell 1
  simp at t0 t1
  have hrl : w.heap.size + 1 < w3.heap.size := zr3.lt
  by_cases hbad : treeD nx ds = false ∨ Q3 = false ∨ P3 = false
  · rw [if_pos hbad] at hmd
    have hcC := href.out w3 1 hB3 zr3 hmd
    clear hmd zr3 zt3
    cases htr : treeD nx ds with
    | false =>
      go_wp2_with fail
      (with_reducible refine hcC.mono ?_)
      rintro e wz ⟨b, m, cc, rfl, zz, hPz⟩
      have HPP : Hid _ := hPz
      have HZZ : Hid _ := zz
      have rr0 := zz.cell 0
      have rr1 := zz.cell 1
      have rf0 := zz.frozen 0
      have rf1 := zz.frozen 1
      simp at rr0 rr1
      clear zz hPz hcC t0 t1
      go_wp2
      have zf := blk2 HZZ.out (.slice b m cc) (.int .i64 nx)
      have dd0 := zf.cell 0
      have dd1 := zf.cell 1
      simp at dd0 dd1
      refine bodyPost_ret (v := .tuple #[.agg #[.slice b m cc, .int .i64 nx], .int .i64 1]) (by simp [results, Tryz.f26, go_sem, dd0, dd1]) rfl ?_
      exact HPP.out

    | true =>
      rw [htr] at hbad
      cases Q3 with
      | false =>
        go_wp2_with fail
        (with_reducible refine hcC.mono ?_)
        rintro e wz ⟨b, m, cc, rfl, zz, hPz⟩
        have HPP : Hid _ := hPz
        have HZZ : Hid _ := zz
        have rr0 := zz.cell 0
        have rr1 := zz.cell 1
        have rf0 := zz.frozen 0
        have rf1 := zz.frozen 1
        simp at rr0 rr1
        clear zz hPz hcC t0 t1
        go_wp2
        have zf := blk2 HZZ.out (.slice b m cc) (.int .i64 nx)
        have dd0 := zf.cell 0
        have dd1 := zf.cell 1
        simp at dd0 dd1
        refine bodyPost_ret (v := .tuple #[.agg #[.slice b m cc, .int .i64 nx], .int .i64 1]) (by simp [results, Tryz.f26, go_sem, dd0, dd1]) rfl ?_
        exact HPP.out

      | true =>
        obtain rfl : P3 = false := by simpa using hbad
        go_wp2_with fail
        (with_reducible refine hcC.mono ?_)
        rintro e wz ⟨b, m, cc, rfl, zz, hPz⟩
        have HPP : Hid _ := hPz
        have HZZ : Hid _ := zz
        have rr0 := zz.cell 0
        have rr1 := zz.cell 1
        have rf0 := zz.frozen 0
        have rf1 := zz.frozen 1
        simp at rr0 rr1
        clear zz hPz hcC t0 t1
        go_wp2
        have zf := blk2 HZZ.out (.slice b m cc) (.int .i64 nx)
        have dd0 := zf.cell 0
        have dd1 := zf.cell 1
        simp at dd0 dd1
        refine bodyPost_ret (v := .tuple #[.agg #[.slice b m cc, .int .i64 nx], .int .i64 1]) (by simp [results, Tryz.f26, go_sem, dd0, dd1]) rfl ?_
        exact HPP.out

  · rw [if_neg hbad] at hmd
    obtain ⟨htr, rfl, rfl⟩ : treeD nx ds = true ∧ Q3 = true ∧ P3 = true := by simpa using hbad
    have hok := tabD_ok (treeD_parts htr).1
    have HOK : Hid _ := hok
    have HFW : Hid (∀ D ∈ ds, D.ents.length ≤ 10) := fun D hD => (entsOk_at (ok_parts (hok.2.2.2.2.1 D hD).1).2.2.1).1
    rw [htr]
    have hcW := walkS a n cap nx rs s w3 (HT.out.keep hB3) hs
    rw [HDS.out] at hcW
    obtain ⟨iw, c, hWc⟩ : ∃ i c, walkP ds s = (i, c) := ⟨_, _, rfl⟩
    rw [hWc] at hmd hcW
    dsimp only at hmd hcW
    clear htr hbad hok hWc
    go_wp2_with fail
    (with_reducible refine hcW.mono ?_)
    rintro e w4 ⟨rfl, bb4⟩
    clear hcW t0 t1
    have hB4 := hB3.trans (bb4.mono hB3.size)
    have zr4 := zr3.keep bb4
    have zt4 := zt3.keep bb4
    have hs34 := bb4.size
    clear hB3 zr3 zt3 bb4
    have t0 := zt4.cell 0
    have t1 := zt4.cell 1
    simp at t0 t1
    by_cases hc0 : c = 0
    · subst hc0
      rw [if_neg (by simp)] at hmd
      have hcB := belowS s tp w4 hs hto
      unfold BePost at hcB
      go_wp2_with fail
      (with_reducible refine hcB.mono ?_)
      rintro e w5 ⟨rfl, bb5⟩
      clear hcB t0 t1
      have hB5 := hB4.trans (bb5.mono hB4.size)
      have zr5 := zr4.keep bb5
      have zt5 := zt4.keep bb5
      have hs45 := bb5.size
      clear hB4 zr4 zt4 bb5
      have t0 := zt5.cell 0
      have t1 := zt5.cell 1
      simp at t0 t1
      cases hbl : belowOf s.data.toList tp.data.toList with
      | true =>
        rw [if_pos hbl] at hmd
        have hcC := href.out w5 6 hB5 zr5 hmd
        clear hmd zr5 zt5 hbl
        go_wp2_with fail
        (with_reducible refine hcC.mono ?_)
        rintro e wz ⟨b, m, cc, rfl, zz, hPz⟩
        have HPP : Hid _ := hPz
        have HZZ : Hid _ := zz
        have rr0 := zz.cell 0
        have rr1 := zz.cell 1
        have rf0 := zz.frozen 0
        have rf1 := zz.frozen 1
        simp at rr0 rr1
        clear zz hPz hcC t0 t1
        go_wp2
        have zf := blk2 HZZ.out (.slice b m cc) (.int .i64 nx)
        have dd0 := zf.cell 0
        have dd1 := zf.cell 1
        simp at dd0 dd1
        refine bodyPost_ret (v := .tuple #[.agg #[.slice b m cc, .int .i64 nx], .int .i64 6]) (by simp [results, Tryz.f26, go_sem, dd0, dd1]) rfl ?_
        exact HPP.out

      | false =>
        rw [if_neg (by simp [hbl])] at hmd
        clear hbl
        have hcW := walkS a n cap nx rs (strB Q1) w5 (HT.out.keep hB5) (by rw [strB_size]; omega)
        rw [HDS.out] at hcW
        obtain ⟨fw, cw, hFw⟩ : ∃ i c, walkP ds (strB Q1) = (i, c) := ⟨_, _, rfl⟩
        rw [hFw] at hmd hcW
        dsimp only at hmd hcW
        clear hFw
        go_wp2_with fail
        (with_reducible refine hcW.mono ?_)
        rintro e w6 ⟨rfl, bb6⟩
        clear hcW t0 t1
        have hB6 := hB5.trans (bb6.mono hB5.size)
        have zr6 := zr5.keep bb6
        have zt6 := zt5.keep bb6
        have hs56 := bb6.size
        clear hB5 zr5 zt5 bb6
        have t0 := zt6.cell 0
        have t1 := zt6.cell 1
        simp at t0 t1
        have hcY := spotS a n cap nx rs tp fw w6 (HT.out.keep hB6) hto
        rw [HDS.out] at hcY
        obtain ⟨D, nm, q, hYq⟩ : ∃ Y nm q, spotD ds tp fw = (Y, nm, q) := ⟨_, _, _, rfl⟩
        rw [hYq] at hcY hmd
        dsimp only at hcY hmd
        have HYQ : Hid _ := hYq
        clear hYq
        go_wp2_with fail
        (with_reducible refine hcY.mono ?_)
        rintro e w7 ⟨b1, d1, b2, d2, b3, d3, rfl, _, bb7⟩
        clear hcY t0 t1
        have hs67 := bb7.size
        have zr7 := (zr6.keep bb7).alloc (.cells #[.int .i64 D.ino, .int .i64 D.kind, .int .i64 D.links, .slice b1 D.data.length d1, .slice b2 D.ents.length d2, .slice b3 D.attrs.length d3] 68)
        have zt7 := (zt6.keep bb7).alloc (.cells #[.int .i64 D.ino, .int .i64 D.kind, .int .i64 D.links, .slice b1 D.data.length d1, .slice b2 D.ents.length d2, .slice b3 D.attrs.length d3] 68)
        have hb7' := hB6.trans (bb7.mono hB6.size)
        have hB7 := hb7'.alloc hb7'.size (.cells #[.int .i64 D.ino, .int .i64 D.kind, .int .i64 D.links, .slice b1 D.data.length d1, .slice b2 D.ents.length d2, .slice b3 D.attrs.length d3] 68)
        obtain ⟨W7, hW7⟩ : ∃ W, w7.alloc (.cells #[.int .i64 D.ino, .int .i64 D.kind, .int .i64 D.links, .slice b1 D.data.length d1, .slice b2 D.ents.length d2, .slice b3 D.attrs.length d3] 68) = W := ⟨_, rfl⟩
        rw [hW7] at zr7 zt7 hB7
        have t0 := zt7.cell 0
        have t1 := zt7.cell 1
        simp at t0 t1
        clear hb7' bb7 hB6 zr6 zt6
        by_cases hq0 : q = 0
        · subst hq0
          rw [if_neg (by simp)] at hmd
          have hnm := (spot_mem HYQ.out).2
          have hcD := dropPS a n cap nx rs s W7 (HT.out.keep hB7) hs
          rw [HDS.out] at hcD
          go_wp2_with fail
          (with_reducible refine hcD.mono ?_)
          rintro e v1 ⟨v, rfl, tA⟩
          clear hcD t0 t1
          obtain ⟨ob, om, oc, rs4, rfl, hT4, hD4, b4⟩ := tA.trs (dropP_small HSm.out s) (by have := dropP_len ds s; have := HOK.out.2.1; omega)
          have bO : Below v1.heap.size v1 (v1.alloc (.cells #[.slice ob om oc, .int .i64 nx] 28)) := (Below.refl _ v1).alloc (Nat.le_refl _) _
          have zO := Blk.new v1 28 #[.slice ob om oc, .int .i64 nx]
          have hsO : (v1.alloc (.cells #[.slice ob om oc, .int .i64 nx] 28)).heap.size = v1.heap.size + 1 := by simp
          obtain ⟨V2, hV2⟩ : ∃ W, v1.alloc (.cells #[.slice ob om oc, .int .i64 nx] 28) = W := ⟨_, rfl⟩
          rw [hV2] at bO zO hsO
          have b5 := b4.trans (bO.mono b4.size)
          have zr8 := zr7.keep b5
          have hB8 := hB7.trans (b5.mono hB7.size)
          have HSO : Hid _ := hsO
          have HZO : Hid _ := zO
          have HR8 : Hid _ := zr8
          have HB8 : Hid _ := hB8
          have HBO : Hid _ := bO
          have hs78 := b5.size
          clear zO zr8 hB8 bO b4 b5 zr7 zt7 hB7 tA hsO
          have hpp := parentS tp V2 hto
          go_wp2_with fail
          refine hpp.mono ?_
          rintro e v3 ⟨bb8, rfl⟩
          clear hpp
          rw [HP.out]
          dsimp only
          have zO3 := Blk.keep HZO.out bb8
          have o0 := zO3.cell 0
          have o1 := zO3.cell 1
          simp at o0 o1
          have hb13 := HBO.out.trans (bb8.mono HBO.out.size)
          have hcS := statS ob om oc nx rs4 (strB P1) v3 (hT4 v3 hb13).1 (by rw [strB_size]; omega)
          rw [hD4] at hcS
          have hYs : InoSmall (statD (dropP ds s) (strB P1)).1 := statD_small (dropP_small HSm.out s)
          have hY10 : (statD (dropP ds s) (strB P1)).1.ents.length ≤ 10 := statD_few (dropP_few HFW.out s) _
          obtain ⟨Y, cy, hYc⟩ : ∃ Y c, statD (dropP ds s) (strB P1) = (Y, c) := ⟨_, _, rfl⟩
          rw [hYc] at hcS hYs hY10 hmd
          dsimp only at hcS hYs hY10 hmd
          clear hYc
          go_wp2_with fail
          (with_reducible refine hcS.mono ?_)
          rintro e v5 ⟨f1, h1, f2, h2, f3, h3, rfl, gY, bb9⟩
          clear hcS o0 o1
          have bN : Below v5.heap.size v5 (v5.alloc (.cells #[.int .i64 Y.ino, .int .i64 Y.kind, .int .i64 Y.links, .slice f1 Y.data.length h1, .slice f2 Y.ents.length h2, .slice f3 Y.attrs.length h3] 68)) := (Below.refl _ v5).alloc (Nat.le_refl _) _
          have zY := Blk.new v5 68 #[.int .i64 Y.ino, .int .i64 Y.kind, .int .i64 Y.links, .slice f1 Y.data.length h1, .slice f2 Y.ents.length h2, .slice f3 Y.attrs.length h3]
          have gY5 := gY.keep (Nat.le_refl _) bN
          have hltY : v5.heap.size < (v5.alloc (.cells #[.int .i64 Y.ino, .int .i64 Y.kind, .int .i64 Y.links, .slice f1 Y.data.length h1, .slice f2 Y.ents.length h2, .slice f3 Y.attrs.length h3] 68)).heap.size := by simp
          have b35 := bb9.trans (bN.mono bb9.size)
          obtain ⟨V5, hV5⟩ : ∃ W, v5.alloc (.cells #[.int .i64 Y.ino, .int .i64 Y.kind, .int .i64 Y.links, .slice f1 Y.data.length h1, .slice f2 Y.ents.length h2, .slice f3 Y.attrs.length h3] 68) = W := ⟨_, rfl⟩
          rw [hV5] at bN zY gY5 hltY b35
          have hs89 := bb9.size
          have hs38 := bb8.size
          have hsO := HSO.out
          have y4 := zY.cell 4
          simp at y4
          have hcP := l6PutS f2 Y.ents.length h2 Y.ents nm iw V5 rfl (by omega) gY5.rds.ents
          have HMD : Hid _ := hmd
          have HSO2 : Hid _ := hsO
          clear hmd hsO
          go_wp2_with fail
          (with_reducible refine hcP.mono ?_)
          rintro e v7 ⟨g7, c7, rfl, o7, b7⟩
          clear hcP y4
          have hsO := HSO2.out
          have hs5 := b7.size
          have hg7 := (World.ownsRow.lt o7 g7 rfl).1
          have gS := gr_setC v7 v5.heap.size 4 (.slice (some ⟨g7, 0, none⟩) (Y.ents.length + 1) c7)
          have y4 := (zY.keep b7).cell 4
          have yf := (zY.keep b7).frozen 4
          simp at y4
          have zY8 : Blk (v7.setCell ⟨v5.heap.size, 4, none⟩ (.slice (some ⟨g7, 0, none⟩) (Y.ents.length + 1) c7)) v5.heap.size 68 #[.int .i64 Y.ino, .int .i64 Y.kind, .int .i64 Y.links, .slice f1 Y.data.length h1, .slice (some ⟨g7, 0, none⟩) (Y.ents.length + 1) c7, .slice f3 Y.attrs.length h3] := (zY.keep b7).set 4 _
          have zO8 := (((zO3.keep b35).keep b7).kept gS (by have := Blk.lt HZO.out; omega))
          have b27 := bb8.trans ((b35.trans (b7.mono b35.size)).mono bb8.size)
          have zr9 := ((Blk.keep HR8.out b27).kept gS (by have := Blk.lt HR8.out; omega))
          have hB9 : Below w.heap.size w (v7.setCell ⟨v5.heap.size, 4, none⟩ (.slice (some ⟨g7, 0, none⟩) (Y.ents.length + 1) c7)) := ((HB8.out.trans (b27.mono HB8.out.size))).setCell (p := ⟨v5.heap.size, 4, none⟩) (by show w.heap.size ≤ v5.heap.size; have := Blk.lt HR8.out; omega) _
          have o8 := row_kept o7 gS (fun z hz e => by simp [Value.ownBlock] at hz; simp at e; omega)
          have gY8 : InoG (v7.setCell ⟨v5.heap.size, 4, none⟩ (.slice (some ⟨g7, 0, none⟩) (Y.ents.length + 1) c7)) v3.heap.size v5.heap.size Y (.slice f1 Y.data.length h1) (.slice f2 Y.ents.length h2) (.slice f3 Y.attrs.length h3) := (gY5.keep (by omega) b7).kept fun k h1 h2 => gS.block k (by omega) (by simp; omega)
          have hb19 : Below v1.heap.size v1 (v7.setCell ⟨v5.heap.size, 4, none⟩ (.slice (some ⟨g7, 0, none⟩) (Y.ents.length + 1) c7)) := (HBO.out.trans (b27.mono HBO.out.size)).setCell (p := ⟨v5.heap.size, 4, none⟩) (by show v1.heap.size ≤ v5.heap.size; omega) _
          obtain ⟨F, hF⟩ : ∃ F, ({ Y with ents := insBy (fun q => gtS nm q.1) Y.ents (nm, iw) } : InoD) = F := ⟨_, rfl⟩
          have hFr : InoRd (v7.setCell ⟨v5.heap.size, 4, none⟩ (.slice (some ⟨g7, 0, none⟩) (Y.ents.length + 1) c7)) F f1 (some ⟨g7, 0, none⟩) f3 := by
            rw [← hF]
            exact ⟨gY8.rds.data, gY8.rds.byt, (show OwnP 89 _ g7 _ c7 _ from row_lower o8 (Nat.zero_le _)).rd, gY8.rds.attrs⟩
          have hFs : InoSmall F := by
            rw [← hF]
            refine ⟨hYs.data, ?_, hYs.attrs, fun q hq => ?_, hYs.attrsz⟩
            · show (insBy _ _ _).length ≤ _
              rw [insBy_len]
              omega
            · rcases insBy_mem.1 hq with rfl | hq
              · show nm.size ≤ _
                omega
              · exact hYs.entsz q hq
          have e2 : Y.ino = F.ino ∧ Y.kind = F.kind ∧ Y.links = F.links ∧ Y.data.length = F.data.length ∧ Y.ents.length + 1 = F.ents.length ∧ Y.attrs.length = F.attrs.length := by rw [← hF]; exact ⟨rfl, rfl, rfl, rfl, (insBy_len _ _ _).symm, rfl⟩
          have HMF : Hid (renameD nx ds s tp = (setD (dropP ds s) F, 0)) := by show _ = _; rw [HMD.out, hF]
          have hcF := setT ob om oc nx rs4 F f1 (some ⟨g7, 0, none⟩) f3 h1 c7 h3 (v7.setCell ⟨v5.heap.size, 4, none⟩ (.slice (some ⟨g7, 0, none⟩) (Y.ents.length + 1) c7)) (hT4 _ hb19).1 hFs hFr
          rw [hD4, ← e2.1, ← e2.2.1, ← e2.2.2.1, ← e2.2.2.2.1, ← e2.2.2.2.2.1, ← e2.2.2.2.2.2] at hcF
          obtain ⟨j0, j1, j2, j3, j4, j5⟩ := zY8.six
          have p0 := zO8.cell 0
          have p1 := zO8.cell 1
          simp at p0 p1
          obtain ⟨V8, hV8⟩ : ∃ W, v7.setCell ⟨v5.heap.size, 4, none⟩ (.slice (some ⟨g7, 0, none⟩) (Y.ents.length + 1) c7) = W := ⟨_, rfl⟩
          rw [hV8] at hcF hB9 zr9 j0 j1 j2 j3 j4 j5 p0 p1
          have HBW : Hid _ := hB9
          have HZW : Hid _ := zr9
          clear hT4 hD4 zY zO3 gY gY5 bN b35 bb8 bb9 b7 b27 o7 o8 gS zY8 zO8 zr9 hB9 gY8 hb19 hb13 hF hFr hFs e2 HMD hsO
          go_wp2_with fail
          (with_reducible refine hcF.mono ?_)
          rintro e wz ⟨v, rfl, tAz⟩
          obtain ⟨b, m, cc, rfl, zz, hPz⟩ := hset.out _ _ _ _ tAz HBW.out HZW.out HMF.out
          have HPP : Hid _ := hPz
          have HZZ : Hid _ := zz
          have rr0 := zz.cell 0
          have rr1 := zz.cell 1
          have rf0 := zz.frozen 0
          have rf1 := zz.frozen 1
          simp at rr0 rr1
          clear zz hPz hcF tAz y4 yf j0 j1 j2 j3 j4 j5 p0 p1
          go_wp2
          have zf := blk2 HZZ.out (.slice b m cc) (.int .i64 nx)
          have dd0 := zf.cell 0
          have dd1 := zf.cell 1
          simp at dd0 dd1
          refine bodyPost_ret (v := .tuple #[.agg #[.slice b m cc, .int .i64 nx], .int .i64 0]) (by simp [results, Tryz.f26, go_sem, dd0, dd1]) rfl ?_
          exact HPP.out

        · rw [if_pos hq0] at hmd
          have hcC := href.out W7 q hB7 zr7 hmd
          have hcb : (q != 0) = true := by simpa using hq0
          have hcb' : (q == 0) = false := by simpa using hq0
          clear hmd zr7 zt7 hB7
          go_wp2_with fail
          (with_reducible refine hcC.mono ?_)
          rintro e wz ⟨b, m, cc, rfl, zz, hPz⟩
          have HPP : Hid _ := hPz
          have HZZ : Hid _ := zz
          have rr0 := zz.cell 0
          have rr1 := zz.cell 1
          have rf0 := zz.frozen 0
          have rf1 := zz.frozen 1
          simp at rr0 rr1
          clear zz hPz hcC t0 t1
          go_wp2
          have zf := blk2 HZZ.out (.slice b m cc) (.int .i64 nx)
          have dd0 := zf.cell 0
          have dd1 := zf.cell 1
          simp at dd0 dd1
          refine bodyPost_ret (v := .tuple #[.agg #[.slice b m cc, .int .i64 nx], .int .i64 q]) (by simp [results, Tryz.f26, go_sem, dd0, dd1]) rfl ?_
          exact HPP.out

    · rw [if_pos hc0] at hmd
      have hcC := href.out w4 c hB4 zr4 hmd
      have hcb : (c != 0) = true := by simpa using hc0
      have hcb' : (c == 0) = false := by simpa using hc0
      clear hmd zr4 zt4 hB4
      go_wp2_with fail
      (with_reducible refine hcC.mono ?_)
      rintro e wz ⟨b, m, cc, rfl, zz, hPz⟩
      have HPP : Hid _ := hPz
      have HZZ : Hid _ := zz
      have rr0 := zz.cell 0
      have rr1 := zz.cell 1
      have rf0 := zz.frozen 0
      have rf1 := zz.frozen 1
      simp at rr0 rr1
      clear zz hPz hcC t0 t1
      go_wp2
      have zf := blk2 HZZ.out (.slice b m cc) (.int .i64 nx)
      have dd0 := zf.cell 0
      have dd1 := zf.cell 1
      simp at dd0 dd1
      refine bodyPost_ret (v := .tuple #[.agg #[.slice b m cc, .int .i64 nx], .int .i64 c]) (by simp [results, Tryz.f26, go_sem, dd0, dd1]) rfl ?_
      exact HPP.out
end

section
open Go.RowKit
theorem dropEnt_cut (es : List (ByteArray × Int)) (s : ByteArray) : dropEnt es s = cutE es s := by
  unfold dropEnt cutE
  refine List.filter_congr fun e _ => ?_
  by_cases h : e.1 = s
  · rw [h]
    simp
  · rw [str_ne h]
    simp [h]
set_option maxRecDepth 100000 in
set_option maxHeartbeats 2000000 in
theorem dropNEnt (v : Value) (n : Nat) (es : List (ByteArray × Int)) (s : ByteArray) (w : World) (hs : n ≤ 1000000) (ho : OwnQ 89 w v n (eP es)) :
    Calls Tryz.prog 259 #[v, .string s, .func (.func 210) #[] #[]] w fun e w' => ∃ v', e = .returned v' ∧ OwnQ 89 w' v' (dropEnt es s).length (eP (dropEnt es s)) ∧ w.grownBy w' v.ownBlock := by
  have hmf : ∀ (fn : Fn) (first cap : Array Value) (w : World), (Instr.makeFunc fn first cap).run Tryz.prog w = .ok (.func fn first cap) w := fun _ _ _ _ => rfl
  have b0 : Below w.heap.size w ((w.alloc (.cells #[.string s] 9)).alloc (.cells #[.func (.func 210) #[] #[]] 219)) := ((Below.refl _ w).alloc (Nat.le_refl _) _).alloc (by simp) _
  have zS := (Blk.new w 9 #[.string s]).alloc (.cells #[.func (.func 210) #[] #[]] 219)
  have zF := Blk.new (w.alloc (.cells #[.string s] 9)) 219 #[.func (.func 210) #[] #[]]
  simp only [World.size_alloc] at zF
  have hcd := deleteEnt v n es s (w.heap.size + 1) w.heap.size _ hs (row_kp ho (KpT.below b0 [89]) (by simp)) ⟨zF, zS⟩
  have hg0 : Hid (w.grownBy ((w.alloc (.cells #[.string s] 9)).alloc (.cells #[.func (.func 210) #[] #[]] 219)) v.ownBlock) := Below.gr b0 _
  clear zS zF b0 ho
  go_enter Tryz.func259, Tryz.ntmps259
  go_wp2_with fail
  (with_reducible refine hcd.mono ?_)
  rintro e w1 ⟨v', rfl, o1, g1⟩
  have hend : Hid (OwnQ 89 w1 v' (dropEnt es s).length (eP (dropEnt es s)) ∧ w.grownBy w1 v.ownBlock) := ⟨o1, gr_tr hg0.out g1⟩
  clear hcd o1 g1 hg0
  go_wp2
  go_ret
  exact ⟨_, rfl, hend.out⟩
set_option maxRecDepth 100000 in
set_option maxHeartbeats 4000000 in
theorem withoutI (a : Option Addr) (n cap : Nat) (nx : Int) (rs : List InoR) (s : ByteArray) (w : World) (ht : TR w a n rs) (hK : ∀ r ∈ rs, r.D.kind = 1 ∨ r.D.kind = 2) (hwf : ∀ r ∈ rs, (Lit.int .i64 r.D.ino).wf = true) (hwe : ∀ r ∈ rs, ∀ e ∈ r.D.ents, (Lit.int .i64 e.2).wf = true) (hE : ∀ r ∈ rs, r.D.ents.length ≤ 100) (hs : s.size ≤ 4000000) (hps : (strB (parentOf s.data.toList).1).size ≤ 4000000) (D : InoD) (hD : badK 1 (rs.map InoR.D) (strB (parentOf s.data.toList).1) = (D, 0)) :
    Calls Tryz.prog 222 #[.agg #[.slice a n cap, .int .i64 nx], .string s] w fun e w' => ∃ v, e = .returned v ∧ TabAt w nx (setD (rs.map InoR.D) { D with ents := cutE D.ents (strB (parentOf s.data.toList).2.1) }) v w' := by
  have B0 : Below w.heap.size w ((w.alloc (.cells #[.slice a n cap, .int .i64 nx] 28)).alloc (.cells #[.slice none 0 0, .int .i64 0] 28)) := ((Below.refl _ w).alloc (Nat.le_refl _) _).alloc (by simp) _
  have zT := (Blk.new w 28 #[.slice a n cap, .int .i64 nx]).alloc (.cells #[.slice none 0 0, .int .i64 0] 28)
  have zR := Blk.new (w.alloc (.cells #[.slice a n cap, .int .i64 nx] 28)) 28 #[.slice none 0 0, .int .i64 0]
  simp only [World.size_alloc] at zR
  have hcP := fun W => parentI s W hs
  unfold PaPost at hcP
  obtain ⟨pa, hpa⟩ : ∃ p, strB (parentOf s.data.toList).1 = p := ⟨_, rfl⟩
  obtain ⟨nm, hnm⟩ : ∃ p, strB (parentOf s.data.toList).2.1 = p := ⟨_, rfl⟩
  obtain ⟨pb, hpb⟩ : ∃ p, (parentOf s.data.toList).2.2 = p := ⟨_, rfl⟩
  rw [hpa] at hcP hD hps
  rw [hnm] at hcP ⊢
  rw [hpb] at hcP
  have hcF := fun (W : World) (hW : Below w.heap.size w W) => dirI a n cap nx rs pa W (ht.keep hW) hK hwf hwe hps
  have HMEM : Hid _ := @badK_mem 1 (rs.map InoR.D) pa
  rw [hD] at hcF HMEM
  dsimp only at hcF HMEM
  have HDm : Hid (D ∈ rs.map InoR.D) := HMEM.out rfl
  obtain ⟨ds, hds⟩ : ∃ ds, rs.map InoR.D = ds := ⟨_, rfl⟩
  rw [hds]
  have HDS : Hid _ := hds
  obtain ⟨TT, hTT⟩ : ∃ c, setD ds { D with ents := cutE D.ents nm } = c := ⟨_, rfl⟩
  rw [hTT]
  have HTT : Hid _ := hTT
  have HSM : Hid _ := ht.small
  have HLEN : Hid _ := ht.len
  have HNN : Hid _ := ht.n
  have HRD : Hid _ := ht.rd
  have HWF : Hid _ := hwf
  have HEE : Hid _ := hE
  clear hpa hnm hpb hD ht hK hwf hwe hE hds hTT HMEM
  go_enter Tryz.func222, Tryz.ntmps222
  go_wp2_with fail
  obtain ⟨Wz, hWz⟩ : ∃ W, ((w.alloc (.cells #[.slice a n cap, .int .i64 nx] 28)).alloc (.cells #[.slice none 0 0, .int .i64 0] 28)) = W := ⟨_, rfl⟩
  rw [hWz] at B0 zT zR ⊢
  clear hWz
  (with_reducible refine (hcP Wz).mono ?_)
  rintro e w1 ⟨b1, rfl⟩
  have zt1 := zT.keep b1
  have zr1 := zR.keep b1
  have hb1 := B0.trans (b1.mono B0.size)
  have t0 := zt1.cell 0
  have t1 := zt1.cell 1
  simp at t0 t1
  clear zT zR B0 b1 hcP
  go_wp2_with fail
  (with_reducible refine (hcF w1 hb1).mono ?_)
  rintro e w2 ⟨b1, d1, b2, d2, b3, d3, rfl, g2, bb2⟩
  rw [errV_zero]
  have zt := (zt1.keep bb2).alloc (.cells #[.int .i64 D.ino, .int .i64 D.kind, .int .i64 D.links, .slice b1 D.data.length d1, .slice b2 D.ents.length d2, .slice b3 D.attrs.length d3] 68)
  have zr := (zr1.keep bb2).alloc (.cells #[.int .i64 D.ino, .int .i64 D.kind, .int .i64 D.links, .slice b1 D.data.length d1, .slice b2 D.ents.length d2, .slice b3 D.attrs.length d3] 68)
  have hb2 := hb1.trans (bb2.mono hb1.size)
  have hb3 := hb2.alloc hb2.size (.cells #[.int .i64 D.ino, .int .i64 D.kind, .int .i64 D.links, .slice b1 D.data.length d1, .slice b2 D.ents.length d2, .slice b3 D.attrs.length d3] 68)
  have hbA : Below w2.heap.size w2 (w2.alloc (.cells #[.int .i64 D.ino, .int .i64 D.kind, .int .i64 D.links, .slice b1 D.data.length d1, .slice b2 D.ents.length d2, .slice b3 D.attrs.length d3] 68)) := (Below.refl _ w2).alloc (Nat.le_refl _) _
  have zX := Blk.new w2 68 #[.int .i64 D.ino, .int .i64 D.kind, .int .i64 D.links, .slice b1 D.data.length d1, .slice b2 D.ents.length d2, .slice b3 D.attrs.length d3]
  have g3 := g2.keep (Nat.le_refl _) hbA
  have hsR : w.heap.size + 1 < w2.heap.size := (zr1.keep bb2).lt
  have HBZ : Hid (w.heap.size ≤ w1.heap.size) := hb1.size
  obtain ⟨X, hX⟩ : ∃ X, w2.heap.size = X := ⟨_, rfl⟩
  obtain ⟨W3, hW3⟩ : ∃ W, w2.alloc (.cells #[.int .i64 D.ino, .int .i64 D.kind, .int .i64 D.links, .slice b1 D.data.length d1, .slice b2 D.ents.length d2, .slice b3 D.attrs.length d3] 68) = W := ⟨_, rfl⟩
  rw [hW3] at zt zr hb3 zX g3
  rw [hX] at zX g3 hsR
  have HZT : Hid _ := zt
  have HZR : Hid _ := zr
  have HB3 : Hid _ := hb3
  have HG3 : Hid _ := g3
  have HZX : Hid _ := zX
  obtain ⟨x0, x1, x2, x3, x4, x5⟩ := zX.six
  have fx := zX.frozen 4
  obtain ⟨rD, hrD, hrDD⟩ : ∃ r ∈ rs, r.D = D := by
    have := HDm.out
    obtain ⟨r, hr, h⟩ := List.mem_map.1 this
    exact ⟨r, hr, h⟩
  have HSD : Hid (InoSmall D) := hrDD ▸ HSM.out rD hrD
  have HWD : Hid ((Lit.int .i64 D.ino).wf = true) := hrDD ▸ HWF.out rD hrD
  have hcZ := dropNEnt (.slice b2 D.ents.length d2) D.ents.length D.ents nm W3 (by have := hrDD ▸ HEE.out rD hrD; omega) HG3.out.ents
  rw [dropEnt_cut] at hcZ
  clear hcF zt1 zr1 g2 bb2 hb2 hbA hb1 zt zr hb3 g3 zX hrD hrDD t0 t1
  go_wp2_with fail
  (with_reducible refine hcZ.mono ?_)
  rintro e w4 ⟨v4, rfl, o4, g4⟩
  obtain ⟨a4, c4, rfl⟩ := ownQ_shape o4
  have zt4 := Blk.rowQ HZT.out (by decide) HG3.out.ents g4
  have zr4 := Blk.rowQ HZR.out (by decide) HG3.out.ents g4
  have zX4 := Blk.rowQ HZX.out (by decide) HG3.out.ents g4
  have hk4 : KpT W3 w4 [5, 75] := KpT.row g4 HG3.out.ents (by decide)
  have hb4 : Below w.heap.size w w4 := HB3.out.grown g4 HB3.out.size (fun m hm => by have h1 := HG3.out.within m (.inr (.inl hm)); have h2 := HBZ.out; omega)
  obtain ⟨es', hes'⟩ : ∃ l, cutE D.ents nm = l := ⟨_, rfl⟩
  have hel : es'.length ≤ D.ents.length := by rw [← hes']; exact List.length_filter_le _ _
  have hsx : InoSmall { D with ents := es' } := by rw [← hes']; exact cutE_small HSD.out nm
  rw [hes'] at o4 HTT ⊢
  obtain ⟨m4, hm4⟩ : ∃ k, es'.length = k := ⟨_, rfl⟩
  rw [hm4] at o4 ⊢
  have zX5 := zX4.set 4 (.slice a4 m4 c4)
  have zt5 := zt4.other (B' := X) (by omega) 4 (.slice a4 m4 c4)
  have zr5 := zr4.other (B' := X) (by omega) 4 (.slice a4 m4 c4)
  have hk5 : KpT w4 (w4.setCell ⟨X, 4, none⟩ (.slice a4 m4 c4)) [5, 75, 89] := KpT.grown (gr_setC w4 X 4 _) zX4 (by decide)
  have o5 : OwnQ 89 (w4.setCell ⟨X, 4, none⟩ (.slice a4 m4 c4)) (.slice a4 m4 c4) m4 (eP es') := row_kp o4 hk5 (by decide)
  have g5 := inoG_ents HG3.out (hk4.tr (fun B cur t fr h1 h2 => hk5 B cur t fr h1 (List.mem_append_left [89] h2))) o5
  have hb5 := hb4.setCell (p := ⟨X, 4, none⟩) (show w.heap.size ≤ X by omega) (.slice a4 m4 c4)
  have fx4 := zX4.frozen 4
  have xx4 := zX4.cell 4
  simp at xx4
  obtain ⟨W5, hW5⟩ : ∃ W, w4.setCell ⟨X, 4, none⟩ (.slice a4 m4 c4) = W := ⟨_, rfl⟩
  rw [hW5] at zX5 zt5 zr5 g5 hb5
  have hrd5 : InoRd W5 { D with ents := es' } b1 a4 b3 := InoG.rds (B := 0) (T := W5.heap.size) (c1 := d1) (c2 := c4) (c3 := d3) (by show InoG W5 0 W5.heap.size _ (.slice b1 D.data.length d1) (.slice a4 es'.length c4) (.slice b3 D.attrs.length d3); rw [hm4]; exact g5)
  have hcI := setI a n cap nx rs { D with ents := es' } b1 a4 b3 d1 c4 d3 W5 HLEN.out HNN.out HWD.out HWF.out HSM.out hsx (RdI.keep HRD.out hb5) hrd5
  dsimp only at hcI
  rw [hm4] at hcI
  obtain ⟨x0, x1, x2, x3, x4, x5⟩ := zX5.six
  have t0 := zt5.cell 0
  have t1 := zt5.cell 1
  simp at t0 t1
  have HZR5 : Hid _ := zr5
  have HB5 : Hid _ := hb5
  have HHM : Hid _ := hm4
  clear hcZ o4 g4 hk4 hk5 o5 g5 hb4 hb5 hrd5 hsx zt4 zr4 zt5 zr5 zX5 hel hes' hm4
  go_wp2_with fail
  (with_reducible refine hcI.mono ?_)
  intro e w6 hp6
  obtain ⟨v6, rfl, ht6⟩ := hp6.tab
  rw [setD_eq, HDS.out] at ht6
  dsimp only at ht6
  rw [HTT.out] at ht6
  have ht6' := ht6
  obtain ⟨ra, rc, js, rfl, hq6, b6⟩ := ht6'
  obtain ⟨rn, hrn⟩ : ∃ rn, js.length = rn := ⟨_, rfl⟩
  rw [hrn] at hq6 ⊢
  have zr6 := Blk.keep HZR5.out b6
  have HFIN : Hid (TabAt w nx TT (.agg #[.slice ra rn rc, .int .i64 nx]) ((w6.setCell ⟨w.heap.size + 1, 0, none⟩ (.slice ra rn rc)).setCell ⟨w.heap.size + 1, 1, none⟩ (.int .i64 nx))) := by
    have h1 := hq6.boxed (HB5.out.trans (b6.mono HB5.out.size)) (show w.heap.size ≤ w.heap.size + 1 by omega) (Blk.lt HZR5.out) (.slice ra rn rc) (.int .i64 nx)
    refine ⟨ra, rc, js, by rw [hrn], ?_, h1.2⟩
    rw [hrn]
    exact h1.1
  have r0 := zr6.cell 0
  have r1 := zr6.cell 1
  have f0 := zr6.frozen 0
  have f1 := zr6.frozen 1
  simp at r0 r1
  have zf := blk2 zr6 (.slice ra rn rc) (.int .i64 nx)
  have dd0 := zf.cell 0
  have dd1 := zf.cell 1
  simp at dd0 dd1
  clear hcI hp6 ht6 zf zr6 b6 x0 x1 x2 x3 x4 x5 t0 t1 hrn hq6
  go_wp2
  refine bodyPost_ret (v := .agg #[.slice ra rn rc, .int .i64 nx]) (by simp [results, Tryz.f222, go_sem, dd0, dd1]) rfl ?_
  exact ⟨_, rfl, HFIN.out⟩
end

section
open Go.RowKit
def notR (z : ByteArray) : Bool := (parentOf z.data.toList).2.2
theorem all_drop_s {l : List ByteArray} {k : Nat} (h : k < l.length) : (l.drop k).all notR = (notR l[k] && (l.drop (k + 1)).all notR) := by
  rw [List.drop_eq_getElem_cons h, List.all_cons]
set_option maxRecDepth 100000 in
set_option maxHeartbeats 1000000 in
theorem notRootI (a : Option Addr) (n cap : Nat) (zs : List ByteArray) (w : World) (hn : zs.length = n) (hs : n ≤ 100) (hz : ∀ z ∈ zs, z.size ≤ 4000000) (hr : RdS w a zs) :
    Calls Tryz.prog 221 #[.slice a n cap] w fun e w' => e = .returned (errV (if zs.all notR = true then 0 else 1)) ∧ Below w.heap.size w w' := by
  obtain ⟨R, hR⟩ : ∃ R, zs.all notR = R := ⟨_, rfl⟩
  rw [hR]
  obtain ⟨V, hV⟩ : ∃ V, errV (if R = true then 0 else 1) = V := ⟨_, rfl⟩
  rw [hV]
  have HV : Hid _ := hV
  clear hV
  have HR : Hid ((zs.drop 0).all notR = R) := hR
  have HN : Hid _ := hn
  have HZ : Hid _ := hz
  have HRS : Hid _ := hr
  clear hR hn hz hr
  go_enter Tryz.func221, Tryz.ntmps221
  go_wp2
  go_loopw [10] (fun i wr => ∃ k : Nat, k ≤ n ∧ i = .int .i64 k ∧ Hid ((zs.drop k).all notR = R) ∧ Hid (Below w.heap.size w wr)) (fun i _ => n - (intOf i).toNat)
  case atStart => exact ⟨0, Nat.zero_le _, rfl, HR, Below.refl _ _⟩
  case round =>
    obtain ⟨k, hk, rfl, hall, hB⟩ := hrel
    clear HR
    by_cases hkn : k < n
    · have hki : (k : Int) < (n : Int) := by omega
      have hk0 : (0 : Int) ≤ (k : Int) := by omega
      have hkl : k < zs.length := by rw [HN.out]; exact hkn
      obtain ⟨b, off, rfl, hlt, hc⟩ := RdS.lt (RdS.keep HRS.out hB.out) (by intro h; rw [h] at hkl; simp at hkl)
      have n0 := hc k hkl
      rw [List.getD_eq_getElem?_getD, List.getElem?_eq_getElem hkl, Option.getD_some] at n0
      have hall' := hall.out
      rw [all_drop_s hkl] at hall'
      have hsz := HZ.out zs[k] (List.getElem_mem hkl)
      obtain ⟨z, hzz⟩ : ∃ z, zs[k] = z := ⟨_, rfl⟩
      rw [hzz] at n0 hall' hsz
      have hcP := parentI z wr hsz
      have hnz : notR z = (parentOf z.data.toList).2.2 := rfl
      rw [hnz] at hall'
      unfold PaPost at hcP
      obtain ⟨p1, hp1⟩ : ∃ p, strB (parentOf z.data.toList).1 = p := ⟨_, rfl⟩
      obtain ⟨p2, hp2⟩ : ∃ p, strB (parentOf z.data.toList).2.1 = p := ⟨_, rfl⟩
      rw [hp1, hp2] at hcP
      clear hc hzz hkl hall hnz hp1 hp2 hlt
      cases hb : (parentOf z.data.toList).2.2 with
      | false =>
        rw [hb] at hcP hall'
        rw [Bool.false_and] at hall'
        have hend : Hid (.iface 155 (.int .i64 1) = V) := by show _ = _; rw [← HV.out, ← hall']; rfl
        clear hall' hb
        go_wp2_with fail
        (with_reducible refine hcP.mono ?_)
        rintro e w1 ⟨b1, rfl⟩
        have hB1 : Hid _ := hB.out.trans (b1.mono hB.out.size)
        clear hcP n0 b1
        go_wp2
        go_ret
        exact ⟨congrArg Ending.returned hend.out, hB1.out⟩
      | true =>
        rw [hb] at hcP hall'
        rw [Bool.true_and] at hall'
        have hnx : Hid _ := hall'
        clear hall' hb
        go_wp2_with fail
        (with_reducible refine hcP.mono ?_)
        rintro e w1 ⟨b1, rfl⟩
        have hB1 : Hid _ := hB.out.trans (b1.mono hB.out.size)
        clear hcP n0 b1
        go_wp2
        go_roundw
        case rel => exact ⟨k + 1, by omega, by go_num, hnx, hB1⟩
        case measure => simp [intOf]; omega
    · have hki : ¬ (k : Int) < (n : Int) := by omega
      have hend : Hid (.nilIface = V) := by
        have h1 := hall.out
        rw [List.drop_of_length_le (by rw [HN.out]; omega)] at h1
        show _ = _
        rw [← HV.out, ← h1]
        rfl
      go_wp2
      go_ret
      exact ⟨congrArg Ending.returned hend.out, hB.out⟩
end

section
open Go.RowKit
set_option maxRecDepth 100000 in
set_option maxHeartbeats 4000000 in
theorem wrap_Rename (a : Option Addr) (n cap : Nat) (nx : Int) (s tt : ByteArray) (w : World) (N : Int) (D : List InoD) (C : Int)
    (hc : ∀ W : World, Below w.heap.size w W → Calls Tryz.prog 61 #[.agg #[.slice a n cap, .int .i64 nx], .int .i64 7, .agg #[.string s, .string tt, .int .i64 0, .slice none 0 0, .string ⟨#[]⟩, .string ⟨#[]⟩]] W fun e w' => TabC W N D C e w') :
    Calls Tryz.prog 27 #[.agg #[.slice a n cap, .int .i64 nx], .string s, .string tt] w fun e w' => TabC w N D C e w' := by
  have B0 : Below w.heap.size w ((w.alloc (.cells #[.slice a n cap, .int .i64 nx] 28)).alloc (.cells #[.slice none 0 0, .int .i64 0] 28)) := ((Below.refl _ w).alloc (Nat.le_refl _) _).alloc (by simp) _
  have zR := Blk.new (w.alloc (.cells #[.slice a n cap, .int .i64 nx] 28)) 28 #[.slice none 0 0, .int .i64 0]
  simp only [World.size_alloc] at zR
  go_enter Tryz.func27, Tryz.ntmps27
  go_wp2_with fail
  obtain ⟨W0, hW0⟩ : ∃ W, ((w.alloc (.cells #[.slice a n cap, .int .i64 nx] 28)).alloc (.cells #[.slice none 0 0, .int .i64 0] 28)) = W := ⟨_, rfl⟩
  rw [hW0] at B0 zR ⊢
  clear hW0
  (with_reducible refine (hc W0 B0).mono ?_)
  intro e w2 hp
  obtain ⟨ra, rn, rc, rfl, zz, hfin⟩ := tabC_box hp B0 (by omega) zR
  have HFIN : Hid (TabC w N D C (.returned (.tuple #[.agg #[.slice ra rn rc, .int .i64 N], .int .i64 C])) ((w2.setCell ⟨w.heap.size + 1, 0, none⟩ (.slice ra rn rc)).setCell ⟨w.heap.size + 1, 1, none⟩ (.int .i64 N))) := hfin
  have r0 := zz.cell 0
  have r1 := zz.cell 1
  have f0 := zz.frozen 0
  have f1 := zz.frozen 1
  simp at r0 r1
  have zf := blk2 zz (.slice ra rn rc) (.int .i64 N)
  have dd0 := zf.cell 0
  have dd1 := zf.cell 1
  simp at dd0 dd1
  clear hp hfin zf zz zR B0 hc
  go_wp2
  refine bodyPost_ret (v := .tuple #[.agg #[.slice ra rn rc, .int .i64 N], .int .i64 C]) (by simp [results, Tryz.f27, go_sem, dd0, dd1]) rfl ?_
  exact HFIN.out
end

section
open Go.RowKit
theorem split_parent {s : Str} {zs : List Str} (h : splitOf s = some zs) (hne : zs ≠ []) : splitOf (joinOf zs.dropLast) = some zs.dropLast := by
  have hg : good zs = true := by
    rcases split_cases h with ⟨_, rfl⟩ | ⟨r, _, _, hg, rfl⟩
    · exact absurd rfl hne
    · exact hg
  refine split_join ?_
  unfold joinOf
  by_cases hd : zs.dropLast = []
  · rw [if_pos hd]
    simp
  · rw [if_neg hd, if_pos (good_dropLast hg)]
    cases hz : zs.dropLast with
    | nil => exact absurd hz hd
    | cons z l => simp
theorem walkD_app {ds : List InoD} {nm : ByteArray} : ∀ (l : List ByteArray) (x : Int), (walkD ds x (l ++ [nm])).2 = 0 → (walkD ds x l).2 = 0 ∧ ∃ E, look ds (walkD ds x l).1 = some E ∧ E.kind = 2
  | [], x, h => by
    refine ⟨rfl, ?_⟩
    rw [List.nil_append] at h
    unfold walkD at h
    cases hl : look ds x with
    | none => rw [hl] at h; simp at h
    | some D =>
      rw [hl] at h
      dsimp only at h
      by_cases hk : D.kind = 2
      · exact ⟨D, hl, hk⟩
      · rw [if_neg hk] at h
        simp at h
  | z :: l, x, h => by
    rw [List.cons_append] at h
    unfold walkD at h ⊢
    cases hl : look ds x with
    | none => rw [hl] at h; simp at h
    | some D =>
      rw [hl] at h
      dsimp only at h ⊢
      by_cases hk : D.kind = 2
      · rw [if_pos hk] at h ⊢
        by_cases he : entOf z D.ents = 0
        · rw [if_pos he] at h
          simp at h
        · rw [if_neg he] at h ⊢
          exact walkD_app l _ h
      · rw [if_neg hk] at h
        simp at h
theorem stat_walk {ds : List InoD} {s : ByteArray} (h : (statD ds s).2 = 0) : (walkP ds s).2 = 0 := by
  unfold statD at h
  split at h
  · assumption
  · exact h
/-- Where a path leads somewhere, a directory is above it. -/
theorem parent_stat {ds : List InoD} {s : ByteArray} (h : (walkP ds s).2 = 0) (hp : (parentOf s.data.toList).2.2 = true) : ∃ E, statD ds (strB (parentOf s.data.toList).1) = (E, 0) ∧ E.kind = 2 := by
  cases hs : splitOf s.data.toList with
  | none => rw [walkP_none hs] at h; simp at h
  | some zs =>
    have hne : zs ≠ [] := by
      rintro rfl
      unfold parentOf at hp
      rw [hs] at hp
      simp at hp
    have hpa : parentOf s.data.toList = (joinOf zs.dropLast, zs.getLastD [], true) := by
      unfold parentOf
      rw [hs]
      dsimp only
      rw [if_neg hne]
    rw [hpa]
    dsimp only
    have hw : walkP ds s = walkD ds 1 (zs.map strB) := by unfold walkP; rw [hs]
    rw [hw, show zs = zs.dropLast ++ [zs.getLast hne] from (List.dropLast_concat_getLast hne).symm, List.map_append, List.map_cons, List.map_nil] at h
    obtain ⟨h1, E, h2, h3⟩ := walkD_app _ _ h
    have hq : walkP ds (strB (joinOf zs.dropLast)) = walkD ds 1 (zs.dropLast.map strB) := by
      unfold walkP
      rw [show (strB (joinOf zs.dropLast)).data.toList = joinOf zs.dropLast from rfl, split_parent hs hne]
    refine ⟨E, ?_, h3⟩
    unfold statD
    rw [hq, if_pos h1, h2]
theorem parent_bad {ds : List InoD} {s : ByteArray} (h : (walkP ds s).2 = 0) (hp : (parentOf s.data.toList).2.2 = true) : badK 1 ds (strB (parentOf s.data.toList).1) = ((statD ds (strB (parentOf s.data.toList).1)).1, 0) := by
  obtain ⟨E, h1, h2⟩ := parent_stat h hp
  unfold badK
  rw [h1]
  dsimp only
  rw [if_neg (by omega)]
theorem dropP_tiny {nx : Int} {ds : List InoD} {s : ByteArray} (h : treeD nx ds = true) (hs : ∀ D ∈ ds, InoSmall D) (hw : (walkP ds s).2 = 0) (hp : (parentOf s.data.toList).2.2 = true) : (∀ D ∈ dropP ds s, Tiny D) ∧ (dropP ds s).length ≤ 31 := by
  have ht := tree_tiny h hs
  obtain ⟨E, h1, _⟩ := parent_stat hw hp
  have hE : E ∈ ds := by have := stat_in (ds := ds) (s := strB (parentOf s.data.toList).1) (by rw [h1]); rw [h1] at this; exact this
  unfold dropP
  rw [h1]
  dsimp only
  refine ⟨fun D hD => ?_, ?_⟩
  · rcases setD_memC hD with rfl | hD
    · have := ht E hE
      exact ⟨cutE_small this.small _, this.data, Nat.le_trans (List.length_filter_le _ _) this.ents, this.attrs⟩
    · exact ht D hD
  · have := (tree_more h).2.2
    exact Nat.le_trans (setD_lenC _ _) (by omega)
end

section
open Go.RowKit
theorem entOf_mem {nm : ByteArray} : ∀ {es : List (ByteArray × Int)}, entOf nm es ≠ 0 → (nm, entOf nm es) ∈ es
  | [], h => absurd rfl h
  | q :: es, h => by
    unfold entOf at h ⊢
    by_cases hq : q.1 = nm
    · rw [if_pos hq]
      rw [← hq]
      exact List.mem_cons_self ..
    · rw [if_neg hq] at h ⊢
      exact List.mem_cons_of_mem _ (entOf_mem h)
theorem entOf_cut {nm z : ByteArray} (h : z ≠ nm) : ∀ (es : List (ByteArray × Int)), entOf z (cutE es nm) = entOf z es
  | [] => rfl
  | q :: es => by
    have ih := entOf_cut h es
    unfold cutE at ih ⊢
    by_cases hq : q.1 = nm
    · rw [List.filter_cons_of_neg (by simp [hq]), ih]
      conv => rhs; unfold entOf
      rw [if_neg (by rw [hq]; exact Ne.symm h)]
    · rw [List.filter_cons_of_pos (by simp [hq])]
      conv => lhs; unfold entOf
      conv => rhs; unfold entOf
      rw [ih]
theorem walkD_step {ds : List InoD} {x : Int} {D : InoD} {z : ByteArray} (l : List ByteArray) (hl : look ds x = some D) (hk : D.kind = 2) (he : entOf z D.ents ≠ 0) : walkD ds x (z :: l) = walkD ds (entOf z D.ents) l := by
  conv => lhs; unfold walkD
  rw [hl]
  dsimp only
  rw [if_pos hk, if_neg he]
theorem walkD_two (ds : List InoD) : ∀ (l m : List ByteArray) (x : Int), (walkD ds x l).2 = 0 → walkD ds x (l ++ m) = walkD ds (walkD ds x l).1 m
  | [], m, x, _ => rfl
  | z :: l, m, x, h => by
    have hD : ∃ D, look ds x = some D ∧ D.kind = 2 ∧ entOf z D.ents ≠ 0 := by
      unfold walkD at h
      cases hl : look ds x with
      | none => rw [hl] at h; simp at h
      | some D =>
        rw [hl] at h
        dsimp only at h
        by_cases hk : D.kind = 2
        · rw [if_pos hk] at h
          by_cases he : entOf z D.ents = 0
          · rw [if_pos he] at h
            simp at h
          · exact ⟨D, rfl, hk, he⟩
        · rw [if_neg hk] at h
          simp at h
    obtain ⟨D, hl, hk, he⟩ := hD
    rw [walkD_step l hl hk he] at h ⊢
    rw [List.cons_append, walkD_step (l ++ m) hl hk he]
    exact walkD_two ds l m _ h
theorem walkD_one {ds : List InoD} {u : Int} {D : InoD} {nm : ByteArray} (hl : look ds u = some D) (hk : D.kind = 2) (he : entOf nm D.ents ≠ 0) : walkD ds u [nm] = (entOf nm D.ents, 0) := by
  unfold walkD
  rw [hl]
  dsimp only
  rw [if_pos hk, if_neg he]
  rfl
theorem walkD_snoc {ds : List InoD} {l : List ByteArray} {nm : ByteArray} {x y : Int} (h : walkD ds x (l ++ [nm]) = (y, 0)) : ∃ u E, walkD ds x l = (u, 0) ∧ look ds u = some E ∧ E.kind = 2 ∧ entOf nm E.ents = y ∧ y ≠ 0 := by
  obtain ⟨h1, E, h2, h3⟩ := walkD_app (nm := nm) l x (by rw [h])
  refine ⟨(walkD ds x l).1, E, Prod.ext rfl h1, h2, h3, ?_⟩
  rw [walkD_two ds l [nm] x h1] at h
  unfold walkD at h
  rw [h2] at h
  dsimp only at h
  rw [if_pos h3] at h
  by_cases he : entOf nm E.ents = 0
  · rw [if_pos he] at h
    simp at h
  · rw [if_neg he] at h
    unfold walkD at h
    have := congrArg Prod.fst h
    dsimp only at this
    exact ⟨this, by rw [← this]; exact he⟩
theorem sum_two {α : Type} (f : α → Nat) {a b : α} (hab : a ≠ b) : ∀ (l : List α), a ∈ l → b ∈ l → f a + f b ≤ (l.map f).sum
  | [], h, _ => by cases h
  | x :: l, ha, hb => by
    rw [List.map_cons, List.sum_cons]
    have one : ∀ (c : α) (m : List α), c ∈ m → f c ≤ (m.map f).sum := by
      intro c m
      induction m with
      | nil => intro h; cases h
      | cons y m ih =>
        intro h
        rw [List.map_cons, List.sum_cons]
        rcases List.mem_cons.1 h with rfl | h
        · omega
        · have := ih h
          omega
    rcases List.mem_cons.1 ha with ha' | ha'
    · rcases List.mem_cons.1 hb with hb' | hb'
      · exact absurd (ha'.trans hb'.symm) hab
      · have := one b l hb'
        rw [ha']
        omega
    · rcases List.mem_cons.1 hb with hb' | hb'
      · have := one a l ha'
        rw [hb']
        omega
      · have := sum_two f hab l ha' hb'
        omega
theorem sum_one {α : Type} (f : α → Nat) {a : α} : ∀ (l : List α), a ∈ l → f a ≤ (l.map f).sum
  | [], h => by cases h
  | x :: l, h => by
    rw [List.map_cons, List.sum_cons]
    rcases List.mem_cons.1 h with rfl | h
    · omega
    · have := sum_one f l h
      omega
theorem two_one {α : Type} {l : List α} (h : l.length ≤ 1) {a b : α} (ha : a ∈ l) (hb : b ∈ l) : a = b := by
  match l, h, ha, hb with
  | [x], _, ha, hb => rw [List.mem_singleton.1 ha, List.mem_singleton.1 hb]
theorem lead_in {D : InoD} {x : Int} {nm : ByteArray} (hk : D.kind = 2) (h : (nm, x) ∈ D.ents) : 1 ≤ linksIn D x := by
  unfold linksIn
  rw [if_pos hk]
  have : (nm, x) ∈ D.ents.filter fun e => e.2 == x := List.mem_filter.2 ⟨h, by simp⟩
  exact List.length_pos_of_mem this
/-- What one entry alone leads to. -/
theorem lead_one {ds : List InoD} {x : Int} (h : linksD ds x ≤ 1) {D E : InoD} (hD : D ∈ ds) (hE : E ∈ ds) (hDk : D.kind = 2) (hEk : E.kind = 2) {a b : ByteArray} (ha : (a, x) ∈ D.ents) (hb : (b, x) ∈ E.ents) : D = E ∧ a = b := by
  have h1 := lead_in hDk ha
  have h2 := lead_in hEk hb
  unfold linksD at h
  by_cases hDE : D = E
  · subst hDE
    refine ⟨rfl, ?_⟩
    have h3 : linksIn D x ≤ 1 := Nat.le_trans (sum_one (fun D => linksIn D x) ds hD) h
    unfold linksIn at h3
    rw [if_pos hDk] at h3
    have := two_one h3 (List.mem_filter.2 ⟨ha, by simp⟩) (List.mem_filter.2 ⟨hb, by simp⟩)
    exact congrArg Prod.fst this
  · have h3 := sum_two (fun D => linksIn D x) hDE ds hD hE
    omega
theorem tree_links {nx : Int} {ds : List InoD} (h : treeD nx ds = true) {D : InoD} (hD : D ∈ ds) (hk : D.kind = 2) : linksD ds D.ino ≤ 1 ∧ (D.ino = 1 → linksD ds D.ino = 0) := by
  have h1 := ((treeD_parts h).2.2 D hD).1
  have h2 := ((tabD_ok (treeD_parts h).1).2.2.2.2.1 D hD).1
  unfold inoOk kindR at h2
  simp only [Bool.and_eq_true, Bool.or_eq_true, decide_eq_true_eq, beq_iff_eq] at h2
  obtain ⟨⟨⟨⟨⟨⟨_, h3⟩, h4⟩, _⟩, _⟩, _⟩, h5⟩ := h2
  refine ⟨?_, fun h6 => ?_⟩
  · rcases h5 with h5 | h5
    · omega
    · have := h5.2.2
      omega
  · rw [h6] at h4 h1 ⊢
    have : D.links = 0 := by simpa using h4
    omega
/-- One path alone leads to a directory. -/
theorem path_one {nx : Int} {ds : List InoD} (ht : treeD nx ds = true) : ∀ (k : Nat) (l m : List ByteArray) (x : Int) (D : InoD), l.length = k → walkD ds 1 l = (x, 0) → walkD ds 1 m = (x, 0) → look ds x = some D → D.kind = 2 → l = m := by
  intro k
  induction k with
  | zero =>
    intro l m x D hl h1 h2 h3 h4
    have hl0 : l = [] := List.eq_nil_of_length_eq_zero hl
    subst hl0
    rcases List.eq_nil_or_concat m with rfl | ⟨m', b, rfl⟩
    · rfl
    · rw [List.concat_eq_append] at h2
      obtain ⟨u, E, _, e2, e3, e4, e5⟩ := walkD_snoc h2
      have hx : x = 1 := (congrArg Prod.fst h1).symm
      subst hx
      have hi := (look_mem h3).2
      have h5 := (tree_links ht (look_mem h3).1 h4).2 hi
      have h6 := lead_in e3 (entOf_mem (by rw [e4]; exact e5))
      rw [e4] at h6
      have h7 := sum_one (fun D => linksIn D 1) ds (look_mem e2).1
      unfold linksD at h5
      rw [hi] at h5
      omega
  | succ k ih =>
    intro l m x D hl h1 h2 h3 h4
    rcases List.eq_nil_or_concat l with rfl | ⟨l', a, rfl⟩
    · simp at hl
    rw [List.concat_eq_append] at h1 hl ⊢
    obtain ⟨u, E, d1, d2, d3, d4, d5⟩ := walkD_snoc h1
    have ha := entOf_mem (nm := a) (es := E.ents) (by rw [d4]; exact d5)
    rw [d4] at ha
    have hi := (look_mem h3).2
    have hlk := tree_links ht (look_mem h3).1 h4
    rw [hi] at hlk
    rcases List.eq_nil_or_concat m with rfl | ⟨m', b, rfl⟩
    · exfalso
      have hx : x = 1 := (congrArg Prod.fst h2).symm
      subst hx
      have h5 := hlk.2 rfl
      have h6 := lead_in d3 ha
      have h7 := sum_one (fun D => linksIn D 1) ds (look_mem d2).1
      unfold linksD at h5
      omega
    · rw [List.concat_eq_append] at h2 ⊢
      obtain ⟨v, F, e1, e2, e3, e4, e5⟩ := walkD_snoc h2
      have hb := entOf_mem (nm := b) (es := F.ents) (by rw [e4]; exact e5)
      rw [e4] at hb
      obtain ⟨hEF, hab⟩ := lead_one hlk.1 (look_mem d2).1 (look_mem e2).1 d3 e3 ha hb
      subst hEF
      subst hab
      have huv : u = v := by rw [← (look_mem d2).2, ← (look_mem e2).2]
      subst huv
      rw [ih l' m' u E (by simp at hl; exact hl) d1 e1 d2 d3]
/-- A walk that does not pass the entry that is cut. -/
theorem walk_cut {nx : Int} {ds : List InoD} (ht : treeD nx ds = true) {pl : List ByteArray} {nm : ByteArray} {E : InoD} (hp : walkD ds 1 pl = (E.ino, 0)) (hE : look ds E.ino = some E) (hk : E.kind = 2) : ∀ (suf pre : List ByteArray) (x : Int), walkD ds 1 pre = (x, 0) → ¬ (pl ++ [nm]) <+: (pre ++ suf) → walkD (setD ds { E with ents := cutE E.ents nm }) x suf = walkD ds x suf
  | [], _, _, _, _ => rfl
  | z :: suf, pre, x, h, hn => by
    unfold walkD
    rw [look_setD]
    dsimp only
    by_cases hx : x = E.ino
    · rw [if_pos hx, hx, hE]
      dsimp only
      rw [if_pos hk, if_pos hk]
      have hz : z ≠ nm := fun hz => by
        rw [hx] at h
        have := path_one ht _ pl pre E.ino E rfl hp h hE hk
        subst this
        subst hz
        exact hn ⟨suf, by simp⟩
      rw [entOf_cut hz]
      by_cases h0 : entOf z E.ents = 0
      · rw [if_pos h0, if_pos h0]
      · rw [if_neg h0, if_neg h0]
        refine walk_cut ht hp hE hk suf (pre ++ [z]) _ ?_ (by rw [List.append_assoc]; exact hn)
        rw [walkD_two ds pre [z] 1 (by rw [h]), h]
        dsimp only
        rw [hx]
        exact walkD_one hE hk h0
    · rw [if_neg hx]
      cases hl : look ds x with
      | none => rfl
      | some D =>
        dsimp only
        by_cases hk2 : D.kind = 2
        · rw [if_pos hk2, if_pos hk2]
          by_cases h0 : entOf z D.ents = 0
          · rw [if_pos h0, if_pos h0]
          · rw [if_neg h0, if_neg h0]
            refine walk_cut ht hp hE hk suf (pre ++ [z]) _ ?_ (by rw [List.append_assoc]; exact hn)
            rw [walkD_two ds pre [z] 1 (by rw [h]), h]
            exact walkD_one hl hk2 h0
        · rw [if_neg hk2, if_neg hk2]
theorem strs_map (zs : List Str) : strs (zs.map strB) = zs := by
  unfold strs
  rw [List.map_map]
  conv => rhs; rw [← List.map_id zs]
  refine List.map_congr_left fun z _ => ?_
  simp [strB]
/-- What a path that has a parent is. -/
theorem path_parts {s : ByteArray} (h : (parentOf s.data.toList).2.2 = true) : ∃ zs : List Str, splitOf s.data.toList = some zs ∧ zs ≠ [] ∧ (parentOf s.data.toList).1 = joinOf zs.dropLast ∧ (parentOf s.data.toList).2.1 = zs.getLastD [] ∧ splitOf (joinOf zs.dropLast) = some zs.dropLast := by
  cases hs : splitOf s.data.toList with
  | none => unfold parentOf at h; rw [hs] at h; simp at h
  | some zs =>
    have hne : zs ≠ [] := by
      rintro rfl
      unfold parentOf at h
      rw [hs] at h
      simp at h
    have hpa : parentOf s.data.toList = (joinOf zs.dropLast, zs.getLastD [], true) := by
      unfold parentOf
      rw [hs]
      dsimp only
      rw [if_neg hne]
    rw [hpa]
    exact ⟨zs, rfl, hne, rfl, rfl, split_parent hs hne⟩
theorem walkP_of {ds : List InoD} {l : Str} {zs : List Str} (h : splitOf l = some zs) : walkP ds (strB l) = walkD ds 1 (zs.map strB) := by
  unfold walkP
  rw [show (strB l).data.toList = l from by simp [strB], h]
theorem stat_look {ds : List InoD} {s : ByteArray} {D : InoD} (h : statD ds s = (D, 0)) (hs : ∀ E ∈ ds, look ds E.ino = some E) : walkP ds s = (D.ino, 0) ∧ look ds D.ino = some D := by
  have hw := stat_walk (ds := ds) (s := s) (by rw [h])
  unfold statD at h
  rw [if_pos hw] at h
  cases hl : look ds (walkP ds s).1 with
  | none => rw [hl] at h; simp at h
  | some E =>
    rw [hl] at h
    dsimp only at h
    have he : E = D := congrArg Prod.fst h
    subst he
    have h2 := look_mem hl
    exact ⟨Prod.ext h2.2.symm hw, hs E h2.1⟩
/-- Behind an entry that was cut, the directory of a path that is not below it. -/
theorem stat_cut {nx : Int} {ds : List InoD} {s tp : ByteArray} {D : InoD} (ht : treeD nx ds = true) (hw : (walkP ds s).2 = 0) (hp : (parentOf s.data.toList).2.2 = true) (hq : (parentOf tp.data.toList).2.2 = true) (hb : belowOf s.data.toList tp.data.toList = false) (hD : statD ds (strB (parentOf tp.data.toList).1) = (D, 0)) :
    statD (dropP ds s) (strB (parentOf tp.data.toList).1) = (if D.ino = (statD ds (strB (parentOf s.data.toList).1)).1.ino then { D with ents := cutE D.ents (strB (parentOf s.data.toList).2.1) } else D, 0) := by
  have hself := look_self (treeD_parts ht).1
  obtain ⟨E, hE, hEk⟩ := parent_stat hw hp
  obtain ⟨e1, e2⟩ := stat_look hE hself
  obtain ⟨d1, d2⟩ := stat_look hD hself
  obtain ⟨zs, p1, p2, p3, p4, p5⟩ := path_parts hp
  obtain ⟨ys, q1, q2, q3, q4, q5⟩ := path_parts hq
  unfold dropP
  rw [hE]
  dsimp only
  rw [p3, walkP_of p5] at e1
  rw [q3, walkP_of q5] at d1
  rw [p4, q3]
  have hn : ¬ (zs.dropLast.map strB ++ [strB (zs.getLastD [])]) <+: ([] ++ ys.dropLast.map strB) := by
    rintro ⟨t, h⟩
    rw [List.nil_append] at h
    have h1 : strs (zs.dropLast.map strB ++ [strB (zs.getLastD [])] ++ t) = ys.dropLast := by rw [h, strs_map]
    have h2 : zs = zs.dropLast ++ [zs.getLastD []] := by
      conv => lhs; rw [← List.dropLast_concat_getLast p2]
      rw [List.getLastD_eq_getLast?, List.getLast?_eq_some_getLast p2]
      rfl
    have h3 : strs (zs.dropLast.map strB ++ [strB (zs.getLastD [])] ++ t) = zs ++ strs t := by
      unfold strs
      rw [List.map_append]
      congr 1
      have := strs_map (zs.dropLast ++ [zs.getLastD []])
      rw [List.map_append, List.map_cons, List.map_nil] at this
      unfold strs at this
      rw [this]
      exact h2.symm
    rw [h3] at h1
    have h4 : zs <+: ys := List.IsPrefix.trans (⟨strs t, h1⟩ : zs <+: ys.dropLast) (List.dropLast_prefix ys)
    unfold belowOf at hb
    rw [p1, q1] at hb
    dsimp only at hb
    have h5 := List.prefix_iff_eq_take.1 h4
    rw [← h5] at hb
    simp [h4.length_le] at hb
  have hc := walk_cut ht (nm := strB (zs.getLastD [])) e1 e2 hEk (ys.dropLast.map strB) [] 1 rfl hn
  unfold statD
  rw [walkP_of q5, hc, d1]
  dsimp only
  rw [if_pos rfl, look_setD]
  dsimp only
  by_cases hx : D.ino = E.ino
  · rw [if_pos hx, if_pos hx]
    rw [hx, e2] at d2
    cases d2
    rfl
  · rw [if_neg hx, if_neg hx, d2]
/-- Two paths have one directory above them just if the paths of these are one. -/
theorem same_above {nx : Int} {ds : List InoD} {s tp : ByteArray} {D E : InoD} (ht : treeD nx ds = true) (hp : (parentOf s.data.toList).2.2 = true) (hq : (parentOf tp.data.toList).2.2 = true) (hE : statD ds (strB (parentOf s.data.toList).1) = (E, 0)) (hD : statD ds (strB (parentOf tp.data.toList).1) = (D, 0)) (hk : D.kind = 2) : strB (parentOf s.data.toList).1 = strB (parentOf tp.data.toList).1 ↔ D.ino = E.ino := by
  have hself := look_self (treeD_parts ht).1
  obtain ⟨e1, e2⟩ := stat_look hE hself
  obtain ⟨d1, d2⟩ := stat_look hD hself
  obtain ⟨zs, p1, p2, p3, p4, p5⟩ := path_parts hp
  obtain ⟨ys, q1, q2, q3, q4, q5⟩ := path_parts hq
  constructor
  · intro h
    rw [h, hD] at hE
    cases hE
    rfl
  · intro h
    rw [p3, walkP_of p5] at e1
    rw [q3, walkP_of q5] at d1
    rw [h] at d1 d2
    have h1 := path_one ht _ _ _ E.ino D rfl e1 d1 d2 hk
    have h2 : strs (zs.dropLast.map strB) = strs (ys.dropLast.map strB) := by rw [h1]
    rw [strs_map, strs_map] at h2
    rw [p3, q3, h2]
end

section
open Go.RowKit
theorem strs_row2 {W : World} {g : Nat} {z y : ByteArray} (h : Blk W g 9 #[.string z, .string y]) : RdS W (some ⟨g, 0, none⟩) [z, y] := by
  refine .inr ⟨g, 0, rfl, fun i hi => ?_⟩
  rcases (show i = 0 ∨ i = 1 by simp at hi; omega) with rfl | rfl
  · exact h.cell 0
  · exact h.cell 1
def renC (ds : List InoD) (p q : ByteArray) : Int := if (notR p && notR q) = false then 1 else if (walkP ds p).2 ≠ 0 then (walkP ds p).2 else if belowOf p.data.toList q.data.toList = true then 6 else if (dirFor ds q).2 ≠ 0 then (dirFor ds q).2 else if strB (parentOf p.data.toList).1 ≠ strB (parentOf q.data.toList).1 ∧ 10 ≤ (dirFor ds q).1.ents.length then 5 else 0
def renT (ds : List InoD) (p q : ByteArray) (E F : InoD) : List InoD := setD (setD ds { E with ents := cutE E.ents (strB (parentOf p.data.toList).2.1) }) { F with ents := insBy (fun x => gtS (strB (parentOf q.data.toList).2.1) x.1) F.ents (strB (parentOf q.data.toList).2.1, (walkP ds p).1) }
set_option maxRecDepth 100000 in
set_option maxHeartbeats 4000000 in
theorem renM (a : Option Addr) (n cap : Nat) (nx : Int) (rs : List InoR) (p q : ByteArray) (k : Int) (da : Option Addr) (dn dc : Nat) (an av : ByteArray) (w : World) (ht : TR w a n rs) (htr : treeD nx (rs.map InoR.D) = true) (hs : p.size ≤ 1048576) (hs1 : q.size ≤ 1048576) (E F : InoD) (hEF : renC (rs.map InoR.D) p q = 0 → badK 1 (rs.map InoR.D) (strB (parentOf p.data.toList).1) = (E, 0) ∧ badK 1 (setD (rs.map InoR.D) { E with ents := cutE E.ents (strB (parentOf p.data.toList).2.1) }) (strB (parentOf q.data.toList).1) = (F, 0) ∧ (∀ e ∈ F.ents, (e.1.toList == (strB (parentOf q.data.toList).2.1).toList) = false) ∧ ∀ (i j : Nat) (hi : i < F.ents.length) (hj : j < F.ents.length), i ≤ j → Op.bytesLess F.ents[j].1.toList (strB (parentOf q.data.toList).2.1).toList = true → Op.bytesLess F.ents[i].1.toList (strB (parentOf q.data.toList).2.1).toList = true) :
    Calls Tryz.prog 174 #[.agg #[.slice a n cap, .int .i64 nx], .agg #[.string p, .string q, .int .i64 k, .slice da dn dc, .string an, .string av]] w fun e w' => EMeth w nx (renT (rs.map InoR.D) p q E F) (renC (rs.map InoR.D) p q) e w' := by
  have B0 : Below w.heap.size w (((w.alloc (.cells #[.slice a n cap, .int .i64 nx] 28)).alloc (.cells #[.string p, .string q, .int .i64 k, .slice da dn dc, .string an, .string av] 77)).alloc (.cells #[.slice none 0 0, .int .i64 0] 28)) := (((Below.refl _ w).alloc (Nat.le_refl _) _).alloc (by simp) _).alloc (by simp; omega) _
  have zT := ((Blk.new w 28 #[.slice a n cap, .int .i64 nx]).alloc (.cells #[.string p, .string q, .int .i64 k, .slice da dn dc, .string an, .string av] 77)).alloc (.cells #[.slice none 0 0, .int .i64 0] 28)
  have zC := (Blk.new (w.alloc (.cells #[.slice a n cap, .int .i64 nx] 28)) 77 #[.string p, .string q, .int .i64 k, .slice da dn dc, .string an, .string av]).alloc (.cells #[.slice none 0 0, .int .i64 0] 28)
  have zR := Blk.new ((w.alloc (.cells #[.slice a n cap, .int .i64 nx] 28)).alloc (.cells #[.string p, .string q, .int .i64 k, .slice da dn dc, .string an, .string av] 77)) 28 #[.slice none 0 0, .int .i64 0]
  simp only [World.size_alloc] at zC zR
  have bN : Below w.heap.size w ((((w.alloc (.cells #[.slice a n cap, .int .i64 nx] 28)).alloc (.cells #[.string p, .string q, .int .i64 k, .slice da dn dc, .string an, .string av] 77)).alloc (.cells #[.slice none 0 0, .int .i64 0] 28)).alloc (.cells #[.string p, .string q] 9)) := B0.alloc B0.size _
  have zN := Blk.new (((w.alloc (.cells #[.slice a n cap, .int .i64 nx] 28)).alloc (.cells #[.string p, .string q, .int .i64 k, .slice da dn dc, .string an, .string av] 77)).alloc (.cells #[.slice none 0 0, .int .i64 0] 28)) 9 #[.string p, .string q]
  simp only [World.size_alloc] at zN
  have zTn := zT.alloc (.cells #[.string p, .string q] 9)
  have zCn := zC.alloc (.cells #[.string p, .string q] 9)
  have zRn := zR.alloc (.cells #[.string p, .string q] 9)
  have c0 := zC.cell 0
  have c1 := zC.cell 1
  simp at c0 c1
  obtain ⟨hK, hwf, hwe⟩ := tree_facts htr
  obtain ⟨f4, f5, f6⟩ := tree_more htr
  have hpsp := parent_size p
  have hpsq := parent_size q
  have hnz : (strB (parentOf q.data.toList).2.1).size ≤ 1048576 := by have := (parent_small q.data.toList).2; rw [strB_size]; omega
  have hcF := fun (W : World) (hW : Below w.heap.size w W) => walkI a n cap nx rs p W (ht.keep hW) hK hwf hwe (by omega)
  have hcE := fun (W : World) (hW : Below w.heap.size w W) => dirForI a n cap nx rs q W (ht.keep hW) hK hwf hwe (by omega)
  have hcO := fun (W : World) (hW : Below w.heap.size w W) (D : InoD) (hD : badK 1 (rs.map InoR.D) (strB (parentOf p.data.toList).1) = (D, 0)) => withoutI a n cap nx rs p W (ht.keep hW) hK hwf hwe (fun r hr => f4 r.D (List.mem_map_of_mem hr)) (by omega) (by omega) D hD
  have hlen : (rs.map InoR.D).length = n := by rw [List.length_map, ht.len]
  have HTR : Hid _ := htr
  obtain ⟨ds, hds⟩ : ∃ ds, rs.map InoR.D = ds := ⟨_, rfl⟩
  rw [hds] at hcF hcE hcO HTR f4 f5 f6 hlen hEF ⊢
  have HDS : Hid _ := hds
  have HT : Hid _ := ht
  have HKK : Hid (∀ D ∈ ds, D.kind = 1 ∨ D.kind = 2) := fun D hD => by rw [← hds] at hD; obtain ⟨r, hr, rfl⟩ := List.mem_map.1 hD; exact hK r hr
  have HWF : Hid (∀ D ∈ ds, (Lit.int .i64 D.ino).wf = true) := fun D hD => by rw [← hds] at hD; obtain ⟨r, hr, rfl⟩ := List.mem_map.1 hD; exact hwf r hr
  have HWE : Hid (∀ D ∈ ds, ∀ e ∈ D.ents, (Lit.int .i64 e.2).wf = true) := fun D hD => by rw [← hds] at hD; obtain ⟨r, hr, rfl⟩ := List.mem_map.1 hD; exact hwe r hr
  have HSM : Hid (∀ D ∈ ds, InoSmall D) := fun D hD => by rw [← hds] at hD; obtain ⟨r, hr, rfl⟩ := List.mem_map.1 hD; exact ht.small r hr
  obtain ⟨CO, hCO⟩ : ∃ c, renC ds p q = c := ⟨_, rfl⟩
  obtain ⟨TT, hTT⟩ : ∃ c, renT ds p q E F = c := ⟨_, rfl⟩
  rw [hCO] at hEF
  rw [hCO, hTT]
  unfold renC at hCO
  unfold renT at hTT
  obtain ⟨x, c, hDc⟩ : ∃ D c, walkP ds p = (D, c) := ⟨_, _, rfl⟩
  obtain ⟨G, c2, hEc⟩ : ∃ D c, dirFor ds q = (D, c) := ⟨_, _, rfl⟩
  obtain ⟨bl, hbl⟩ : ∃ b, belowOf p.data.toList q.data.toList = b := ⟨_, rfl⟩
  rw [hDc] at hcF hCO hTT
  rw [hEc] at hcE hCO
  rw [hbl] at hCO
  dsimp only at hcF hcE hCO hTT
  have HTT : Hid _ := hTT
  have HEF : Hid _ := hEF
  have HF4 : Hid _ := f4
  have HF6 : Hid _ := f6
  have HLL : Hid _ := hlen
  have HCE : Hid _ := hcE
  have HCO' : Hid _ := hcO
  have hcP := fun W => parentI p W (by omega)
  have hcQ := fun W => parentI q W (by omega)
  have hcB := fun W => belowI p q W (by omega) (by omega)
  unfold PaPost at hcP hcQ
  unfold BePost at hcB
  rw [hbl] at hcB
  have HCP : Hid _ := hcP
  have HCQ : Hid _ := hcQ
  have HCB : Hid _ := hcB
  have hcn := notRootI (some ⟨_, 0, none⟩) 2 2 [p, q] _ rfl (by omega) (fun z hz => by
    rcases List.mem_cons.1 hz with rfl | hz
    · omega
    · rw [List.mem_singleton.1 hz]
      omega) (strs_row2 zN)
  simp only [List.all_cons, List.all_nil, Bool.and_true] at hcn
  clear hTT hDc hEc ht hK hwf hwe hds htr hlen f4 f5 f6 hcE hcO hEF hbl hcP hcQ hcB
  go_enter Tryz.func174, Tryz.ntmps174
  go_wp2_with fail
  obtain ⟨Wz, hWz⟩ : ∃ W, (((w.alloc (.cells #[.slice a n cap, .int .i64 nx] 28)).alloc (.cells #[.string p, .string q, .int .i64 k, .slice da dn dc, .string an, .string av] 77)).alloc (.cells #[.slice none 0 0, .int .i64 0] 28)).alloc (.cells #[.string p, .string q] 9) = W := ⟨_, rfl⟩
  rw [hWz] at bN zN zTn zCn zRn hcn ⊢
  clear hWz zT zC zR B0 c0 c1 zN
  (with_reducible refine hcn.mono ?_)
  rintro e w1 ⟨rfl, b1⟩
  have zt1 := zTn.keep b1
  have zc1 := zCn.keep b1
  have zr1 := zRn.keep b1
  have hb1 := bN.trans (b1.mono bN.size)
  have c0 := zc1.cell 0
  have c1 := zc1.cell 1
  have t0 := zt1.cell 0
  have t1 := zt1.cell 1
  have r0 := zr1.cell 0
  have r1 := zr1.cell 1
  have f0 := zr1.frozen 0
  have f1 := zr1.frozen 1
  simp at c0 c1 t0 t1 r0 r1
  clear hcn zTn zCn zRn bN b1
  cases hnr : (notR p && notR q) with
  | false =>
    rw [hnr, if_pos rfl] at hCO
    subst hCO
    rw [if_neg (by decide), errV_some (by decide)]
    clear hnr hcF
    have hend : Hid (EMeth w nx TT 1 (.returned (.tuple #[.agg #[.slice none 0 0, .int .i64 0], .iface 155 (.int .i64 1)])) ((w1.setCell ⟨w.heap.size + 1 + 1, 0, none⟩ (.slice none 0 0)).setCell ⟨w.heap.size + 1 + 1, 1, none⟩ (.int .i64 0))) := eMeth_no (by decide) ((hb1.setCell (p := ⟨w.heap.size + 1 + 1, 0, none⟩) (by show _ ≤ w.heap.size + 1 + 1; omega) _).setCell (p := ⟨w.heap.size + 1 + 1, 1, none⟩) (by show _ ≤ w.heap.size + 1 + 1; omega) _)
    have zf := blk2 zr1 (.slice none 0 0) (.int .i64 0)
    have dd0 := zf.cell 0
    have dd1 := zf.cell 1
    simp at dd0 dd1
    clear zf
    go_wp2
    refine bodyPost_ret (v := .tuple #[.agg #[.slice none 0 0, .int .i64 0], .iface 155 (.int .i64 1)]) (by simp [results, Tryz.f174, go_sem, dd0, dd1]) rfl ?_
    exact hend.out
  | true =>
    rw [hnr, if_neg (by decide)] at hCO
    rw [if_pos rfl, errV_zero]
    have hcf := hcF w1 hb1
    clear hcF hnr
    go_wp2_with fail
    (with_reducible refine hcf.mono ?_)
    rintro e w2 ⟨rfl, bb2⟩
    have zt2 := zt1.keep bb2
    have zc2 := zc1.keep bb2
    have zr2 := zr1.keep bb2
    have hb2 := hb1.trans (bb2.mono hb1.size)
    have r0 := zr2.cell 0
    have r1 := zr2.cell 1
    have f0 := zr2.frozen 0
    have f1 := zr2.frozen 1
    have c0 := zc2.cell 0
    have c1 := zc2.cell 1
    simp at r0 r1 c0 c1
    clear hcf zt1 zc1 zr1 bb2 hb1 t0 t1
    by_cases hc0 : c = 0
    · subst hc0
      rw [if_neg (by simp)] at hCO
      rw [errV_zero]
      have hcb := HCB.out w2
      clear HCB
      go_wp2_with fail
      (with_reducible refine hcb.mono ?_)
      rintro e w3 ⟨rfl, bb3⟩
      have zt3 := zt2.keep bb3
      have zc3 := zc2.keep bb3
      have zr3 := zr2.keep bb3
      have hb3 := hb2.trans (bb3.mono hb2.size)
      have r0 := zr3.cell 0
      have r1 := zr3.cell 1
      have f0 := zr3.frozen 0
      have f1 := zr3.frozen 1
      have c0 := zc3.cell 0
      have c1 := zc3.cell 1
      have t0 := zt3.cell 0
      have t1 := zt3.cell 1
      simp at r0 r1 c0 c1 t0 t1
      clear hcb zt2 zc2 zr2 bb3 hb2
      cases bl with
      | true =>
        rw [if_pos rfl] at hCO
        subst hCO
        clear c0 c1 t0 t1
        have hend : Hid (EMeth w nx TT 6 (.returned (.tuple #[.agg #[.slice none 0 0, .int .i64 0], .iface 155 (.int .i64 6)])) ((w3.setCell ⟨w.heap.size + 1 + 1, 0, none⟩ (.slice none 0 0)).setCell ⟨w.heap.size + 1 + 1, 1, none⟩ (.int .i64 0))) := eMeth_no (by decide) ((hb3.setCell (p := ⟨w.heap.size + 1 + 1, 0, none⟩) (by show _ ≤ w.heap.size + 1 + 1; omega) _).setCell (p := ⟨w.heap.size + 1 + 1, 1, none⟩) (by show _ ≤ w.heap.size + 1 + 1; omega) _)
        have zf := blk2 zr3 (.slice none 0 0) (.int .i64 0)
        have dd0 := zf.cell 0
        have dd1 := zf.cell 1
        simp at dd0 dd1
        clear zf
        go_wp2
        refine bodyPost_ret (v := .tuple #[.agg #[.slice none 0 0, .int .i64 0], .iface 155 (.int .i64 6)]) (by simp [results, Tryz.f174, go_sem, dd0, dd1]) rfl ?_
        exact hend.out
      | false =>
        rw [if_neg (by decide)] at hCO
        have hce := HCE.out w3 hb3
        clear HCE
        go_wp2_with fail
        (with_reducible refine hce.mono ?_)
        rintro e w4 ⟨e1, g1, e2, g2, e3, g3, rfl, gE, b4⟩
        have zt := (zt3.keep b4).alloc (.cells #[.int .i64 G.ino, .int .i64 G.kind, .int .i64 G.links, .slice e1 G.data.length g1, .slice e2 G.ents.length g2, .slice e3 G.attrs.length g3] 68)
        have zc := (zc3.keep b4).alloc (.cells #[.int .i64 G.ino, .int .i64 G.kind, .int .i64 G.links, .slice e1 G.data.length g1, .slice e2 G.ents.length g2, .slice e3 G.attrs.length g3] 68)
        have zr := (zr3.keep b4).alloc (.cells #[.int .i64 G.ino, .int .i64 G.kind, .int .i64 G.links, .slice e1 G.data.length g1, .slice e2 G.ents.length g2, .slice e3 G.attrs.length g3] 68)
        have zY := Blk.new w4 68 #[.int .i64 G.ino, .int .i64 G.kind, .int .i64 G.links, .slice e1 G.data.length g1, .slice e2 G.ents.length g2, .slice e3 G.attrs.length g3]
        have bA : Below w4.heap.size w4 (w4.alloc (.cells #[.int .i64 G.ino, .int .i64 G.kind, .int .i64 G.links, .slice e1 G.data.length g1, .slice e2 G.ents.length g2, .slice e3 G.attrs.length g3] 68)) := (Below.refl _ w4).alloc (Nat.le_refl _) _
        have hb4 := hb3.trans (b4.mono hb3.size)
        have hb5 := hb4.trans (bA.mono hb4.size)
        have hXl : w.heap.size + 1 + 1 < w4.heap.size := (zr3.keep b4).lt
        obtain ⟨Y, hY⟩ : ∃ X, w4.heap.size = X := ⟨_, rfl⟩
        obtain ⟨W5, hW5⟩ : ∃ W, w4.alloc (.cells #[.int .i64 G.ino, .int .i64 G.kind, .int .i64 G.links, .slice e1 G.data.length g1, .slice e2 G.ents.length g2, .slice e3 G.attrs.length g3] 68) = W := ⟨_, rfl⟩
        rw [hW5] at zt zc zr zY hb5
        rw [hY] at zY hXl
        have HZT5 : Hid _ := zt
        have HZC5 : Hid _ := zc
        have HZR5 : Hid _ := zr
        have HZY5 : Hid _ := zY
        have HB5 : Hid _ := hb5
        have r0 := zr.cell 0
        have r1 := zr.cell 1
        have f0 := zr.frozen 0
        have f1 := zr.frozen 1
        have c0 := zc.cell 0
        have c1 := zc.cell 1
        simp at r0 r1 c0 c1
        clear hce b4 zt zc zr zY bA hb4 hb5 gE zt3 zc3 zr3 hb3 t0 t1
        by_cases hc2 : c2 = 0
        · subst hc2
          rw [if_neg (by simp)] at hCO
          rw [errV_zero]
          obtain ⟨m, hm⟩ : ∃ m, G.ents.length = m := ⟨_, rfl⟩
          rw [hm] at hCO HZY5 hW5 ⊢
          obtain ⟨pa, hpa⟩ : ∃ z, strB (parentOf p.data.toList).1 = z := ⟨_, rfl⟩
          obtain ⟨qa, hqa⟩ : ∃ z, strB (parentOf q.data.toList).1 = z := ⟨_, rfl⟩
          have hcp := HCP.out W5
          have hcq := HCQ.out
          rw [hpa] at hcp
          rw [hqa] at hcq
          obtain ⟨pn, hpn⟩ : ∃ z, strB (parentOf p.data.toList).2.1 = z := ⟨_, rfl⟩
          obtain ⟨qn, hqn⟩ : ∃ z, strB (parentOf q.data.toList).2.1 = z := ⟨_, rfl⟩
          obtain ⟨pb, hpb⟩ : ∃ z, (parentOf p.data.toList).2.2 = z := ⟨_, rfl⟩
          obtain ⟨qb, hqb⟩ : ∃ z, (parentOf q.data.toList).2.2 = z := ⟨_, rfl⟩
          rw [hpn, hpb] at hcp
          rw [hqn, hqb] at hcq
          rw [hpa, hqa] at hCO
          clear hm hpa hqa hpn hqn hpb hqb HCP HCQ
          have HCQ : Hid _ := hcq
          clear hcq
          go_wp2_with fail
          (with_reducible refine hcp.mono ?_)
          rintro e w6 ⟨b6, rfl⟩
          have zt6 := Blk.keep HZT5.out b6
          have zc6 := Blk.keep HZC5.out b6
          have zr6 := Blk.keep HZR5.out b6
          have zy6 := Blk.keep HZY5.out b6
          have hb6 := HB5.out.trans (b6.mono HB5.out.size)
          have c1 := zc6.cell 1
          simp at c1
          have hcq := HCQ.out w6
          clear hcp b6 c0 r0 r1 f0 f1 HCQ
          go_wp2_with fail
          (with_reducible refine hcq.mono ?_)
          rintro e w7 ⟨b7, rfl⟩
          have zt7 := zt6.keep b7
          have zc7 := zc6.keep b7
          have zr7 := zr6.keep b7
          have zy7 := zy6.keep b7
          have hb7 := hb6.trans (b7.mono hb6.size)
          have y4 := zy7.cell 4
          have r0 := zr7.cell 0
          have r1 := zr7.cell 1
          have f0 := zr7.frozen 0
          have f1 := zr7.frozen 1
          simp at y4 r0 r1
          clear hcq b7 zt6 zc6 zr6 zy6 hb6 c1
          by_cases hfull : pa ≠ qa ∧ 10 ≤ m
          · rw [if_pos hfull] at hCO
            subst hCO
            have h10i : (10 : Int) ≤ (m : Int) := by omega
            have h10k : ¬ (m : Int) < 10 := by omega
            have h10j : (m : Int) ≥ 10 := by omega
            have hsn : (pa.toList == qa.toList) = false := str_ne hfull.1
            have hsm : (pa.toList != qa.toList) = true := by unfold bne; rw [hsn]; rfl
            have hend : Hid (EMeth w nx TT 5 (.returned (.tuple #[.agg #[.slice none 0 0, .int .i64 0], .iface 155 (.int .i64 5)])) ((w7.setCell ⟨w.heap.size + 1 + 1, 0, none⟩ (.slice none 0 0)).setCell ⟨w.heap.size + 1 + 1, 1, none⟩ (.int .i64 0))) := eMeth_no (by decide) ((hb7.setCell (p := ⟨w.heap.size + 1 + 1, 0, none⟩) (by show _ ≤ w.heap.size + 1 + 1; omega) _).setCell (p := ⟨w.heap.size + 1 + 1, 1, none⟩) (by show _ ≤ w.heap.size + 1 + 1; omega) _)
            have zf := blk2 zr7 (.slice none 0 0) (.int .i64 0)
            have dd0 := zf.cell 0
            have dd1 := zf.cell 1
            simp at dd0 dd1
            clear zf
            go_wp2
            refine bodyPost_ret (v := .tuple #[.agg #[.slice none 0 0, .int .i64 0], .iface 155 (.int .i64 5)]) (by simp [results, Tryz.f174, go_sem, dd0, dd1]) rfl ?_
            exact hend.out
          rw [if_neg hfull] at hCO
          subst hCO
          have hdec : (pa.toList == qa.toList) = true ∨ ((pa.toList == qa.toList) = false ∧ m < 10) := by
            by_cases hpq : pa = qa
            · left
              rw [hpq]
              simp
            · right
              exact ⟨str_ne hpq, Classical.byContradiction fun h => hfull ⟨hpq, by omega⟩⟩
          obtain ⟨hE1, hF1, hno, hmo⟩ := HEF.out rfl
          have hEm : E ∈ ds := by
            have := @badK_mem 1 ds (strB (parentOf p.data.toList).1)
            rw [hE1] at this
            exact this rfl
          obtain ⟨D1, hD1⟩ : ∃ l, setD ds { E with ents := cutE E.ents (strB (parentOf p.data.toList).2.1) } = l := ⟨_, rfl⟩
          have hm1 : ∀ F ∈ D1, F = { E with ents := cutE E.ents (strB (parentOf p.data.toList).2.1) } ∨ F ∈ ds := fun F hF => setD_memC (by rw [hD1]; exact hF)
          have HS1 : Hid (∀ F ∈ D1, InoSmall F) := fun F hF => (hm1 F hF).elim (fun h => by rw [h]; exact cutE_small (HSM.out E hEm) _) (fun h => HSM.out F h)
          have HL1 : Hid (D1.length ≤ 1048576) := by
            have h1 := setD_lenC ds { E with ents := cutE E.ents (strB (parentOf p.data.toList).2.1) }
            rw [hD1] at h1
            have h2 := HF6.out
            show _ ≤ _
            omega
          have HK1 : Hid (∀ F ∈ D1, F.kind = 1 ∨ F.kind = 2) := fun F hF => (hm1 F hF).elim (fun h => by rw [h]; exact HKK.out E hEm) (fun h => HKK.out F h)
          have HF1 : Hid (∀ F ∈ D1, (Lit.int .i64 F.ino).wf = true) := fun F hF => (hm1 F hF).elim (fun h => by rw [h]; exact HWF.out E hEm) (fun h => HWF.out F h)
          have HE1 : Hid (∀ F ∈ D1, ∀ e ∈ F.ents, (Lit.int .i64 e.2).wf = true) := fun F hF => (hm1 F hF).elim (fun h => by rw [h]; exact fun e he => HWE.out E hEm e (List.mem_filter.1 he).1) (fun h => HWE.out F h)
          have HN1 : Hid (∀ F ∈ D1, F.ents.length ≤ 100) := fun F hF => (hm1 F hF).elim (fun h => by rw [h]; exact Nat.le_trans (List.length_filter_le _ _) (HF4.out E hEm)) (fun h => HF4.out F h)
          have HBK1 : Hid (badK 1 D1 (strB (parentOf q.data.toList).1) = (F, 0)) := by show _ = _; rw [← hD1]; exact hF1
          have HNO : Hid _ := hno
          have HMO : Hid _ := hmo
          have HCW : Hid (∀ (W : World) (ra : Option Addr) (rn rc : Nat) (rs' : List InoR), TR W ra rn rs' → rs'.map InoR.D = D1 → Calls Tryz.prog 226 #[.agg #[.slice ra rn rc, .int .i64 nx], .string q, .int .i64 x] W fun e w' => ∃ v, e = .returned v ∧ TabAt W nx TT v w') := fun W ra rn rc rs' hT hr => by
            have hin : ∀ r ∈ rs', r.D ∈ D1 := fun r hr' => by rw [← hr]; exact List.mem_map_of_mem hr'
            have := withI ra rn rc nx rs' q x W hT (fun r hr' => HK1.out _ (hin r hr')) (fun r hr' => HF1.out _ (hin r hr')) (fun r hr' => HE1.out _ (hin r hr')) (fun r hr' => HN1.out _ (hin r hr')) (by omega) (by omega) F (by rw [hr]; exact HBK1.out) hnz HNO.out HMO.out
            rw [hr, ← hD1, HTT.out] at this
            exact this
          have hcw := HCO'.out w7.drew hb7.drew E hE1
          rw [hD1] at hcw
          have HK7 : Hid (∀ V : World, Below w7.heap.size w7 V → V.cell? ⟨w.heap.size, 0, none⟩ = some (.slice a n cap) ∧ V.cell? ⟨w.heap.size, 1, none⟩ = some (.int .i64 nx) ∧ V.cell? ⟨w.heap.size + 1, 0, none⟩ = some (.string p) ∧ V.cell? ⟨w.heap.size + 1, 1, none⟩ = some (.string q)) := fun V hV => ⟨(Blk.keep zt7 hV).cell 0, (Blk.keep zt7 hV).cell 1, (Blk.keep zc7 hV).cell 0, (Blk.keep zc7 hV).cell 1⟩
          obtain ⟨u0, u1, u2, u3⟩ := HK7.out w7 (Below.refl _ w7)
          have HZR7 : Hid _ := zr7
          have HB7 : Hid _ := hb7
          have nq1 : ¬ w.heap.size + 1 + 1 = w.heap.size := by omega
          have nq2 : ¬ w.heap.size = w.heap.size + 1 + 1 := by omega
          have nq5 : ¬ w.heap.size + 1 = w.heap.size + 1 + 1 := by omega
          have nq6 : ¬ w.heap.size + 1 + 1 = w.heap.size + 1 := by omega
          clear hE1 hF1 hno hmo hEm hm1 hD1 zt7 zc7 zr7 zy7 hb7 HEF hfull r0 r1 f0 f1
          rcases hdec with hsn | ⟨hsn, h10⟩
          · have hsm : (pa.toList != qa.toList) = false := by unfold bne; rw [hsn]; rfl
            go_upto_region 16 with fail
            go_region_held3 (fun V : World => V.cell? ⟨w.heap.size, 0, none⟩ = some (.slice a n cap) ∧ V.cell? ⟨w.heap.size, 1, none⟩ = some (.int .i64 nx) ∧ V.cell? ⟨w.heap.size + 1, 0, none⟩ = some (.string p) ∧ V.cell? ⟨w.heap.size + 1, 1, none⟩ = some (.string q)) (go_keep) (first
              | (go_at_call 222; (with_reducible refine hcw.mono ?_); rintro e w8 ⟨v8, rfl, ta8⟩; obtain ⟨a8, n8, c8, rs8, rfl, hT8, hR8, b8⟩ := ta8.read HS1.out HL1.out; have B8 : Below w7.heap.size w7 w8 := (Below.refl _ w7).drew.trans b8; obtain ⟨s0, s1, s2, s3⟩ := HK7.out w8 B8; have hcE := HCW.out w8 a8 n8 c8 rs8 (hT8 w8 (Below.refl _ _)) hR8)
              | (go_at_call 226; (with_reducible refine hcE.mono ?_); rintro e w9 ⟨v9, rfl, ta9⟩; have ta9' := ta9; obtain ⟨ra, rc, js, rfl, _, b9⟩ := ta9'; obtain ⟨rn, hrn⟩ : ∃ rn, js.length = rn := ⟨_, rfl⟩; rw [hrn] at ta9 ⊢; have B9 : Below w7.heap.size w7 w9 := B8.trans (b9.mono B8.size); obtain ⟨v0, v1, v2, v3⟩ := HK7.out w9 B9; have zr9 := Blk.keep HZR7.out B9; have y0 := zr9.cell 0; have y1 := zr9.cell 1; have yf0 := zr9.frozen 0; have yf1 := zr9.frozen 1; simp at y0 y1)
              | fail)
            have hb8 := HB7.out.trans (B8.mono HB7.out.size)
            have HFIN : Hid (EMeth w nx TT 0 (.returned (.tuple #[.agg #[.slice ra rn rc, .int .i64 nx], .nilIface])) ((w9.setCell ⟨w.heap.size + 1 + 1, 0, none⟩ (.slice ra rn rc)).setCell ⟨w.heap.size + 1 + 1, 1, none⟩ (.int .i64 nx))) := eMeth_yes ta9 hb8 (by omega) (Blk.keep HZR7.out B8)
            have zf := blk2 zr9 (.slice ra rn rc) (.int .i64 nx)
            have dd0 := zf.cell 0
            have dd1 := zf.cell 1
            simp at dd0 dd1
            clear hcE ta8 ta9 zf zr9 b9 hrn hT8 hR8 b8 B8 B9 hb8 s0 s1 s2 s3 v0 v1 v2 v3 u0 u1 u2 u3 hcw
            go_wp2
            refine bodyPost_ret (v := .tuple #[.agg #[.slice ra rn rc, .int .i64 nx], .nilIface]) (by simp [results, Tryz.f174, go_sem, dd0, dd1]) rfl ?_
            exact HFIN.out
          · have hsm : (pa.toList != qa.toList) = true := by unfold bne; rw [hsn]; rfl
            have h10i : ¬ (10 : Int) ≤ (m : Int) := by omega
            have h10k : (m : Int) < 10 := by omega
            have h10j : ¬ (m : Int) ≥ 10 := by omega
            go_upto_region 16 with fail
            go_region_held3 (fun V : World => V.cell? ⟨w.heap.size, 0, none⟩ = some (.slice a n cap) ∧ V.cell? ⟨w.heap.size, 1, none⟩ = some (.int .i64 nx) ∧ V.cell? ⟨w.heap.size + 1, 0, none⟩ = some (.string p) ∧ V.cell? ⟨w.heap.size + 1, 1, none⟩ = some (.string q)) (go_keep) (first
              | (go_at_call 222; (with_reducible refine hcw.mono ?_); rintro e w8 ⟨v8, rfl, ta8⟩; obtain ⟨a8, n8, c8, rs8, rfl, hT8, hR8, b8⟩ := ta8.read HS1.out HL1.out; have B8 : Below w7.heap.size w7 w8 := (Below.refl _ w7).drew.trans b8; obtain ⟨s0, s1, s2, s3⟩ := HK7.out w8 B8; have hcE := HCW.out w8 a8 n8 c8 rs8 (hT8 w8 (Below.refl _ _)) hR8)
              | (go_at_call 226; (with_reducible refine hcE.mono ?_); rintro e w9 ⟨v9, rfl, ta9⟩; have ta9' := ta9; obtain ⟨ra, rc, js, rfl, _, b9⟩ := ta9'; obtain ⟨rn, hrn⟩ : ∃ rn, js.length = rn := ⟨_, rfl⟩; rw [hrn] at ta9 ⊢; have B9 : Below w7.heap.size w7 w9 := B8.trans (b9.mono B8.size); obtain ⟨v0, v1, v2, v3⟩ := HK7.out w9 B9; have zr9 := Blk.keep HZR7.out B9; have y0 := zr9.cell 0; have y1 := zr9.cell 1; have yf0 := zr9.frozen 0; have yf1 := zr9.frozen 1; simp at y0 y1)
              | fail)
            have hb8 := HB7.out.trans (B8.mono HB7.out.size)
            have HFIN : Hid (EMeth w nx TT 0 (.returned (.tuple #[.agg #[.slice ra rn rc, .int .i64 nx], .nilIface])) ((w9.setCell ⟨w.heap.size + 1 + 1, 0, none⟩ (.slice ra rn rc)).setCell ⟨w.heap.size + 1 + 1, 1, none⟩ (.int .i64 nx))) := eMeth_yes ta9 hb8 (by omega) (Blk.keep HZR7.out B8)
            have zf := blk2 zr9 (.slice ra rn rc) (.int .i64 nx)
            have dd0 := zf.cell 0
            have dd1 := zf.cell 1
            simp at dd0 dd1
            clear hcE ta8 ta9 zf zr9 b9 hrn hT8 hR8 b8 B8 B9 hb8 s0 s1 s2 s3 v0 v1 v2 v3 u0 u1 u2 u3 hcw
            go_wp2
            refine bodyPost_ret (v := .tuple #[.agg #[.slice ra rn rc, .int .i64 nx], .nilIface]) (by simp [results, Tryz.f174, go_sem, dd0, dd1]) rfl ?_
            exact HFIN.out
        · rw [if_pos hc2] at hCO
          subst hCO
          rw [errV_some hc2]
          clear c0 c1
          have hend : Hid (EMeth w nx TT c2 (.returned (.tuple #[.agg #[.slice none 0 0, .int .i64 0], .iface 155 (.int .i64 c2)])) ((W5.setCell ⟨w.heap.size + 1 + 1, 0, none⟩ (.slice none 0 0)).setCell ⟨w.heap.size + 1 + 1, 1, none⟩ (.int .i64 0))) := eMeth_no hc2 ((HB5.out.setCell (p := ⟨w.heap.size + 1 + 1, 0, none⟩) (by show _ ≤ w.heap.size + 1 + 1; omega) _).setCell (p := ⟨w.heap.size + 1 + 1, 1, none⟩) (by show _ ≤ w.heap.size + 1 + 1; omega) _)
          have zf := blk2 HZR5.out (.slice none 0 0) (.int .i64 0)
          have dd0 := zf.cell 0
          have dd1 := zf.cell 1
          simp at dd0 dd1
          clear zf
          go_wp2
          refine bodyPost_ret (v := .tuple #[.agg #[.slice none 0 0, .int .i64 0], .iface 155 (.int .i64 c2)]) (by simp [results, Tryz.f174, go_sem, dd0, dd1]) rfl ?_
          exact hend.out
    · rw [if_pos hc0] at hCO
      subst hCO
      rw [errV_some hc0]
      clear HCE HCB c0 c1
      have hend : Hid (EMeth w nx TT c (.returned (.tuple #[.agg #[.slice none 0 0, .int .i64 0], .iface 155 (.int .i64 c)])) ((w2.setCell ⟨w.heap.size + 1 + 1, 0, none⟩ (.slice none 0 0)).setCell ⟨w.heap.size + 1 + 1, 1, none⟩ (.int .i64 0))) := eMeth_no hc0 ((hb2.setCell (p := ⟨w.heap.size + 1 + 1, 0, none⟩) (by show _ ≤ w.heap.size + 1 + 1; omega) _).setCell (p := ⟨w.heap.size + 1 + 1, 1, none⟩) (by show _ ≤ w.heap.size + 1 + 1; omega) _)
      have zf := blk2 zr2 (.slice none 0 0) (.int .i64 0)
      have dd0 := zf.cell 0
      have dd1 := zf.cell 1
      simp at dd0 dd1
      clear zf
      go_wp2
      refine bodyPost_ret (v := .tuple #[.agg #[.slice none 0 0, .int .i64 0], .iface 155 (.int .i64 c)]) (by simp [results, Tryz.f174, go_sem, dd0, dd1]) rfl ?_
      exact hend.out
end

section
open Go.RowKit
theorem badK_kind {ds : List InoD} {s : ByteArray} {D : InoD} {kd : Int} (h : badK kd ds s = (D, 0)) : D.kind ≠ kd ∧ statD ds s = (D, 0) := by
  unfold badK at h
  split at h
  · cases h
  · rename_i hc
    refine ⟨fun hk => hc ⟨by rw [h], by rw [h]; exact hk⟩, h⟩
end

section
open Go.RowKit
theorem tree_kind {nx : Int} {rs : List InoR} (h : treeD nx (rs.map InoR.D) = true) : ∀ D ∈ rs.map InoR.D, D.kind = 1 ∨ D.kind = 2 := fun D hD => by
  obtain ⟨r, hr, rfl⟩ := List.mem_map.1 hD
  exact (tree_facts h).1 r hr
end

section
open Go.RowKit
theorem dirFor_in {ds : List InoD} {q : ByteArray} (h : (dirFor ds q).2 = 0) : (dirFor ds q).1 ∈ ds := by
  have hD := dirFor_ok (show dirFor ds q = ((dirFor ds q).1, 0) from Prod.ext rfl h)
  have := @badK_mem 1 ds (strB (parentOf q.data.toList).1)
  rw [hD.1] at this
  exact this rfl
theorem name_small (q : ByteArray) : (strB (parentOf q.data.toList).2.1).size ≤ 1048576 := by have := (parent_small q.data.toList).2; rw [strB_size]; omega
end

section
open Go.RowKit
theorem idx_rename (w : World) : (Instr.index 138 (.agg #[.func (.func 167) #[] #[], .func (.func 168) #[] #[], .func (.func 169) #[] #[], .func (.func 170) #[] #[], .func (.func 171) #[] #[], .func (.func 172) #[] #[], .func (.func 173) #[] #[], .func (.func 174) #[] #[], .func (.func 175) #[] #[]]) (.int .i64 7)).run Tryz.prog w = .ok (.func (.func 174) #[] #[]) w := by kernel_rfl
set_option maxRecDepth 100000 in
set_option maxHeartbeats 4000000 in
theorem changed_rename (a : Option Addr) (n cap : Nat) (nx : Int) (rs : List InoR) (p q : ByteArray) (k : Int) (da : Option Addr) (dn dc : Nat) (an av : ByteArray) (w : World) (ht : TR w a n rs) (hwf : ∀ r ∈ rs, (Lit.int .i64 r.D.ino).wf = true) (het : EtCell w) (nx' : Int) (ds' : List InoD) (c : Int) (N : Int) (D : List InoD) (C : Int)
    (h1 : treeD nx (rs.map InoR.D) = false → N = nx ∧ D = rs.map InoR.D ∧ C = 1) (h2 : treeD nx (rs.map InoR.D) = true → c ≠ 0 → N = nx ∧ D = rs.map InoR.D ∧ C = c) (h3 : treeD nx (rs.map InoR.D) = true → c = 0 → N = nx' ∧ D = ds' ∧ C = 0)
    (hm : treeD nx (rs.map InoR.D) = true → ∀ W : World, Below w.heap.size w W → Calls Tryz.prog 174 #[.agg #[.slice a n cap, .int .i64 nx], .agg #[.string p, .string q, .int .i64 k, .slice da dn dc, .string an, .string av]] W fun e w' => EMeth W nx' ds' c e w') :
    Calls Tryz.prog 61 #[.agg #[.slice a n cap, .int .i64 nx], .int .i64 7, .agg #[.string p, .string q, .int .i64 k, .slice da dn dc, .string an, .string av]] w fun e w' => TabC w N D C e w' := by
  have B0 : Below w.heap.size w (((w.alloc (.cells #[.slice a n cap, .int .i64 nx] 28)).alloc (.cells #[.string p, .string q, .int .i64 k, .slice da dn dc, .string an, .string av] 77)).alloc (.cells #[.slice none 0 0, .int .i64 0] 28)) := (((Below.refl _ w).alloc (Nat.le_refl _) _).alloc (by simp) _).alloc (by simp; omega) _
  have zT := ((Blk.new w 28 #[.slice a n cap, .int .i64 nx]).alloc (.cells #[.string p, .string q, .int .i64 k, .slice da dn dc, .string an, .string av] 77)).alloc (.cells #[.slice none 0 0, .int .i64 0] 28)
  have zC := (Blk.new (w.alloc (.cells #[.slice a n cap, .int .i64 nx] 28)) 77 #[.string p, .string q, .int .i64 k, .slice da dn dc, .string an, .string av]).alloc (.cells #[.slice none 0 0, .int .i64 0] 28)
  have zR := Blk.new ((w.alloc (.cells #[.slice a n cap, .int .i64 nx] 28)).alloc (.cells #[.string p, .string q, .int .i64 k, .slice da dn dc, .string an, .string av] 77)) 28 #[.slice none 0 0, .int .i64 0]
  simp only [World.size_alloc] at zC zR
  have hcT := treeI a n cap nx rs _ (ht.keep B0) hwf
  go_enter Tryz.func61, Tryz.ntmps61
  go_wp2_with fail
  obtain ⟨W0, hW0⟩ : ∃ W, (((w.alloc (.cells #[.slice a n cap, .int .i64 nx] 28)).alloc (.cells #[.string p, .string q, .int .i64 k, .slice da dn dc, .string an, .string av] 77)).alloc (.cells #[.slice none 0 0, .int .i64 0] 28)) = W := ⟨_, rfl⟩
  rw [hW0] at B0 zT zC zR hcT ⊢
  clear hW0
  (with_reducible refine hcT.mono ?_)
  rintro e w1 ⟨rfl, b1⟩
  clear hcT
  have hb1 := B0.trans (b1.mono B0.size)
  have zt := zT.keep b1
  have zc := zC.keep b1
  have zr := zR.keep b1
  have HT1 : Hid _ := ht.keep hb1
  have HE1 : Hid _ := het.keep hb1
  clear zT zC zR b1 ht het B0
  have t0 := zt.cell 0
  have t1 := zt.cell 1
  simp at t0 t1
  cases htr : treeD nx (rs.map InoR.D) with
  | false =>
    obtain ⟨rfl, rfl, rfl⟩ := h1 htr
    have hcC := copyTab_any a n cap N rs w1 HT1.out.len HT1.out.n HT1.out.small HT1.out.rd
    have HB1 : Hid _ := hb1
    have HZR : Hid _ := zr
    clear h1 h2 h3 hm htr hb1
    go_wp2_with fail
    (with_reducible refine hcC.mono ?_)
    intro e w2 hp2
    obtain ⟨g, rfl, b2, hfin⟩ := copyT hp2 HB1.out (by omega) HZR.out
    have zr2 := Blk.keep HZR.out b2
    have r0 := zr2.cell 0
    have r1 := zr2.cell 1
    have f0 := zr2.frozen 0
    have f1 := zr2.frozen 1
    simp at r0 r1
    have HFIN : Hid _ := hfin w2 (Below.refl _ _) 1
    have zf := blk2 zr2 (.slice (some ⟨g, 0, none⟩) n n) (.int .i64 N)
    have dd0 := zf.cell 0
    have dd1 := zf.cell 1
    simp at dd0 dd1
    clear hcC hp2 hfin zr2 zt zc zr t0 t1 zf
    go_wp2
    refine bodyPost_ret (v := .tuple #[.agg #[.slice (some ⟨g, 0, none⟩) n n, .int .i64 N], .int .i64 1]) (by simp [results, Tryz.f61, go_sem, dd0, dd1]) rfl ?_
    exact HFIN.out
  | true =>
    have hmm := hm htr
    have c0 := zc.cell 0
    have c1 := zc.cell 1
    have c2 := zc.cell 2
    have c3 := zc.cell 3
    have c4 := zc.cell 4
    have c5 := zc.cell 5
    simp at c0 c1 c2 c3 c4 c5
    have HB1 : Hid _ := hb1
    have HZR : Hid _ := zr
    have HZT : Hid _ := zt
    have HZC : Hid _ := zc
    have HMM : Hid _ := hmm
    have HH2 : Hid _ := h2 htr
    have HH3 : Hid _ := h3 htr
    have cC := changesI w1.drew
    have hsz : w.heap.size + 1 + 1 < w1.heap.size := zr.lt
    have hK : Hid (∀ W : World, Below w1.heap.size w1 W → W.cell? ⟨w.heap.size, 0, none⟩ = some (.slice a n cap) ∧ W.cell? ⟨w.heap.size, 1, none⟩ = some (.int .i64 nx) ∧ W.cell? ⟨w.heap.size + 1, 0, none⟩ = some (.string p) ∧ W.cell? ⟨w.heap.size + 1, 1, none⟩ = some (.string q) ∧ W.cell? ⟨w.heap.size + 1, 2, none⟩ = some (.int .i64 k) ∧ W.cell? ⟨w.heap.size + 1, 3, none⟩ = some (.slice da dn dc) ∧ W.cell? ⟨w.heap.size + 1, 4, none⟩ = some (.string an) ∧ W.cell? ⟨w.heap.size + 1, 5, none⟩ = some (.string av)) := fun W hW => by
      have z1 := Blk.keep HZT.out hW
      have z2 := Blk.keep HZC.out hW
      exact ⟨z1.cell 0, z1.cell 1, z2.cell 0, z2.cell 1, z2.cell 2, z2.cell 3, z2.cell 4, z2.cell 5⟩
    clear h1 h2 h3 hm htr hmm zt zc zr hb1
    go_upto_region 3 with fail
    have n0 : w1.heap.size ≠ w.heap.size := by omega
    have n1 : w1.heap.size ≠ w.heap.size + 1 := by omega
    have cC2 := changesI (w1.alloc (.cells #[.slice none 0 0, .int .i64 0] 28)).drew
    have zW1 := Blk.new w1 28 #[.slice none 0 0, .int .i64 0]
    have hix := idx_rename
    go_cut [8, 9] from 8 to 31 (fun bx er wx => ∃ (A : Nat) (ra : Option Addr) (rn rc : Nat) (rx : Int), bx = .pointer (some ⟨A, 0, none⟩) ∧ er = errV c ∧ Hid (CHR w1 nx' ds' c A (.slice ra rn rc) (.int .i64 rx) wx))
    case first =>
      go_region_held3 (fun W : World => W.cell? ⟨w.heap.size, 0, none⟩ = some (.slice a n cap) ∧ W.cell? ⟨w.heap.size, 1, none⟩ = some (.int .i64 nx) ∧ W.cell? ⟨w.heap.size + 1, 0, none⟩ = some (.string p) ∧ W.cell? ⟨w.heap.size + 1, 1, none⟩ = some (.string q) ∧ W.cell? ⟨w.heap.size + 1, 2, none⟩ = some (.int .i64 k) ∧ W.cell? ⟨w.heap.size + 1, 3, none⟩ = some (.slice da dn dc) ∧ W.cell? ⟨w.heap.size + 1, 4, none⟩ = some (.string an) ∧ W.cell? ⟨w.heap.size + 1, 5, none⟩ = some (.string av)) (go_keep) (first
        | (go_at_call 111; (with_reducible refine cC.mono ?_); rintro e w10 ⟨rfl, b10⟩; have B10 : Below w1.heap.size w1 w10 := (Below.refl _ w1).drew.trans b10; have K10 := hK.out w10 B10; obtain ⟨p0, p1, p2, p3, p4, p5, p6, p7⟩ := K10; have n2 : w10.heap.size ≠ w.heap.size := (by have := B10.size; omega); have n3 : w10.heap.size ≠ w.heap.size + 1 := (by have := B10.size; omega); have hm10 := HMM.out w10 (HB1.out.trans (B10.mono HB1.out.size)); have hm10a := HMM.out (w10.alloc (.cells #[.slice none 0 0, .int .i64 0] 28)) ((HB1.out.trans (B10.mono HB1.out.size)).alloc (by have := HB1.out.size; have := B10.size; omega) _))
        | (go_at_call 111; (with_reducible refine cC2.mono ?_); rintro e w11 ⟨rfl, b11⟩; have B11 : Below w1.heap.size w1 w11 := ((Below.refl _ w1).alloc (Nat.le_refl _) _).drew.trans (b11.mono (by show _ ≤ (w1.alloc _).heap.size; simp)); have K11 := hK.out w11 B11; obtain ⟨p0, p1, p2, p3, p4, p5, p6, p7⟩ := K11; have z11 : Blk w11 w1.heap.size 28 #[.slice none 0 0, .int .i64 0] := Blk.keep (Blk.drew zW1) b11; have hm11 := HMM.out w11 (HB1.out.trans (B11.mono HB1.out.size)))
        | (go_at_call 174; (with_reducible refine hm10.mono ?_); rintro e w12 ⟨ra, rn, rc, rx, rfl, b12, t12⟩; have B12 : Below w1.heap.size w1 w12 := B10.trans (b12.mono B10.size); have K12 := hK.out w12 B12; obtain ⟨q0, q1, q2, q3, q4, q5, q6, q7⟩ := K12)
        | (go_at_call 174; (with_reducible refine hm10a.mono ?_); rintro e w13 ⟨ra, rn, rc, rx, rfl, b13, t13⟩; have B13 : Below w1.heap.size w1 w13 := (B10.alloc B10.size _).trans (b13.mono (by have := B10.size; simp; omega)); have z13 := (Blk.new w10 28 #[.slice none 0 0, .int .i64 0]).keep b13; have u0 := z13.cell 0; have u1 := z13.cell 1; have x0 := z13.frozen 0; have x1 := z13.frozen 1; simp at u0 u1; have K13 := hK.out w13 B13; obtain ⟨q0, q1, q2, q3, q4, q5, q6, q7⟩ := K13)
        | (go_at_call 174; (with_reducible refine hm11.mono ?_); rintro e w14 ⟨ra, rn, rc, rx, rfl, b14, t14⟩; have B14 : Below w1.heap.size w1 w14 := B11.trans (b14.mono B11.size); have z14 := z11.keep b14; have u0 := z14.cell 0; have u1 := z14.cell 1; have x0 := z14.frozen 0; have x1 := z14.frozen 1; simp at u0 u1; have K14 := hK.out w14 B14; obtain ⟨q0, q1, q2, q3, q4, q5, q6, q7⟩ := K14))
      all_goals (go_wp2_with fail; go_meet)
      all_goals first
        | (have h := chr_new B12 b12 B10.size t12; exact ⟨_, _, _, _, _, rfl, rfl, h⟩)
        | (have h := chr_old B13 B10.size z13 (by simp) t13; exact ⟨_, _, _, _, _, rfl, rfl, h⟩)
        | (have h := chr_old B14 (Nat.le_refl _) z14 (Blk.lt z11) t14; exact ⟨_, _, _, _, _, rfl, rfl, h⟩)
        | fail
    case rest =>
      obtain ⟨A, ra, rn, rc, rx, rfl, rfl, hR⟩ := hcut
      obtain ⟨Wc, hwc⟩ : ∃ W, W = wc := ⟨_, rfl⟩
      subst hwc
      clear t0 t1 c0 c1 c2 c3 c4 c5 cC cC2 zW1 hK HMM n0 n1
      have zt := Blk.keep HZT.out hR.out.b
      have zr := Blk.keep HZR.out hR.out.b
      have hbc := HB1.out.trans (hR.out.b.mono HB1.out.size)
      have t0 := zt.cell 0
      have t1 := zt.cell 1
      simp at t0 t1
      by_cases hc0 : c = 0
      · obtain ⟨rfl, rfl, rfl⟩ := HH3.out hc0
        subst hc0
        rw [errV_zero]
        have HFIN : Hid _ := methT (hR.out.tab rfl) HB1.out (by omega) HZR.out Wc (Below.refl _ _)
        have a0 := hR.out.z.cell 0
        have a1 := hR.out.z.cell 1
        have r0 := zr.cell 0
        have r1 := zr.cell 1
        have f0 := zr.frozen 0
        have f1 := zr.frozen 1
        simp at a0 a1 r0 r1
        have zf := blk2 zr (.slice ra rn rc) (.int .i64 rx)
        have dd0 := zf.cell 0
        have dd1 := zf.cell 1
        simp at dd0 dd1
        clear zt zr zf hbc HH2 HH3 HT1 HE1 t0 t1
        go_wp2
        refine bodyPost_ret (v := .tuple #[.agg #[.slice ra rn rc, .int .i64 rx], .int .i64 0]) (by simp [results, Tryz.f61, go_sem, dd0, dd1]) rfl ?_
        exact HFIN.out
      · obtain ⟨rfl, rfl, rfl⟩ := HH2.out hc0
        rw [errV_some hc0]
        have hTc := HT1.out.keep hR.out.b
        have hEc := EtCell.keep HE1.out hR.out.b
        have hcC := copyTab_any a n cap N rs Wc hTc.len hTc.n hTc.small hTc.rd
        have HZ : Hid _ := zr
        have HBC : Hid _ := hbc
        have HEC : Hid _ := hEc
        have HC0 : Hid _ := hc0
        clear zt zr hbc HH2 HH3 HT1 HE1 hTc hEc hc0
        go_wp2_with fail
        (with_reducible refine hcC.mono ?_)
        intro e w2 hp2
        obtain ⟨g, rfl, b2, hfin⟩ := copyT hp2 HBC.out (by omega) HZ.out
        have hcO := codeOfI C w2 (EtCell.keep HEC.out b2)
        rw [errV_some HC0.out] at hcO
        clear hcC hp2 t0 t1
        go_wp2_with fail
        (with_reducible refine hcO.mono ?_)
        rintro e w3 ⟨rfl, b3⟩
        have zr3 := (Blk.keep HZ.out b2).keep b3
        have r0 := zr3.cell 0
        have r1 := zr3.cell 1
        have f0 := zr3.frozen 0
        have f1 := zr3.frozen 1
        simp at r0 r1
        have HFIN : Hid _ := hfin w3 b3 C
        have zf := blk2 zr3 (.slice (some ⟨g, 0, none⟩) n n) (.int .i64 N)
        have dd0 := zf.cell 0
        have dd1 := zf.cell 1
        simp at dd0 dd1
        clear hcO hfin zr3 zf
        go_wp2
        refine bodyPost_ret (v := .tuple #[.agg #[.slice (some ⟨g, 0, none⟩) n n, .int .i64 N], .int .i64 C]) (by simp [results, Tryz.f61, go_sem, dd0, dd1]) rfl ?_
        exact HFIN.out
end

section
open Go.RowKit
theorem spot_fr {ds : List InoD} (hK : ∀ D ∈ ds, D.kind = 1 ∨ D.kind = 2) (s : ByteArray) (fr : Int) : spotD ds s fr = if (dirFor ds s).2 ≠ 0 then (inoZ.D, ⟨#[]⟩, (dirFor ds s).2) else if 10 ≤ (dirFor ds s).1.ents.length ∧ (dirFor ds s).1.ino ≠ fr then (inoZ.D, ⟨#[]⟩, 5) else ((dirFor ds s).1, strB (parentOf s.data.toList).2.1, 0) := by
  unfold spotD dirFor badK
  by_cases h1 : (parentOf s.data.toList).2.2 = false
  · simp [h1]
  · by_cases h2 : (statD ds (strB (parentOf s.data.toList).1)).2 = 0
    · have hm := stat_in h2
      rcases hK _ hm with h3 | h3
      · simp [h1, h2, h3]
      · by_cases h4 : entOf (strB (parentOf s.data.toList).2.1) (statD ds (strB (parentOf s.data.toList).1)).1.ents = 0
        · by_cases h5 : 10 ≤ (statD ds (strB (parentOf s.data.toList).1)).1.ents.length ∧ (statD ds (strB (parentOf s.data.toList).1)).1.ino ≠ fr
          · simp [h1, h2, h3, h4, h5]
          · simp [h1, h2, h3, h4, h5]
        · simp [h1, h2, h3, h4]
    · simp [h1, h2]
/-- What is known where a rename is not refused ahead of its room. -/
theorem ren_dirs {nx : Int} {ds : List InoD} {s q : ByteArray} (h : treeD nx ds = true) (hK : ∀ D ∈ ds, D.kind = 1 ∨ D.kind = 2) (hp : (parentOf s.data.toList).2.2 = true) (hw : (walkP ds s).2 = 0) (hd : (dirFor ds q).2 = 0) : ∃ E, statD ds (strB (parentOf s.data.toList).1) = (E, 0) ∧ E.kind = 2 ∧ E ∈ ds ∧ (walkP ds (strB (parentOf s.data.toList).1)).1 = E.ino ∧ statD ds (strB (parentOf q.data.toList).1) = ((dirFor ds q).1, 0) ∧ (dirFor ds q).1.kind = 2 ∧ entOf (strB (parentOf q.data.toList).2.1) (dirFor ds q).1.ents = 0 := by
  obtain ⟨E, h1, h2⟩ := parent_stat hw hp
  obtain ⟨h3, h4⟩ := stat_look h1 (look_self (treeD_parts h).1)
  obtain ⟨h5, h6⟩ := dirFor_ok (show dirFor ds q = ((dirFor ds q).1, 0) from Prod.ext rfl hd)
  obtain ⟨h7, h8⟩ := badK_kind h5
  refine ⟨E, h1, h2, (look_mem h4).1, by rw [h3], h8, ?_, h6⟩
  rcases hK _ (dirFor_in hd) with h9 | h9
  · exact absurd h9 h7
  · exact h9
theorem ren_code {nx : Int} {ds : List InoD} {s q : ByteArray} (h : treeD nx ds = true) (hK : ∀ D ∈ ds, D.kind = 1 ∨ D.kind = 2) : renameD nx ds s q = if renC ds s q ≠ 0 then (ds, renC ds s q) else (renT ds s q (statD ds (strB (parentOf s.data.toList).1)).1 (statD (dropP ds s) (strB (parentOf q.data.toList).1)).1, 0) := by
  unfold renameD renC renT notR
  have hdp : setD ds { (statD ds (strB (parentOf s.data.toList).1)).1 with ents := cutE (statD ds (strB (parentOf s.data.toList).1)).1.ents (strB (parentOf s.data.toList).2.1) } = dropP ds s := rfl
  rw [hdp, spot_fr hK q]
  cases hp : (parentOf s.data.toList).2.2 with
  | false => simp [h]
  | true =>
    cases hq : (parentOf q.data.toList).2.2 with
    | false => simp [h]
    | true =>
      by_cases h0 : (walkP ds s).2 = 0
      · cases hb : belowOf s.data.toList q.data.toList with
        | true => simp [h, h0]
        | false =>
          by_cases h1 : (dirFor ds q).2 = 0
          · obtain ⟨E, e1, e2, _, e4, e5, e6, _⟩ := ren_dirs h hK hp h0 h1
            have hsame := same_above h hp hq e1 e5 e6
            rw [e4]
            by_cases h2 : 10 ≤ (dirFor ds q).1.ents.length
            · by_cases h3 : (dirFor ds q).1.ino = E.ino
              · have h4 := hsame.2 h3
                simp [h, h0, h1, h2, h3, h4]
              · have h4 : strB (parentOf s.data.toList).1 ≠ strB (parentOf q.data.toList).1 := fun c => h3 (hsame.1 c)
                simp [h, h0, h1, h2, h3, h4]
            · simp [h, h0, h1, h2]
          · simp [h, h0, h1]
      · simp [h, h0]
theorem ren_facts {ds : List InoD} {s q : ByteArray} (hC : renC ds s q = 0) : (parentOf s.data.toList).2.2 = true ∧ (parentOf q.data.toList).2.2 = true ∧ (walkP ds s).2 = 0 ∧ belowOf s.data.toList q.data.toList = false ∧ (dirFor ds q).2 = 0 ∧ ¬ (strB (parentOf s.data.toList).1 ≠ strB (parentOf q.data.toList).1 ∧ 10 ≤ (dirFor ds q).1.ents.length) := by
  unfold renC notR at hC
  split at hC
  · exact absurd hC (by decide)
  · rename_i h0
    split at hC
    · rename_i h
      exact absurd hC h
    · rename_i h1
      split at hC
      · exact absurd hC (by decide)
      · rename_i h2
        split at hC
        · rename_i h
          exact absurd hC h
        · rename_i h3
          split at hC
          · exact absurd hC (by decide)
          · rename_i h4
            simp only [Bool.not_eq_false, Bool.and_eq_true] at h0
            exact ⟨h0.1, h0.2, Classical.byContradiction fun c => h1 c, by simpa using h2, Classical.byContradiction fun c => h3 c, h4⟩
theorem ents_pair {es : List (ByteArray × Int)} (h : entsOk es = true) : es.Pairwise fun a b => Op.bytesLess a.1.toList b.1.toList = true := by
  rw [List.pairwise_iff_getElem]
  intro i j hi hj hij
  have := ents_ascM h j i hij hj
  simpa [hi, hj] using this
theorem pair_mono {es : List (ByteArray × Int)} (h : es.Pairwise fun a b => Op.bytesLess a.1.toList b.1.toList = true) (z : ByteArray) : ∀ (i j : Nat) (hi : i < es.length) (hj : j < es.length), i ≤ j → Op.bytesLess es[j].1.toList z.toList = true → Op.bytesLess es[i].1.toList z.toList = true := fun i j hi hj hij hz => by
  rcases Nat.lt_or_eq_of_le hij with h1 | rfl
  · exact less_trans (List.pairwise_iff_getElem.1 h i j hi hj h1) hz
  · exact hz
theorem ren_last {nx : Int} {ds : List InoD} {s q : ByteArray} (h : treeD nx ds = true) (hK : ∀ D ∈ ds, D.kind = 1 ∨ D.kind = 2) (hC : renC ds s q = 0) : statD (dropP ds s) (strB (parentOf q.data.toList).1) = ((statD (dropP ds s) (strB (parentOf q.data.toList).1)).1, 0) ∧ (statD (dropP ds s) (strB (parentOf q.data.toList).1)).1.kind = 2 ∧ (∃ D ∈ ds, (statD (dropP ds s) (strB (parentOf q.data.toList).1)).1 = D ∨ (statD (dropP ds s) (strB (parentOf q.data.toList).1)).1 = { D with ents := cutE D.ents (strB (parentOf s.data.toList).2.1) }) ∧ (∀ e ∈ (statD (dropP ds s) (strB (parentOf q.data.toList).1)).1.ents, e.1 ≠ strB (parentOf q.data.toList).2.1) ∧ (statD (dropP ds s) (strB (parentOf q.data.toList).1)).1.ents.Pairwise fun a b => Op.bytesLess a.1.toList b.1.toList = true := by
  obtain ⟨hp, hq, hw, hb, hd, _⟩ := ren_facts hC
  obtain ⟨E, e1, e2, e3, e4, e5, e6, e7⟩ := ren_dirs h hK hp hw hd
  have hst := stat_cut h hw hp hq hb e5
  have hDm := dirFor_in hd
  have hok := ok_parts ((tabD_ok (treeD_parts h).1).2.2.2.2.1 _ hDm).1
  have hpr := ents_pair hok.2.2.1
  have hno : ∀ e ∈ (dirFor ds q).1.ents, e.1 ≠ strB (parentOf q.data.toList).2.1 := entOf_zero e7 fun x hx => by
    have h1 := ((treeD_parts h).2.2 _ hDm).2 x hx
    cases hl : look ds x.2 with
    | none => rw [hl] at h1; cases h1
    | some F =>
      have h2 := look_mem hl
      have h3 := ((tabD_ok (treeD_parts h).1).2.2.2.2.1 F h2.1).1
      unfold inoOk at h3
      simp only [Bool.and_eq_true, decide_eq_true_eq] at h3
      omega
  rw [hst]
  dsimp only
  refine ⟨rfl, ?_⟩
  by_cases hx : (dirFor ds q).1.ino = (statD ds (strB (parentOf s.data.toList).1)).1.ino
  · rw [if_pos hx]
    exact ⟨e6, ⟨_, hDm, .inr rfl⟩, fun e he => hno e (List.mem_filter.1 he).1, hpr.filter _⟩
  · rw [if_neg hx]
    exact ⟨e6, ⟨_, hDm, .inl rfl⟩, hno, hpr⟩
theorem renameI (a : Option Addr) (n cap : Nat) (nx : Int) (rs : List InoR) (s q : ByteArray) (w : World) (ht : TR w a n rs) (hwf : ∀ r ∈ rs, (Lit.int .i64 r.D.ino).wf = true) (het : EtCell w) (hs : s.size ≤ 1048576) (hs1 : q.size ≤ 1048576) :
    Calls Tryz.prog 27 #[.agg #[.slice a n cap, .int .i64 nx], .string s, .string q] w fun e w' => TabC w nx (renameD nx (rs.map InoR.D) s q).1 (renameD nx (rs.map InoR.D) s q).2 e w' := by
  refine wrap_Rename a n cap nx s q w nx _ _ (fun W hW => ?_)
  refine changed_rename a n cap nx rs s q 0 none 0 0 ⟨#[]⟩ ⟨#[]⟩ W (ht.keep hW) hwf (het.keep hW) nx (renT (rs.map InoR.D) s q (statD (rs.map InoR.D) (strB (parentOf s.data.toList).1)).1 (statD (dropP (rs.map InoR.D) s) (strB (parentOf q.data.toList).1)).1) (renC (rs.map InoR.D) s q) nx _ _ ?_ ?_ ?_ ?_
  · intro h
    unfold renameD
    rw [if_pos (.inl h)]
    exact ⟨rfl, rfl, rfl⟩
  · intro h hc
    rw [ren_code h (tree_kind h), if_pos hc]
    exact ⟨rfl, rfl, rfl⟩
  · intro h hc
    rw [ren_code h (tree_kind h), if_neg (by rw [hc]; simp)]
    exact ⟨rfl, rfl, rfl⟩
  · intro h W' hW'
    refine renM a n cap nx rs s q 0 none 0 0 ⟨#[]⟩ ⟨#[]⟩ W' ((ht.keep hW).keep hW') h hs hs1 _ _ fun hC => ?_
    obtain ⟨hp, hq, hw, hb, hd, _⟩ := ren_facts hC
    obtain ⟨l1, l2, _, l4, l5⟩ := ren_last h (tree_kind h) hC
    refine ⟨parent_bad hw hp, ?_, fun e he => str_ne (l4 e he), pair_mono l5 _⟩
    show badK 1 (dropP (rs.map InoR.D) s) _ = _
    unfold badK
    rw [if_neg (fun c => by have := c.2; omega), ← l1]
theorem out_rename (s q : ByteArray) (nx : Int) (rs : List InoR) (h : ∀ r ∈ rs, InoSmall r.D) (hc : rs.length + cntI rs ≤ 1048576) (_ : s.size ≤ 1048576) (_ : q.size ≤ 1048576) : Fit (renameD nx (rs.map InoR.D) s q).1 := by
  have hf := fit_same h hc
  cases htr : treeD nx (rs.map InoR.D) with
  | false =>
    unfold renameD
    rw [if_pos (.inl htr)]
    exact hf
  | true =>
    rw [ren_code htr (tree_kind htr)]
    by_cases hC : renC (rs.map InoR.D) s q = 0
    · rw [if_neg (by rw [hC]; simp)]
      have ht := tree_tiny htr hf.small
      obtain ⟨hp, hq, hw, hb, hd, _⟩ := ren_facts hC
      obtain ⟨_, _, ⟨D, hD, l3⟩, _, _⟩ := ren_last htr (tree_kind htr) hC
      have hT := ht D hD
      have hF : Tiny (statD (dropP (rs.map InoR.D) s) (strB (parentOf q.data.toList).1)).1 ∧ (statD (dropP (rs.map InoR.D) s) (strB (parentOf q.data.toList).1)).1.ents.length ≤ 10 := by
        have h10 := (entsOk_at (ok_parts ((tabD_ok (treeD_parts htr).1).2.2.2.2.1 D hD).1).2.2.1).1
        rcases l3 with l3 | l3
        · rw [l3]
          exact ⟨hT, by omega⟩
        · rw [l3]
          exact ⟨⟨cutE_small hT.small _, hT.data, Nat.le_trans (List.length_filter_le _ _) hT.ents, hT.attrs⟩, Nat.le_trans (List.length_filter_le _ _) (by omega)⟩
      obtain ⟨d1, d2⟩ := dropP_tiny htr hf.small hw hp
      dsimp only
      show Fit (setD (dropP (rs.map InoR.D) s) _)
      refine fit_tiny (fun G hG => ?_) (Nat.le_trans (setD_lenC _ _) (by omega))
      rcases setD_memC hG with rfl | hG
      · refine ⟨putEnt_small hF.1.small _ _ (name_small q) (by omega), hF.1.data, ?_, hF.1.attrs⟩
        show (insBy _ _ _).length ≤ 11
        rw [insBy_len]
        omega
      · exact d1 G hG
    · rw [if_pos hC]
      exact hf
end

section
open Go.RowKit
set_option maxRecDepth 100000 in
set_option maxHeartbeats 16000000 in
theorem walkFnExactRename (a : Option Addr) (cap : Nat) (nx : Int) (rs : List InoR) (s : ByteArray) (q : ByteArray) (w : World) (hm : rs.length ≤ maxLen) (hi : ∀ r ∈ rs, InoIn r.D) (hr : RdI w a rs) (_hz0 : s.size ≤ maxLen) (_hz1 : q.size ≤ maxLen) (het : EtCell w) :
    Calls Tryz.prog 6 #[.agg #[.slice a rs.length cap, .int .i64 nx], .string s, .string q] w fun e w' => e = .returned (.bool true) ∧ Below w.heap.size w w' := by
  obtain ⟨n, hn⟩ : ∃ n, rs.length = n := ⟨_, rfl⟩
  rw [hn] at hm ⊢
  have zb0 : ZT w (w.alloc (.cells #[.slice a n cap, .int .i64 nx] 24)) #[.slice a n cap, .int .i64 nx] := ⟨(Below.refl _ w).alloc (Nat.le_refl _) _, Blk.new w _ _⟩
  by_cases hl0 : 1048576 < s.size
  · have hli : (s.size : Int) > 1048576 := by omega
    have HB : Hid _ := zb0.below
    clear zb0
    go_enter Tryz.func6, Tryz.ntmps6
    go_wp2
    go_ret
    exact ⟨rfl, HB.out⟩
  by_cases hl1 : 1048576 < q.size
  · have hli : (q.size : Int) > 1048576 := by omega
    have HB : Hid _ := zb0.below
    have hlj0 : ¬ (s.size : Int) > 1048576 := by omega
    clear zb0
    go_enter Tryz.func6, Tryz.ntmps6
    go_wp2
    go_ret
    exact ⟨rfl, HB.out⟩
  have hli0 : ¬ (s.size : Int) > 1048576 := by omega
  have hli1 : ¬ (q.size : Int) > 1048576 := by omega
  go_enter Tryz.func6, Tryz.ntmps6
  go_wp2_with fail
  obtain ⟨W0, hW0⟩ : ∃ W, w.alloc (.cells #[.slice a n cap, .int .i64 nx] 24) = W := ⟨_, rfl⟩
  rw [hW0] at zb0 ⊢
  clear hW0
  refine (szTab_w a n cap 1048576 nx rs W0 hn hm (by omega) hi (hr.keep zb0.below)).mono ?_
  rintro e w1 ⟨hsz, b1⟩
  have zb1 := zb0.keep b1
  clear zb0 b1
  rcases hsz with rfl | ⟨v, hv, rfl, hn1, hsm⟩
  · go_wp2
    go_ret
    exact ⟨rfl, zb1.below⟩
  have hx0 : ¬ (v : Int) < 0 := by omega
  have hwf : ∀ r ∈ rs, (Lit.int .i64 r.D.ino).wf = true := fun r h => (hi r h).ino
  have HS : Hid _ := hsm
  have hcn : n + cntI rs ≤ 1048576 := by omega
  have CA : Hid (∀ W : World, Below w.heap.size w W → _) := fun (W : World) (h : Below w.heap.size w W) => toTab_j a n cap nx rs W hn hn1 HS.out (hr.keep h)
  have hfit : Fit (renameD nx (rs.map InoR.D) s q).1 := out_rename s q nx rs HS.out (by rw [hn]; exact hcn) (by omega) (by omega)
  have HET : Hid _ := het
  have cS := fun (W : World) (B g : Nat) (ts : List InoR) (h : TabQ W B g n rs ts) => renameS (some ⟨g, 0, none⟩) n n nx ts s q W ⟨h.tlen, hn1, h.cpd.small HS.out, h.rd⟩ (by omega) (by omega)
  have cI := fun (W : World) (B g : Nat) (ts : List InoR) (h : TabQ W B g n rs ts) (hb : Below w.heap.size w W) => renameI (some ⟨g, 0, none⟩) n n nx ts s q W ⟨h.tlen, hn1, h.cpd.small HS.out, h.rd⟩ (fun r hr => by
    have h1 : r.D ∈ ts.map InoR.D := List.mem_map_of_mem hr
    rw [h.cpd.1] at h1
    obtain ⟨q, hq, hqr⟩ := List.mem_map.1 h1
    rw [← hqr]
    exact hwf q hq) (EtCell.keep HET.out hb) (by omega) (by omega)
  have cS' : ∀ (W : World) (B g : Nat) (ts : List InoR), TabQ W B g n rs ts → Calls Tryz.prog 26 #[.agg #[.slice (some ⟨g, 0, none⟩) n n, .int .i64 nx], .string s, .string q] W fun e w' => TabC W nx (renameD nx (rs.map InoR.D) s q).1 (renameD nx (rs.map InoR.D) s q).2 e w' := fun W B g ts h => by
    have := cS W B g ts h
    rw [h.cpd.1] at this
    exact this
  have cI' : ∀ (W : World) (B g : Nat) (ts : List InoR), TabQ W B g n rs ts → Below w.heap.size w W → Calls Tryz.prog 27 #[.agg #[.slice (some ⟨g, 0, none⟩) n n, .int .i64 nx], .string s, .string q] W fun e w' => TabC W nx (renameD nx (rs.map InoR.D) s q).1 (renameD nx (rs.map InoR.D) s q).2 e w' := fun W B g ts h hb => by
    have := cI W B g ts h hb
    rw [h.cpd.1] at this
    exact this
  clear cS cI
  obtain ⟨CO, hCO⟩ : ∃ x, (renameD nx (rs.map InoR.D) s q).2 = x := ⟨_, rfl⟩
  rw [hCO] at cS' cI'
  obtain ⟨ds, hds⟩ : ∃ x, (renameD nx (rs.map InoR.D) s q).1 = x := ⟨_, rfl⟩
  rw [hds] at cS' cI' hfit
  obtain ⟨m, hml⟩ : ∃ m, ds.length = m := ⟨_, rfl⟩
  have hfc := hfit.cnt
  rw [hml] at hfc
  have hmb : m ≤ 2000000 := by omega
  have hdsm : ∀ r ∈ ds.map lift, InoSmall r.D := fun r hr => by
    obtain ⟨D, hD, rfl⟩ := List.mem_map.1 hr
    exact hfit.small D hD
  have hjl : ∀ (B : Nat) (W : World) (v : Value) (js : List InoJ), DQA B W v (ds.map lift) js → js.length = m := fun B W v js h => by have := h.len; rw [List.length_map] at this; omega
  have cK := fun (W : World) (g Lo Hi : Nat) (js : List InoJ) (h1 : (js.map InoJ.r).map InoR.D = rs.map InoR.D) (hap : ApJ g Lo Hi js) (hH : Hi ≤ W.heap.size) (hown : OwnI W g n n (js.map InoJ.r)) (hG : ∀ (i : Nat) (j : InoJ), js[i]? = some j → j.G W) => markTab_any nx g n n Lo Hi 1 js W (by have := congrArg List.length h1; simp at this; omega) (Nat.le_refl _) (by omega) (by have := q_bound4 h1 hn (by omega); omega) hap hH hown hG
  have cE : ∀ (W : World) (B B' : Nat) (a a' : Option Addr) (c c' : Nat) (js js' : List InoJ), DQA B W (.slice a m c) (ds.map lift) js → DQA B' W (.slice a' m c') (ds.map lift) js' → js.length = m → js'.length = m → Calls Tryz.prog 19 #[.agg #[.slice a m c, .int .i64 nx], .agg #[.slice a' m c', .int .i64 nx]] W fun e w' => e = .returned (.bool true) ∧ Below W.heap.size W w' := fun W B B' a a' c c' js js' h h' h1 h2 => eqVA nx (by omega) hdsm h h' h1 h2
  have cQ : ∀ (js : List InoJ) (W : World) (B : Nat) (v : Value), DQA B W v (ds.map lift) js → qAt 1 js m ≤ 9999990 := fun js W B v h => by have := q_bound4 (n := m) h.ds (by rw [List.length_map]; exact hml) (by omega); omega
  have CS : Hid _ := cS'
  have CI : Hid _ := cI'
  have CE : Hid _ := cE
  have CQ : Hid _ := cQ
  have CK : Hid _ := cK
  have CJ : Hid _ := hjl
  have hcoe : (CO != CO) = false := by simp
  have hcof : (CO == CO) = true := by simp
  clear cS' cI' cE cQ cK hr hn hsm hwf hi hm hv hcn hdsm hml hfit hfc hCO hds hjl het
  have t0 := zb1.t.cell 0
  have t1 := zb1.t.cell 1
  simp at t0 t1
  go_wp2_with fail
  (with_reducible refine (CA.out w1 zb1.below).mono ?_)
  rintro e w2 ⟨gA, jA, rfl, qA, _, b2⟩
  have zb2 := zb1.keep b2
  clear zb1 b2 t0 t1
  go_wp2_with fail
  (with_reducible refine (CS.out w2 _ gA _ qA).mono ?_)
  rintro e w3 ⟨aS, eS, jS, rfl, gS, b3⟩
  have hjS := CJ.out _ _ _ _ gS
  rw [hjS] at gS ⊢
  have b3' : Below w3.heap.size w3 (w3.alloc (.cells #[.slice aS m eS, .int .i64 nx] 28)) := (Below.refl _ w3).alloc (Nat.le_refl _) _
  have qs3 : QS (w3.alloc (.cells #[.slice aS m eS, .int .i64 nx] 28)) w3.heap.size w2.heap.size w3.heap.size (w3.heap.size + 1) aS m eS nx (ds.map lift) jS := ⟨Blk.new w3 _ _, gS.keep b3', hjS, gS.apV, by omega, by omega, by simp⟩
  have zb3 := zb2.keep (below_tr b3 b3')
  have hz2 := zb2.t.lt
  have hs3 := b3.size
  clear zb2 b3 b3' qA gS
  have t0 := zb3.t.cell 0
  have t1 := zb3.t.cell 1
  simp at t0 t1
  go_wp2_with fail
  obtain ⟨W3, hW3⟩ : ∃ W, w3.alloc (.cells #[.slice aS m eS, .int .i64 nx] 28) = W := ⟨_, rfl⟩
  obtain ⟨TS, hTS⟩ : ∃ X, w3.heap.size = X := ⟨_, rfl⟩
  obtain ⟨BS, hBS⟩ : ∃ X, w2.heap.size = X := ⟨_, rfl⟩
  rw [hW3] at qs3 zb3 t0 t1 ⊢
  rw [hTS] at qs3 hs3 ⊢
  rw [hBS] at qs3 hs3 hz2
  clear hW3 hTS hBS
  have HZL : Hid (w.heap.size + 1 ≤ W3.heap.size) := by have := qs3.tT; show _ ≤ _; omega
  (with_reducible refine (CA.out W3 zb3.below).mono ?_)
  rintro e w4 ⟨gB, jB, rfl, qB, jsB, b4⟩
  have b4' : Below w4.heap.size w4 (w4.alloc (.cells #[.slice (some ⟨gB, 0, none⟩) n n, .int .i64 nx] 28)) := (Below.refl _ w4).alloc (Nat.le_refl _) _
  have bb4 := below_tr b4 b4'
  have hs4 := b4.size
  have qt4 : QT (w4.alloc (.cells #[.slice (some ⟨gB, 0, none⟩) n n, .int .i64 nx] 28)) w4.heap.size W3.heap.size gB n W3.heap.size w4.heap.size nx rs jB := ⟨Blk.new w4 _ _, qB.keep b4', jsB.keep b4', jsB.ap (Nat.lt_succ_self _) qB.at_ qB.own.lt, Nat.le_refl _⟩
  have zb4 := zb3.keep bb4
  have qs4 := qs3.keep bb4
  have hU := qs3.tT
  have hs4' : w4.heap.size + 1 ≤ (w4.alloc (.cells #[.slice (some ⟨gB, 0, none⟩) n n, .int .i64 nx] 28)).heap.size := by simp
  clear zb3 qs3 b4 b4' bb4 qB jsB t0 t1
  obtain ⟨u0, u1⟩ := qt4.two
  go_wp2_with fail
  obtain ⟨W4, hW4⟩ : ∃ W, w4.alloc (.cells #[.slice (some ⟨gB, 0, none⟩) n n, .int .i64 nx] 28) = W := ⟨_, rfl⟩
  obtain ⟨XB, hXB⟩ : ∃ X, w4.heap.size = X := ⟨_, rfl⟩
  obtain ⟨Lo, hLo⟩ : ∃ X, W3.heap.size = X := ⟨_, rfl⟩
  rw [hW4] at qt4 zb4 qs4 hs4' u0 u1 ⊢
  rw [hXB] at qt4 hs4 hs4' u0 u1 ⊢
  rw [hLo] at qt4 hs4 hU
  clear hW4 hXB
  (with_reducible refine (CI.out W4 _ gB _ qt4.tq zb4.below).mono ?_)
  rintro e w6 ⟨aI, eI, jI, rfl, gI, b6⟩
  have hjI := CJ.out _ _ _ _ gI
  rw [hjI] at gI ⊢
  have b6' : Below w6.heap.size w6 (w6.alloc (.cells #[.slice aI m eI, .int .i64 nx] 28)) := (Below.refl _ w6).alloc (Nat.le_refl _) _
  have bb6 := below_tr b6 b6'
  have hs6 := b6.size
  have qi6 : QS (w6.alloc (.cells #[.slice aI m eI, .int .i64 nx] 28)) w6.heap.size W4.heap.size w6.heap.size (w6.heap.size + 1) aI m eI nx (ds.map lift) jI := ⟨Blk.new w6 _ _, gI.keep b6', hjI, gI.apV, by omega, by omega, by simp⟩
  have zb6 := zb4.keep bb6
  have qs6 := qs4.keep bb6
  have qt6 := qt4.keep bb6
  clear zb4 qs4 qt4 b6 b6' bb6 gI u0 u1
  obtain ⟨u0, u1⟩ := qi6.two
  obtain ⟨v0, v1⟩ := qs6.two
  go_wp2_with fail
  obtain ⟨W6, hW6⟩ : ∃ W, w6.alloc (.cells #[.slice aI m eI, .int .i64 nx] 28) = W := ⟨_, rfl⟩
  obtain ⟨TI, hTI⟩ : ∃ X, w6.heap.size = X := ⟨_, rfl⟩
  obtain ⟨BI, hBI⟩ : ∃ X, W4.heap.size = X := ⟨_, rfl⟩
  rw [hW6] at qi6 zb6 qs6 qt6 u0 u1 v0 v1 ⊢
  rw [hTI] at qi6 hs6 u0 u1 ⊢
  rw [hBI] at qi6 hs6 hs4'
  clear hW6 hTI
  (with_reducible refine (CE.out W6 BI BS _ _ _ _ jI jS qi6.q qs6.q qi6.len qs6.len).mono ?_)
  rintro e w7 ⟨rfl, b7⟩
  have zb7 := zb6.keep b7
  have qs7 := qs6.keep b7
  have qt7 := qt6.keep b7
  have qi7 := qi6.keep b7
  clear zb6 qs6 qt6 qi6 b7 u0 u1 v0 v1
  have t0 := zb7.t.cell 0
  have t1 := zb7.t.cell 1
  simp at t0 t1
  obtain ⟨u0, u1⟩ := qt7.two
  have zb7d := zb7.keep (Below.refl w7.heap.size w7).drew
  have qt7d := qt7.keep (Below.refl w7.heap.size w7).drew
  go_upto_region 14 with fail
  go_region_held3 (fun W : World => W.cell? ⟨XB, 0, none⟩ = some (.slice (some ⟨gB, 0, none⟩) n n) ∧ W.cell? ⟨XB, 1, none⟩ = some (.int .i64 nx) ∧ W.cell? ⟨w.heap.size, 0, none⟩ = some (.slice a n cap) ∧ W.cell? ⟨w.heap.size, 1, none⟩ = some (.int .i64 nx)) (go_keep) (first
    | (go_at_call 17; (with_reducible refine (CA.out _ zb7d.below).mono ?_); rintro e wA ⟨gC, jC, rfl, qC, _, b9⟩; have qAA := (qt7d.keep b9).tq; obtain ⟨s0, s1⟩ := (qt7d.keep b9).two; have s2 := (zb7d.keep b9).t.cell 0; have s3 := (zb7d.keep b9).t.cell 1; (simp at s2 s3))
    | (go_at_call 19; (with_reducible refine (eqTabQ _ _ gB gC n n n nx rs _ _ _ hn1 HS.out qAA qC).mono ?_); rintro e wB ⟨rfl, b10⟩; obtain ⟨s4, s5⟩ := ((qt7d.keep b9).keep b10).two; have s6 := ((zb7d.keep b9).keep b10).t.cell 0; have s7 := ((zb7d.keep b9).keep b10).t.cell 1; (simp at s6 s7))
    | fail)
  have bR : Below w7.heap.size w7 wB := below_tr (below_tr (Below.refl w7.heap.size w7).drew b9) b10
  have zb8 := zb7.keep bR
  have qs8 := qs7.keep bR
  have qt8 := qt7.keep bR
  have qi8 := qi7.keep bR
  clear zb7 qs7 qt7 qi7 bR b9 b10 zb7d qt7d qC qAA s0 s1 s2 s3 s4 s5 s6 s7 u0 u1 t0 t1
  obtain ⟨u0, u1⟩ := qt8.two
  have hXBl := qt8.box.lt
  have hqi := qi8.tT
  have hcp := qt8.tq.cpd.1
  go_wp2_with fail
  refine (CK.out wB gB Lo XB jB hcp qt8.ap (by omega) qt8.tq.own qt8.jq.G).mono ?_
  rintro e w10 ⟨rfl, hTL⟩
  have hout := hTL.out
  have hs10 := hout.size
  have hbs : w.heap.size + 1 ≤ Lo := by rw [← hLo]; exact HZL.out
  have zb10 := zb8.outs hout hbs
  have qs10 := qs8.outs hout (by omega)
  have qi10 := qi8.outsHi hout (by omega) (by omega)
  obtain ⟨qk, hqk⟩ : ∃ q, qAt 1 jB n = q := ⟨_, rfl⟩
  have hqm0 : ¬ (qk : Int) < 0 := by omega
  rw [hqk]
  clear zb8 qs8 qt8 qi8 hTL hout u0 u1 hqk
  obtain ⟨u0, u1⟩ := qi10.two
  obtain ⟨v0, v1⟩ := qs10.two
  go_wp2_with fail
  (with_reducible refine (CE.out w10 BI BS _ _ _ _ jI jS qi10.q qs10.q qi10.len qs10.len).mono ?_)
  rintro e w11 ⟨rfl, b11⟩
  have zb11 := zb10.keep b11
  have qs11 := qs10.keep b11
  have qi11 := qi10.keep b11
  clear zb10 qs10 qi10 b11 u0 u1 v0 v1
  obtain ⟨u0, u1⟩ := qi11.two
  have hqI := CQ.out jI _ _ _ qi11.q
  have hIl := qi11.box.lt
  have hqi11 := qi11.tT
  go_wp2_with fail
  (with_reducible refine (markVA (T := TI) nx hmb hqI qi11.q qi11.len (by omega) qi11.ap).mono ?_)
  rintro e w11c ⟨rfl, mG, hout⟩
  have hs11c := hout.size
  have zb11c := zb11.outs hout (by omega)
  have qs11c := qs11.outs hout (by omega)
  have xI := qi11.box.outs hout (by omega)
  have cH : ∀ W : World, TI ≤ W.heap.size → TV W BI TI aI m eI jI → _ := fun W hT h => heldV nx hmb hqI qi11.len hT h
  obtain ⟨mm, hmm⟩ : ∃ q, qAt 1 jI m = q := ⟨_, rfl⟩
  rw [hmm] at cH ⊢
  have CH : Hid _ := cH
  clear zb11 qs11 qi11 hout u0 u1 cH hqI hmm
  have u0 := xI.cell 0
  have u1 := xI.cell 1
  simp at u0 u1
  go_wp2_with fail
  (with_reducible refine (CH.out w11c (by omega) mG).mono ?_)
  rintro e w12 ⟨rfl, b13⟩
  have zb12 := zb11c.keep b13
  have qs12 := qs11c.keep b13
  have mG12 := mG.keep (by omega) b13
  have xI12 := xI.keep b13
  have hs12 := b13.size
  have hmm0 : ¬ (mm : Int) < 0 := by omega
  have hmme : ((mm : Int) != (mm : Int)) = false := by simp
  have hmmf : ((mm : Int) == (mm : Int)) = true := by simp
  clear zb11c qs11c mG xI b13 u0 u1
  have t0 := zb12.t.cell 0
  have t1 := zb12.t.cell 1
  simp at t0 t1
  go_wp2_with fail
  (with_reducible refine (CA.out w12 zb12.below).mono ?_)
  rintro e w14 ⟨gD, jD, rfl, qD, _, b14⟩
  have zb14 := zb12.keep b14
  have qs14 := qs12.keep b14
  have mG14 := mG12.keep (by omega) b14
  have xI14 := xI12.keep b14
  have hs14 := b14.size
  clear zb12 qs12 mG12 xI12 b14 t0 t1
  go_wp2_with fail
  (with_reducible refine (CI.out w14 _ gD _ qD zb14.below).mono ?_)
  rintro e w15 ⟨aJ, eJ, jJ, rfl, gJ, b15⟩
  have hjJ := CJ.out _ _ _ _ gJ
  rw [hjJ] at gJ ⊢
  have b15' : Below w15.heap.size w15 (w15.alloc (.cells #[.slice aJ m eJ, .int .i64 nx] 28)) := (Below.refl _ w15).alloc (Nat.le_refl _) _
  have bb15 := below_tr b15 b15'
  have qj : QS (w15.alloc (.cells #[.slice aJ m eJ, .int .i64 nx] 28)) w15.heap.size w14.heap.size w15.heap.size (w15.heap.size + 1) aJ m eJ nx (ds.map lift) jJ := ⟨Blk.new w15 _ _, gJ.keep b15', hjJ, gJ.apV, by omega, by omega, by simp⟩
  have zb15 := zb14.keep bb15
  have qs15 := qs14.keep bb15
  have mG15 := mG14.keep (by omega) bb15
  have xI15 := xI14.keep bb15
  have hs15 := bb15.size
  clear zb14 qs14 mG14 xI14 b15 b15' bb15 gJ qD
  obtain ⟨u0, u1⟩ := qj.two
  obtain ⟨v0, v1⟩ := qs15.two
  go_wp2_with fail
  obtain ⟨W15, hW15⟩ : ∃ W, w15.alloc (.cells #[.slice aJ m eJ, .int .i64 nx] 28) = W := ⟨_, rfl⟩
  rw [hW15] at qj zb15 qs15 mG15 xI15 hs15 u0 u1 v0 v1 ⊢
  clear hW15
  (with_reducible refine (CE.out W15 _ BS _ _ _ _ jJ jS qj.q qs15.q qj.len qs15.len).mono ?_)
  rintro e w16 ⟨rfl, b16⟩
  have zb16 := zb15.keep b16
  have mG16 := mG15.keep (by omega) b16
  have xI16 := xI15.keep b16
  have hs16 := b16.size
  clear zb15 qs15 qj mG15 xI15 b16 u0 u1 v0 v1
  have u0 := xI16.cell 0
  have u1 := xI16.cell 1
  simp at u0 u1
  go_wp2_with fail
  (with_reducible refine (CH.out w16 (by omega) mG16).mono ?_)
  rintro e w17 ⟨rfl, b17⟩
  have zb17 := zb16.keep b17
  have HEND : Hid _ := zb17.below
  clear zb16 mG16 xI16 b17 u0 u1 zb17
  go_wp2
  go_ret
  exact ⟨rfl, HEND.out⟩
end
end Go.Proofs.YtmfimoccemgoiaaGreatDoor
