/-
  The size of a file system of the laws.
-/
import Derived.Test.YtfjlemnohjnkhaaRows
import Derived.Test.YtfjlemnohjnkhaaBase
import Derived.Test.YtfjlemnohjnkhaaCrc
import Derived.Test.YtfjlemnohjnkhaaPairs
import Derived.Test.YtfjlemnohjnkhaaInode
import Derived.Test.YtfjlemnohjnkhaaSix
import Derived.Test.YtfjlemnohjnkhaaTabM
import Derived.Test.YtfjlemnohjnkhaaMarkI
import Derived.Test.YtfjlemnohjnkhaaPuts
import Derived.Test.YtfjlemnohjnkhaaMarkIno
import Derived.Test.YtfjlemnohjnkhaaMarkGI
import Derived.Test.YtfjlemnohjnkhaaTabW
import Derived.Test.YtfjlemnohjnkhaaSzW
import Derived.Test.YtfjlemnohjnkhaaVolM
import Derived.WalkKit
import Derived.WalkSpells
import Derived.WalkLawsBesides
import Derived.Deep.QuietTactic
import Derived.BigQuiet
import Derived.OpenShut
import Derived.Laws.BitsAllLaws
import Derived.Maps.AppendAt
import Derived.Lib.SliceRun
import Derived.Lib.Strings
import Derived.Deep.RegionWith
import Derived.Laws.IdiomStrings
import Derived.Deep.Slices
import Derived.ProofKit
import Derived.ChangeOld
import Derived.Below
import Derived.Deep.DeepCutAuto
import Derived.Lib.AppendStr
import Derived.Lib.ConvBytes
import Derived.Deep.RegionHeld3
import Derived.Deep.AppendLies
import Derived.Deep.AppendSrc
import Derived.Maps.OwnSet
import Derived.Maps.OwnOps
import Derived.Deep.RegionLaw
import Derived.Lib.Slices
import Derived.Lib.Walk
import Derived.Lib.Bytealg
import Derived.Lib.IndexLaws
import Derived.Lib.BufferWrite
import Derived.Lib.UnsafeStr
import Derived.Laws.MakeOwn
import Derived.Laws.Strings3
import Derived.RangeFuncBox
import Derived.RangeFuncNested
import Derived.RangeFuncBound
import Derived.RangeFuncCalls
import Derived.RangeFuncLeaves
import Derived.Shelf.Abstract
import Derived.Shelf.RegionOpen
import Derived.OwnWalkIn
import Derived.TacticsInMore
import Derived.LoopNIn
import Derived.LoopIn
namespace Go.Proofs.Ytfjlemnohjnkhaa
open Go.RowKit
/-- How much a volume holds. -/
def VolR.cnt (r : VolR) : Nat := r.name.size + (r.rs.length + cntI r.rs)
def cntV (vs : List VolR) : Nat := (vs.map VolR.cnt).sum
set_option maxHeartbeats 1600000 in
theorem szVol_w (r : VolR) (x : Nat) (w : World) (hx : x ≤ 1048576) (hi : VolIn r) (hr : r.rd w) :
    Calls Try.prog 35 #[r.v, .int .i64 x] w fun e w' => SzQ x r.cnt (VolSmall r) e ∧ Below w.heap.size w w' := by
  obtain ⟨id, name, ro, limit, a, cap, nx, rs⟩ := r
  obtain ⟨h1, h2, h3, h4, h5, h6⟩ := hi
  unfold VolR.v VolR.cnt
  unfold VolR.rd at hr
  dsimp only at h1 h2 h3 h4 h5 h6 hr ⊢
  obtain ⟨n, hn⟩ : ∃ n, rs.length = n := ⟨_, rfl⟩
  rw [hn] at h5 ⊢
  have B0 : Below w.heap.size w (w.alloc (.cells #[.int .i64 id, .string name, .bool ro, .int .i64 limit, .slice a n cap, .int .i64 nx] 59)) := (Below.refl _ w).alloc (Nat.le_refl _) _
  have hc := fun (y : Nat) (hy : y ≤ 1048576) => szTab_w a n cap y nx rs (w.alloc (.cells #[.int .i64 id, .string name, .bool ro, .int .i64 limit, .slice a n cap, .int .i64 nx] 59)) hn h5 hy h6 (hr.keep B0)
  have HC : Hid _ := hc
  have HB : Hid _ := B0
  have HN : Hid _ := hn
  have h2' := h2
  unfold maxLen at h2'
  clear hc hr h6 hn B0 h5
  by_cases hl : x < name.size
  · have h1 : ((x : Int) - (name.size : Int)) < 0 := by omega
    go_enter Try.func35, Try.ntmps35
    go_wp2
    go_ret
    exact ⟨.inl rfl, HB.out⟩
  · have h1 : ¬ ((x : Int) - (name.size : Int)) < 0 := by omega
    obtain ⟨y, hy⟩ : ∃ y : Nat, y + name.size = x := ⟨x - name.size, by omega⟩
    have hyi : (x : Int) - (name.size : Int) = (y : Int) := by omega
    have hcy := HC.out y (by omega)
    clear HC
    go_enter Try.func35, Try.ntmps35
    go_wp2_with fail
    refine hcy.mono ?_
    rintro e w1 ⟨(rfl | ⟨v, hv, rfl, hzz⟩), hb1⟩
    · go_wp2
      go_ret
      exact ⟨.inl rfl, HB.out.trans (hb1.mono HB.out.size)⟩
    · have hz : Hid _ := hzz
      clear hzz hcy
      go_wp2
      go_ret
      refine ⟨.inr ⟨v, by omega, rfl, ⟨by dsimp only; omega, by dsimp only; rw [HN.out]; exact hz.out.1, hz.out.2⟩⟩, HB.out.trans (hb1.mono HB.out.size)⟩
set_option maxHeartbeats 1600000 in
theorem szVolS_w (a : Option Addr) (n cap x : Nat) (vs : List VolR) (w : World) (hn : vs.length = n) (hm : n ≤ maxLen) (hx : x ≤ 1048576) (hin : ∀ r ∈ vs, VolIn r) (hr : RdVo w a vs) :
    Calls Try.prog 23 #[.slice a n cap, .int .i64 x] w fun e w' => SzQ x (n + cntV vs) (n ≤ 1048576 ∧ ∀ r ∈ vs, VolSmall r) e ∧ Below w.heap.size w w' := by
  unfold maxLen at hm
  by_cases h : x < n
  · have h1 : ((x : Int) - (n : Int)) < 0 := by omega
    go_enter Try.func23, Try.ntmps23
    go_wp2
    go_ret
    exact ⟨.inl rfl, Below.refl _ _⟩
  · have h1 : ¬ ((x : Int) - (n : Int)) < 0 := by omega
    by_cases h0 : n = 0
    · subst h0
      obtain rfl : vs = [] := List.length_eq_zero_iff.1 hn
      go_enter Try.func23, Try.ntmps23
      go_wp2
      refine wp_loop_rounds 1 ?_; rw [rounds_succ]
      go_wp2
      go_ret
      exact ⟨.inr ⟨x, by simp [cntV], ret_int (by simp), by omega, by simp⟩, Below.refl _ _⟩
    · have hne : vs ≠ [] := by intro h; subst h; simp at hn; omega
      obtain ⟨b, off, rfl, hlt, hc⟩ := hr.lt hne
      clear hr hne
      have hn' : Hid (vs.length = n) := hn
      have HC : Hid _ := hc
      have HI : Hid _ := hin
      clear hn hc hin
      go_enter Try.func23, Try.ntmps23
      go_wp2
      go_loopw [1, 5] (fun l i wr => ∃ k y : Nat, k ≤ n ∧ i = .int .i64 k ∧ l = .int .i64 y ∧ y + (n + cntV (vs.take k)) ≤ x ∧ Below w.heap.size w wr ∧ Hid (∀ r ∈ vs.take k, VolSmall r)) (fun _ i _ => n - (intOf i).toNat)
      case atStart => exact ⟨0, x - n, Nat.zero_le _, rfl, by go_num, by simp [cntV]; omega, Below.refl _ _, fun q hq => by simp at hq⟩
      case round =>
        obtain ⟨k, y, hk, rfl, rfl, hy, hB, hall⟩ := hrel
        by_cases hkn : k < n
        · have hkl : k < vs.length := by rw [hn'.out]; exact hkn
          have hki : (k : Int) < (n : Int) := by omega
          obtain ⟨r, hrk⟩ : ∃ r, vs[k]? = some r := ⟨_, List.getElem?_eq_getElem hkl⟩
          obtain ⟨x6, xr⟩ := HC.out k r hrk
          have hcall := szVol_w r y wr (by omega) (HI.out r (List.mem_of_getElem? hrk)) (xr.keep hB)
          have hcn : cntV (vs.take (k + 1)) = cntV (vs.take k) + r.cnt := by unfold cntV; rw [List.take_add_one, hrk]; simp
          have hnext : Hid (VolSmall r → ∀ q ∈ vs.take (k + 1), VolSmall q) := by
            intro h q hq
            rw [List.take_add_one, hrk] at hq
            simp only [Option.toList_some, List.mem_append, List.mem_singleton] at hq
            rcases hq with hq | rfl
            · exact hall.out q hq
            · exact h
          have z6 := x6.keep hB hlt
          obtain ⟨x0, x1, x2, x3, x4, x5⟩ := z6
          unfold VolR.v at hcall
          have hwz := hB.size
          obtain ⟨n1, hn1⟩ : ∃ n, r.rs.length = n := ⟨_, rfl⟩
          rw [hn1] at x4 hcall
          obtain ⟨rc, hrc⟩ : ∃ n, r.cnt = n := ⟨_, rfl⟩
          rw [hrc] at hcn hcall
          have HCN : Hid _ := hcn
          clear hcn hrc
          clear x6 xr hall hn1 hrk hkl
          go_wp2_with fail
          refine hcall.mono ?_
          rintro e w1 ⟨(rfl | ⟨v, hv, rfl, hzz⟩), hb1⟩
          · go_wp2
            go_ret
            exact ⟨.inl rfl, hB.trans (hb1.mono hwz)⟩
          · have hnx : Hid _ := hnext.out hzz
            clear x0 x1 x2 x3 x4 x5 hcall
            go_wp2
            go_roundw
            case rel => exact ⟨k + 1, v, by omega, by go_num, rfl, by have := HCN.out; omega, hB.trans (hb1.mono hwz), hnx⟩
            case measure => simp [intOf]; omega
        · have hki : ¬ (k : Int) < (n : Int) := by omega
          go_wp2
          go_ret
          rw [List.take_of_length_le (by rw [hn'.out]; omega)] at hy
          refine ⟨.inr ⟨y, hy, rfl, by omega, ?_⟩, hB⟩
          have := hall.out
          rw [List.take_of_length_le (by rw [hn'.out]; omega)] at this
          exact this
set_option maxHeartbeats 800000 in
theorem szFs_w (a : Option Addr) (n cap x : Nat) (nx : Int) (vs : List VolR) (w : World) (hn : vs.length = n) (hm : n ≤ maxLen) (hx : x ≤ 1048576) (hin : ∀ r ∈ vs, VolIn r) (hr : RdVo w a vs) :
    Calls Try.prog 12 #[.agg #[.slice a n cap, .int .i64 nx], .int .i64 x] w fun e w' => SzQ x (n + cntV vs) (n ≤ 1048576 ∧ ∀ r ∈ vs, VolSmall r) e ∧ Below w.heap.size w w' := by
  have B0 : Below w.heap.size w (w.alloc (.cells #[.slice a n cap, .int .i64 nx] 31)) := (Below.refl _ w).alloc (Nat.le_refl _) _
  have hcall := szVolS_w a n cap x vs (w.alloc (.cells #[.slice a n cap, .int .i64 nx] 31)) hn hm hx hin (hr.keep B0)
  have HB : Hid _ := B0
  clear hin hr hn hm
  go_enter Try.func12, Try.ntmps12
  go_wp2_with fail
  refine hcall.mono ?_
  rintro e w1 ⟨(rfl | ⟨v, hv, rfl, hzz⟩), hb1⟩
  · go_wp2
    go_ret
    exact ⟨.inl rfl, HB.out.trans (hb1.mono HB.out.size)⟩
  · have hz : Hid _ := hzz
    clear hzz
    go_wp2
    go_ret
    exact ⟨.inr ⟨v, hv, rfl, hz.out⟩, HB.out.trans (hb1.mono HB.out.size)⟩
end Go.Proofs.Ytfjlemnohjnkhaa
