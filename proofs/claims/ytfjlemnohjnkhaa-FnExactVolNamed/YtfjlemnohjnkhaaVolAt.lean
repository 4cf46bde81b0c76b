/-
  The place of a volume by its number, by its name: the specification's functions, the program's.
-/
import Derived.Test.YtfjlemnohjnkhaaRows
import Derived.Test.YtfjlemnohjnkhaaBase
import Derived.Test.YtfjlemnohjnkhaaCrc
import Derived.Test.YtfjlemnohjnkhaaPairs
import Derived.Test.YtfjlemnohjnkhaaInode
import Derived.Test.YtfjlemnohjnkhaaSix
import Derived.Test.YtfjlemnohjnkhaaTabM
import Derived.Test.YtfjlemnohjnkhaaMarkI
import Derived.Test.YtfjlemnohjnkhaaPuts
import Derived.Test.YtfjlemnohjnkhaaMarkIno
import Derived.Test.YtfjlemnohjnkhaaMarkGI
import Derived.Test.YtfjlemnohjnkhaaTabW
import Derived.Test.YtfjlemnohjnkhaaVolM
import Derived.Test.YtfjlemnohjnkhaaEqFs
import Derived.Test.YtfjlemnohjnkhaaToFs
import Derived.WalkKit
import Derived.WalkSpells
import Derived.WalkLawsBesides
import Derived.Deep.QuietTactic
import Derived.BigQuiet
import Derived.OpenShut
import Derived.Laws.BitsAllLaws
import Derived.Maps.AppendAt
import Derived.Lib.SliceRun
import Derived.Lib.Strings
import Derived.Deep.RegionWith
import Derived.Laws.IdiomStrings
import Derived.Deep.Slices
import Derived.ProofKit
import Derived.ChangeOld
import Derived.Below
import Derived.Deep.DeepCutAuto
import Derived.Lib.AppendStr
import Derived.Lib.ConvBytes
import Derived.Deep.RegionHeld3
import Derived.Deep.AppendLies
import Derived.Deep.AppendSrc
import Derived.Maps.OwnSet
import Derived.Maps.OwnOps
import Derived.Deep.RegionLaw
import Derived.Lib.Slices
import Derived.Lib.Walk
import Derived.Lib.Bytealg
import Derived.Lib.IndexLaws
import Derived.Lib.BufferWrite
import Derived.Lib.UnsafeStr
import Derived.Laws.MakeOwn
import Derived.Laws.Strings3
import Derived.RangeFuncBox
import Derived.RangeFuncNested
import Derived.RangeFuncBound
import Derived.RangeFuncCalls
import Derived.RangeFuncLeaves
import Derived.Shelf.Abstract
import Derived.Shelf.RegionOpen
import Derived.OwnWalkIn
import Derived.TacticsInMore
import Derived.LoopNIn
import Derived.LoopIn
namespace Go.Proofs.Ytfjlemnohjnkhaa
open Go.RowKit
/-- The place of the first one, or -1. -/
def ixV (p : VolD → Bool) (ds : List VolD) : Int := match ds.findIdx? p with | some k => (k : Int) | none => -1
theorem ixV_at {p : VolD → Bool} {vs : List VolR} {k : Nat} {r : VolR} (hk : vs[k]? = some r) (h : p r.D = true) (ha : ∀ (j : Nat) (q : VolR), j < k → vs[j]? = some q → p q.D = false) : ixV p (vs.map VolR.D) = (k : Int) := by
  unfold ixV
  obtain ⟨hkl, hkr⟩ := List.getElem?_eq_some_iff.1 hk
  have : (vs.map VolR.D).findIdx? p = some k := List.findIdx?_eq_some_iff_getElem.2 ⟨by simpa using hkl, by simp [hkr, h], fun j hj => by
    have hjl : j < vs.length := by omega
    simp [ha j vs[j] hj (List.getElem?_eq_getElem hjl)]⟩
  rw [this]
theorem ixV_none {p : VolD → Bool} {vs : List VolR} (ha : ∀ (j : Nat) (q : VolR), vs[j]? = some q → p q.D = false) : ixV p (vs.map VolR.D) = -1 := by
  unfold ixV
  have : (vs.map VolR.D).findIdx? p = none := List.findIdx?_eq_none_iff.2 fun d hd => by
    obtain ⟨q, hq, rfl⟩ := List.mem_map.1 hd
    obtain ⟨j, hj⟩ := List.getElem?_of_mem hq
    exact ha j q hj
  rw [this]
/-- By its number. -/
def volAt (ds : List VolD) (x : Int) : Int := ixV (fun d => (d.id == x)) ds
set_option maxHeartbeats 1600000 in
theorem volAtS (a : Option Addr) (n cap : Nat) (nx : Int) (vs : List VolR) (x : Int) (w : World) (hn : vs.length = n) (hs : n ≤ 4000000) (hr : RdVo w a vs) :
    Calls Try.prog 13 #[.agg #[.slice a n cap, .int .i64 nx], .int .i64 x] w fun e w' => e = .returned (.int .i64 (volAt (vs.map VolR.D) x)) ∧ Below w.heap.size w w' := by
  have B0 : Below w.heap.size w (w.alloc (.cells #[.slice a n cap, .int .i64 nx] 24)) := (Below.refl _ w).alloc (Nat.le_refl _) _
  have z0 := Blk.new w 24 #[.slice a n cap, .int .i64 nx]
  have hY : Hid (∀ (k : Nat) (r : VolR), (∀ (j : Nat) (q : VolR), j < k → vs[j]? = some q → (q.id == x) = false) → vs[k]? = some r → (r.id == x) = true → (k : Int) = volAt (vs.map VolR.D) x) := fun k r h hk he => (ixV_at hk he h).symm
  have hE : Hid ((∀ (j : Nat) (q : VolR), j < n → vs[j]? = some q → (q.id == x) = false) → (-1 : Int) = volAt (vs.map VolR.D) x) := fun h => (ixV_none fun j q hq => h j q (by rw [← hn]; exact (List.getElem?_eq_some_iff.1 hq).1) hq).symm
  generalize volAt (vs.map VolR.D) x = R at hY hE ⊢
  have HR : Hid _ := hr
  have hn' : Hid (vs.length = n) := hn
  clear hr hn
  go_enter Try.func13, Try.ntmps13
  go_wp2
  obtain ⟨W0, hW0⟩ : ∃ W, w.alloc (.cells #[.slice a n cap, .int .i64 nx] 24) = W := ⟨_, rfl⟩
  rw [hW0] at B0 z0 ⊢
  clear hW0
  go_loopw [5] (fun i wr => ∃ k : Nat, k ≤ n ∧ i = .int .i64 k ∧ Hid (∀ (j : Nat) (q : VolR), j < k → vs[j]? = some q → (q.id == x) = false) ∧ W0 = wr) (fun i _ => n - (intOf i).toNat)
  case atStart => exact ⟨0, Nat.zero_le _, rfl, fun j q hj => by omega, rfl⟩
  case round =>
    obtain ⟨k, hk, rfl, hall, hw⟩ := hrel
    subst hw
    have t0 := z0.cell 0
    simp at t0
    by_cases hkn : k < n
    · have hki : (k : Int) < (n : Int) := by omega
      obtain ⟨r, hrk⟩ : ∃ r, vs[k]? = some r := ⟨_, List.getElem?_eq_getElem (by rw [hn'.out]; exact hkn)⟩
      obtain ⟨b, off, rfl, hlt, hc⟩ := (RdVo.keep HR.out B0).lt (by intro h; have := hn'.out; rw [h] at this; simp at this; omega)
      obtain ⟨⟨x0, x1, x2, x3, x4, x5⟩, _⟩ := hc k r hrk
      have hyes : Hid ((r.id == x) = true → (k : Int) = R) := fun he => hY.out k r hall.out hrk he
      have hno : Hid ((r.id == x) = false → ∀ (j : Nat) (q : VolR), j < k + 1 → vs[j]? = some q → (q.id == x) = false) := by
        intro he j q hj hq
        rcases (show j < k ∨ j = k by omega) with h | rfl
        · exact hall.out j q h hq
        · rw [hrk] at hq
          simp at hq
          rw [← hq]
          exact he
      obtain ⟨id, name, ro, limit, ra, rc, rnx, rr⟩ := r
      dsimp only at x0 x1 x2 x3 x4 x5 hyes hno
      clear hc hrk hall hY hE HR x2 x3 x4 x5
      cases he : (id == x) with
      | true =>
        have hend : Hid ((k : Int) = R) := hyes.out he
        clear hyes hno
        go_wp2
        go_ret
        exact ⟨ret_int hend.out, B0⟩
      | false =>
        have hnx : Hid _ := hno.out he
        clear hyes hno
        go_wp2
        go_roundw
        case rel => exact ⟨k + 1, by omega, by go_num, hnx, (by first | rfl | trivial)⟩
        case measure => simp [intOf]; omega
    · have hki : ¬ (k : Int) < (n : Int) := by omega
      have hend : Hid ((-1 : Int) = R) := hE.out (fun j q hj hq => hall.out j q (by omega) hq)
      clear hY hE HR hall
      go_wp2
      go_ret
      exact ⟨ret_int hend.out, B0⟩
set_option maxHeartbeats 1600000 in
theorem closAt (r : VolR) (x : Int) (X : Nat) (w : World) (hX : w.cell? ⟨X, 0, none⟩ = some (.int .i64 x)) :
    Calls Try.prog 26 #[r.v, .pointer (some ⟨X, 0, none⟩)] w fun e w' => e = .returned (.bool (r.id == x)) ∧ Below w.heap.size w w' := by
  unfold VolR.v
  have hlt := World.block_lt_of_cell? w _ hX
  have b0 : Below w.heap.size w (w.alloc (.cells #[.int .i64 r.id, .string r.name, .bool r.ro, .int .i64 r.limit, .slice r.a r.rs.length r.cap, .int .i64 r.nx] 45)) := (Below.refl _ w).alloc (Nat.le_refl _) _
  have hX' := (b0.cell (p := ⟨X, 0, none⟩) hlt).trans hX
  have z0 := Blk.new w 45 #[.int .i64 r.id, .string r.name, .bool r.ro, .int .i64 r.limit, .slice r.a r.rs.length r.cap, .int .i64 r.nx]
  have y0 := z0.cell 0
  have y1 := z0.cell 1
  simp at y0 y1
  have HB : Hid _ := b0
  clear hX b0 z0
  go_enter Try.func26, Try.ntmps26
  go_wp2
  go_ret
  exact ⟨rfl, HB.out⟩
set_option maxRecDepth 100000 in
set_option maxHeartbeats 2000000 in
theorem indexAt (a : Option Addr) (n cap : Nat) (vs : List VolR) (x : Int) (X : Nat) (w : World) (hn : vs.length = n) (hs : n ≤ 4000000) (hr : RdVo w a vs) (hX : w.cell? ⟨X, 0, none⟩ = some (.int .i64 x)) :
    Calls Try.prog 25 #[.slice a n cap, .func (.func 26) #[] #[.pointer (some ⟨X, 0, none⟩)]] w fun e w' => e = .returned (.int .i64 (volAt (vs.map VolR.D) x)) ∧ Below w.heap.size w w' := by
  have hXlt := World.block_lt_of_cell? w _ hX
  have HR : Hid _ := hr
  have HX : Hid _ := hX
  have hn' : Hid (vs.length = n) := hn
  have hY : Hid (∀ (k : Nat) (r : VolR), (∀ (j : Nat) (q : VolR), j < k → vs[j]? = some q → (q.id == x) = false) → vs[k]? = some r → (r.id == x) = true → (k : Int) = volAt (vs.map VolR.D) x) := fun k r h hk he => (ixV_at hk he h).symm
  have hE : Hid ((∀ (j : Nat) (q : VolR), j < n → vs[j]? = some q → (q.id == x) = false) → (-1 : Int) = volAt (vs.map VolR.D) x) := fun h => (ixV_none fun j q hq => h j q (by rw [← hn]; exact (List.getElem?_eq_some_iff.1 hq).1) hq).symm
  generalize volAt (vs.map VolR.D) x = R at hY hE ⊢
  clear hr hn hX
  go_enter Try.func25, Try.ntmps25
  go_wp2
  go_loopw [8] (fun i wr => ∃ k : Nat, k ≤ n ∧ i = .int .i64 k ∧ Hid (∀ (j : Nat) (q : VolR), j < k → vs[j]? = some q → (q.id == x) = false) ∧ Below w.heap.size w wr) (fun i _ => n - (intOf i).toNat)
  case atStart => exact ⟨0, Nat.zero_le _, rfl, fun j q hj => by omega, Below.refl _ _⟩
  case round =>
    obtain ⟨k, hk, rfl, hall, hB⟩ := hrel
    by_cases hkn : k < n
    · have hki : (k : Int) < (n : Int) := by omega
      obtain ⟨r, hrk⟩ : ∃ r, vs[k]? = some r := ⟨_, List.getElem?_eq_getElem (by rw [hn'.out]; exact hkn)⟩
      obtain ⟨b, off, rfl, hlt, hc⟩ := (RdVo.keep HR.out hB).lt (by intro h; have := hn'.out; rw [h] at this; simp at this; omega)
      obtain ⟨⟨x0, x1, x2, x3, x4, x5⟩, _⟩ := hc k r hrk
      have hcc := closAt r x X wr ((hB.cell (p := ⟨X, 0, none⟩) hXlt).trans HX.out)
      unfold VolR.v at hcc
      have hyes : Hid ((r.id == x) = true → (k : Int) = R) := fun he => hY.out k r hall.out hrk he
      have hno : Hid ((r.id == x) = false → ∀ (j : Nat) (q : VolR), j < k + 1 → vs[j]? = some q → (q.id == x) = false) := by
        intro he j q hj hq
        rcases (show j < k ∨ j = k by omega) with h | rfl
        · exact hall.out j q h hq
        · rw [hrk] at hq
          simp at hq
          rw [← hq]
          exact he
      obtain ⟨id, name, ro, limit, ra, rc, rnx, rr⟩ := r
      dsimp only at x0 x1 x2 x3 x4 x5 hyes hno hcc
      obtain ⟨n1, hn1⟩ : ∃ n, rr.length = n := ⟨_, rfl⟩
      rw [hn1] at x4 hcc
      clear hc hrk hall hY hE HR HX hn1
      cases he : (id == x) with
      | true =>
        have hend : Hid ((k : Int) = R) := hyes.out he
        rw [he] at hcc
        clear hyes hno he
        go_wp2_with (go_at_call 26; (with_reducible refine hcc.mono ?_); rintro e w1 ⟨rfl, b1⟩)
        go_ret
        exact ⟨ret_int hend.out, hB.trans (b1.mono hB.size)⟩
      | false =>
        have hnx : Hid _ := hno.out he
        rw [he] at hcc
        clear hyes hno he
        go_wp2_with (go_at_call 26; (with_reducible refine hcc.mono ?_); rintro e w1 ⟨rfl, b1⟩)
        go_roundw
        case rel => exact ⟨k + 1, by omega, by go_num, hnx, hB.trans (b1.mono hB.size)⟩
        case measure => simp [intOf]; omega
    · have hki : ¬ (k : Int) < (n : Int) := by omega
      have hend : Hid ((-1 : Int) = R) := hE.out (fun j q hj hq => hall.out j q (by omega) hq)
      clear hY hE HR hall HX
      go_wp2
      go_ret
      exact ⟨ret_int hend.out, hB⟩
set_option maxHeartbeats 1600000 in
theorem volAtI (a : Option Addr) (n cap : Nat) (nx : Int) (vs : List VolR) (x : Int) (w : World) (hn : vs.length = n) (hs : n ≤ 4000000) (hr : RdVo w a vs) :
    Calls Try.prog 15 #[.agg #[.slice a n cap, .int .i64 nx], .int .i64 x] w fun e w' => e = .returned (.int .i64 (volAt (vs.map VolR.D) x)) ∧ Below w.heap.size w w' := by
  have B0 : Below w.heap.size w ((w.alloc (.cells #[.slice a n cap, .int .i64 nx] 24)).alloc (.cells #[.int .i64 x] 3)) := ((Below.refl _ w).alloc (Nat.le_refl _) _).alloc (by simp) _
  have zx := (Blk.new (w.alloc (.cells #[.slice a n cap, .int .i64 nx] 24)) 3 #[.int .i64 x]).cell 0
  simp only [World.size_alloc] at zx
  have hc := indexAt a n cap vs x (w.heap.size + 1) _ hn hs (hr.keep B0) zx
  generalize volAt (vs.map VolR.D) x = R at hc ⊢
  have HB : Hid _ := B0
  clear hr hn B0
  go_enter Try.func15, Try.ntmps15
  go_wp2_with fail
  (with_reducible refine hc.mono ?_)
  rintro e w1 ⟨rfl, b1⟩
  go_wp2
  go_ret
  exact ⟨rfl, HB.out.trans (b1.mono HB.out.size)⟩
/-- By its name. -/
def volNm (ds : List VolD) (x : ByteArray) : Int := ixV (fun d => (d.name.toList == x.toList)) ds
set_option maxHeartbeats 1600000 in
theorem volNmS (a : Option Addr) (n cap : Nat) (nx : Int) (vs : List VolR) (x : ByteArray) (w : World) (hn : vs.length = n) (hs : n ≤ 4000000) (hr : RdVo w a vs) :
    Calls Try.prog 16 #[.agg #[.slice a n cap, .int .i64 nx], .string x] w fun e w' => e = .returned (.int .i64 (volNm (vs.map VolR.D) x)) ∧ Below w.heap.size w w' := by
  have B0 : Below w.heap.size w (w.alloc (.cells #[.slice a n cap, .int .i64 nx] 24)) := (Below.refl _ w).alloc (Nat.le_refl _) _
  have z0 := Blk.new w 24 #[.slice a n cap, .int .i64 nx]
  have hY : Hid (∀ (k : Nat) (r : VolR), (∀ (j : Nat) (q : VolR), j < k → vs[j]? = some q → (q.name.toList == x.toList) = false) → vs[k]? = some r → (r.name.toList == x.toList) = true → (k : Int) = volNm (vs.map VolR.D) x) := fun k r h hk he => (ixV_at hk he h).symm
  have hE : Hid ((∀ (j : Nat) (q : VolR), j < n → vs[j]? = some q → (q.name.toList == x.toList) = false) → (-1 : Int) = volNm (vs.map VolR.D) x) := fun h => (ixV_none fun j q hq => h j q (by rw [← hn]; exact (List.getElem?_eq_some_iff.1 hq).1) hq).symm
  generalize volNm (vs.map VolR.D) x = R at hY hE ⊢
  have HR : Hid _ := hr
  have hn' : Hid (vs.length = n) := hn
  clear hr hn
  go_enter Try.func16, Try.ntmps16
  go_wp2
  obtain ⟨W0, hW0⟩ : ∃ W, w.alloc (.cells #[.slice a n cap, .int .i64 nx] 24) = W := ⟨_, rfl⟩
  rw [hW0] at B0 z0 ⊢
  clear hW0
  go_loopw [5] (fun i wr => ∃ k : Nat, k ≤ n ∧ i = .int .i64 k ∧ Hid (∀ (j : Nat) (q : VolR), j < k → vs[j]? = some q → (q.name.toList == x.toList) = false) ∧ W0 = wr) (fun i _ => n - (intOf i).toNat)
  case atStart => exact ⟨0, Nat.zero_le _, rfl, fun j q hj => by omega, rfl⟩
  case round =>
    obtain ⟨k, hk, rfl, hall, hw⟩ := hrel
    subst hw
    have t0 := z0.cell 0
    simp at t0
    by_cases hkn : k < n
    · have hki : (k : Int) < (n : Int) := by omega
      obtain ⟨r, hrk⟩ : ∃ r, vs[k]? = some r := ⟨_, List.getElem?_eq_getElem (by rw [hn'.out]; exact hkn)⟩
      obtain ⟨b, off, rfl, hlt, hc⟩ := (RdVo.keep HR.out B0).lt (by intro h; have := hn'.out; rw [h] at this; simp at this; omega)
      obtain ⟨⟨x0, x1, x2, x3, x4, x5⟩, _⟩ := hc k r hrk
      have hyes : Hid ((r.name.toList == x.toList) = true → (k : Int) = R) := fun he => hY.out k r hall.out hrk he
      have hno : Hid ((r.name.toList == x.toList) = false → ∀ (j : Nat) (q : VolR), j < k + 1 → vs[j]? = some q → (q.name.toList == x.toList) = false) := by
        intro he j q hj hq
        rcases (show j < k ∨ j = k by omega) with h | rfl
        · exact hall.out j q h hq
        · rw [hrk] at hq
          simp at hq
          rw [← hq]
          exact he
      obtain ⟨id, name, ro, limit, ra, rc, rnx, rr⟩ := r
      dsimp only at x0 x1 x2 x3 x4 x5 hyes hno
      clear hc hrk hall hY hE HR x2 x3 x4 x5
      cases he : (name.toList == x.toList) with
      | true =>
        have hend : Hid ((k : Int) = R) := hyes.out he
        clear hyes hno
        go_wp2
        go_ret
        exact ⟨ret_int hend.out, B0⟩
      | false =>
        have hnx : Hid _ := hno.out he
        clear hyes hno
        go_wp2
        go_roundw
        case rel => exact ⟨k + 1, by omega, by go_num, hnx, (by first | rfl | trivial)⟩
        case measure => simp [intOf]; omega
    · have hki : ¬ (k : Int) < (n : Int) := by omega
      have hend : Hid ((-1 : Int) = R) := hE.out (fun j q hj hq => hall.out j q (by omega) hq)
      clear hY hE HR hall
      go_wp2
      go_ret
      exact ⟨ret_int hend.out, B0⟩
set_option maxHeartbeats 1600000 in
theorem closNm (r : VolR) (x : ByteArray) (X : Nat) (w : World) (hX : w.cell? ⟨X, 0, none⟩ = some (.string x)) :
    Calls Try.prog 27 #[r.v, .pointer (some ⟨X, 0, none⟩)] w fun e w' => e = .returned (.bool (r.name.toList == x.toList)) ∧ Below w.heap.size w w' := by
  unfold VolR.v
  have hlt := World.block_lt_of_cell? w _ hX
  have b0 : Below w.heap.size w (w.alloc (.cells #[.int .i64 r.id, .string r.name, .bool r.ro, .int .i64 r.limit, .slice r.a r.rs.length r.cap, .int .i64 r.nx] 45)) := (Below.refl _ w).alloc (Nat.le_refl _) _
  have hX' := (b0.cell (p := ⟨X, 0, none⟩) hlt).trans hX
  have z0 := Blk.new w 45 #[.int .i64 r.id, .string r.name, .bool r.ro, .int .i64 r.limit, .slice r.a r.rs.length r.cap, .int .i64 r.nx]
  have y0 := z0.cell 0
  have y1 := z0.cell 1
  simp at y0 y1
  have HB : Hid _ := b0
  clear hX b0 z0
  go_enter Try.func27, Try.ntmps27
  go_wp2
  go_ret
  exact ⟨rfl, HB.out⟩
set_option maxRecDepth 100000 in
set_option maxHeartbeats 2000000 in
theorem indexNm (a : Option Addr) (n cap : Nat) (vs : List VolR) (x : ByteArray) (X : Nat) (w : World) (hn : vs.length = n) (hs : n ≤ 4000000) (hr : RdVo w a vs) (hX : w.cell? ⟨X, 0, none⟩ = some (.string x)) :
    Calls Try.prog 25 #[.slice a n cap, .func (.func 27) #[] #[.pointer (some ⟨X, 0, none⟩)]] w fun e w' => e = .returned (.int .i64 (volNm (vs.map VolR.D) x)) ∧ Below w.heap.size w w' := by
  have hXlt := World.block_lt_of_cell? w _ hX
  have HR : Hid _ := hr
  have HX : Hid _ := hX
  have hn' : Hid (vs.length = n) := hn
  have hY : Hid (∀ (k : Nat) (r : VolR), (∀ (j : Nat) (q : VolR), j < k → vs[j]? = some q → (q.name.toList == x.toList) = false) → vs[k]? = some r → (r.name.toList == x.toList) = true → (k : Int) = volNm (vs.map VolR.D) x) := fun k r h hk he => (ixV_at hk he h).symm
  have hE : Hid ((∀ (j : Nat) (q : VolR), j < n → vs[j]? = some q → (q.name.toList == x.toList) = false) → (-1 : Int) = volNm (vs.map VolR.D) x) := fun h => (ixV_none fun j q hq => h j q (by rw [← hn]; exact (List.getElem?_eq_some_iff.1 hq).1) hq).symm
  generalize volNm (vs.map VolR.D) x = R at hY hE ⊢
  clear hr hn hX
  go_enter Try.func25, Try.ntmps25
  go_wp2
  go_loopw [8] (fun i wr => ∃ k : Nat, k ≤ n ∧ i = .int .i64 k ∧ Hid (∀ (j : Nat) (q : VolR), j < k → vs[j]? = some q → (q.name.toList == x.toList) = false) ∧ Below w.heap.size w wr) (fun i _ => n - (intOf i).toNat)
  case atStart => exact ⟨0, Nat.zero_le _, rfl, fun j q hj => by omega, Below.refl _ _⟩
  case round =>
    obtain ⟨k, hk, rfl, hall, hB⟩ := hrel
    by_cases hkn : k < n
    · have hki : (k : Int) < (n : Int) := by omega
      obtain ⟨r, hrk⟩ : ∃ r, vs[k]? = some r := ⟨_, List.getElem?_eq_getElem (by rw [hn'.out]; exact hkn)⟩
      obtain ⟨b, off, rfl, hlt, hc⟩ := (RdVo.keep HR.out hB).lt (by intro h; have := hn'.out; rw [h] at this; simp at this; omega)
      obtain ⟨⟨x0, x1, x2, x3, x4, x5⟩, _⟩ := hc k r hrk
      have hcc := closNm r x X wr ((hB.cell (p := ⟨X, 0, none⟩) hXlt).trans HX.out)
      unfold VolR.v at hcc
      have hyes : Hid ((r.name.toList == x.toList) = true → (k : Int) = R) := fun he => hY.out k r hall.out hrk he
      have hno : Hid ((r.name.toList == x.toList) = false → ∀ (j : Nat) (q : VolR), j < k + 1 → vs[j]? = some q → (q.name.toList == x.toList) = false) := by
        intro he j q hj hq
        rcases (show j < k ∨ j = k by omega) with h | rfl
        · exact hall.out j q h hq
        · rw [hrk] at hq
          simp at hq
          rw [← hq]
          exact he
      obtain ⟨id, name, ro, limit, ra, rc, rnx, rr⟩ := r
      dsimp only at x0 x1 x2 x3 x4 x5 hyes hno hcc
      obtain ⟨n1, hn1⟩ : ∃ n, rr.length = n := ⟨_, rfl⟩
      rw [hn1] at x4 hcc
      clear hc hrk hall hY hE HR HX hn1
      cases he : (name.toList == x.toList) with
      | true =>
        have hend : Hid ((k : Int) = R) := hyes.out he
        rw [he] at hcc
        clear hyes hno he
        go_wp2_with (go_at_call 27; (with_reducible refine hcc.mono ?_); rintro e w1 ⟨rfl, b1⟩)
        go_ret
        exact ⟨ret_int hend.out, hB.trans (b1.mono hB.size)⟩
      | false =>
        have hnx : Hid _ := hno.out he
        rw [he] at hcc
        clear hyes hno he
        go_wp2_with (go_at_call 27; (with_reducible refine hcc.mono ?_); rintro e w1 ⟨rfl, b1⟩)
        go_roundw
        case rel => exact ⟨k + 1, by omega, by go_num, hnx, hB.trans (b1.mono hB.size)⟩
        case measure => simp [intOf]; omega
    · have hki : ¬ (k : Int) < (n : Int) := by omega
      have hend : Hid ((-1 : Int) = R) := hE.out (fun j q hj hq => hall.out j q (by omega) hq)
      clear hY hE HR hall HX
      go_wp2
      go_ret
      exact ⟨ret_int hend.out, hB⟩
set_option maxHeartbeats 1600000 in
theorem volNmI (a : Option Addr) (n cap : Nat) (nx : Int) (vs : List VolR) (x : ByteArray) (w : World) (hn : vs.length = n) (hs : n ≤ 4000000) (hr : RdVo w a vs) :
    Calls Try.prog 17 #[.agg #[.slice a n cap, .int .i64 nx], .string x] w fun e w' => e = .returned (.int .i64 (volNm (vs.map VolR.D) x)) ∧ Below w.heap.size w w' := by
  have B0 : Below w.heap.size w ((w.alloc (.cells #[.slice a n cap, .int .i64 nx] 24)).alloc (.cells #[.string x] 9)) := ((Below.refl _ w).alloc (Nat.le_refl _) _).alloc (by simp) _
  have zx := (Blk.new (w.alloc (.cells #[.slice a n cap, .int .i64 nx] 24)) 9 #[.string x]).cell 0
  simp only [World.size_alloc] at zx
  have hc := indexNm a n cap vs x (w.heap.size + 1) _ hn hs (hr.keep B0) zx
  generalize volNm (vs.map VolR.D) x = R at hc ⊢
  have HB : Hid _ := B0
  clear hr hn B0
  go_enter Try.func17, Try.ntmps17
  go_wp2_with fail
  (with_reducible refine hc.mono ?_)
  rintro e w1 ⟨rfl, b1⟩
  go_wp2
  go_ret
  exact ⟨rfl, HB.out.trans (b1.mono HB.out.size)⟩
end Go.Proofs.Ytfjlemnohjnkhaa
