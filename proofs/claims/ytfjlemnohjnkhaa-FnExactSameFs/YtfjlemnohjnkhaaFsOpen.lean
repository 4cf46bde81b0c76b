/-
  A file system of the laws that came in by value, opened: its volumes, its next number.
-/
import Derived.Test.YtfjlemnohjnkhaaRows
import Derived.Test.YtfjlemnohjnkhaaBase
import Derived.Test.YtfjlemnohjnkhaaPut
import Derived.Test.YtfjlemnohjnkhaaPairs
import Derived.Test.YtfjlemnohjnkhaaInode
import Derived.Test.YtfjlemnohjnkhaaInoOpen
import Derived.Test.YtfjlemnohjnkhaaSix
import Derived.Test.YtfjlemnohjnkhaaTabM
import Derived.Test.YtfjlemnohjnkhaaMarkI
import Derived.Test.YtfjlemnohjnkhaaPuts
import Derived.Test.YtfjlemnohjnkhaaTabOpen
import Derived.Test.YtfjlemnohjnkhaaTabW
import Derived.Test.YtfjlemnohjnkhaaVolM
import Derived.WalkKit
import Derived.WalkSpells
import Derived.WalkLawsBesides
import Derived.Deep.QuietTactic
import Derived.BigQuiet
import Derived.OpenShut
import Derived.Laws.BitsAllLaws
import Derived.Maps.AppendAt
import Derived.Lib.SliceRun
import Derived.Lib.Strings
import Derived.Deep.RegionWith
import Derived.Laws.IdiomStrings
import Derived.Deep.Slices
import Derived.ProofKit
import Derived.ChangeOld
import Derived.Below
import Derived.Deep.DeepCutAuto
import Derived.Lib.AppendStr
import Derived.Lib.ConvBytes
import Derived.Deep.RegionHeld3
import Derived.Deep.AppendLies
import Derived.Deep.AppendSrc
import Derived.Maps.OwnSet
import Derived.Maps.OwnOps
import Derived.Deep.RegionLaw
import Derived.Lib.Slices
import Derived.Lib.Walk
import Derived.Lib.Bytealg
import Derived.Lib.IndexLaws
import Derived.Lib.BufferWrite
import Derived.Lib.UnsafeStr
import Derived.Laws.MakeOwn
import Derived.Laws.Strings3
import Derived.RangeFuncBox
import Derived.RangeFuncNested
import Derived.RangeFuncBound
import Derived.RangeFuncCalls
import Derived.RangeFuncLeaves
import Derived.Shelf.Abstract
import Derived.Shelf.RegionOpen
import Derived.OwnWalkIn
import Derived.TacticsInMore
import Derived.LoopNIn
import Derived.LoopIn
namespace Go.Proofs.Ytfjlemnohjnkhaa
open Go.ChangeShapes Go.WideShapes Go.ChangeAt Go.RowKit
section
variable {H : Type} {enc : TypeId × Value → H} {w : World} {base : Nat} {held : Bool}
theorem list5 {α : Type} {l : List α} (h : l.length = 5) : ∃ a b c d e, l = [a, b, c, d, e] := by
  match l, h with
  | [a, b, c, d, e], _ => exact ⟨a, b, c, d, e, rfl⟩
set_option maxRecDepth 100000 in
set_option maxHeartbeats 1000000 in
theorem open_vol_cells {fuel : Nat} {cs : List Value} {x : DataW H × List MemPlace} (hf : DataW.trod enc Try.prog w base (fun _ => true) held fuel 59 cs = some x) :
    ∃ r : VolR, cs = r.six ∧ VolIn r ∧ r.rd w := by
  obtain ⟨xs, n, _, _, hl, hlen, hfld⟩ := DataW.trod_struct Try.underlying59 hf
  have hC : Try.prog.cellsOf 59 = 6 := by kernel_rfl
  have k3 : Try.prog.cellsOf 3 = 1 := by kernel_rfl
  have k4 : Try.prog.cellsOf 4 = 1 := by kernel_rfl
  have k9 : Try.prog.cellsOf 9 = 1 := by kernel_rfl
  have kT : Try.prog.cellsOf 57 = 2 := by kernel_rfl
  have kI : Try.prog.cellsOf 55 = 1 := by kernel_rfl
  rw [hC] at hl
  obtain ⟨v0, v1, v2, v3, v4, v5, rfl⟩ := list6 hl
  obtain ⟨y0, y1, y2, y3, y4, rfl⟩ := list5 hlen
  have f0 := hfld 0 _ rfl
  have f1 := hfld 1 _ rfl
  have f2 := hfld 2 _ rfl
  have f3 := hfld 3 _ rfl
  have f4 := hfld 4 _ rfl
  simp [k3, k4, k9, kT] at f0 f1 f2 f3 f4
  obtain ⟨id, e0, _, w0⟩ := DataW.trod_int Try.underlying3 f0
  obtain ⟨name, e1, _, w1⟩ := DataW.trod_string Try.underlying9 f1
  obtain ⟨ro, e2, _⟩ := DataW.trod_bool Try.underlying4 f2
  obtain ⟨limit, e3, _, w3⟩ := DataW.trod_int Try.underlying3 f3
  obtain ⟨xs', n', _, _, hl', hlen', hfld'⟩ := DataW.trod_struct Try.underlying57 f4
  obtain ⟨z0, z1, rfl⟩ := list2 hlen'
  have g0 := hfld' 0 _ rfl
  have g1 := hfld' 1 _ rfl
  simp [k3, kI] at g0 g1
  obtain ⟨a, cap, rs, e4, hm, hI, hR⟩ := open_inodes g0
  obtain ⟨nx, e5, _, w5⟩ := DataW.trod_int Try.underlying3 g1
  simp only [List.cons.injEq, and_true] at e0 e1 e2 e3 e4 e5
  subst e0 e1 e2 e3 e4 e5
  exact ⟨⟨id, name, ro, limit, a, cap, nx, rs⟩, rfl, ⟨w0, w1, w3, w5, hm, hI⟩, hR⟩
/-- A slice of volumes that came in, opened. -/
theorem open_vols {fuel : Nat} {cs : List Value} {x : DataW H × List MemPlace} (h : DataW.trod enc Try.prog w base (fun _ => true) held fuel 29 cs = some x) :
    ∃ (a : Option Addr) (cap : Nat) (rs : List VolR), cs = [.slice a rs.length cap] ∧ rs.length ≤ maxLen ∧ (∀ r ∈ rs, VolIn r) ∧ RdVo w a rs := by
  rcases Deep.open_slice Try.underlying29 h with ⟨rfl, _⟩ | ⟨a, len, cap, m, n, D, Pl, rfl, _, hl, hm, hmm, _, hx⟩
  · exact ⟨none, 0, [], rfl, Nat.zero_le _, fun q hq => by simp at hq, .inl rfl⟩
  · simp only [if_true] at hmm
    subst hmm
    have hC : Try.prog.cellsOf 59 = 6 := by kernel_rfl
    rw [hC] at hx
    haveI : Inhabited VolR := ⟨volZ⟩
    obtain ⟨f, hf⟩ := Deep.choose_lt (α := VolR) (n := len) (p := fun i q => (w.cell? (a.add (i * 6)) = some (.int .i64 q.id) ∧ w.cell? ((a.add (i * 6)).add 1) = some (.string q.name) ∧ w.cell? ((a.add (i * 6)).add 2) = some (.bool q.ro) ∧ w.cell? ((a.add (i * 6)).add 3) = some (.int .i64 q.limit) ∧ w.cell? ((a.add (i * 6)).add 4) = some (.slice q.a q.rs.length q.cap) ∧ w.cell? ((a.add (i * 6)).add 5) = some (.int .i64 q.nx)) ∧ VolIn q ∧ q.rd w) (fun i hi => by
      obtain ⟨cs', h1, h2⟩ := hx i (by omega)
      obtain ⟨q, hq, hI, hR⟩ := open_vol_cells h2
      obtain ⟨v0, v1, v2, v3, v4, v5, e, k0, k1, k2, k3, k4, k5⟩ := cells_six h1
      rw [hq] at e
      unfold VolR.six at e
      simp only [List.cons.injEq, and_true] at e
      obtain ⟨e0, e1, e2, e3, e4, e5⟩ := e
      exact ⟨q, ⟨by rw [k0, e0], by rw [k1, e1], by rw [k2, e2], by rw [k3, e3], by rw [k4, e4], by rw [k5, e5]⟩, hI, hR⟩)
    refine ⟨some a, m, (List.range len).map f, by simp, by simp; omega, ?_, ?_⟩
    · intro q hq
      obtain ⟨i, hi, rfl⟩ := List.mem_map.1 hq
      exact (hf i (List.mem_range.1 hi)).2.1
    · by_cases h0 : len = 0
      · subst h0; exact .inl rfl
      · obtain ⟨b, off, spot⟩ := a
        have hc0 := (hf 0 (by omega)).1.1
        have hspot : spot = none := by simpa [Addr.add] using World.cell?_spot hc0
        subst hspot
        refine .inr ⟨b, off, rfl, fun i r hi => ?_⟩
        obtain ⟨hi', hr'⟩ := List.getElem?_eq_some_iff.1 hi
        simp only [List.length_map, List.length_range] at hi'
        simp at hr'
        subst hr'
        obtain ⟨⟨k0, k1, k2, k3, k4, k5⟩, _, hR⟩ := hf i hi'
        have e1 : (⟨b, off, none⟩ : Addr).add (i * 6) = ⟨b, off + i * 6, none⟩ := by simp [Addr.add]
        have e2 : ∀ j, (⟨b, off + i * 6, none⟩ : Addr).add j = ⟨b, off + i * 6 + j, none⟩ := fun j => by simp [Addr.add]
        rw [e1] at k0 k1 k2 k3 k4 k5
        rw [e2] at k1 k2 k3 k4 k5
        exact ⟨⟨k0, k1, k2, k3, k4, k5⟩, hR⟩
set_option maxRecDepth 100000 in
theorem open_fs {base' : Nat} {v : Value} {d : DataW H} {p : List MemPlace} (hv : Value.okWide Try.prog w .any base' 31 v) (h : DataW.Trod enc Try.prog w base (fun _ => true) held 31 v d p) :
    ∃ (a : Option Addr) (cap : Nat) (nx : Int) (rs : List VolR), v = .agg #[.slice a rs.length cap, .int .i64 nx] ∧ (Lit.int .i64 nx).wf = true ∧ rs.length ≤ maxLen ∧ (∀ r ∈ rs, VolIn r) ∧ RdVo w a rs := by
  obtain ⟨cs, rfl, hsz⟩ := okWide_struct Try.underlying31 hv
  obtain ⟨fuel, hf⟩ := h
  obtain ⟨xs, n, _, _, hl, hlen, hfld⟩ := DataW.trod_struct Try.underlying31 hf
  have hC : Try.prog.cellsOf 31 = 2 := by kernel_rfl
  have k3 : Try.prog.cellsOf 3 = 1 := by kernel_rfl
  have k22 : Try.prog.cellsOf 29 = 1 := by kernel_rfl
  rw [hC] at hsz
  obtain ⟨l⟩ := cs
  simp only [List.size_toArray] at hsz
  obtain ⟨v0, v1, rfl⟩ := list2 hsz
  obtain ⟨y0, y1, rfl⟩ := list2 hlen
  have f0 := hfld 0 _ rfl
  have f1 := hfld 1 _ rfl
  simp [Value.cells, k3, k22] at f0 f1
  obtain ⟨a, cap, rs, e0, hm, hI, hR⟩ := open_vols f0
  obtain ⟨nx, e1, _, w1⟩ := DataW.trod_int Try.underlying3 f1
  simp only [List.cons.injEq, and_true] at e0 e1
  subst e0 e1
  exact ⟨a, cap, nx, rs, rfl, w1, hm, hI, hR⟩
end
end Go.Proofs.Ytfjlemnohjnkhaa
