/-
  A table of the laws that came in by value, opened: its inodes, its next number.
-/
import Derived.Test.YtfjlemnohjnkhaaRows
import Derived.Test.YtfjlemnohjnkhaaBase
import Derived.Test.YtfjlemnohjnkhaaPut
import Derived.Test.YtfjlemnohjnkhaaPairs
import Derived.Test.YtfjlemnohjnkhaaInode
import Derived.Test.YtfjlemnohjnkhaaInoOpen
import Derived.Test.YtfjlemnohjnkhaaSix
import Derived.Test.YtfjlemnohjnkhaaTabM
import Derived.WalkKit
import Derived.WalkSpells
import Derived.WalkLawsBesides
import Derived.Deep.QuietTactic
import Derived.BigQuiet
import Derived.OpenShut
import Derived.Laws.BitsAllLaws
import Derived.Maps.AppendAt
import Derived.Lib.SliceRun
import Derived.Lib.Strings
import Derived.Deep.RegionWith
import Derived.Laws.IdiomStrings
import Derived.Deep.Slices
import Derived.ProofKit
import Derived.ChangeOld
import Derived.Below
namespace Go.Proofs.Ytfjlemnohjnkhaa
open Go.ChangeShapes Go.WideShapes Go.ChangeAt Go.RowKit
section
variable {H : Type} {enc : TypeId × Value → H} {w : World} {base : Nat} {held : Bool}
theorem cells_six {a : Addr} {cs : List Value} (h : w.cells? base a 6 = some cs) : ∃ v0 v1 v2 v3 v4 v5, cs = [v0, v1, v2, v3, v4, v5] ∧ w.cell? a = some v0 ∧ w.cell? (a.add 1) = some v1 ∧ w.cell? (a.add 2) = some v2 ∧ w.cell? (a.add 3) = some v3 ∧ w.cell? (a.add 4) = some v4 ∧ w.cell? (a.add 5) = some v5 := by
  unfold World.cells? at h
  split at h
  · have e : List.range 6 = [0, 1, 2, 3, 4, 5] := rfl
    rw [e] at h
    simp only [List.mapM_cons, List.mapM_nil, Option.bind_eq_bind, Option.pure_def, Option.bind_eq_some_iff, Option.some.injEq] at h
    obtain ⟨v0, h0, _, ⟨v1, h1, _, ⟨v2, h2, _, ⟨v3, h3, _, ⟨v4, h4, _, ⟨v5, h5, _, rfl, rfl⟩, rfl⟩, rfl⟩, rfl⟩, rfl⟩, rfl⟩ := h
    exact ⟨v0, v1, v2, v3, v4, v5, rfl, by simpa [Addr.add] using h0, h1, h2, h3, h4, h5⟩
  · simp at h
set_option maxRecDepth 100000 in
set_option maxHeartbeats 1000000 in
theorem open_inode_cells {fuel : Nat} {cs : List Value} {x : DataW H × List MemPlace} (hf : DataW.trod enc Try.prog w base (fun _ => true) held fuel 89 cs = some x) :
    ∃ r : InoR, cs = r.six ∧ InoIn r.D ∧ r.rd w := by
  obtain ⟨xs, n, _, _, hl, hlen, hfld⟩ := DataW.trod_struct Try.underlying89 hf
  have hC : Try.prog.cellsOf 89 = 6 := by kernel_rfl
  have k3 : Try.prog.cellsOf 3 = 1 := by kernel_rfl
  have k22 : Try.prog.cellsOf 62 = 1 := by kernel_rfl
  have k41 : Try.prog.cellsOf 86 = 1 := by kernel_rfl
  have k42 : Try.prog.cellsOf 87 = 1 := by kernel_rfl
  rw [hC] at hl
  obtain ⟨v0, v1, v2, v3, v4, v5, rfl⟩ := list6 hl
  obtain ⟨y0, y1, y2, y3, y4, y5, rfl⟩ := list6 hlen
  have f0 := hfld 0 _ rfl
  have f1 := hfld 1 _ rfl
  have f2 := hfld 2 _ rfl
  have f3 := hfld 3 _ rfl
  have f4 := hfld 4 _ rfl
  have f5 := hfld 5 _ rfl
  simp [k3, k22, k41, k42] at f0 f1 f2 f3 f4 f5
  obtain ⟨ino, e0, _, w0⟩ := DataW.trod_int Try.underlying3 f0
  obtain ⟨kind, e1, _, w1⟩ := DataW.trod_int Try.underlying3 f1
  obtain ⟨links, e2, _, w2⟩ := DataW.trod_int Try.underlying3 f2
  obtain ⟨a2, n2, c2, es, e4, m2, l2, q2, p2⟩ := open_pairs (α := ByteArray × Int) (fun e => (.string e.1, .int .i64 e.2)) (fun q => q.1.size ≤ maxLen ∧ (Lit.int .i64 q.2).wf = true) Try.underlying86 (by kernel_rfl) (by
    intro n cs' y hy
    obtain ⟨y0, y1, n', _, hcl, g0, g1⟩ := trod_struct2 Try.underlying101 hy
    have hc2 : Try.prog.cellsOf 101 = 2 := by kernel_rfl
    have k9 : Try.prog.cellsOf 9 = 1 := by kernel_rfl
    rw [hc2] at hcl
    obtain ⟨u0, u1, rfl⟩ := list2 hcl
    simp [k3, k9] at g0 g1
    obtain ⟨z, ez, _, hz⟩ := DataW.trod_string Try.underlying9 g0
    obtain ⟨x, ex, _, hx⟩ := DataW.trod_int Try.underlying3 g1
    simp only [List.cons.injEq, and_true] at ez ex
    exact ⟨(z, x), by rw [ez, ex], hz, hx⟩) f4
  obtain ⟨a3, n3, c3, ats, e5, m3, l3, q3, p3⟩ := open_pairs (α := ByteArray × ByteArray) (fun e => (.string e.1, .string e.2)) (fun q => q.1.size ≤ maxLen ∧ q.2.size ≤ maxLen) Try.underlying87 (by kernel_rfl) (by
    intro n cs' y hy
    obtain ⟨y0, y1, n', _, hcl, g0, g1⟩ := trod_struct2 Try.underlying103 hy
    have hc2 : Try.prog.cellsOf 103 = 2 := by kernel_rfl
    have k9 : Try.prog.cellsOf 9 = 1 := by kernel_rfl
    rw [hc2] at hcl
    obtain ⟨u0, u1, rfl⟩ := list2 hcl
    simp [k9] at g0 g1
    obtain ⟨z, ez, _, hz⟩ := DataW.trod_string Try.underlying9 g0
    obtain ⟨x, ex, _, hx⟩ := DataW.trod_string Try.underlying9 g1
    simp only [List.cons.injEq, and_true] at ez ex
    exact ⟨(z, x), by rw [ez, ex], hz, hx⟩) f5
  obtain ⟨a1, n1, c1, zs, e3, m1, l1, r1, b1⟩ : ∃ (a1 : Option Addr) (n1 c1 : Nat) (zs : List Int), [v3] = [.slice a1 n1 c1] ∧ n1 ≤ maxLen ∧ zs.length = n1 ∧ Rd w a1 zs ∧ Byt zs := by
    rcases open_ints Try.underlying62 Try.underlying5 (by kernel_rfl) f3 with ⟨hcs, _⟩ | ⟨x, l, c, zs, hcs, _, hl, hm, hz, _, hcell, hwz⟩
    · exact ⟨none, 0, 0, [], hcs, Nat.zero_le _, rfl, .inl rfl, fun z hz => by simp at hz⟩
    · obtain ⟨ys, hy, hr, hb⟩ := rd_of_row (w := w) (a := some x) (len := l) (cap := c) (zs := zs) (.inr ⟨x, rfl, hl, hm, by simpa using hz, hcell, hwz⟩)
      exact ⟨some x, l, c, ys, hcs, Nat.le_trans hl hm, hy, hr, hb⟩
  simp only [List.cons.injEq, and_true] at e0 e1 e2 e3 e4 e5
  subst e0 e1 e2 e3 e4 e5 l1 l2 l3
  exact ⟨⟨⟨ino, kind, links, zs, es, ats⟩, a1, c1, a2, c2, a3, c3⟩, rfl, ⟨w0, w1, w2, m1, m2, m3, q2, q3⟩, ⟨r1, b1, p2, p3⟩⟩
/-- A slice of inodes that came in, opened. -/
theorem open_inodes {fuel : Nat} {cs : List Value} {x : DataW H × List MemPlace} (h : DataW.trod enc Try.prog w base (fun _ => true) held fuel 55 cs = some x) :
    ∃ (a : Option Addr) (cap : Nat) (rs : List InoR), cs = [.slice a rs.length cap] ∧ rs.length ≤ maxLen ∧ (∀ r ∈ rs, InoIn r.D) ∧ RdI w a rs := by
  rcases Deep.open_slice Try.underlying55 h with ⟨rfl, _⟩ | ⟨a, len, cap, m, n, D, Pl, rfl, _, hl, hm, hmm, _, hx⟩
  · exact ⟨none, 0, [], rfl, Nat.zero_le _, fun q hq => by simp at hq, .inl rfl⟩
  · simp only [if_true] at hmm
    subst hmm
    have hC : Try.prog.cellsOf 89 = 6 := by kernel_rfl
    rw [hC] at hx
    haveI : Inhabited InoR := ⟨inoZ⟩
    obtain ⟨f, hf⟩ := Deep.choose_lt (α := InoR) (n := len) (p := fun i q => (w.cell? (a.add (i * 6)) = some (.int .i64 q.D.ino) ∧ w.cell? ((a.add (i * 6)).add 1) = some (.int .i64 q.D.kind) ∧ w.cell? ((a.add (i * 6)).add 2) = some (.int .i64 q.D.links) ∧ w.cell? ((a.add (i * 6)).add 3) = some (.slice q.a1 q.D.data.length q.c1) ∧ w.cell? ((a.add (i * 6)).add 4) = some (.slice q.a2 q.D.ents.length q.c2) ∧ w.cell? ((a.add (i * 6)).add 5) = some (.slice q.a3 q.D.attrs.length q.c3)) ∧ InoIn q.D ∧ q.rd w) (fun i hi => by
      obtain ⟨cs', h1, h2⟩ := hx i (by omega)
      obtain ⟨q, hq, hI, hR⟩ := open_inode_cells h2
      obtain ⟨v0, v1, v2, v3, v4, v5, e, k0, k1, k2, k3, k4, k5⟩ := cells_six h1
      rw [hq] at e
      unfold InoR.six at e
      simp only [List.cons.injEq, and_true] at e
      obtain ⟨e0, e1, e2, e3, e4, e5⟩ := e
      exact ⟨q, ⟨by rw [k0, e0], by rw [k1, e1], by rw [k2, e2], by rw [k3, e3], by rw [k4, e4], by rw [k5, e5]⟩, hI, hR⟩)
    refine ⟨some a, m, (List.range len).map f, by simp, by simp; omega, ?_, ?_⟩
    · intro q hq
      obtain ⟨i, hi, rfl⟩ := List.mem_map.1 hq
      exact (hf i (List.mem_range.1 hi)).2.1
    · by_cases h0 : len = 0
      · subst h0; exact .inl rfl
      · obtain ⟨b, off, spot⟩ := a
        have hc0 := (hf 0 (by omega)).1.1
        have hspot : spot = none := by simpa [Addr.add] using World.cell?_spot hc0
        subst hspot
        refine .inr ⟨b, off, rfl, fun i r hi => ?_⟩
        obtain ⟨hi', hr'⟩ := List.getElem?_eq_some_iff.1 hi
        simp only [List.length_map, List.length_range] at hi'
        simp at hr'
        subst hr'
        obtain ⟨⟨k0, k1, k2, k3, k4, k5⟩, _, hR⟩ := hf i hi'
        have e1 : (⟨b, off, none⟩ : Addr).add (i * 6) = ⟨b, off + i * 6, none⟩ := by simp [Addr.add]
        have e2 : ∀ j, (⟨b, off + i * 6, none⟩ : Addr).add j = ⟨b, off + i * 6 + j, none⟩ := fun j => by simp [Addr.add]
        rw [e1] at k0 k1 k2 k3 k4 k5
        rw [e2] at k1 k2 k3 k4 k5
        exact ⟨⟨k0, k1, k2, k3, k4, k5⟩, hR⟩
end
end Go.Proofs.Ytfjlemnohjnkhaa
