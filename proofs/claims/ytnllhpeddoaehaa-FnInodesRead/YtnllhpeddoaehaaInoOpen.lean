/-
  An inode of the laws that came in by value, opened: its numbers, its bytes, its entries, its attributes.
-/
import Derived.Test.YtnllhpeddoaehaaEqIno
import Derived.ProofKit
import Derived.OpenShut
import Derived.ChangeOld
import Derived.Below
namespace Go.Proofs.Ytnllhpeddoaehaa
open Go.ChangeShapes Go.WideShapes Go.ChangeAt Go.RowKit

section
variable {H : Type} {enc : TypeId × Value → H} {w : World} {base : Nat} {held : Bool}

theorem cells_two {a : Addr} {cs : List Value} (h : w.cells? base a 2 = some cs) : ∃ v0 v1, cs = [v0, v1] ∧ w.cell? a = some v0 ∧ w.cell? (a.add 1) = some v1 := by
  unfold World.cells? at h
  split at h
  · have e : List.range 2 = [0, 1] := rfl
    rw [e] at h
    simp only [List.mapM_cons, List.mapM_nil, Option.bind_eq_bind, Option.pure_def, Option.bind_eq_some_iff, Option.some.injEq] at h
    obtain ⟨v0, h0, _, ⟨v1, h1, _, rfl, rfl⟩, rfl⟩ := h
    exact ⟨v0, v1, rfl, by simpa [Addr.add] using h0, h1⟩
  · simp at h

/-- A slice of pairs that came in, opened. -/
theorem open_pairs {P : Program} {α : Type} [Inhabited α] (en : α → VP) (R : α → Prop) {t e : TypeId} {fuel : Nat} {cs : List Value} {x : DataW H × List MemPlace} (ht : P.underlying t = some (.slice e)) (hc : P.cellsOf e = 2)
    (hel : ∀ n cs' y, DataW.trod enc P w base (fun _ => true) held n e cs' = some y → ∃ q, cs' = [(en q).1, (en q).2] ∧ R q)
    (h : DataW.trod enc P w base (fun _ => true) held fuel t cs = some x) :
    ∃ (a : Option Addr) (len cap : Nat) (es : List α), cs = [.slice a len cap] ∧ len ≤ maxLen ∧ es.length = len ∧ (∀ q ∈ es, R q) ∧ RdP w a (es.map en) := by
  rcases Deep.open_slice ht h with ⟨rfl, _⟩ | ⟨a, len, cap, m, n, D, Pl, rfl, _, hl, hm, hmm, _, hx⟩
  · exact ⟨none, 0, 0, [], rfl, Nat.zero_le _, rfl, fun q hq => by simp at hq, .inl rfl⟩
  · simp only [if_true] at hmm
    subst hmm
    rw [hc] at hx
    obtain ⟨f, hf⟩ := Deep.choose_lt (α := α) (n := len) (p := fun i q => (w.cell? (a.add (i * 2)) = some (en q).1 ∧ w.cell? ((a.add (i * 2)).add 1) = some (en q).2) ∧ R q) (fun i hi => by
      obtain ⟨cs', h1, h2⟩ := hx i (by omega)
      obtain ⟨q, hq, hR⟩ := hel n cs' _ h2
      obtain ⟨v0, v1, e, k0, k1⟩ := cells_two h1
      rw [hq] at e
      simp only [List.cons.injEq, and_true] at e
      exact ⟨q, ⟨by rw [k0, e.1], by rw [k1, e.2]⟩, hR⟩)
    refine ⟨some a, len, m, (List.range len).map f, rfl, Nat.le_trans hl hm, by simp, ?_, ?_⟩
    · intro q hq
      obtain ⟨i, hi, rfl⟩ := List.mem_map.1 hq
      exact (hf i (List.mem_range.1 hi)).2
    · by_cases h0 : len = 0
      · subst h0; exact .inl rfl
      · obtain ⟨b, off, spot⟩ := a
        have hc0 := (hf 0 (by omega)).1.1
        have hspot : spot = none := by simpa [Addr.add] using World.cell?_spot hc0
        subst hspot
        refine .inr ⟨b, off, rfl, fun i hi => ?_⟩
        simp only [List.length_map, List.length_range] at hi
        obtain ⟨⟨k0, k1⟩, _⟩ := hf i hi
        have e1 : (⟨b, off, none⟩ : Addr).add (i * 2) = ⟨b, off + i * 2, none⟩ := by simp [Addr.add]
        have e2 : (⟨b, off + i * 2, none⟩ : Addr).add 1 = ⟨b, off + i * 2 + 1, none⟩ := by simp [Addr.add]
        rw [e1] at k0 k1
        rw [e2] at k1
        have ed : (List.map en (List.map f (List.range len))).getD i (undef, undef) = en (f i) := by simp [hi]
        rw [ed]
        exact ⟨k0, k1⟩

/-- What is known of an inode that came in. -/
structure InoIn (D : InoD) : Prop where
  ino : (Lit.int .i64 D.ino).wf = true
  kind : (Lit.int .i64 D.kind).wf = true
  links : (Lit.int .i64 D.links).wf = true
  data : D.data.length ≤ maxLen
  ents : D.ents.length ≤ maxLen
  attrs : D.attrs.length ≤ maxLen
  entsz : ∀ q ∈ D.ents, q.1.size ≤ maxLen ∧ (Lit.int .i64 q.2).wf = true
  attrsz : ∀ q ∈ D.attrs, q.1.size ≤ maxLen ∧ q.2.size ≤ maxLen

theorem list2 {α : Type} {l : List α} (h : l.length = 2) : ∃ a b, l = [a, b] := by
  match l, h with
  | [a, b], _ => exact ⟨a, b, rfl⟩
theorem list6 {α : Type} {l : List α} (h : l.length = 6) : ∃ a b c d e f, l = [a, b, c, d, e, f] := by
  match l, h with
  | [a, b, c, d, e, f], _ => exact ⟨a, b, c, d, e, f, rfl⟩

set_option maxRecDepth 100000 in
set_option maxHeartbeats 1000000 in
theorem open_inode {base' : Nat} {v : Value} {d : DataW H} {p : List MemPlace} (hv : Value.okWide Try.prog w .any base' 66 v) (h : DataW.Trod enc Try.prog w base (fun _ => true) held 66 v d p) :
    ∃ (D : InoD) (a1 : Option Addr) (c1 : Nat) (a2 : Option Addr) (c2 : Nat) (a3 : Option Addr) (c3 : Nat), v = inoV D a1 c1 a2 c2 a3 c3 ∧ InoIn D ∧ InoRd w D a1 a2 a3 := by
  obtain ⟨cs, rfl, hsz⟩ := okWide_struct Try.underlying66 hv
  obtain ⟨fuel, hf⟩ := h
  obtain ⟨xs, n, _, _, hl, hlen, hfld⟩ := DataW.trod_struct Try.underlying66 hf
  have hC : Try.prog.cellsOf 66 = 6 := by kernel_rfl
  have k3 : Try.prog.cellsOf 3 = 1 := by kernel_rfl
  have k22 : Try.prog.cellsOf 22 = 1 := by kernel_rfl
  have k41 : Try.prog.cellsOf 63 = 1 := by kernel_rfl
  have k42 : Try.prog.cellsOf 64 = 1 := by kernel_rfl
  rw [hC] at hsz
  obtain ⟨l⟩ := cs
  simp only [List.size_toArray] at hsz
  obtain ⟨v0, v1, v2, v3, v4, v5, rfl⟩ := list6 hsz
  obtain ⟨y0, y1, y2, y3, y4, y5, rfl⟩ := list6 hlen
  have f0 := hfld 0 _ rfl
  have f1 := hfld 1 _ rfl
  have f2 := hfld 2 _ rfl
  have f3 := hfld 3 _ rfl
  have f4 := hfld 4 _ rfl
  have f5 := hfld 5 _ rfl
  simp [Value.cells, k3, k22, k41, k42] at f0 f1 f2 f3 f4 f5
  obtain ⟨ino, e0, _, w0⟩ := DataW.trod_int Try.underlying3 f0
  obtain ⟨kind, e1, _, w1⟩ := DataW.trod_int Try.underlying3 f1
  obtain ⟨links, e2, _, w2⟩ := DataW.trod_int Try.underlying3 f2
  obtain ⟨a2, n2, c2, es, e4, m2, l2, q2, p2⟩ := open_pairs (α := ByteArray × Int) (fun e => (.string e.1, .int .i64 e.2)) (fun q => q.1.size ≤ maxLen ∧ (Lit.int .i64 q.2).wf = true) Try.underlying63 (by kernel_rfl) (by
    intro n cs' y hy
    obtain ⟨y0, y1, n', _, hcl, g0, g1⟩ := trod_struct2 Try.underlying141 hy
    have hc2 : Try.prog.cellsOf 141 = 2 := by kernel_rfl
    have k9 : Try.prog.cellsOf 9 = 1 := by kernel_rfl
    rw [hc2] at hcl
    obtain ⟨u0, u1, rfl⟩ := list2 hcl
    simp [k3, k9] at g0 g1
    obtain ⟨z, ez, _, hz⟩ := DataW.trod_string Try.underlying9 g0
    obtain ⟨x, ex, _, hx⟩ := DataW.trod_int Try.underlying3 g1
    simp only [List.cons.injEq, and_true] at ez ex
    exact ⟨(z, x), by rw [ez, ex], hz, hx⟩) f4
  obtain ⟨a3, n3, c3, ats, e5, m3, l3, q3, p3⟩ := open_pairs (α := ByteArray × ByteArray) (fun e => (.string e.1, .string e.2)) (fun q => q.1.size ≤ maxLen ∧ q.2.size ≤ maxLen) Try.underlying64 (by kernel_rfl) (by
    intro n cs' y hy
    obtain ⟨y0, y1, n', _, hcl, g0, g1⟩ := trod_struct2 Try.underlying143 hy
    have hc2 : Try.prog.cellsOf 143 = 2 := by kernel_rfl
    have k9 : Try.prog.cellsOf 9 = 1 := by kernel_rfl
    rw [hc2] at hcl
    obtain ⟨u0, u1, rfl⟩ := list2 hcl
    simp [k9] at g0 g1
    obtain ⟨z, ez, _, hz⟩ := DataW.trod_string Try.underlying9 g0
    obtain ⟨x, ex, _, hx⟩ := DataW.trod_string Try.underlying9 g1
    simp only [List.cons.injEq, and_true] at ez ex
    exact ⟨(z, x), by rw [ez, ex], hz, hx⟩) f5
  obtain ⟨a1, n1, c1, zs, e3, m1, l1, r1, b1⟩ : ∃ (a1 : Option Addr) (n1 c1 : Nat) (zs : List Int), [v3] = [.slice a1 n1 c1] ∧ n1 ≤ maxLen ∧ zs.length = n1 ∧ Rd w a1 zs ∧ Byt zs := by
    rcases open_ints Try.underlying22 Try.underlying5 (by kernel_rfl) f3 with ⟨hcs, _⟩ | ⟨x, l, c, zs, hcs, _, hl, hm, hz, _, hcell, hwz⟩
    · exact ⟨none, 0, 0, [], hcs, Nat.zero_le _, rfl, .inl rfl, fun z hz => by simp at hz⟩
    · obtain ⟨ys, hy, hr, hb⟩ := rd_of_row (w := w) (a := some x) (len := l) (cap := c) (zs := zs) (.inr ⟨x, rfl, hl, hm, by simpa using hz, hcell, hwz⟩)
      exact ⟨some x, l, c, ys, hcs, Nat.le_trans hl hm, hy, hr, hb⟩
  simp only [List.cons.injEq, and_true] at e0 e1 e2 e3 e4 e5
  subst e0 e1 e2 e3 e4 e5 l1 l2 l3
  exact ⟨⟨ino, kind, links, zs, es, ats⟩, a1, c1, a2, c2, a3, c3, rfl, ⟨w0, w1, w2, m1, m2, m3, q2, q3⟩, ⟨r1, b1, p2, p3⟩⟩
end
end Go.Proofs.Ytnllhpeddoaehaa
