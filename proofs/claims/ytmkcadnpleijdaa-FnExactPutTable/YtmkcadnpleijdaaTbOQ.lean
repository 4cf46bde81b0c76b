/-
  A table of the laws that came in by value, opened.
-/
import Derived.Test.YtmkcadnpleijdaaInoOpenQ
import Derived.Test.YtmkcadnpleijdaaTbMQ
import Derived.Test.YtmkcadnpleijdaaChOpenQ
namespace Go.Proofs.Ytmkcadnpleijdaa
open Go.ChangeShapes Go.WideShapes Go.ChangeAt Go.RowKit
theorem Blk.duo {W : World} {B : Nat} {t : TypeId} {v0 v1 : Value} (h : Blk W B t #[v0, v1]) : W.cell? ⟨B, 0, none⟩ = some v0 ∧ W.cell? ⟨B, 1, none⟩ = some v1 := ⟨h.cell 0, h.cell 1⟩
section
variable {H : Type} {enc : TypeId × Value → H} {w : World} {base : Nat} {held : Bool}
theorem list5 {α : Type} {l : List α} (h : l.length = 5) : ∃ a b c d e, l = [a, b, c, d, e] := by
  match l, h with
  | [a, b, c, d, e], _ => exact ⟨a, b, c, d, e, rfl⟩
set_option maxRecDepth 100000 in
set_option maxHeartbeats 1000000 in
theorem open_rws {fuel : Nat} {cs : List Value} {x : DataW H × List MemPlace} (h : DataW.trod enc Try.prog w base (fun _ => true) held fuel 36 cs = some x) :
    ∃ (a : Option Addr) (cap : Nat) (es : List RwD), cs = [.slice a es.length cap] ∧ es.length ≤ maxLen ∧ (∀ r ∈ es, r.name.size ≤ maxLen) ∧ RdRw w a es := by
  obtain ⟨a, cap, es, h1, h2, h3, h4⟩ := open_row rwE (fun r => r.name.size ≤ maxLen) (fun _ => True) Try.underlying36 (by kernel_rfl) (by
    intro n cs' y hy
    obtain ⟨xs, n, _, _, hl, hlen, hfld⟩ := DataW.trod_struct Try.underlying95 hy
    have hC : Try.prog.cellsOf 95 = 5 := by kernel_rfl
    have k3 : Try.prog.cellsOf 3 = 1 := by kernel_rfl
    have k4 : Try.prog.cellsOf 4 = 1 := by kernel_rfl
    have k9 : Try.prog.cellsOf 9 = 1 := by kernel_rfl
    rw [hC] at hl
    obtain ⟨v0, v1, v2, v3, v4, rfl⟩ := list5 hl
    obtain ⟨y0, y1, y2, y3, y4, rfl⟩ := list5 hlen
    have f0 := hfld 0 _ rfl
    have f1 := hfld 1 _ rfl
    have f2 := hfld 2 _ rfl
    have f3 := hfld 3 _ rfl
    have f4 := hfld 4 _ rfl
    simp [k3, k4, k9] at f0 f1 f2 f3 f4
    obtain ⟨id, e0, _, _⟩ := DataW.trod_int Try.underlying3 f0
    obtain ⟨name, e1, _, w1⟩ := DataW.trod_string Try.underlying9 f1
    obtain ⟨ro, e2, _⟩ := DataW.trod_bool Try.underlying4 f2
    obtain ⟨lim, e3, _, _⟩ := DataW.trod_int Try.underlying3 f3
    obtain ⟨mp, e4, _, _⟩ := DataW.trod_int Try.underlying3 f4
    simp only [List.cons.injEq, and_true] at e0 e1 e2 e3 e4
    subst e0 e1 e2 e3 e4
    exact ⟨⟨id, name, ro, lim, mp⟩, rfl, w1, trivial⟩) h
  exact ⟨a, cap, es, h1, h2, h3, h4⟩
set_option maxRecDepth 100000 in
theorem open_table {base' : Nat} {v : Value} {d : DataW H} {p : List MemPlace} (hv : Value.okWide Try.prog w .any base' 38 v) (h : DataW.Trod enc Try.prog w base (fun _ => true) held 38 v d p) :
    ∃ (nx : Int) (a : Option Addr) (cap : Nat) (ps : List RwD), v = .agg #[.int .i64 nx, .slice a ps.length cap] ∧ (Lit.int .i64 nx).wf = true ∧ ps.length ≤ maxLen ∧ (∀ r ∈ ps, r.name.size ≤ maxLen) ∧ RdRw w a ps := by
  obtain ⟨cs, rfl, hsz⟩ := okWide_struct Try.underlying38 hv
  obtain ⟨fuel, hf⟩ := h
  obtain ⟨xs, n, _, _, hl, hlen, hfld⟩ := DataW.trod_struct Try.underlying38 hf
  have hC : Try.prog.cellsOf 38 = 2 := by kernel_rfl
  have k3 : Try.prog.cellsOf 3 = 1 := by kernel_rfl
  have kP : Try.prog.cellsOf 36 = 1 := by kernel_rfl
  rw [hC] at hsz
  obtain ⟨l⟩ := cs
  simp only [List.size_toArray] at hsz
  obtain ⟨v0, v1, rfl⟩ := list2 hsz
  obtain ⟨y0, y1, rfl⟩ := list2 hlen
  have f0 := hfld 0 _ rfl
  have f1 := hfld 1 _ rfl
  simp [Value.cells, k3, kP] at f0 f1
  obtain ⟨nx, e0, _, wn⟩ := DataW.trod_int Try.underlying3 f0
  obtain ⟨a, cap, ps, e1, hm, hI, hR⟩ := open_rws f1
  simp only [List.cons.injEq, and_true] at e0 e1
  subst e0 e1
  exact ⟨nx, a, cap, ps, rfl, wn, hm, hI, hR⟩
end
end Go.Proofs.Ytmkcadnpleijdaa

