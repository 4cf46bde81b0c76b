/-
  A map of the laws that came in by value, opened.
-/
import Derived.Test.YtjaicciilehlnaaInoOpenQ
import Derived.Test.YtjaicciilehlnaaMpMQ
import Derived.Test.YtjaicciilehlnaaChOpenQ
namespace Go.Proofs.Ytjaicciilehlnaa
open Go.ChangeShapes Go.WideShapes Go.ChangeAt Go.RowKit
theorem Blk.duo {W : World} {B : Nat} {t : TypeId} {v0 v1 : Value} (h : Blk W B t #[v0, v1]) : W.cell? ⟨B, 0, none⟩ = some v0 ∧ W.cell? ⟨B, 1, none⟩ = some v1 := ⟨h.cell 0, h.cell 1⟩
section
variable {H : Type} {enc : TypeId × Value → H} {w : World} {base : Nat} {held : Bool}
set_option maxRecDepth 100000 in
set_option maxHeartbeats 1000000 in
theorem open_pls {fuel : Nat} {cs : List Value} {x : DataW H × List MemPlace} (h : DataW.trod enc Try.prog w base (fun _ => true) held fuel 37 cs = some x) :
    ∃ (a : Option Addr) (cap : Nat) (es : List PlD), cs = [.slice a es.length cap] ∧ es.length ≤ maxLen ∧ RdPl w a es := by
  obtain ⟨a, cap, es, h1, h2, _, h3⟩ := open_row plE (fun _ => True) (fun _ => True) Try.underlying37 (by kernel_rfl) (by
    intro n cs' y hy
    obtain ⟨xs, n, _, _, hl, hlen, hfld⟩ := DataW.trod_struct Try.underlying82 hy
    have hC : Try.prog.cellsOf 82 = 2 := by kernel_rfl
    have k3 : Try.prog.cellsOf 3 = 1 := by kernel_rfl
    rw [hC] at hl
    obtain ⟨v0, v1, rfl⟩ := list2 hl
    obtain ⟨y0, y1, rfl⟩ := list2 hlen
    have f0 := hfld 0 _ rfl
    have f1 := hfld 1 _ rfl
    simp [k3] at f0 f1
    obtain ⟨t, e0, _, _⟩ := DataW.trod_int Try.underlying3 f0
    obtain ⟨k, e1, _, _⟩ := DataW.trod_int Try.underlying3 f1
    simp only [List.cons.injEq, and_true] at e0 e1
    subst e0 e1
    exact ⟨⟨t, k⟩, rfl, trivial, trivial⟩) h
  exact ⟨a, cap, es, h1, h2, h3⟩
set_option maxRecDepth 100000 in
theorem open_map {base' : Nat} {v : Value} {d : DataW H} {p : List MemPlace} (hv : Value.okWide Try.prog w .any base' 39 v) (h : DataW.Trod enc Try.prog w base (fun _ => true) held 39 v d p) :
    ∃ (nx : Int) (a : Option Addr) (cap : Nat) (ps : List PlD), v = .agg #[.int .i64 nx, .slice a ps.length cap] ∧ (Lit.int .i64 nx).wf = true ∧ ps.length ≤ maxLen ∧ RdPl w a ps := by
  obtain ⟨cs, rfl, hsz⟩ := okWide_struct Try.underlying39 hv
  obtain ⟨fuel, hf⟩ := h
  obtain ⟨xs, n, _, _, hl, hlen, hfld⟩ := DataW.trod_struct Try.underlying39 hf
  have hC : Try.prog.cellsOf 39 = 2 := by kernel_rfl
  have k3 : Try.prog.cellsOf 3 = 1 := by kernel_rfl
  have kP : Try.prog.cellsOf 37 = 1 := by kernel_rfl
  rw [hC] at hsz
  obtain ⟨l⟩ := cs
  simp only [List.size_toArray] at hsz
  obtain ⟨v0, v1, rfl⟩ := list2 hsz
  obtain ⟨y0, y1, rfl⟩ := list2 hlen
  have f0 := hfld 0 _ rfl
  have f1 := hfld 1 _ rfl
  simp [Value.cells, k3, kP] at f0 f1
  obtain ⟨nx, e0, _, wn⟩ := DataW.trod_int Try.underlying3 f0
  obtain ⟨a, cap, ps, e1, hm, hR⟩ := open_pls f1
  simp only [List.cons.injEq, and_true] at e0 e1
  subst e0 e1
  exact ⟨nx, a, cap, ps, rfl, wn, hm, hR⟩
end
end Go.Proofs.Ytjaicciilehlnaa

