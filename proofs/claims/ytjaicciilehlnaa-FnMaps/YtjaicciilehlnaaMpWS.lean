/-
  What the walk of FnMaps shares: the bytes that are put have room; a map's places kept.
-/
import Derived.Test.YtjaicciilehlnaaJ22S
import Derived.Test.YtjaicciilehlnaaJ23S
import Derived.ArgAppend
import Derived.Deep.OwnRows
import Derived.Deep.AppendSrc
namespace Go.Proofs.Ytjaicciilehlnaa
open Go.RowKit
theorem own_cap {w : World} {g n c : Nat} {zs : List Int} (h : Own w g n c zs) : n ≤ c := by
  rcases h.2 with ⟨h1, h2⟩ | ⟨g', c', cur, h1, _, _, h2, _⟩
  · simp at h1
  · simp only [Value.slice.injEq] at h1; omega
theorem putMapIC (nx : Int) (a : Option Addr) (n cap : Nat) (ps : List PlD) (w : World) (hf : PR w a n ps) :
    Calls Try.prog 10 #[.agg #[.int .i64 nx, .slice a n cap]] w fun e w' => ∃ b d, e = .returned (.slice b (mpPut nx ps).length d) ∧ RowB w' (.slice b (mpPut nx ps).length d) (mpPut nx ps).length (mpPut nx ps) ∧ (mpPut nx ps).length ≤ d ∧ Below w.heap.size w w' := by
  unfold mpPut
  cases hok : mpB nx ps with
  | true =>
    simp only [if_true]
    exact (putMapI_yes nx a n cap ps w hf hok).mono fun e w' ⟨g, d, h1, _, h3, h4⟩ => ⟨some ⟨g, 0, none⟩, d, h1, h3.rowB, own_cap h3, h4⟩
  | false =>
    simp only [Bool.false_eq_true, if_false, List.length_nil]
    exact (putMapI_no nx a n cap ps w hf hok).mono fun e w' ⟨h1, h2⟩ => ⟨none, 0, h1, RowB.nil _, Nat.le_refl _, h2⟩
theorem rowM_pr {B : Nat} {w : World} {a : Option Addr} {c : Nat} {ps : List PlD} (h : w.ownsRow B 36 2 (.slice a ps.length c) ps.length (plE.xv ps)) (hl : ps.length ≤ 13) : PR w a ps.length ps := by
  obtain ⟨a', c', e, hr⟩ := rowM_form h
  simp only [Value.slice.injEq] at e
  obtain ⟨rfl, _, _⟩ := e
  exact ⟨rfl, by omega, hr⟩
end Go.Proofs.Ytjaicciilehlnaa

