/-
  Joined: TbW, TbX.
-/
import Derived.Test.YtmkcadnpleijdaaJ22U
import Derived.Test.YtmkcadnpleijdaaJ24U
import Derived.Deep.OwnRows
import Derived.ArgAppend
import Derived.Deep.AppendSrc
namespace Go.Proofs.Ytmkcadnpleijdaa
section
open Go.RowKit
theorem own_cap {w : World} {g n c : Nat} {zs : List Int} (h : Own w g n c zs) : n ≤ c := by
  rcases h.2 with ⟨h1, h2⟩ | ⟨g', c', cur, h1, _, _, h2, _⟩
  · simp at h1
  · simp only [Value.slice.injEq] at h1; omega
theorem putTableIC (nx : Int) (a : Option Addr) (n cap : Nat) (ps : List RwD) (w : World) (hf : WR w a n ps) :
    Calls Try.prog 9 #[.agg #[.int .i64 nx, .slice a n cap]] w fun e w' => ∃ b d, e = .returned (.slice b (tbPut nx ps).length d) ∧ RowB w' (.slice b (tbPut nx ps).length d) (tbPut nx ps).length (tbPut nx ps) ∧ (tbPut nx ps).length ≤ d ∧ Below w.heap.size w w' := by
  unfold tbPut
  cases hok : tbB nx ps with
  | true =>
    simp only [if_true]
    exact (putTableI_yes nx a n cap ps w hf hok).mono fun e w' ⟨g, d, h1, _, h3, h4⟩ => ⟨some ⟨g, 0, none⟩, d, h1, h3.rowB, own_cap h3, h4⟩
  | false =>
    simp only [Bool.false_eq_true, if_false, List.length_nil]
    exact (putTableI_no nx a n cap ps w hf hok).mono fun e w' ⟨h1, h2⟩ => ⟨none, 0, h1, RowB.nil _, Nat.le_refl _, h2⟩
theorem rowR_wr {B : Nat} {w : World} {a : Option Addr} {c : Nat} {ps : List RwD} (h : w.ownsRow B 35 5 (.slice a ps.length c) ps.length (rwE.xv ps)) (hl : ps.length ≤ 13) (hn : ∀ r ∈ ps, r.name.size ≤ 1048576) : WR w a ps.length ps := by
  obtain ⟨a', c', e, hr⟩ := rowR_form h
  simp only [Value.slice.injEq] at e
  obtain ⟨rfl, _, _⟩ := e
  exact ⟨rfl, by omega, hn, hr⟩
end

section
open Go.RowKit
set_option maxHeartbeats 1000000 in
theorem neqRow_same (x0 : Int) (x1 : ByteArray) (x2 : Bool) (x3 x4 : Int) (w : World) : (binOp .neq 35 (.agg #[.int .i64 x0, .string x1, .bool x2, .int .i64 x3, .int .i64 x4]) (.agg #[.int .i64 x0, .string x1, .bool x2, .int .i64 x3, .int .i64 x4])).run Try.prog w = .ok (.bool false) w := by
  have u3 := Try.underlying3
  have u9 := Try.underlying9
  have u4 := Try.underlying4
  have a3 := Try.isAgg3
  have a9 := Try.isAgg9
  have a4 := Try.isAgg4
  have z4 := Try.sizeOf4
  have z3 := Try.sizeOf3
  have z9 := Try.sizeOf9
  have hS : Try.prog.underlying 35 = some (.struct (Try.prog.fieldsOf 35)) := by kernel_rfl
  have hp : Try.prog.stoodInHeld 35 = false := by kernel_rfl
  rw [run_neq_struct, show (10000 : Nat) = 9999 + 1 from rfl, run_equalIn_agg w 9999 35 _ _ hS hp]
  simp only [Program.fieldsOf, Try.underlying35]
  go_simp
theorem guardRow (op : BinOp) (a b : Operand) (x y : Array Value) (w : World) : (eqGuard op 35 a b (.agg x) (.agg y)).run Try.prog w = .ok () w := run_eqGuard_agg w op 35 a b x y (by kernel_rfl)
end
end Go.Proofs.Ytmkcadnpleijdaa
