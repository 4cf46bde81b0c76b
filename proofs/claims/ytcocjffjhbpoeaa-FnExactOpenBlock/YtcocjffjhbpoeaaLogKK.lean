/-
  The laws' marks in a log.
-/
import Derived.Test.YtcocjffjhbpoeaaJ13K
namespace Go.Proofs.Ytcocjffjhbpoeaa
open Go.RowKit
set_option maxHeartbeats 1600000 in
theorem markLg_any {w : World} {B n c m fc : Nat} {a fa : Option Addr} {ds : List BkD} {fs : List FtD} {qs : List BkR} (ops : Int) (down : Bool) (seq : Int) (hs : 1 + cBs qs + 3 * m ≤ 9999990) (h : NewDv w B a n c fa m fc ds fs qs) :
    Calls Try.prog 18 #[.agg #[.slice a n c, .int .i64 ops, .slice fa m fc, .bool down, .int .i64 seq], .int .i64 1] w fun e w' => e = .returned (.int .i64 ((1 + cBs qs + 3 * m : Nat) : Int)) ∧ MkDv w' (.slice a n c) m fc fa qs ∧ Sv (fpDv a n c fa m fc qs) w w' := by
  have B0 : Below w.heap.size w (w.alloc (.cells #[.slice a n c, .int .i64 ops, .slice fa m fc, .bool down, .int .i64 seq] 39)) := (Below.refl _ w).alloc (Nat.le_refl _) _
  have hcall := markDv_any ops down hs (h.keep B0)
  have HB : Hid _ := B0
  obtain ⟨Q, hQ⟩ : ∃ Q, 1 + cBs qs + 3 * m = Q := ⟨_, rfl⟩
  rw [hQ] at hcall ⊢
  clear h B0
  go_enter Try.func18, Try.ntmps18
  go_wp2_with fail
  refine hcall.mono ?_
  rintro e w1 ⟨rfl, hO, hsv⟩
  clear hcall
  go_wp2
  go_ret
  exact ⟨rfl, hO, (Below.sv HB.out _).trans hsv⟩
end Go.Proofs.Ytcocjffjhbpoeaa

