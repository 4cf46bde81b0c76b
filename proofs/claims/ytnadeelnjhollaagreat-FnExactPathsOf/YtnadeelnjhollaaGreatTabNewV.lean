/-
  The new table: what both TabNew functions answer; the laws' marks in a table.
-/
import Derived.Test.YtnadeelnjhollaaGreatTabWV
import Derived.Test.YtnadeelnjhollaaGreatMarkTabV
namespace Go.Proofs.YtnadeelnjhollaaGreat
open Go.RowKit
theorem OwnI.rds {w : World} {g n cap : Nat} {rs : List InoR} (h : OwnI w g n cap rs) (hr : ∀ r ∈ rs, r.rd w) : RdI w (some ⟨g, 0, none⟩) rs :=
  .inr ⟨g, 0, rfl, fun i r hi => by
    rw [Nat.zero_add]
    exact ⟨h.six i r hi, hr r (List.mem_of_getElem? hi)⟩⟩
theorem TabL.keep {w W W' : World} {g n cap Lo Hi k0 k : Nat} {js : List InoJ} (h : TabL w W g n cap Lo Hi k0 js k) (hap : ApJ g Lo Hi js) (hH : Hi ≤ W.heap.size) (hb : Below W.heap.size W W') : TabL w W' g n cap Lo Hi k0 js k :=
  ⟨h.row.keep hb, fun i j hj hi => InoG.keep (h.old i j hj hi) (Nat.le_trans (hap.within i j hj).2 hH) hb, fun i j hj hi => InoGM.keep (h.new i j hj hi) (Nat.le_trans (hap.within i j hj).2 hH) hb, h.out.trans (Below.out hb Lo Hi)⟩
theorem TabL.from {w0 w W : World} {g n cap Lo Hi k0 k : Nat} {js : List InoJ} (h : TabL w W g n cap Lo Hi k0 js k) (k' : Out Lo Hi w0 w) : TabL w0 W g n cap Lo Hi k0 js k := ⟨h.row, h.old, h.new, k'.trans h.out⟩
set_option maxHeartbeats 800000 in
theorem markTab_any (nx : Int) (g n cap Lo Hi k0 : Nat) (js : List InoJ) (w : World) (hn : js.length = n) (hk0 : 1 ≤ k0) (hs : n ≤ 2000000) (hq : qAt k0 js n ≤ 9999990) (hap : ApJ g Lo Hi js) (hH : Hi ≤ w.heap.size) (hown : OwnI w g n cap (js.map InoJ.r)) (hG : ∀ (i : Nat) (j : InoJ), js[i]? = some j → j.G w) :
    Calls Tryz.prog 11 #[.agg #[.slice (some ⟨g, 0, none⟩) n cap, .int .i64 nx], .int .i64 k0] w fun e w' => e = .returned (.int .i64 ((qAt k0 js n : Nat) : Int)) ∧ TabL w w' g n cap Lo Hi k0 js n := by
  have b0 : Below w.heap.size w (w.alloc (.cells #[.slice (some ⟨g, 0, none⟩) n cap, .int .i64 nx] 30)) := (Below.refl _ w).alloc (Nat.le_refl _) _
  have hc := markInodeS_any g n cap Lo Hi k0 js (w.alloc (.cells #[.slice (some ⟨g, 0, none⟩) n cap, .int .i64 nx] 30)) hn hk0 hs hq hap (Nat.le_trans hH b0.size) (hown.keep b0) (fun i j h => InoG.keep (hG i j h) (Nat.le_trans (hap.within i j h).2 hH) b0)
  have HB : Hid _ := b0
  generalize qAt k0 js n = q at hc hq ⊢
  clear hown hG hap b0
  go_enter Tryz.func11, Tryz.ntmps11
  go_wp2_with fail
  refine hc.mono ?_
  rintro e w1 ⟨rfl, hT⟩
  have HT : Hid _ := hT
  clear hT hc
  go_wp2
  go_ret
  exact ⟨rfl, TabL.from HT.out (Below.out HB.out Lo Hi)⟩
end Go.Proofs.YtnadeelnjhollaaGreat
