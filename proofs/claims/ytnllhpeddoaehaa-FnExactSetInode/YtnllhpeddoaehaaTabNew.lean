/-
  The new table: what both TabNew functions answer; the laws' marks in a table.
-/
import Derived.Test.YtnllhpeddoaehaaMarkTab
import Derived.Test.YtnllhpeddoaehaaTabW
namespace Go.Proofs.Ytnllhpeddoaehaa
open Go.RowKit

theorem OwnI.rds {w : World} {g n cap : Nat} {rs : List InoR} (h : OwnI w g n cap rs) (hr : ∀ r ∈ rs, r.rd w) : RdI w (some ⟨g, 0, none⟩) rs :=
  .inr ⟨g, 0, rfl, fun i r hi => by
    rw [Nat.zero_add]
    exact ⟨h.six i r hi, hr r (List.mem_of_getElem? hi)⟩⟩
/-- The inode 1 of the new table. -/
def ino1 : InoR := ⟨⟨1, 2, 0, [], [], []⟩, none, 0, none, 0, none, 0⟩
theorem ino1_rd (w : World) : ino1.rd w := ⟨.inl rfl, fun z hz => by simp [ino1] at hz, .inl rfl, .inl rfl⟩
theorem ino1_small : InoSmall ino1.D := ⟨by simp [ino1], by simp [ino1], by simp [ino1], by simp [ino1], by simp [ino1]⟩
theorem own_one (w : World) : OwnI (w.alloc (.cells #[.int .i64 1, .int .i64 2, .int .i64 0, .slice none 0 0, .slice none 0 0, .slice none 0 0] 27)) w.heap.size 1 1 [ino1] := by
  exact ⟨rfl, .inr ⟨w.heap.size, 1, _, rfl, Nat.zero_le _, heap_alloc_new w _, Nat.le_refl _, by unfold maxLen; omega, rfl, rfl⟩⟩
/-- What both TabNew functions answer. -/
def NewPost (w : World) (e : Ending) (w' : World) : Prop := ∃ g, e = .returned (.agg #[.slice (some ⟨g, 0, none⟩) 1 1, .int .i64 2]) ∧ w.heap.size ≤ g ∧ OwnI w' g 1 1 [ino1] ∧ Below w.heap.size w w'

theorem newPost_of (w : World) : NewPost w (.returned (.agg #[.slice (some ⟨w.heap.size + 1, 0, none⟩) 1 1, .int .i64 2])) ((w.alloc (.cells #[.slice (some ⟨w.heap.size + 1, 0, none⟩) 1 1, .int .i64 2] 43)).alloc (.cells #[.int .i64 1, .int .i64 2, .int .i64 0, .slice none 0 0, .slice none 0 0, .slice none 0 0] 27)) := by
  have h := own_one (w.alloc (.cells #[.slice (some ⟨w.heap.size + 1, 0, none⟩) 1 1, .int .i64 2] 43))
  simp only [World.size_alloc] at h
  exact ⟨w.heap.size + 1, rfl, by omega, h, ((Below.refl _ w).alloc (Nat.le_refl _) _).alloc (by simp) _⟩
set_option maxHeartbeats 800000 in
theorem tabNewS (w : World) : Calls Try.prog 38 #[] w fun e w' => NewPost w e w' := by
  go_enter Try.func38, Try.ntmps38
  go_wp2
  refine bodyPost_ret (v := .agg #[.slice (some ⟨w.heap.size + 1, 0, none⟩) 1 1, .int .i64 2]) (by simp [results, Try.f38, go_sem]) rfl ?_
  exact newPost_of w
set_option maxHeartbeats 800000 in
theorem tabNewI (w : World) : Calls Try.prog 39 #[] w fun e w' => NewPost w e w' := by
  go_enter Try.func39, Try.ntmps39
  go_wp2
  refine bodyPost_ret (v := .agg #[.slice (some ⟨w.heap.size + 1, 0, none⟩) 1 1, .int .i64 2]) (by simp [results, Try.f39, go_sem]) rfl ?_
  exact newPost_of w

theorem TabL.keep {w W W' : World} {g n cap Lo Hi k0 k : Nat} {js : List InoJ} (h : TabL w W g n cap Lo Hi k0 js k) (hap : ApJ g Lo Hi js) (hH : Hi ≤ W.heap.size) (hb : Below W.heap.size W W') : TabL w W' g n cap Lo Hi k0 js k :=
  ⟨h.row.keep hb, fun i j hj hi => InoG.keep (h.old i j hj hi) (Nat.le_trans (hap.within i j hj).2 hH) hb, fun i j hj hi => InoGM.keep (h.new i j hj hi) (Nat.le_trans (hap.within i j hj).2 hH) hb, h.out.trans (Below.out hb Lo Hi)⟩
theorem TabL.from {w0 w W : World} {g n cap Lo Hi k0 k : Nat} {js : List InoJ} (h : TabL w W g n cap Lo Hi k0 js k) (k' : Out Lo Hi w0 w) : TabL w0 W g n cap Lo Hi k0 js k := ⟨h.row, h.old, h.new, k'.trans h.out⟩
set_option maxHeartbeats 800000 in
theorem markTab_any (nx : Int) (g n cap Lo Hi k0 : Nat) (js : List InoJ) (w : World) (hn : js.length = n) (hk0 : 1 ≤ k0) (hs : n ≤ 2000000) (hq : qAt k0 js n ≤ 9999990) (hap : ApJ g Lo Hi js) (hH : Hi ≤ w.heap.size) (hown : OwnI w g n cap (js.map InoJ.r)) (hG : ∀ (i : Nat) (j : InoJ), js[i]? = some j → j.G w) :
    Calls Try.prog 41 #[.agg #[.slice (some ⟨g, 0, none⟩) n cap, .int .i64 nx], .int .i64 k0] w fun e w' => e = .returned (.int .i64 ((qAt k0 js n : Nat) : Int)) ∧ TabL w w' g n cap Lo Hi k0 js n := by
  have b0 : Below w.heap.size w (w.alloc (.cells #[.slice (some ⟨g, 0, none⟩) n cap, .int .i64 nx] 43)) := (Below.refl _ w).alloc (Nat.le_refl _) _
  have hc := markInodeS_any g n cap Lo Hi k0 js (w.alloc (.cells #[.slice (some ⟨g, 0, none⟩) n cap, .int .i64 nx] 43)) hn hk0 hs hq hap (Nat.le_trans hH b0.size) (hown.keep b0) (fun i j h => InoG.keep (hG i j h) (Nat.le_trans (hap.within i j h).2 hH) b0)
  have HB : Hid _ := b0
  generalize qAt k0 js n = q at hc hq ⊢
  clear hown hG hap b0
  go_enter Try.func41, Try.ntmps41
  go_wp2_with fail
  refine hc.mono ?_
  rintro e w1 ⟨rfl, hT⟩
  have HT : Hid _ := hT
  clear hT hc
  go_wp2
  go_ret
  exact ⟨rfl, TabL.from HT.out (Below.out HB.out Lo Hi)⟩
set_option maxHeartbeats 800000 in
theorem heldTab_any (w0 : World) (nx : Int) (g n cap Lo Hi k0 : Nat) (js : List InoJ) (w : World) (hn : js.length = n) (hk0 : 1 ≤ k0) (hs : n ≤ 2000000) (hq : qAt k0 js n ≤ 9999990) (hap : ApJ g Lo Hi js) (hH : Hi ≤ w.heap.size) (hT : TabL w0 w g n cap Lo Hi k0 js n) :
    Calls Try.prog 42 #[.agg #[.slice (some ⟨g, 0, none⟩) n cap, .int .i64 nx], .int .i64 k0] w fun e w' => e = .returned (.int .i64 ((qAt k0 js n : Nat) : Int)) ∧ Below w.heap.size w w' := by
  have b0 : Below w.heap.size w (w.alloc (.cells #[.slice (some ⟨g, 0, none⟩) n cap, .int .i64 nx] 43)) := (Below.refl _ w).alloc (Nat.le_refl _) _
  have hc := heldInodeS_any w0 g n cap Lo Hi k0 js (w.alloc (.cells #[.slice (some ⟨g, 0, none⟩) n cap, .int .i64 nx] 43)) hn hk0 hs hq hap (Nat.le_trans hH b0.size) (hT.keep hap hH b0)
  have HB : Hid _ := b0
  generalize qAt k0 js n = q at hc hq ⊢
  have hq0 : ¬ (q : Int) < 0 := by omega
  clear hT hap b0
  go_enter Try.func42, Try.ntmps42
  go_wp2_with fail
  refine hc.mono ?_
  rintro e w1 ⟨rfl, b1⟩
  go_wp2
  go_ret
  exact ⟨rfl, HB.out.trans (b1.mono HB.out.size)⟩
end Go.Proofs.Ytnllhpeddoaehaa
