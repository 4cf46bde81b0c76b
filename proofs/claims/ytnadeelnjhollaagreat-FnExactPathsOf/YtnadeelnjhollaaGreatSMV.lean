/-
  Joined: MarkS, Eqs, Parent.
-/
import Derived.Test.YtnadeelnjhollaaGreatMarkTV
import Derived.Test.YtnadeelnjhollaaGreatSPV
namespace Go.Proofs.YtnadeelnjhollaaGreat
section
open Go.RowKit
/-- The texts behind k rounds of marking. -/
def mksS (zs : List ByteArray) (k : Nat) : List ByteArray := (List.range k).map (fun i => mt (i + 1)) ++ zs.drop k
theorem mksS_zero (zs : List ByteArray) : mksS zs 0 = zs := by simp [mksS]
theorem mksS_set (zs : List ByteArray) (k : Nat) (h : k < zs.length) : (mksS zs k).set k (mt (k + 1)) = mksS zs (k + 1) := by
  unfold mksS
  rw [List.set_append_right _ _ (by simp)]
  have e : k - ((List.range k).map (fun i => mt (i + 1))).length = 0 := by simp
  rw [e, List.drop_eq_getElem_cons h, List.set_cons_zero, List.range_succ, List.map_append, List.append_assoc]
  rfl
/-- What a row of n texts holds when it is marked from 1 on. -/
def marksS (n : Nat) : List ByteArray := (List.range n).map (fun i => mt (i + 1))
theorem mksS_all (zs : List ByteArray) : mksS zs zs.length = marksS zs.length := by simp [mksS, marksS]
theorem ownS_stored {w : World} {g n cap : Nat} {zs : List ByteArray} (h : OwnS w g n cap zs) (k : Nat) (z : ByteArray) : OwnS (w.setCell ⟨g, k, none⟩ (.string z)) g n cap (zs.set k z) := by
  have := (World.ownsRow.stored h k (.string z)).1
  unfold OwnS
  rw [List.map_set]
  exact this
set_option maxHeartbeats 400000 in
theorem mark0 (a : Option Addr) (c : Nat) (w : World) :
    Calls Tryz.prog 12 #[.slice a 0 c, .int .i64 1] w fun e w' => e = .returned (.int .i64 1) ∧ w' = w := by
  go_enter Tryz.func12, Tryz.ntmps12
  go_wp2
  refine wp_loop_rounds 1 ?_; rw [rounds_succ]
  go_wp2
  go_ret
  exact ⟨rfl, rfl⟩
set_option maxHeartbeats 400000 in
theorem held0 (a : Option Addr) (c : Nat) (w : World) :
    Calls Tryz.prog 13 #[.slice a 0 c, .int .i64 1] w fun e w' => e = .returned (.int .i64 1) ∧ w' = w := by
  go_enter Tryz.func13, Tryz.ntmps13
  go_wp2
  refine wp_loop_rounds 1 ?_; rw [rounds_succ]
  go_wp2
  go_ret
  exact ⟨rfl, rfl⟩
set_option maxHeartbeats 800000 in
theorem markS_any (g n c : Nat) (zs : List ByteArray) (w : World) (hs : n ≤ 100000) (hown : OwnS w g n c zs) :
    Calls Tryz.prog 12 #[.slice (some ⟨g, 0, none⟩) n c, .int .i64 1] w fun e w' => e = .returned (.int .i64 ((n : Int) + 1)) ∧ OwnS w' g n c (marksS n) ∧ w.grownBy w' (some g) := by
  have hn' : Hid (zs.length = n) := hown.len
  go_enter Tryz.func12, Tryz.ntmps12
  go_wp2
  go_loopw [1, 5] (fun q i wr => ∃ k : Nat, k ≤ n ∧ i = .int .i64 k ∧ q = .int .i64 ((k + 1 : Nat) : Int) ∧ OwnS wr g n c (mksS zs k) ∧ w.grownBy wr (some g)) (fun _ i _ => n - (intOf i).toNat)
  case atStart => exact ⟨0, Nat.zero_le _, rfl, rfl, by rw [mksS_zero]; exact hown, gr_refl w _⟩
  case round =>
    obtain ⟨k, hk, rfl, rfl, ho, hgr⟩ := hrel
    obtain ⟨q, hq⟩ : ∃ q, k + 1 = q := ⟨_, rfl⟩
    rw [hq]
    by_cases hkn : k < n
    · have hki : (k : Int) < (n : Int) := by omega
      go_wp2_with fail
      refine (markText_any q _ (by omega) (by omega)).mono ?_
      rintro e w1 ⟨rfl, hb1⟩
      have ho1 := ho.keep hb1
      have hcy := World.ownsRow.cellAt ho1 k (by omega)
      have hfy := World.ownsRow.frozenAt ho1 k
      have hly : k < (mksS zs k).length := by rw [ho.len]; exact hkn
      simp only [List.getElem?_map, List.getElem?_eq_getElem hly, Option.map_some] at hcy
      have hst := ownS_stored ho1 k (mt (k + 1))
      rw [mksS_set zs k (by rw [hn'.out]; exact hkn), hq] at hst
      have hgr' : w.grownBy (w1.setCell ⟨g, k, none⟩ (.string (mt q))) (some g) := (hgr.trans (gr_of_below hb1 _)).trans (World.ownsRow.stored ho1 k (.string (mt q))).2
      obtain ⟨T, hT⟩ : ∃ T, mt q = T := ⟨_, rfl⟩
      rw [hT] at hst hgr' ⊢
      clear ho hgr ho1 hb1 hT
      go_wp2
      go_roundw
      case rel => exact ⟨k + 1, by omega, by go_num, by rw [hq]; go_num, by rw [hq]; exact hst, hgr'⟩
      case measure => simp [intOf]; omega
    · have hki : ¬ (k : Int) < (n : Int) := by omega
      go_wp2
      go_ret
      obtain rfl : k = n := by omega
      refine ⟨by rw [← hq]; rfl, ?_, hgr⟩
      have := hn'.out
      rw [← this, mksS_all, this] at ho
      exact ho
set_option maxHeartbeats 800000 in
theorem heldS_any (g n c : Nat) (w : World) (hs : n ≤ 100000) (hown : OwnS w g n c (marksS n)) :
    Calls Tryz.prog 13 #[.slice (some ⟨g, 0, none⟩) n c, .int .i64 1] w fun e w' => e = .returned (.int .i64 ((n : Int) + 1)) ∧ Below w.heap.size w w' := by
  have hlen : Hid ((marksS n).length = n) := hown.len
  go_enter Tryz.func13, Tryz.ntmps13
  go_wp2
  go_loopw [1, 5] (fun q i wr => ∃ k : Nat, k ≤ n ∧ i = .int .i64 k ∧ q = .int .i64 ((k + 1 : Nat) : Int) ∧ Below w.heap.size w wr) (fun _ i _ => n - (intOf i).toNat)
  case atStart => exact ⟨0, Nat.zero_le _, rfl, rfl, Below.refl _ _⟩
  case round =>
    obtain ⟨k, hk, rfl, rfl, hB⟩ := hrel
    obtain ⟨q, hq⟩ : ∃ q, k + 1 = q := ⟨_, rfl⟩
    rw [hq]
    by_cases hkn : k < n
    · have hki : (k : Int) < (n : Int) := by omega
      have hcy := World.ownsRow.cellAt (hown.keep hB) k (by omega)
      have hly : k < (marksS n).length := by rw [hlen.out]; exact hkn
      have hmk : (marksS n)[k] = mt q := by simp [marksS, hq]
      simp only [List.getElem?_map, List.getElem?_eq_getElem hly, Option.map_some, hmk] at hcy
      obtain ⟨T, hT⟩ : ∃ T, mt q = T := ⟨_, rfl⟩
      rw [hT] at hcy
      have hmx : Tryz.prog.follows .mixedOrders = true := by kernel_rfl
      have hwz := hB.size
      have hlt := hown.lt
      have hmt : ∀ W : World, Below w.heap.size w W → Calls Tryz.prog 30 #[.int .i64 q] W fun e w' => e = .returned (.string T) ∧ Below W.heap.size W w' ∧ w'.cell? ⟨g, k, none⟩ = some (.string T) := by
        intro W hW
        refine (markText_any q W (by omega) (by omega)).mono ?_
        rintro e w' ⟨rfl, hb⟩
        refine ⟨by rw [hT], hb, ?_⟩
        have h1 := World.ownsRow.cellAt ((hown.keep hW).keep hb) k (by omega)
        simpa [List.getElem?_eq_getElem hly, hmk, hT] using h1
      clear hmk hT hly
      go_wp2
      go_region_with (go_at_call 30; refine (hmt _ (by first | exact hB | exact hB.drew)).mono ?_; rintro e w1 ⟨rfl, hb1, hc1⟩)
      all_goals go_wp2
      all_goals go_roundw
      all_goals first
        | (case rel => exact ⟨k + 1, by omega, by go_num, by rw [hq]; go_num, hB.drew.trans (hb1.mono hwz)⟩)
        | (case measure => simp [intOf]; omega)
    · have hki : ¬ (k : Int) < (n : Int) := by omega
      go_wp2
      go_ret
      obtain rfl : k = n := by omega
      exact ⟨by rw [← hq]; rfl, hB⟩
end

section
open Go.RowKit
set_option maxHeartbeats 800000 in
theorem eqS_same (a a' : Option Addr) (n cap cap' : Nat) (zs : List ByteArray) (w : World) (hn : zs.length = n) (hs : n ≤ 4000000) (hr : RdS w a zs) (hr' : RdS w a' zs) :
    Calls Tryz.prog 9 #[.slice a n cap, .slice a' n cap'] w fun e w' => e = .returned (.bool true) ∧ ∃ d, w' = w.drewN d := by
  by_cases h0 : n = 0
  · subst h0
    go_enter Tryz.func9, Tryz.ntmps9
    go_wp2
    refine wp_loop_rounds 1 ?_; rw [rounds_succ]
    go_wp2
    go_ret
    exact ⟨rfl, 0, rfl⟩
  · obtain ⟨b, off, rfl, hlt, hc⟩ := hr.lt (by intro h; subst h; simp at hn; omega)
    obtain ⟨b', off', rfl, hlt', hc'⟩ := hr'.lt (by intro h; subst h; simp at hn; omega)
    clear hr hr'
    have hn' : Hid (zs.length = n) := hn
    clear hn
    go_enter Tryz.func9, Tryz.ntmps9
    go_wp2
    go_loopw [5] (fun i wr => ∃ k d : Nat, k ≤ n ∧ i = .int .i64 k ∧ wr = w.drewN d) (fun i _ => n - (intOf i).toNat)
    case atStart => exact ⟨0, 0, Nat.zero_le _, rfl, rfl⟩
    case round =>
      obtain ⟨k, d, hk, rfl, rfl⟩ := hrel
      by_cases hkn : k < n
      · have hcx := hc k (by rw [hn'.out]; exact hkn)
        have hcy := hc' k (by rw [hn'.out]; exact hkn)
        obtain ⟨z, hz⟩ : ∃ z, zs.getD k ⟨#[]⟩ = z := ⟨_, rfl⟩
        rw [hz] at hcx hcy
        clear hz
        have hki : (k : Int) < (n : Int) := by omega
        go_wp2
        go_quiet (fail)
        go_wp2
        go_roundw
        case rel => exact ⟨k + 1, d + nq, by omega, by go_num, rfl⟩
        case measure => simp [intOf]; omega
      · go_wp2
        go_ret
        exact ⟨rfl, d, rfl⟩
end

section
open Go.RowKit
theorem OwnS.cap {w : World} {g n cap : Nat} {zs : List ByteArray} (h : OwnS w g n cap zs) : n ≤ cap := by
  rcases h.2 with ⟨h', _⟩ | ⟨g', cap', cur, h', _, _, hle, _⟩
  · simp at h'
  · simp only [Value.slice.injEq, Option.some.injEq, Addr.mk.injEq, and_true, true_and] at h'
    omega
end
end Go.Proofs.YtnadeelnjhollaaGreat
