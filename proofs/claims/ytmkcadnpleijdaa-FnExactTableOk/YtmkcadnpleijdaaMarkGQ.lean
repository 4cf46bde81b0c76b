/-
  The laws' marks, from any first number on, in rows of bytes also behind a text that was turned into bytes; an inode whose lists lie within an interval of blocks.
-/
import Derived.Test.YtmkcadnpleijdaaInodeQ
import Derived.Test.YtmkcadnpleijdaaKeptQ
namespace Go.Proofs.Ytmkcadnpleijdaa
open Go.RowKit
/-- A list of bytes: nil, or the first n cells of a block, none of them held fast. -/
def RowB (w : World) (v : Value) (n : Nat) (zs : List Int) : Prop :=
  zs.length = n ∧ ((v = .slice none 0 0 ∧ n = 0) ∨ ∃ (g c : Nat) (cur : Array Value) (fr : Nat × Nat), v = .slice (some ⟨g, 0, none⟩) n c ∧ w.heap[g]? = some (.cells cur 5 fr) ∧ n ≤ cur.size ∧ (∀ i, i < n → cur[i]? = some (.int .u8 (zs.getD i 0))) ∧ (n ≤ fr.1 ∨ fr.2 = 0))
theorem RowB.nil (w : World) : RowB w (.slice none 0 0) 0 [] := ⟨rfl, .inl ⟨rfl, rfl⟩⟩
theorem DQ.rowB {B : Nat} {w : World} {v : Value} {dz : List Int} (h : DQ B w v dz) : RowB w v dz.length dz := by
  obtain ⟨g, c, h1, _, h2, cur, fr, h3, h4, h5, h6⟩ := h
  exact ⟨rfl, .inr ⟨g, c, cur, fr, h1, h3, h4, h5, .inl h6⟩⟩
theorem OwnV.rowB {B : Nat} {w : World} {v : Value} {n : Nat} {zs : List Int} (h : OwnV B w v n zs) : RowB w v n zs := by
  have hl := h.len
  refine ⟨hl, ?_⟩
  rcases h.2 with h' | ⟨g, cap, cur, rfl, _, hg, hsz, hc⟩
  · exact .inl h'
  · have hcell := fun (i : Nat) (hi : i < n) => World.ownsRow.cellAt h i (by omega)
    have hcur : ∀ i : Nat, i < n → cur[i]? = Option.some (Value.int .u8 (zs.getD i 0)) := fun i hi => by
      have h2 := hcell i hi
      rw [cell_of_row w g i cur 5 (0, 0) hg] at h2
      rw [h2]
      have hz : i < zs.length := by omega
      simp [hz]
    refine .inr ⟨g, cap, cur, (0, 0), rfl, hg, ?_, hcur, .inr rfl⟩
    by_cases h0 : n = 0
    · omega
    · have h2 := hcur (n - 1) (by omega)
      have := (Array.getElem?_eq_some_iff.1 h2).1
      omega
theorem RowB.cell {w : World} {g c n : Nat} {zs : List Int} (h : RowB w (.slice (some ⟨g, 0, none⟩) n c) n zs) (i : Nat) (hi : i < n) : w.cell? ⟨g, i, none⟩ = some (.int .u8 (zs.getD i 0)) ∧ w.frozen? ⟨g, i, none⟩ = false := by
  rcases h.2 with ⟨h1, _⟩ | ⟨g', c', cur, fr, h1, hg, hsz, hc, hf⟩
  · simp at h1
  · simp only [Value.slice.injEq, Option.some.injEq, Addr.mk.injEq, and_true, true_and] at h1
    obtain ⟨rfl, rfl⟩ := h1
    rw [cell_of_row w g i cur 5 fr hg]
    refine ⟨hc i hi, ?_⟩
    obtain ⟨lo, hi'⟩ := fr
    simp only [World.frozen?, hg]
    simp only at hf
    rcases hf with hf | hf
    · have : ¬ lo ≤ i := by omega
      simp [this]
    · subst hf
      simp
theorem RowB.stored {w : World} {g c n : Nat} {zs : List Int} (h : RowB w (.slice (some ⟨g, 0, none⟩) n c) n zs) (k : Nat) (z : Int) (hk : k < n) : RowB (w.setCell ⟨g, k, none⟩ (.int .u8 z)) (.slice (some ⟨g, 0, none⟩) n c) n (zs.set k z) := by
  have hl := h.1
  refine ⟨by simpa using hl, ?_⟩
  rcases h.2 with ⟨h1, _⟩ | ⟨g', c', cur, fr, h1, hg, hsz, hc, hf⟩
  · simp at h1
  · simp only [Value.slice.injEq, Option.some.injEq, Addr.mk.injEq, and_true, true_and] at h1
    obtain ⟨rfl, rfl⟩ := h1
    refine .inr ⟨g, c, cur.setIfInBounds k (.int .u8 z), fr, rfl, by simp [World.setCell, Array.getElem?_modify, hg], by simpa using hsz, fun i hi => ?_, hf⟩
    by_cases e : k = i
    · subst e
      have hk2 : k < cur.size := by omega
      have hk3 : k < zs.length := by omega
      simp [hk2, hk3]
    · rw [Array.getElem?_setIfInBounds_ne e, hc i hi]
      simp [List.getD_eq_getElem?_getD, List.getElem?_set_ne e]
theorem RowB.block {w w' : World} {v : Value} {n : Nat} {zs : List Int} (h : RowB w v n zs) (hb : ∀ g, v.ownBlock = some g → w'.heap[g]? = w.heap[g]?) : RowB w' v n zs := by
  refine ⟨h.1, ?_⟩
  rcases h.2 with h1 | ⟨g, c, cur, fr, rfl, hg, rest⟩
  · exact .inl h1
  · exact .inr ⟨g, c, cur, fr, rfl, (hb g rfl).trans hg, rest⟩
theorem RowB.at_ {w : World} {v : Value} {n g : Nat} {zs : List Int} (h : RowB w v n zs) (hv : v.ownBlock = some g) : g < w.heap.size ∧ ∃ cur fr, w.heap[g]? = some (.cells cur 5 fr) := by
  rcases h.2 with ⟨rfl, _⟩ | ⟨g', c, cur, fr, rfl, hg, _⟩
  · simp [Value.ownBlock] at hv
  · simp [Value.ownBlock] at hv
    subst hv
    exact ⟨(Array.getElem?_eq_some_iff.1 hg).1, cur, fr, hg⟩
theorem RowB.form {w : World} {v : Value} {n : Nat} {zs : List Int} (h : RowB w v n zs) : ∃ a c, v = .slice a n c ∧ Rd w a zs := by
  have hl := h.1
  rcases h.2 with ⟨rfl, rfl⟩ | ⟨g, c, cur, fr, rfl, hg, _, hc, _⟩
  · exact ⟨none, 0, rfl, .inl (List.length_eq_zero_iff.1 hl)⟩
  · refine ⟨some ⟨g, 0, none⟩, c, rfl, .inr ⟨g, 0, rfl, fun i hi => ?_⟩⟩
    rw [Nat.zero_add, cell_of_row w g i cur 5 fr hg]
    exact hc i (by omega)
/-- All blocks but one are as they were. -/
theorem gr_block {w w' : World} {r : Option Nat} (h : w.grownBy w' r) {g : Nat} (hg : g < w.heap.size) (hne : r ≠ some g) : w'.heap[g]? = w.heap[g]? := h.block g hg (fun e => hne e.symm)
/-- The bytes behind k rounds of marking from k0 on. -/
def mksG (k0 : Nat) (zs : List Int) (k : Nat) : List Int := (List.range k).map (fun i : Nat => (((k0 + i : Nat) : Int)) % 256) ++ zs.drop k
theorem mksG_zero (k0 : Nat) (zs : List Int) : mksG k0 zs 0 = zs := by simp [mksG]
theorem mksG_len (k0 : Nat) (zs : List Int) (k : Nat) (h : k ≤ zs.length) : (mksG k0 zs k).length = zs.length := by simp [mksG]; omega
theorem mksG_set (k0 : Nat) (zs : List Int) (k : Nat) (h : k < zs.length) : (mksG k0 zs k).set k (((k0 + k : Nat) : Int) % 256) = mksG k0 zs (k + 1) := by
  unfold mksG
  rw [List.set_append_right _ _ (by simp)]
  have e : k - ((List.range k).map (fun i : Nat => (((k0 + i : Nat) : Int)) % 256)).length = 0 := by simp
  rw [e, List.drop_eq_getElem_cons h, List.set_cons_zero, List.range_succ, List.map_append, List.append_assoc]
  rfl
def marksG (k0 n : Nat) : List Int := (List.range n).map (fun i : Nat => (((k0 + i : Nat) : Int)) % 256)
theorem mksG_all (k0 : Nat) (zs : List Int) (n : Nat) (h : zs.length = n) : mksG k0 zs n = marksG k0 n := by subst h; simp [mksG, marksG]
theorem marksG_at (k0 n k : Nat) (h : k < n) : (marksG k0 n).getD k 0 = ((k0 + k : Nat) : Int) % 256 := by simp [marksG, h]
set_option maxHeartbeats 800000 in
theorem markBG (v : Value) (n k0 : Nat) (zs : List Int) (w : World) (h1 : 1 ≤ k0) (hs : k0 + n ≤ 9999990) (hown : RowB w v n zs) :
    Calls Try.prog 22 #[v, .int .i64 k0] w fun e w' => e = .returned (.int .i64 ((k0 + n : Nat) : Int)) ∧ RowB w' v n (marksG k0 n) ∧ w.grownBy w' v.ownBlock := by
  rcases hown.2 with ⟨rfl, rfl⟩ | ⟨g, c, cur, fr, rfl, _⟩
  · go_enter Try.func22, Try.ntmps22
    go_wp2
    refine wp_loop_rounds 1 ?_; rw [rounds_succ]
    go_wp2
    go_ret
    exact ⟨rfl, RowB.nil _, gr_refl w _⟩
  · have hn' : Hid (zs.length = n) := hown.1
    go_enter Try.func22, Try.ntmps22
    go_wp2
    go_loopw [1, 5] (fun q i wr => ∃ k : Nat, k ≤ n ∧ i = .int .i64 k ∧ q = .int .i64 ((k0 + k : Nat) : Int) ∧ RowB wr (.slice (some ⟨g, 0, none⟩) n c) n (mksG k0 zs k) ∧ w.grownBy wr (some g)) (fun _ i _ => n - (intOf i).toNat)
    case atStart => exact ⟨0, Nat.zero_le _, rfl, rfl, by rw [mksG_zero]; exact hown, gr_refl w _⟩
    case round =>
      obtain ⟨k, hk, rfl, rfl, ho, hgr⟩ := hrel
      obtain ⟨q, hq⟩ : ∃ q, k0 + k = q := ⟨_, rfl⟩
      rw [hq]
      by_cases hkn : k < n
      · have hki : (k : Int) < (n : Int) := by omega
        obtain ⟨hcy, hfy⟩ := ho.cell k hkn
        have hst := ho.stored k ((q : Int) % 256) hkn
        rw [← hq, mksG_set k0 zs k (by rw [hn'.out]; exact hkn), hq] at hst
        have hgr' : w.grownBy (wr.setCell ⟨g, k, none⟩ (.int .u8 ((q : Int) % 256))) (some g) := hgr.trans (gr_setC wr g k _)
        generalize (mksG k0 zs k).getD k 0 = y at hcy
        clear ho hgr
        go_wp2
        go_roundw
        case rel => exact ⟨k + 1, by omega, by go_num, by rw [show k0 + (k + 1) = q + 1 by omega]; go_num, hst, hgr'⟩
        case measure => simp [intOf]; omega
      · have hki : ¬ (k : Int) < (n : Int) := by omega
        go_wp2
        go_ret
        obtain rfl : k = n := by omega
        rw [mksG_all k0 zs k hn'.out] at ho
        exact ⟨by show Ending.returned (.int .i64 (q : Int)) = _; rw [← hq]; first | rfl | simp, ho, hgr⟩
set_option maxHeartbeats 800000 in
theorem heldBG (v : Value) (n k0 : Nat) (w : World) (h1 : 1 ≤ k0) (hs : k0 + n ≤ 9999990) (hown : RowB w v n (marksG k0 n)) :
    Calls Try.prog 23 #[v, .int .i64 k0] w fun e w' => e = .returned (.int .i64 ((k0 + n : Nat) : Int)) ∧ w' = w := by
  rcases hown.2 with ⟨rfl, rfl⟩ | ⟨g, c, cur, fr, rfl, _⟩
  · go_enter Try.func23, Try.ntmps23
    go_wp2
    refine wp_loop_rounds 1 ?_; rw [rounds_succ]
    go_wp2
    go_ret
    exact ⟨rfl, rfl⟩
  · have HO : Hid _ := hown
    clear hown
    go_enter Try.func23, Try.ntmps23
    go_wp2
    go_loop [1, 5] (fun q i => ∃ k : Nat, k ≤ n ∧ i = .int .i64 k ∧ q = .int .i64 ((k0 + k : Nat) : Int)) (fun _ i => n - (intOf i).toNat)
    case atStart => exact ⟨0, Nat.zero_le _, rfl, rfl⟩
    case round =>
      obtain ⟨k, hk, rfl, rfl⟩ := hrel
      obtain ⟨q, hq⟩ : ∃ q, k0 + k = q := ⟨_, rfl⟩
      rw [hq]
      by_cases hkn : k < n
      · have hki : (k : Int) < (n : Int) := by omega
        have hcy := (RowB.cell HO.out k hkn).1
        rw [marksG_at k0 n k hkn, hq] at hcy
        go_wp2
        go_round
        case rel => exact ⟨k + 1, by omega, by go_num, by rw [show k0 + (k + 1) = q + 1 by omega]; go_num⟩
        case measure => simp [intOf]; omega
      · have hki : ¬ (k : Int) < (n : Int) := by omega
        go_wp2
        go_ret
        obtain rfl : k = n := by omega
        exact ⟨by show Ending.returned (.int .i64 (q : Int)) = _; rw [← hq]; first | rfl | simp, rfl⟩
end Go.Proofs.Ytmkcadnpleijdaa

