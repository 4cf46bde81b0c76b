/-
  A row of texts copied: toStringS of the laws; and what the frame tells of a row of texts that came in.
-/
import Derived.Test.YtgdloohafkanhaaJoin
namespace Go.Proofs.Ytgdloohafkanhaa
open Go.RowKit

/-- What the frame tells of a slice of texts that came in: it is nil; or it leads to a row of 'cap' cells, the texts ss. -/
def IsStrs (w : World) (a : Option Addr) (len cap : Nat) (ss : List ByteArray) : Prop :=
  (a = none ∧ len = 0 ∧ cap = 0 ∧ ss = []) ∨
  ∃ x, a = some x ∧ len ≤ cap ∧ cap ≤ maxLen ∧ ss.length = cap ∧ (∀ i, i < ss.length → w.cell? (x.add i) = some (.string (ss.getD i ByteArray.empty))) ∧ ∀ s ∈ ss, s.size ≤ maxLen

theorem rdS_of_row {w : World} {a : Option Addr} {len cap : Nat} {ss : List ByteArray} (h : IsStrs w a len cap ss) :
    ∃ zs, zs.length = len ∧ len ≤ maxLen ∧ (∀ z ∈ zs, z.size ≤ maxLen) ∧ RdS w a zs := by
  rcases h with ⟨rfl, rfl, rfl, rfl⟩ | ⟨x, rfl, hl, hm, hz, hcell, hwz⟩
  · exact ⟨[], rfl, Nat.zero_le _, fun z hz => by simp at hz, .inl rfl⟩
  · refine ⟨ss.take len, by simp; omega, Nat.le_trans hl hm, fun z hz => hwz z (List.mem_of_mem_take hz), ?_⟩
    by_cases h0 : len = 0
    · subst h0; exact .inl (by simp)
    · obtain ⟨b, off, spot⟩ := x
      have hc := hcell 0 (by omega)
      have hspot : spot = none := by simpa [Addr.add] using World.cell?_spot hc
      subst hspot
      refine .inr ⟨b, off, rfl, fun i hi => ?_⟩
      simp only [List.length_take] at hi
      have := hcell i (by omega)
      have e : (⟨b, off, none⟩ : Addr).add i = ⟨b, off + i, none⟩ := by simp [Addr.add]
      rw [e] at this
      rw [this]
      have hi' : i < len := by omega
      have hi2 : i < ss.length := by omega
      simp [hi', hi2]

/-- What lies in the copy behind k rounds. -/
def cpyS (zs : List ByteArray) (k : Nat) : List ByteArray := zs.take k ++ List.replicate (zs.length - k) ⟨#[]⟩
theorem cpyS_zero (zs : List ByteArray) : cpyS zs 0 = List.replicate zs.length ⟨#[]⟩ := by simp [cpyS]
theorem cpyS_all (zs : List ByteArray) : cpyS zs zs.length = zs := by simp [cpyS]
theorem cpyS_set (zs : List ByteArray) (k : Nat) (h : k < zs.length) : (cpyS zs k).set k (zs.getD k ⟨#[]⟩) = cpyS zs (k + 1) := by
  unfold cpyS
  rw [List.set_append_right _ _ (by simp; omega)]
  have h1 : k - (zs.take k).length = 0 := by simp; omega
  rw [h1]
  obtain ⟨m, hm⟩ : ∃ m, zs.length - k = m + 1 := ⟨zs.length - k - 1, by omega⟩
  have h2 : zs.length - (k + 1) = m := by omega
  rw [hm, h2, List.replicate_succ, List.set_cons_zero, List.take_succ_eq_append_getElem h, List.append_assoc]
  simp [h]

theorem made_ownS {w : World} {g n : Nat} (h : w.ownsRow 0 9 1 (.slice (some ⟨g, 0, none⟩) n n) n (madeCells (Value.string ⟨#[]⟩).cells (n * 1)).toList) : OwnS w g n n (List.replicate n ⟨#[]⟩) := by
  unfold OwnS
  rw [List.map_replicate]
  have e : (madeCells (Value.string ⟨#[]⟩).cells (n * 1)).toList = List.replicate n (Value.string ⟨#[]⟩) := by
    apply List.ext_getElem
    · simp [madeCells]
    · intro i h1 h2; simp [madeCells, Value.cells, Nat.mod_one]
  rw [← e]; exact h

set_option maxHeartbeats 800000 in
theorem toS_any (a : Option Addr) (n cap : Nat) (zs : List ByteArray) (w : World) (hn : zs.length = n) (hs : n ≤ 1048576) (hr : RdS w a zs) :
    Calls Try.prog 31 #[.slice a n cap] w fun e w' => e = .returned (.slice (some ⟨w.heap.size, 0, none⟩) n n) ∧ OwnS w' w.heap.size n n zs ∧ Below w.heap.size w w' := by
  obtain ⟨i0, hi, hz0, hz1, hz2⟩ := info_parts Try.info9
  have hm : n ≤ maxLen := by unfold maxLen; omega
  have hby : i0.bytes * n ≤ 281474976710656 := by rw [hz2]; omega
  by_cases h0 : n = 0
  · subst h0
    obtain rfl : zs = [] := List.length_eq_zero_iff.1 hn
    go_enter Try.func31, Try.ntmps31
    go_wp2_with (at_make; refine wpList_make_full _ rfl (.tmp 6) (.tmp 6) 24 rfl 0 9 i0 (.string ⟨#[]⟩) 1 Try.underlying24 hi hz0 hz1 .i64 .i64 _ _ 0 rfl rfl rfl rfl hby hm (Nat.zero_le _) ?_; intro w1 hown hgrow)
    refine wp_loop_rounds 1 ?_; rw [rounds_succ]
    go_wp2
    go_ret
    exact ⟨rfl, made_ownS hown, (Below.refl _ _).grown hgrow (Nat.le_refl _) (by simp)⟩
  · obtain ⟨b, off, rfl, hlt, hc⟩ := hr.lt (by intro h; subst h; simp at hn; omega)
    clear hr
    have hn' : Hid (zs.length = n) := hn
    clear hn
    go_enter Try.func31, Try.ntmps31
    go_wp2_with (at_make; refine wpList_make_full _ rfl (.tmp 6) (.tmp 6) 24 rfl 0 9 i0 (.string ⟨#[]⟩) 1 Try.underlying24 hi hz0 hz1 .i64 .i64 _ _ n rfl rfl rfl rfl hby hm (Nat.zero_le _) ?_; intro w1 hown hgrow)
    have ho := made_ownS hown
    have hB : Below w.heap.size w w1 := (Below.refl _ _).grown hgrow (Nat.le_refl _) (by simp)
    clear hown hgrow
    go_loopw [4] (fun i wr => ∃ k : Nat, k ≤ n ∧ i = .int .i64 k ∧ OwnS wr w.heap.size n n (cpyS zs k) ∧ Below w.heap.size w wr) (fun i _ => n - (intOf i).toNat)
    case atStart => exact ⟨0, Nat.zero_le _, rfl, by rw [cpyS_zero, hn'.out]; exact ho, hB⟩
    case round =>
      obtain ⟨k, hk, rfl, hown, hbel⟩ := hrel
      clear ho hB
      by_cases hkn : k < n
      · have hcx : wr.cell? ⟨b, off + k, none⟩ = some (.string (zs.getD k ⟨#[]⟩)) := (hbel.cell (by exact hlt)).trans (hc k (by rw [hn'.out]; exact hkn))
        have hcy := World.ownsRow.cellAt hown k (by omega)
        have hfy := World.ownsRow.frozenAt hown k
        have hly : k < (cpyS zs k).length := by rw [hown.len]; exact hkn
        simp only [List.getElem?_map, List.getElem?_eq_getElem hly, Option.map_some] at hcy
        have hst := ownS_stored hown k (zs.getD k ⟨#[]⟩)
        rw [cpyS_set zs k (by rw [hn'.out]; exact hkn)] at hst
        have hbel' := hbel.setCell (p := ⟨w.heap.size, k, none⟩) (Nat.le_refl _) (.string (zs.getD k ⟨#[]⟩))
        obtain ⟨z, hz⟩ : ∃ z, zs.getD k ⟨#[]⟩ = z := ⟨_, rfl⟩
        rw [hz] at hcx hst hbel'
        clear hown hbel hz
        go_wp2
        go_roundw
        case rel => exact ⟨k + 1, by omega, by go_num, hst, hbel'⟩
        case measure => simp [intOf]; omega
      · go_wp2
        go_ret
        obtain rfl : k = n := by omega
        refine ⟨rfl, ?_, hbel⟩
        have := hn'.out
        subst this
        rw [cpyS_all] at hown
        exact hown
end Go.Proofs.Ytgdloohafkanhaa
