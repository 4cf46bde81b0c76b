/-
  Contracts for both PutText functions.
-/
import Derived.Test.YtmkcadnpleijdaaPutsQ
namespace Go.Proofs.Ytmkcadnpleijdaa
open Go.RowKit
theorem encPos (x : Int) : 0 < (enc x).length := by
  unfold enc encGo
  split <;> simp
theorem own_base {w : World} {g n c B : Nat} {zs : List Int} (h : Own w g n c zs) (hB : B ≤ g) : w.ownsRow B 5 1 (.slice (some ⟨g, 0, none⟩) n c) n (zs.map (Value.int .u8)) := by
  refine ⟨h.1, ?_⟩
  rcases h.2 with ⟨h', _⟩ | ⟨g', cap', cur, h', _, rest⟩
  · simp at h'
  · refine .inr ⟨g', cap', cur, h', ?_, rest⟩
    simp only [Value.slice.injEq, Option.some.injEq, Addr.mk.injEq, and_true, true_and] at h'
    omega
theorem own_form {w : World} {B n : Nat} {v : Value} {zs : List Int} {s : ByteArray} (h : w.ownsRow B 5 1 v n (zs.map (Value.int .u8) ++ Lib.strCells s)) (hv : ¬ v = .slice none 0 0) :
    ∃ g c, v = .slice (some ⟨g, 0, none⟩) n c ∧ B ≤ g ∧ Own w g n c (zs ++ strZ s) := by
  have h1 := h
  rcases h.2 with ⟨h', _⟩ | ⟨g', cap', cur, rfl, hB, rest⟩
  · exact absurd h' hv
  · refine ⟨g', cap', rfl, hB, ?_⟩
    refine ⟨?_, .inr ⟨g', cap', cur, rfl, Nat.zero_le _, ?_⟩⟩
    · rw [List.map_append, ← strZ_cells]; exact h1.1
    · rw [List.map_append, ← strZ_cells]; exact rest
theorem encTs_one (s : ByteArray) : encTs [s] = encT s := by simp [encTs]
set_option maxHeartbeats 400000 in
theorem specPutText_any (ad : Addr) (n cap : Nat) (zs : List Int) (s : ByteArray) (w : World) (hn : zs.length = n) (hs : n ≤ 2000000) (hz : s.size ≤ 2000000) (hr : Rd w (some ad) zs) :
    Calls Try.prog 49 #[.slice (some ad) n cap, .string s] w (PutPost w (n + (enc (s.size : Int)).length + s.size) (zs ++ enc (s.size : Int) ++ strZ s)) := by
  obtain ⟨i0, hi, hz0, hz1, hz2⟩ := info_parts Try.info5
  have hn' : Hid (zs.length = n) := hn
  have hle := enc_len (s.size : Int)
  clear hn
  go_enter Try.func49, Try.ntmps49
  go_wp2_with fail
  refine (specPutNum_any ad n cap zs (s.size : Int) w hn'.out (by omega) hr).mono ?_
  rintro e w1 ⟨g, c, rfl, hg, ho, hb⟩
  have hob := own_base ho hg
  have hm1 : n + (enc (s.size : Int)).length + s.size ≤ maxLen := by unfold maxLen; omega
  go_wp2_with (at_builtin; refine Lib.wpList_append_own_string _ rfl (.tmp 8) (.tmp 9) 22 9 rfl w.heap.size 5 i0 Try.underlying22 Try.underlying9 hi hz0 hz1 hz2 (.slice (some ⟨g, 0, none⟩) (n + (enc (s.size : Int)).length) c) _ _ rfl hob s rfl hm1 (by omega) hb.size ?_; intro v' w2 ho2 hg2 hnil)
  obtain ⟨g2, c2, rfl, hg2', ho2'⟩ := own_form ho2 (fun e => by have := (hnil.1 e).1; simp at this)
  go_ret
  exact ⟨g2, c2, rfl, hg2', ho2', hb.grown hg2 hb.size (by intro k hk; simp [Value.ownBlock] at hk; omega)⟩
end Go.Proofs.Ytmkcadnpleijdaa

