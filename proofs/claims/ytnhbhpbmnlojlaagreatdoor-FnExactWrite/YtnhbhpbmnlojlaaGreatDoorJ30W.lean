/-
  Joined: PutText, Text, SameB.
-/
import Derived.Test.YtnhbhpbmnlojlaaGreatDoorJ04W
import Derived.Laws.BytesString
import Derived.Laws.StructEq
namespace Go.Proofs.YtnhbhpbmnlojlaaGreatDoor
section
open Go.RowKit
theorem encPos (x : Int) : 0 < (enc x).length := by
  unfold enc encGo
  split <;> simp
theorem own_base {w : World} {g n c B : Nat} {zs : List Int} (h : Own w g n c zs) (hB : B ≤ g) : w.ownsRow B 5 1 (.slice (some ⟨g, 0, none⟩) n c) n (zs.map (Value.int .u8)) := by
  refine ⟨h.1, ?_⟩
  rcases h.2 with ⟨h', _⟩ | ⟨g', cap', cur, h', _, rest⟩
  · simp at h'
  · refine .inr ⟨g', cap', cur, h', ?_, rest⟩
    simp only [Value.slice.injEq, Option.some.injEq, Addr.mk.injEq, and_true, true_and] at h'
    omega
theorem own_form {w : World} {B n : Nat} {v : Value} {zs : List Int} {s : ByteArray} (h : w.ownsRow B 5 1 v n (zs.map (Value.int .u8) ++ Lib.strCells s)) (hv : ¬ v = .slice none 0 0) :
    ∃ g c, v = .slice (some ⟨g, 0, none⟩) n c ∧ B ≤ g ∧ Own w g n c (zs ++ strZ s) := by
  have h1 := h
  rcases h.2 with ⟨h', _⟩ | ⟨g', cap', cur, rfl, hB, rest⟩
  · exact absurd h' hv
  · refine ⟨g', cap', rfl, hB, ?_⟩
    refine ⟨?_, .inr ⟨g', cap', cur, rfl, Nat.zero_le _, ?_⟩⟩
    · rw [List.map_append, ← strZ_cells]; exact h1.1
    · rw [List.map_append, ← strZ_cells]; exact rest
theorem encTs_one (s : ByteArray) : encTs [s] = encT s := by simp [encTs]
set_option maxHeartbeats 400000 in
theorem specPutText_any (ad : Addr) (n cap : Nat) (zs : List Int) (s : ByteArray) (w : World) (hn : zs.length = n) (hs : n ≤ 2000000) (hz : s.size ≤ 2000000) (hr : Rd w (some ad) zs) :
    Calls Tryz.prog 99 #[.slice (some ad) n cap, .string s] w (PutPost w (n + (enc (s.size : Int)).length + s.size) (zs ++ enc (s.size : Int) ++ strZ s)) := by
  obtain ⟨i0, hi, hz0, hz1, hz2⟩ := info_parts Tryz.info5
  have hn' : Hid (zs.length = n) := hn
  have hle := enc_len (s.size : Int)
  clear hn
  go_enter Tryz.func99, Tryz.ntmps99
  go_wp2_with fail
  refine (specPutNum_any ad n cap zs (s.size : Int) w hn'.out (by omega) hr).mono ?_
  rintro e w1 ⟨g, c, rfl, hg, ho, hb⟩
  have hob := own_base ho hg
  have hm1 : n + (enc (s.size : Int)).length + s.size ≤ maxLen := by unfold maxLen; omega
  go_wp2_with (at_builtin; refine Lib.wpList_append_own_string _ rfl (.tmp 8) (.tmp 9) 30 9 rfl w.heap.size 5 i0 Tryz.underlying30 Tryz.underlying9 hi hz0 hz1 hz2 (.slice (some ⟨g, 0, none⟩) (n + (enc (s.size : Int)).length) c) _ _ rfl hob s rfl hm1 (by omega) hb.size ?_; intro v' w2 ho2 hg2 hnil)
  obtain ⟨g2, c2, rfl, hg2', ho2'⟩ := own_form ho2 (fun e => by have := (hnil.1 e).1; simp at this)
  go_ret
  exact ⟨g2, c2, rfl, hg2', ho2', hb.grown hg2 hb.size (by intro k hk; simp [Value.ownBlock] at hk; omega)⟩
end

section
open Go.RowKit
def str (l : List Int) : ByteArray := l.foldl (fun r n => r.push (UInt8.ofNat n.toNat)) ByteArray.empty
def gtOf (zs : List Int) (r : Nat × Nat × Bool) : ByteArray × Nat × Bool :=
  if r.2.2 = false ∨ zs.length < r.2.1 + r.1 then (ByteArray.empty, 0, false)
  else (str ((zs.drop r.2.1).take r.1), r.2.1 + r.1, true)
theorem conv_at (w : World) (b off n : Nat) (zs : List Int) (nx x : Nat) (hn : zs.length = n) (hx : nx + x ≤ n) (hc : ∀ i, i < zs.length → w.cell? ⟨b, off + i, none⟩ = some (.int .u8 (zs.getD i 0))) (cap : Nat) :
    (convert 30 9 (.slice (some ⟨b, off + nx, none⟩) x cap)).run Tryz.prog w = .ok (.string (str ((zs.drop nx).take x))) w := by
  rw [run_convert_bytes_string w 30 9 5 _ _ _ Tryz.underlying30 Tryz.underlying5 Tryz.underlying9]
  have hl : ((zs.drop nx).take x).length = x := by simp; omega
  have h := run_loadCells_list (P := Tryz.prog) (w := w) ⟨b, off + nx, none⟩ (((zs.drop nx).take x).map (Value.int .u8)) (by
    intro j v hj
    simp only [List.getElem?_map] at hj
    by_cases hjx : j < x
    · have e : (⟨b, off + nx, none⟩ : Addr).add j = ⟨b, off + (nx + j), none⟩ := by simp [Addr.add, Nat.add_assoc]
      rw [e, hc (nx + j) (by omega)]
      rw [List.getElem?_take, if_pos hjx, List.getElem?_drop] at hj
      rw [← hj, List.getElem?_eq_getElem (by omega)]
      simp [List.getElem?_eq_getElem (show nx + j < zs.length by omega)]
    · rw [List.getElem?_take, if_neg hjx] at hj
      simp at hj)
  simp only [List.length_map, hl] at h
  exact run_bytesToString w _ x cap _ h
theorem conv_none (w : World) (a : Addr) (cap : Nat) : (convert 30 9 (.slice (some a) 0 cap)).run Tryz.prog w = .ok (.string ByteArray.empty) w := by
  rw [run_convert_bytes_string w 30 9 5 _ _ _ Tryz.underlying30 Tryz.underlying5 Tryz.underlying9]
  have h := run_loadCells_list (P := Tryz.prog) (w := w) a [] (by intro j v hj; simp at hj)
  exact run_bytesToString w a 0 cap [] h
end

section
open Go.RowKit
theorem conv_any (w : World) (a : Option Addr) (n cap : Nat) (zs : List Int) (hn : zs.length = n) (hr : Rd w a zs) :
    (convert 30 9 (.slice a n cap)).run Tryz.prog w = .ok (.string (str zs)) w := by
  rcases hr with h | ⟨b, off, rfl, hc⟩
  · subst h
    subst hn
    cases a with
    | none =>
      rw [run_convert_bytes_string w 30 9 5 _ _ _ Tryz.underlying30 Tryz.underlying5 Tryz.underlying9]
      simp [Conv.bytesToString, str]
    | some a => exact conv_none w a cap
  · have := conv_at w b off n zs 0 n hn (by omega) hc cap
    rw [Nat.add_zero, List.drop_zero, List.take_of_length_le (by omega)] at this
    exact this
theorem str_go (zs : List Int) (s : ByteArray) : (zs.foldl (fun r n => r.push (UInt8.ofNat n.toNat)) s).data.toList = s.data.toList ++ zs.map (fun n => UInt8.ofNat n.toNat) := by
  induction zs generalizing s with
  | nil => simp
  | cons z zs ih => rw [List.foldl_cons, ih]; simp [ByteArray.push]
theorem str_data (zs : List Int) : (str zs).data.toList = zs.map (fun n => UInt8.ofNat n.toNat) := by
  unfold str
  rw [str_go, show ByteArray.empty.data.toList = [] from rfl, List.nil_append]
theorem str_size (zs : List Int) : (str zs).size = zs.length := by
  have := congrArg List.length (str_data zs)
  rw [List.length_map, Array.length_toList] at this
  exact this
end
end Go.Proofs.YtnhbhpbmnlojlaaGreatDoor
