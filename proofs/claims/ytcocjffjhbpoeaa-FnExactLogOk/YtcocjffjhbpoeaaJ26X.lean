/-
  Joined: GetS, GetX.
-/
import Derived.Test.YtcocjffjhbpoeaaJ25X
namespace Go.Proofs.Ytcocjffjhbpoeaa
section
open Go.RowKit
theorem RS.kp {W W' : World} {R : Nat} {a : Option Addr} {n cap : Nat} {st : Option Nat} {ts : List TypeId} (h : RS W R a n cap st) (k : KpT W W' ts) (ht : 99 ∈ ts) : RS W' R a n cap st := by
  obtain ⟨p, h1, h2⟩ := h
  exact ⟨p, h1.kp k ht, h2⟩
theorem RI.kp {W W' : World} {H : Nat} {a : Option Addr} {n cap : Nat} {st : Option Nat} {ts : List TypeId} (h : RI W H a n cap st) (k : KpT W W' ts) (h1 : 45 ∈ ts) (h2 : 3 ∈ ts) (h3 : 4 ∈ ts) : RI W' H a n cap st := by
  obtain ⟨p, b0, b1, b2, hp⟩ := h
  exact ⟨p, b0.kp k h1, b1.kp k h2, b2.kp k h3, hp⟩
/-- A text turned into bytes: a new block. -/
theorem conv_str (w : World) (s : ByteArray) : ∃ c W, (convert 9 45 (.string s)).run Try.prog w = .ok (.slice (some ⟨w.heap.size, 0, none⟩) s.size c) W ∧ OwnB W w.heap.size s.size (strZ s) ∧ Below w.heap.size w W := by
  refine ⟨_, _, Lib.run_convert_string_bytes w 9 45 5 s Try.underlying9 Try.underlying45 Try.underlying5, ?_, ?_⟩
  · have hsz : (Lib.bytesCells w 5 s).size = s.size + (grownCap w s.size 0 5 - s.size) := by simp [Lib.bytesCells]
    refine ⟨strZ_len s, _, _, Lib.bytesWorld_at_new w 5 s, by omega, fun i hi => ?_, by show s.size ≤ (Lib.bytesCells w 5 s).size; omega⟩
    have := Lib.bytesWorld_cell w 5 s i hi
    rw [cell_of_row _ _ i _ 5 _ (Lib.bytesWorld_at_new w 5 s)] at this
    rw [this]
    have hl : i < s.data.toList.length := by rw [Array.length_toList]; exact hi
    simp only [strZ, List.getD_eq_getElem?_getD, List.getElem?_map, List.getElem?_eq_getElem hl, Option.map_some, Option.getD_some]
  · exact ⟨rfl, rfl, rfl, by rw [Lib.bytesWorld_size]; omega, fun k hk => Lib.bytesWorld_at_old w 5 s k hk⟩
end

section
open Go.RowKit
theorem RS.keep {W W' : World} {R : Nat} {a : Option Addr} {n cap : Nat} {st : Option Nat} (h : RS W R a n cap st) (hb : Below W.heap.size W W') : RS W' R a n cap st := h.kp (KpT.below hb [99]) (by decide)
end
end Go.Proofs.Ytcocjffjhbpoeaa
