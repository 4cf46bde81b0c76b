/-
  Joined: Text, SameB, InoEnc.
-/
import Derived.Test.YteggiinccjonnaaJ02O
import Derived.Laws.BytesString
import Derived.ProofKit
import Derived.ChangeOld
import Derived.Below
import Derived.Laws.StructEq
import Derived.Deep.DeepCutAuto
import Derived.Lib.ConvBytes
import Derived.Deep.RegionHeld3
import Derived.Deep.AppendLies
namespace Go.Proofs.Yteggiinccjonnaa
section
open Go.RowKit
def str (l : List Int) : ByteArray := l.foldl (fun r n => r.push (UInt8.ofNat n.toNat)) ByteArray.empty
def gtOf (zs : List Int) (r : Nat × Nat × Bool) : ByteArray × Nat × Bool :=
  if r.2.2 = false ∨ zs.length < r.2.1 + r.1 then (ByteArray.empty, 0, false)
  else (str ((zs.drop r.2.1).take r.1), r.2.1 + r.1, true)
theorem conv_at (w : World) (b off n : Nat) (zs : List Int) (nx x : Nat) (hn : zs.length = n) (hx : nx + x ≤ n) (hc : ∀ i, i < zs.length → w.cell? ⟨b, off + i, none⟩ = some (.int .u8 (zs.getD i 0))) (cap : Nat) :
    (convert 22 9 (.slice (some ⟨b, off + nx, none⟩) x cap)).run Try.prog w = .ok (.string (str ((zs.drop nx).take x))) w := by
  rw [run_convert_bytes_string w 22 9 5 _ _ _ Try.underlying22 Try.underlying5 Try.underlying9]
  have hl : ((zs.drop nx).take x).length = x := by simp; omega
  have h := run_loadCells_list (P := Try.prog) (w := w) ⟨b, off + nx, none⟩ (((zs.drop nx).take x).map (Value.int .u8)) (by
    intro j v hj
    simp only [List.getElem?_map] at hj
    by_cases hjx : j < x
    · have e : (⟨b, off + nx, none⟩ : Addr).add j = ⟨b, off + (nx + j), none⟩ := by simp [Addr.add, Nat.add_assoc]
      rw [e, hc (nx + j) (by omega)]
      rw [List.getElem?_take, if_pos hjx, List.getElem?_drop] at hj
      rw [← hj, List.getElem?_eq_getElem (by omega)]
      simp [List.getElem?_eq_getElem (show nx + j < zs.length by omega)]
    · rw [List.getElem?_take, if_neg hjx] at hj
      simp at hj)
  simp only [List.length_map, hl] at h
  exact run_bytesToString w _ x cap _ h
theorem conv_none (w : World) (a : Addr) (cap : Nat) : (convert 22 9 (.slice (some a) 0 cap)).run Try.prog w = .ok (.string ByteArray.empty) w := by
  rw [run_convert_bytes_string w 22 9 5 _ _ _ Try.underlying22 Try.underlying5 Try.underlying9]
  have h := run_loadCells_list (P := Try.prog) (w := w) a [] (by intro j v hj; simp at hj)
  exact run_bytesToString w a 0 cap [] h
end

section
open Go.RowKit
theorem conv_any (w : World) (a : Option Addr) (n cap : Nat) (zs : List Int) (hn : zs.length = n) (hr : Rd w a zs) :
    (convert 22 9 (.slice a n cap)).run Try.prog w = .ok (.string (str zs)) w := by
  rcases hr with h | ⟨b, off, rfl, hc⟩
  · subst h
    subst hn
    cases a with
    | none =>
      rw [run_convert_bytes_string w 22 9 5 _ _ _ Try.underlying22 Try.underlying5 Try.underlying9]
      simp [Conv.bytesToString, str]
    | some a => exact conv_none w a cap
  · have := conv_at w b off n zs 0 n hn (by omega) hc cap
    rw [Nat.add_zero, List.drop_zero, List.take_of_length_le (by omega)] at this
    exact this
theorem str_go (zs : List Int) (s : ByteArray) : (zs.foldl (fun r n => r.push (UInt8.ofNat n.toNat)) s).data.toList = s.data.toList ++ zs.map (fun n => UInt8.ofNat n.toNat) := by
  induction zs generalizing s with
  | nil => simp
  | cons z zs ih => rw [List.foldl_cons, ih]; simp [ByteArray.push]
theorem str_data (zs : List Int) : (str zs).data.toList = zs.map (fun n => UInt8.ofNat n.toNat) := by
  unfold str
  rw [str_go, show ByteArray.empty.data.toList = [] from rfl, List.nil_append]
theorem str_size (zs : List Int) : (str zs).size = zs.length := by
  have := congrArg List.length (str_data zs)
  rw [List.length_map, Array.length_toList] at this
  exact this
end

section
open Go.RowKit
theorem encT_len (s : ByteArray) : (encT s).length ≤ s.size + 4 := by
  have := enc_len (s.size : Int)
  unfold encT
  rw [List.length_append, strZ_len]
  omega
end
end Go.Proofs.Yteggiinccjonnaa
