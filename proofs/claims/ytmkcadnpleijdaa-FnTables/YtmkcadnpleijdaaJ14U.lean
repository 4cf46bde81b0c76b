/-
  Joined: SpecPut, OpPut.
-/
import Derived.Test.YtmkcadnpleijdaaJ13U
namespace Go.Proofs.Ytmkcadnpleijdaa
section
open Go.RowKit
theorem specNum0 (ad : Addr) (x : Int) (W : World) :
    Calls Try.prog 48 #[.slice (some ad) 0 0, .int .i64 x] W (PutPost W (enc x).length (enc x)) := by
  have h := specPutNum_any ad 0 0 [] x W rfl (by omega) (.inl rfl)
  rw [Nat.zero_add, List.nil_append] at h
  exact h
end

section
open Go.RowKit
theorem encs_len2 (x y : Int) : (encs [x, y]).length ≤ 8 := by
  have i1 := enc_len x
  have i2 := enc_len y
  simp only [encs, List.flatMap_cons, List.flatMap_nil, List.length_append, List.length_nil]
  omega
theorem encs_len1 (x : Int) : (encs [x]).length ≤ 4 := by rw [encs_one]; exact enc_len x
theorem encTs_len1 (x : ByteArray) : (encTs [x]).length ≤ x.size + 4 := by rw [encTs_one]; exact encT_len x
theorem specTextB (g c : Nat) (acc : List Int) (z : ByteArray) (W : World) (hs : acc.length ≤ 2000000) (hz : z.size ≤ 2000000) (ho : Own W g acc.length c acc) :
    Calls Try.prog 49 #[.slice (some ⟨g, 0, none⟩) acc.length c, .string z] W (PutPost W (acc ++ encT z).length (acc ++ encT z)) := by
  have h := specPutText_any ⟨g, 0, none⟩ acc.length c acc z W rfl (by omega) (by omega) ho.rd
  rw [List.append_assoc, show enc (z.size : Int) ++ strZ z = encT z from rfl, show acc.length + (enc (z.size : Int)).length + z.size = (acc ++ encT z).length by rw [List.length_append, encT, List.length_append, strZ_len]; omega] at h
  exact h
theorem specNumB (g c : Nat) (acc : List Int) (x : Int) (W : World) (hs : acc.length ≤ 2000000) (ho : Own W g acc.length c acc) :
    Calls Try.prog 48 #[.slice (some ⟨g, 0, none⟩) acc.length c, .int .i64 x] W (PutPost W (acc ++ enc x).length (acc ++ enc x)) := by
  have h := specPutNum_any ⟨g, 0, none⟩ acc.length c acc x W rfl (by omega) ho.rd
  rw [← List.length_append] at h
  exact h
end
end Go.Proofs.Ytmkcadnpleijdaa
