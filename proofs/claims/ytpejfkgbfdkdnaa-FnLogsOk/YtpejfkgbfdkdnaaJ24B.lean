/-
  Joined: SpecPut, OpPut, OpW.
-/
import Derived.Test.YtpejfkgbfdkdnaaJ22B
import Derived.Test.YtpejfkgbfdkdnaaJ23B
namespace Go.Proofs.Ytpejfkgbfdkdnaa
section
open Go.RowKit
theorem specNum0 (ad : Addr) (x : Int) (W : World) :
    Calls Try.prog 96 #[.slice (some ad) 0 0, .int .i64 x] W (PutPost W (enc x).length (enc x)) := by
  have h := specPutNum_any ad 0 0 [] x W rfl (by omega) (.inl rfl)
  rw [Nat.zero_add, List.nil_append] at h
  exact h
end

section
open Go.RowKit
theorem encs_len2 (x y : Int) : (encs [x, y]).length ≤ 8 := by
  have i1 := enc_len x
  have i2 := enc_len y
  simp only [encs, List.flatMap_cons, List.flatMap_nil, List.length_append, List.length_nil]
  omega
theorem encTs_len1 (x : ByteArray) : (encTs [x]).length ≤ x.size + 4 := by rw [encTs_one]; exact encT_len x
theorem specTextB (g c : Nat) (acc : List Int) (z : ByteArray) (W : World) (hs : acc.length ≤ 2000000) (hz : z.size ≤ 2000000) (ho : Own W g acc.length c acc) :
    Calls Try.prog 95 #[.slice (some ⟨g, 0, none⟩) acc.length c, .string z] W (PutPost W (acc ++ encT z).length (acc ++ encT z)) := by
  have h := specPutText_any ⟨g, 0, none⟩ acc.length c acc z W rfl (by omega) (by omega) ho.rd
  rw [List.append_assoc, show enc (z.size : Int) ++ strZ z = encT z from rfl, show acc.length + (enc (z.size : Int)).length + z.size = (acc ++ encT z).length by rw [List.length_append, encT, List.length_append, strZ_len]; omega] at h
  exact h
theorem specNumB (g c : Nat) (acc : List Int) (x : Int) (W : World) (hs : acc.length ≤ 2000000) (ho : Own W g acc.length c acc) :
    Calls Try.prog 96 #[.slice (some ⟨g, 0, none⟩) acc.length c, .int .i64 x] W (PutPost W (acc ++ enc x).length (acc ++ enc x)) := by
  have h := specPutNum_any ⟨g, 0, none⟩ acc.length c acc x W rfl (by omega) ho.rd
  rw [← List.length_append] at h
  exact h
end

section
open Go.RowKit
theorem RowB.keep {w w' : World} {v : Value} {n : Nat} {zs : List Int} (h : RowB w v n zs) (hb : Below w.heap.size w w') : RowB w' v n zs := h.block fun g hg => hb.block g (h.at_ hg).1
theorem RowB.gr {w w' : World} {v : Value} {n : Nat} {zs : List Int} {r : Option Nat} (h : RowB w v n zs) (hg : w.grownBy w' r) (hne : ∀ g, v.ownBlock = some g → some g ≠ r) : RowB w' v n zs := h.block fun g hv => hg.block g (h.at_ hv).1 (hne g hv)
theorem RowB.rd {w : World} {a : Option Addr} {c n : Nat} {zs : List Int} (h : RowB w (.slice a n c) n zs) : Rd w a zs := by
  obtain ⟨a', c', e, hr⟩ := h.form
  simp only [Value.slice.injEq, true_and] at e
  obtain ⟨rfl, _⟩ := e
  exact hr
theorem Own.rowB {w : World} {g n c : Nat} {zs : List Int} (h : Own w g n c zs) : RowB w (.slice (some ⟨g, 0, none⟩) n c) n zs := OwnV.rowB (B := 0) h
/-- What was changed lies at or behind B. -/
theorem below_gro {B : Nat} {w0 w w' : World} {r : Option Nat} (h : Below B w0 w) (hB : B ≤ w0.heap.size) (hg : w.grownBy w' r) (hr : ∀ g, r = some g → B ≤ g) : Below B w0 w' := h.grown hg (Nat.le_trans hB h.size) hr
end
end Go.Proofs.Ytpejfkgbfdkdnaa
