/-
  Joined: SameB, MarkG.
-/
import Derived.Test.YteaciccegmichaaJ06R
import Derived.Test.YteaciccegmichaaJ05R
import Derived.Laws.StructEq
namespace Go.Proofs.Yteaciccegmichaa
section
open Go.RowKit
theorem conv_any (w : World) (a : Option Addr) (n cap : Nat) (zs : List Int) (hn : zs.length = n) (hr : Rd w a zs) :
    (convert 22 9 (.slice a n cap)).run Try.prog w = .ok (.string (str zs)) w := by
  rcases hr with h | ⟨b, off, rfl, hc⟩
  · subst h
    subst hn
    cases a with
    | none =>
      rw [run_convert_bytes_string w 22 9 5 _ _ _ Try.underlying22 Try.underlying5 Try.underlying9]
      simp [Conv.bytesToString, str]
    | some a => exact conv_none w a cap
  · have := conv_at w b off n zs 0 n hn (by omega) hc cap
    rw [Nat.add_zero, List.drop_zero, List.take_of_length_le (by omega)] at this
    exact this
theorem str_go (zs : List Int) (s : ByteArray) : (zs.foldl (fun r n => r.push (UInt8.ofNat n.toNat)) s).data.toList = s.data.toList ++ zs.map (fun n => UInt8.ofNat n.toNat) := by
  induction zs generalizing s with
  | nil => simp
  | cons z zs ih => rw [List.foldl_cons, ih]; simp [ByteArray.push]
theorem str_data (zs : List Int) : (str zs).data.toList = zs.map (fun n => UInt8.ofNat n.toNat) := by
  unfold str
  rw [str_go, show ByteArray.empty.data.toList = [] from rfl, List.nil_append]
theorem str_size (zs : List Int) : (str zs).size = zs.length := by
  have := congrArg List.length (str_data zs)
  rw [List.length_map, Array.length_toList] at this
  exact this
theorem str_inj {zs ys : List Int} (hz : Byt zs) (hy : Byt ys) (h : str zs = str ys) : zs = ys := by
  have h1 := congrArg (fun s : ByteArray => s.data.toList) h
  simp only [str_data] at h1
  have hl : zs.length = ys.length := by simpa using congrArg List.length h1
  refine List.ext_getElem hl fun i hi hj => ?_
  have h2 := congrArg (fun l => l[i]?) h1
  simp only [List.getElem?_map, List.getElem?_eq_getElem hi, List.getElem?_eq_getElem hj, Option.map_some, Option.some.injEq] at h2
  have hzi := hz zs[i] (List.getElem_mem hi)
  have hyi := hy ys[i] (List.getElem_mem hj)
  have h3 := congrArg UInt8.toNat h2
  simp only [UInt8.toNat_ofNat'] at h3
  omega
theorem str_eq {zs ys : List Int} (hz : Byt zs) (hy : Byt ys) : ((str zs).toList == (str ys).toList) = decide (zs = ys) := by
  by_cases h : zs = ys
  · subst h; simp
  · rw [decide_eq_false h]
    exact bytes_ne (fun e => h (str_inj hz hy e))
set_option maxHeartbeats 1000000 in
theorem bytesEq_any (a a' : Option Addr) (n m cap cap' : Nat) (zs ys : List Int) (w : World) (hn : zs.length = n) (hm : ys.length = m) (hr : Rd w a zs) (hr' : Rd w a' ys) (hz : Byt zs) (hy : Byt ys) :
    Calls Try.prog 47 #[.slice a n cap, .slice a' m cap'] w fun e w' => e = .returned (.bool (decide (zs = ys))) ∧ w' = w := by
  have h1 := conv_any w a n cap zs hn hr
  have h2 := conv_any w a' m cap' ys hm hr'
  have h3 := str_eq hz hy
  obtain ⟨s, hs⟩ : ∃ s, str zs = s := ⟨_, rfl⟩
  obtain ⟨t, ht⟩ : ∃ t, str ys = t := ⟨_, rfl⟩
  rw [hs] at h1 h3
  rw [ht] at h2 h3
  have H3 : Hid _ := h3
  clear h3 hs ht hr hr' hz hy hn hm
  go_enter Try.func47, Try.ntmps47
  go_wp2
  go_ret
  exact ⟨ret_bool H3.out, rfl⟩
end

section
open Go.RowKit
/-- A list of bytes: nil, or the first n cells of a block, none of them held fast. -/
def RowB (w : World) (v : Value) (n : Nat) (zs : List Int) : Prop :=
  zs.length = n ∧ ((v = .slice none 0 0 ∧ n = 0) ∨ ∃ (g c : Nat) (cur : Array Value) (fr : Nat × Nat), v = .slice (some ⟨g, 0, none⟩) n c ∧ w.heap[g]? = some (.cells cur 5 fr) ∧ n ≤ cur.size ∧ (∀ i, i < n → cur[i]? = some (.int .u8 (zs.getD i 0))) ∧ (n ≤ fr.1 ∨ fr.2 = 0))
theorem RowB.nil (w : World) : RowB w (.slice none 0 0) 0 [] := ⟨rfl, .inl ⟨rfl, rfl⟩⟩
theorem OwnV.rowB {B : Nat} {w : World} {v : Value} {n : Nat} {zs : List Int} (h : OwnV B w v n zs) : RowB w v n zs := by
  have hl := h.len
  refine ⟨hl, ?_⟩
  rcases h.2 with h' | ⟨g, cap, cur, rfl, _, hg, hsz, hc⟩
  · exact .inl h'
  · have hcell := fun (i : Nat) (hi : i < n) => World.ownsRow.cellAt h i (by omega)
    have hcur : ∀ i : Nat, i < n → cur[i]? = Option.some (Value.int .u8 (zs.getD i 0)) := fun i hi => by
      have h2 := hcell i hi
      rw [cell_of_row w g i cur 5 (0, 0) hg] at h2
      rw [h2]
      have hz : i < zs.length := by omega
      simp [hz]
    refine .inr ⟨g, cap, cur, (0, 0), rfl, hg, ?_, hcur, .inr rfl⟩
    by_cases h0 : n = 0
    · omega
    · have h2 := hcur (n - 1) (by omega)
      have := (Array.getElem?_eq_some_iff.1 h2).1
      omega
theorem RowB.cell {w : World} {g c n : Nat} {zs : List Int} (h : RowB w (.slice (some ⟨g, 0, none⟩) n c) n zs) (i : Nat) (hi : i < n) : w.cell? ⟨g, i, none⟩ = some (.int .u8 (zs.getD i 0)) ∧ w.frozen? ⟨g, i, none⟩ = false := by
  rcases h.2 with ⟨h1, _⟩ | ⟨g', c', cur, fr, h1, hg, hsz, hc, hf⟩
  · simp at h1
  · simp only [Value.slice.injEq, Option.some.injEq, Addr.mk.injEq, and_true, true_and] at h1
    obtain ⟨rfl, rfl⟩ := h1
    rw [cell_of_row w g i cur 5 fr hg]
    refine ⟨hc i hi, ?_⟩
    obtain ⟨lo, hi'⟩ := fr
    simp only [World.frozen?, hg]
    simp only at hf
    rcases hf with hf | hf
    · have : ¬ lo ≤ i := by omega
      simp [this]
    · subst hf
      simp
theorem RowB.stored {w : World} {g c n : Nat} {zs : List Int} (h : RowB w (.slice (some ⟨g, 0, none⟩) n c) n zs) (k : Nat) (z : Int) (hk : k < n) : RowB (w.setCell ⟨g, k, none⟩ (.int .u8 z)) (.slice (some ⟨g, 0, none⟩) n c) n (zs.set k z) := by
  have hl := h.1
  refine ⟨by simpa using hl, ?_⟩
  rcases h.2 with ⟨h1, _⟩ | ⟨g', c', cur, fr, h1, hg, hsz, hc, hf⟩
  · simp at h1
  · simp only [Value.slice.injEq, Option.some.injEq, Addr.mk.injEq, and_true, true_and] at h1
    obtain ⟨rfl, rfl⟩ := h1
    refine .inr ⟨g, c, cur.setIfInBounds k (.int .u8 z), fr, rfl, by simp [World.setCell, Array.getElem?_modify, hg], by simpa using hsz, fun i hi => ?_, hf⟩
    by_cases e : k = i
    · subst e
      have hk2 : k < cur.size := by omega
      have hk3 : k < zs.length := by omega
      simp [hk2, hk3]
    · rw [Array.getElem?_setIfInBounds_ne e, hc i hi]
      simp [List.getD_eq_getElem?_getD, List.getElem?_set_ne e]
theorem RowB.block {w w' : World} {v : Value} {n : Nat} {zs : List Int} (h : RowB w v n zs) (hb : ∀ g, v.ownBlock = some g → w'.heap[g]? = w.heap[g]?) : RowB w' v n zs := by
  refine ⟨h.1, ?_⟩
  rcases h.2 with h1 | ⟨g, c, cur, fr, rfl, hg, rest⟩
  · exact .inl h1
  · exact .inr ⟨g, c, cur, fr, rfl, (hb g rfl).trans hg, rest⟩
theorem RowB.at_ {w : World} {v : Value} {n g : Nat} {zs : List Int} (h : RowB w v n zs) (hv : v.ownBlock = some g) : g < w.heap.size ∧ ∃ cur fr, w.heap[g]? = some (.cells cur 5 fr) := by
  rcases h.2 with ⟨rfl, _⟩ | ⟨g', c, cur, fr, rfl, hg, _⟩
  · simp [Value.ownBlock] at hv
  · simp [Value.ownBlock] at hv
    subst hv
    exact ⟨(Array.getElem?_eq_some_iff.1 hg).1, cur, fr, hg⟩
theorem RowB.form {w : World} {v : Value} {n : Nat} {zs : List Int} (h : RowB w v n zs) : ∃ a c, v = .slice a n c ∧ Rd w a zs := by
  have hl := h.1
  rcases h.2 with ⟨rfl, rfl⟩ | ⟨g, c, cur, fr, rfl, hg, _, hc, _⟩
  · exact ⟨none, 0, rfl, .inl (List.length_eq_zero_iff.1 hl)⟩
  · refine ⟨some ⟨g, 0, none⟩, c, rfl, .inr ⟨g, 0, rfl, fun i hi => ?_⟩⟩
    rw [Nat.zero_add, cell_of_row w g i cur 5 fr hg]
    exact hc i (by omega)
end
end Go.Proofs.Yteaciccegmichaa
