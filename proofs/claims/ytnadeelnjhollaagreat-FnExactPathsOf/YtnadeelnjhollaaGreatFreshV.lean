/-
  append of a list onto a fresh empty one; the specification's l3Copy.
-/
import Derived.Test.YtnadeelnjhollaaGreatMKV
import Derived.Deep.AppendSrc
namespace Go.Proofs.YtnadeelnjhollaaGreat
open Go.RowKit
/-- What is appended to a fresh empty list is a list of its own. -/
theorem run_fresh (W : World) (B : Nat) (t ty e : TypeId) (i : TypeInfo) (z : Value) (size bytes : Nat) (ht : Tryz.prog.underlying t = some (.slice e)) (hi : Tryz.prog.info? e = some i) (hz : i.zero = some z) (hsize : i.size = size) (hby : i.bytes = bytes) (hzs : z.cells.size = size) (hsz : 0 < size)
    (g : Nat) (hB : B ≤ g) (hown : W.ownsRow B e size (.slice (some ⟨g, 0, none⟩) 0 0) 0 []) (a : Option Addr) (m c : Nat) (news : List Value) (hl : news.length = m * size) (hnews : news = [] ∨ ∃ ad, a = some ad ∧ ∀ j u, news[j]? = some u → W.cell? (ad.add j) = some u) (ha : m = 0 → a = none ∨ ∃ ad, a = some ad)
    (h1 : ∀ u ∈ news, u.oneCell' = true) (h63 : m ≤ 8000000) (hb64 : bytes ≤ 64) :
    ∃ g' c' W', (Builtin.append_ #[t, t] ty #[.slice (some ⟨g, 0, none⟩) 0 0, .slice a m c]).run Tryz.prog W = .ok (.slice (some ⟨g', 0, none⟩) m c') W' ∧ W'.ownsRow B e size (.slice (some ⟨g', 0, none⟩) m c') m news ∧ B ≤ g' ∧ g' < W'.heap.size ∧ Below W.heap.size W W' := by
  have hglt : g < W.heap.size := (World.ownsRow.lt hown g rfl).2
  by_cases h0 : m = 0
  · subst h0
    obtain rfl : news = [] := List.length_eq_zero_iff.1 (by simpa using hl)
    have hsrc : Src Tryz.prog i.size t (.slice a 0 c) 0 [] W := by
      rcases ha rfl with rfl | ⟨ad, rfl⟩
      · exact Src.ofNil W ht c
      · exact Src.ofSlice W ht ad 0 c [] (by simp) (fun j u hj => by simp at hj) (fun u hu => by simp at hu)
    have hr := run_append_room_src W t t ty e i ht hi g 0 0 0 (.slice a 0 c) 0 [] hsrc (Nat.le_refl _) (fun j hj => by simp at hj) (fun j hj => by simp at hj)
    refine ⟨g, 0, W, ?_, hown, hB, hglt, Below.refl _ _⟩
    rw [hr]
    rfl
  · have hne : news ≠ [] := fun e => by rw [e] at hl; have := Nat.mul_pos (show 0 < m by omega) hsz; simp only [List.length_nil] at hl; omega
    rcases hnews with e | ⟨ad, rfl, hn⟩
    · exact absurd e hne
    · obtain ⟨v', w', hr, h2, _, _, _⟩ := run_append_own_at (P := Tryz.prog) W B t ty e i z size bytes ht hi hz hsize hby hzs hsz _ 0 [] hown ad m c news hl hn h1 (by unfold maxLen; omega) (by have : (0 + m) * bytes ≤ 8000000 * 64 := Nat.mul_le_mul (by omega) hb64; omega) (by omega)
      have hsrc : Src Tryz.prog i.size t (.slice (some ad) m c) m news W := Src.ofSlice W ht ad m c news (by rw [hsize]; exact hl) hn h1
      have hcap : Builtin.nextslicecap (0 + m) 0 = m := by
        unfold Builtin.nextslicecap
        simp
        omega
      have hr2 := run_append_grow_src W t t ty e i z ht hi hz (some ⟨g, 0, none⟩) 0 0 [] (run_firstCells_some W.drew i.size 0 ⟨g, 0, none⟩ 0 0 [] (by simp) (fun j u hj => by simp at hj)) (.slice (some ad) m c) m news hsrc (by omega) (by omega) (by rw [hcap, hby]; have : m * bytes ≤ 8000000 * 64 := Nat.mul_le_mul h63 hb64; omega)
      rw [hr2] at hr
      simp only [Result.ok.injEq] at hr
      obtain ⟨rfl, rfl⟩ := hr
      rw [Nat.zero_add, List.nil_append] at h2
      refine ⟨W.heap.size, _, _, by rw [hr2]; simp only [Nat.zero_add, List.nil_append], h2, by omega, (World.ownsRow.lt h2 _ rfl).2, (Below.refl _ W).drew.alloc (Nat.le_refl _) _⟩
/-- The append at the operation. -/
theorem wpList_fresh (W : World) {ops : Array Oper} {rest : List Oper} {o : Oper} {a : Act} {Q : Exit → Act → World → Prop} (hgd : o.guard = none) (s x : Operand) (t : TypeId)
    (ho : o.op = .call { callee := .builtin .append, args := #[s, x], argTypes := #[t, t] }) (B : Nat) (g : Nat) (ad : Option Addr) (m c : Nat) (e : TypeId) (size : Nat) (news : List Value)
    (hs : a.eval s = .slice (some ⟨g, 0, none⟩) 0 0) (hx : a.eval x = .slice ad m c)
    (hr : ∀ ty, ∃ g' c' W', (Builtin.append_ #[t, t] ty #[.slice (some ⟨g, 0, none⟩) 0 0, .slice ad m c]).run Tryz.prog W = .ok (.slice (some ⟨g', 0, none⟩) m c') W' ∧ W'.ownsRow B e size (.slice (some ⟨g', 0, none⟩) m c') m news ∧ B ≤ g' ∧ g' < W'.heap.size ∧ Below W.heap.size W W')
    (h : ∀ g' c' W', W'.ownsRow B e size (.slice (some ⟨g', 0, none⟩) m c') m news → B ≤ g' → g' < W'.heap.size → Below W.heap.size W W' → wpList Tryz.prog ops Q rest (a.put o.dst (.slice (some ⟨g', 0, none⟩) m c')) W') :
    wpList Tryz.prog ops Q (o :: rest) a W := by
  refine wpList_plain hgd fun K hK => ?_
  obtain ⟨g', c', W', h1, h2, h3, h4, h5⟩ := hr o.type
  unfold Oper.wp execOp
  simp only [ho, resolve, invoke, builtin, Sem.run_bind, Sem.run_pure, Result.andThen_ok, List.map_toArray, List.map_cons, List.map_nil, hs, hx, h1]
  exact hK _ _ (h g' c' W' h2 h3 h4 h5)
/-- The three kinds of lists. -/
theorem fresh_bytes (W : World) (B g : Nat) (a : Option Addr) (n c : Nat) (zs : List Int) (hn : zs.length = n) (hs : n ≤ 8000000) (hB : B ≤ g) (hown : W.ownsRow B 5 1 (.slice (some ⟨g, 0, none⟩) 0 0) 0 []) (hr : Rd W a zs) (ty : TypeId) :
    ∃ g' c' W', (Builtin.append_ #[37, 37] ty #[.slice (some ⟨g, 0, none⟩) 0 0, .slice a n c]).run Tryz.prog W = .ok (.slice (some ⟨g', 0, none⟩) n c') W' ∧ W'.ownsRow B 5 1 (.slice (some ⟨g', 0, none⟩) n c') n (zs.map (Value.int .u8)) ∧ B ≤ g' ∧ g' < W'.heap.size ∧ Below W.heap.size W W' := by
  obtain ⟨i0, hi, hz0, hz1, hz2⟩ := info_parts Tryz.info5
  refine run_fresh W B 37 ty 5 i0 (.int .u8 0) 1 1 Tryz.underlying37 hi hz0 hz1 hz2 rfl (by omega) g hB hown a n c (zs.map (Value.int .u8)) (by simp [hn]) ?_ (fun _ => by cases a with | none => exact .inl rfl | some ad => exact .inr ⟨ad, rfl⟩) (fun u hu => by obtain ⟨z, _, rfl⟩ := List.mem_map.1 hu; rfl) hs (by omega)
  rcases hr with rfl | ⟨b, off, rfl, hc⟩
  · exact .inl rfl
  · refine .inr ⟨_, rfl, fun j u hj => ?_⟩
    simp only [List.getElem?_map] at hj
    by_cases hjm : j < zs.length
    · have := hc j hjm
      rw [show (⟨b, off, none⟩ : Addr).add j = ⟨b, off + j, none⟩ by simp [Addr.add], this]
      rw [List.getElem?_eq_getElem hjm] at hj
      simpa [List.getElem?_eq_getElem hjm] using hj
    · rw [List.getElem?_eq_none (by omega)] at hj
      simp at hj
theorem fresh_pairs (W : World) (B g : Nat) (t e : TypeId) (i : TypeInfo) (z : Value) (bytes : Nat) (ht : Tryz.prog.underlying t = some (.slice e)) (hi : Tryz.prog.info? e = some i) (hz : i.zero = some z) (hsize : i.size = 2) (hby : i.bytes = bytes) (hzs : z.cells.size = 2) (hb64 : bytes ≤ 64) (a : Option Addr) (n c : Nat) (ps : List VP) (hn : ps.length = n) (hs : n ≤ 8000000) (hone : ∀ p ∈ ps, p.1.oneCell' = true ∧ p.2.oneCell' = true) (hB : B ≤ g) (hown : W.ownsRow B e 2 (.slice (some ⟨g, 0, none⟩) 0 0) 0 []) (hr : RdP W a ps) (ty : TypeId) :
    ∃ g' c' W', (Builtin.append_ #[t, t] ty #[.slice (some ⟨g, 0, none⟩) 0 0, .slice a n c]).run Tryz.prog W = .ok (.slice (some ⟨g', 0, none⟩) n c') W' ∧ W'.ownsRow B e 2 (.slice (some ⟨g', 0, none⟩) n c') n (pv ps) ∧ B ≤ g' ∧ g' < W'.heap.size ∧ Below W.heap.size W W' := by
  refine run_fresh W B t ty e i z 2 bytes ht hi hz hsize hby hzs (by omega) g hB hown a n c (pv ps) (by rw [pv_length, hn]) ?_ (fun _ => by cases a with | none => exact .inl rfl | some ad => exact .inr ⟨ad, rfl⟩) ?_ hs hb64
  · rcases hr with rfl | ⟨b, off, rfl, hc⟩
    · exact .inl rfl
    · refine .inr ⟨_, rfl, fun j u hj => ?_⟩
      have hjl : j < (pv ps).length := (List.getElem?_eq_some_iff.1 hj).1
      rw [pv_length] at hjl
      obtain ⟨p1, p2⟩ := pv_at ps (j / 2) (by omega)
      obtain ⟨q1, q2⟩ := hc (j / 2) (by omega)
      rw [show (⟨b, off, none⟩ : Addr).add j = ⟨b, off + j, none⟩ by simp [Addr.add]]
      rcases (show j = j / 2 * 2 ∨ j = j / 2 * 2 + 1 by omega) with e | e
      · rw [e] at hj ⊢
        rw [p1] at hj
        rw [q1]
        exact hj
      · rw [e] at hj ⊢
        rw [p2] at hj
        rw [← Nat.add_assoc, q2]
        exact hj
  · intro u hu
    unfold pv at hu
    obtain ⟨p, hp, hu⟩ := List.mem_flatMap.1 hu
    simp at hu
    rcases hu with rfl | rfl
    · exact (hone p hp).1
    · exact (hone p hp).2
theorem eP_one (es : List (ByteArray × Int)) : ∀ p ∈ eP es, p.1.oneCell' = true ∧ p.2.oneCell' = true := by
  intro p hp
  obtain ⟨e, _, rfl⟩ := List.mem_map.1 hp
  exact ⟨rfl, rfl⟩
theorem aP_one (es : List (ByteArray × ByteArray)) : ∀ p ∈ aP es, p.1.oneCell' = true ∧ p.2.oneCell' = true := by
  intro p hp
  obtain ⟨e, _, rfl⟩ := List.mem_map.1 hp
  exact ⟨rfl, rfl⟩
theorem empty_row (W : World) (B : Nat) (e : TypeId) (s : Nat) (hB : B ≤ W.heap.size) : (W.alloc (.cells #[] e)).ownsRow B e s (.slice (some ⟨W.heap.size, 0, none⟩) 0 0) 0 [] :=
  ⟨by simp, .inr ⟨W.heap.size, 0, #[], rfl, hB, heap_alloc_new W _, Nat.le_refl _, Nat.zero_le _, by simp, by simp⟩⟩
end Go.Proofs.YtnadeelnjhollaaGreat
