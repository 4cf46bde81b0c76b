/-
  Joined: App10, MarkGI.
-/
import Derived.Test.YtcocjffjhbpoeaaJ06X
import Derived.Deep.AppendSrc
namespace Go.Proofs.Ytcocjffjhbpoeaa
section
open Go.RowKit
/-- What was appended, and where it lies. -/
theorem run_appAny (W : World) (B : Nat) (t ty e : TypeId) (i : TypeInfo) (z : Value) (size bytes : Nat) (ht : Try.prog.underlying t = some (.slice e)) (hi : Try.prog.info? e = some i) (hz : i.zero = some z) (hsize : i.size = size) (hby : i.bytes = bytes) (hzs : z.cells.size = size) (hsz : 0 < size)
    (v : Value) (n : Nat) (xs : List Value) (hown : W.ownsRow B e size v n xs) (ao : Option Addr) (m c : Nat) (news : List Value) (hl : news.length = m * size) (hnews : m = 0 ∨ ∃ ad, ao = some ad ∧ ∀ j u, news[j]? = some u → W.cell? (ad.add j) = some u)
    (h1 : ∀ u ∈ news, u.oneCell' = true) (h63 : n + m ≤ 8000000) (hb64 : bytes ≤ 640) (hB : B ≤ W.heap.size) :
    ∃ v' W', (Builtin.append_ #[t, t] ty #[v, .slice ao m c]).run Try.prog W = .ok v' W' ∧ W'.ownsRow B e size v' (n + m) (xs ++ news) ∧ W.grownBy W' v.ownBlock ∧ (v'.ownBlock = v.ownBlock ∨ v'.ownBlock = some W.heap.size) := by
  cases ao with
  | some ad =>
    obtain ⟨v', w', hr, h2, h3, _, h5⟩ := run_append_own_at (P := Try.prog) W B t ty e i z size bytes ht hi hz hsize hby hzs hsz v n xs hown ad m c news hl (by
      rcases hnews with h0 | ⟨ad', h0, hn⟩
      · subst h0
        obtain rfl : news = [] := List.length_eq_zero_iff.1 (by simpa using hl)
        intro j u hj; simp at hj
      · simp at h0; subst h0; exact hn) h1 (by unfold maxLen; omega) (by have : (n + m) * bytes ≤ 8000000 * 640 := Nat.mul_le_mul (by omega) hb64; omega) hB
    exact ⟨v', w', hr, h2, h3, h5⟩
  | none =>
    have hm : m = 0 := by
      rcases hnews with h0 | ⟨ad', h0, _⟩
      · exact h0
      · simp at h0
    subst hm
    obtain rfl : news = [] := List.length_eq_zero_iff.1 (by simpa using hl)
    have hs : Go.Src Try.prog i.size t (.slice none 0 c) 0 [] W := Go.Src.ofNil W ht c
    refine ⟨v, W, ?_, by rw [Nat.add_zero, List.append_nil]; exact hown, World.grownBy.refl W _, .inl rfl⟩
    rcases hown.2 with ⟨rfl, rfl⟩ | ⟨g, cap, cur, rfl, _, _, hk, _⟩
    · simp [Builtin.append_, run_underlying ht, sizeOf, typeInfo, hi, hs.len, hs.cells]
    · have hr := run_append_room_src W t t ty e i ht hi g 0 n cap (.slice none 0 c) 0 [] hs (by omega) (fun j hj => by simp at hj) (fun j hj => by simp at hj)
      rw [hr]
      rfl
/-- At the operation. -/
theorem wpList_appAny (W : World) {ops : Array Oper} {rest : List Oper} {o : Oper} {a : Act} {Q : Exit → Act → World → Prop} (hgd : o.guard = none) (s x : Operand) (t : TypeId)
    (ho : o.op = .call { callee := .builtin .append, args := #[s, x], argTypes := #[t, t] }) (v u : Value) (R : Value → World → Prop) (hs : a.eval s = v) (hx : a.eval x = u)
    (hr : ∀ ty, ∃ v' W', (Builtin.append_ #[t, t] ty #[v, u]).run Try.prog W = .ok v' W' ∧ R v' W')
    (h : ∀ v' W', R v' W' → wpList Try.prog ops Q rest (a.put o.dst v') W') :
    wpList Try.prog ops Q (o :: rest) a W := by
  refine wpList_plain hgd fun K hK => ?_
  obtain ⟨v', W', h1, h2⟩ := hr o.type
  unfold Oper.wp execOp
  simp only [ho, resolve, invoke, builtin, Sem.run_bind, Sem.run_pure, Result.andThen_ok, List.map_toArray, List.map_cons, List.map_nil, hs, hx, h1]
  exact hK _ _ (h v' W' h2)
/-- Bytes onto bytes. -/
structure AppB (W : World) (v : Value) (n : Nat) (zs : List Int) (v' : Value) (W' : World) : Prop where
  own : OwnV 0 W' v' n zs
  gr : W.grownBy W' v.ownBlock
  at_ : v'.ownBlock = v.ownBlock ∨ v'.ownBlock = some W.heap.size
theorem app_bytes (W : World) (v : Value) (n : Nat) (xs : List Int) (ao : Option Addr) (m c : Nat) (zs : List Int) (hn : zs.length = m) (hs : n + m ≤ 8000000) (hown : OwnV 0 W v n xs) (hr : Rd W ao zs) (ty : TypeId) :
    ∃ v' W', (Builtin.append_ #[45, 45] ty #[v, .slice ao m c]).run Try.prog W = .ok v' W' ∧ AppB W v (n + m) (xs ++ zs) v' W' := by
  obtain ⟨i0, hi, hz0, hz1, hz2⟩ := info_parts Try.info5
  obtain ⟨v', W', h1, h2, h3, h4⟩ := run_appAny W 0 45 ty 5 i0 (.int .u8 0) 1 1 Try.underlying45 hi hz0 hz1 hz2 rfl (by omega) v n (xs.map (Value.int .u8)) hown ao m c (zs.map (Value.int .u8)) (by simp [hn]) (by
    rcases hr with rfl | ⟨b, off, rfl, hc⟩
    · left; simpa using hn.symm
    · refine .inr ⟨_, rfl, fun j u hj => ?_⟩
      simp only [List.getElem?_map] at hj
      by_cases hjm : j < zs.length
      · have := hc j hjm
        rw [show (⟨b, off, none⟩ : Addr).add j = ⟨b, off + j, none⟩ by simp [Addr.add], this]
        rw [List.getElem?_eq_getElem hjm] at hj
        simpa [List.getElem?_eq_getElem hjm] using hj
      · rw [List.getElem?_eq_none (by omega)] at hj
        simp at hj) (fun u hu => by obtain ⟨z, _, rfl⟩ := List.mem_map.1 hu; rfl) hs (by omega) (Nat.zero_le _)
  exact ⟨v', W', h1, ⟨by unfold OwnV; rw [List.map_append]; exact h2, h3, h4⟩⟩
theorem AppB.below {W W' : World} {v v' : Value} {n : Nat} {zs : List Int} (h : AppB W v n zs v' W') (hv : v.ownBlock = none) : Below W.heap.size W W' := ⟨h.gr.os, h.gr.tape, h.gr.output, h.gr.size, fun k hk => h.gr.block k hk (by rw [hv]; simp)⟩
end

section
open Go.RowKit
/-- All blocks outside the interval are as they were. -/
structure Out (B T : Nat) (w w' : World) : Prop where
  os : w'.os = w.os
  tape : w'.tape = w.tape
  output : w'.output = w.output
  size : w.heap.size ≤ w'.heap.size
  block : ∀ k, k < w.heap.size → (k < B ∨ T ≤ k) → w'.heap[k]? = w.heap[k]?
theorem Out.refl (B T : Nat) (w : World) : Out B T w w := ⟨rfl, rfl, rfl, Nat.le_refl _, fun _ _ _ => rfl⟩
theorem Out.trans {B T : Nat} {a b c : World} (h : Out B T a b) (k : Out B T b c) : Out B T a c :=
  ⟨k.os.trans h.os, k.tape.trans h.tape, k.output.trans h.output, Nat.le_trans h.size k.size, fun i hi ho => (k.block i (Nat.lt_of_lt_of_le hi h.size) ho).trans (h.block i hi ho)⟩
theorem Out.wider {B T B' T' : Nat} {a b : World} (h : Out B T a b) (h1 : B' ≤ B) (h2 : T ≤ T') : Out B' T' a b :=
  ⟨h.os, h.tape, h.output, h.size, fun i hi ho => h.block i hi (by omega)⟩
theorem Below.out {a b : World} (h : Below a.heap.size a b) (B T : Nat) : Out B T a b := ⟨h.os, h.tape, h.output, h.size, fun k hk _ => h.block k hk⟩
theorem Out.gr {B T : Nat} {a b : World} {r : Option Nat} (h : a.grownBy b r) (hr : ∀ g, r = some g → B ≤ g ∧ g < T) : Out B T a b :=
  ⟨h.os, h.tape, h.output, h.size, fun k hk ho => h.block k hk (fun e => by have := hr k e.symm; omega)⟩
end
end Go.Proofs.Ytcocjffjhbpoeaa
