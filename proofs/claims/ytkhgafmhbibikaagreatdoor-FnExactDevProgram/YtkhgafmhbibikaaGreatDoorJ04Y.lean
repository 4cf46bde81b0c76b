/-
  Joined: Puts, MarkIno, Kept.
-/
import Derived.Test.YtkhgafmhbibikaaGreatDoorJ02Y
import Derived.Lib.AppendStr
import Derived.ProofKit
import Derived.ChangeOld
import Derived.Below
import Derived.Deep.DeepCutAuto
import Derived.Lib.ConvBytes
import Derived.Deep.RegionHeld3
import Derived.Deep.AppendLies
namespace Go.Proofs.YtkhgafmhbibikaaGreatDoor
section
open Go.RowKit
/-- v is a row of the call's own, at or behind B, of the bytes zs; nil, if there are none. -/
def OwnV (B : Nat) (w : World) (v : Value) (n : Nat) (zs : List Int) : Prop := w.ownsRow B 5 1 v n (zs.map (Value.int .u8))
theorem OwnV.len {B : Nat} {w : World} {v : Value} {n : Nat} {zs : List Int} (h : OwnV B w v n zs) : zs.length = n := by simpa using h.1
theorem OwnV.block {B : Nat} {w : World} {v : Value} {n k : Nat} {zs : List Int} (h : OwnV B w v n zs) (hk : v.ownBlock = some k) : B ≤ k ∧ ∃ cur, w.heap[k]? = some (.cells cur 5 (0, 0)) := by
  rcases h.2 with ⟨rfl, _⟩ | ⟨g, cap, cur, rfl, hb, hg, _⟩
  · simp [Value.ownBlock] at hk
  · simp [Value.ownBlock] at hk
    subst hk
    exact ⟨hb, cur, hg⟩
theorem OwnV.alloc {B : Nat} {w : World} {v : Value} {n : Nat} {zs : List Int} (h : OwnV B w v n zs) (o : Obj) : OwnV B (w.alloc o) v n zs := World.ownsRow.alloc h o
theorem Blk.row {B : Nat} {w w' : World} {v : Value} {n ad : Nat} {zs : List Int} {t : TypeId} {vs : Array Value} (h : Blk w ad t vs) (ht : t ≠ 5) (ho : OwnV B w v n zs) (hg : w.grownBy w' v.ownBlock) : Blk w' ad t vs := by
  refine (hg.block ad h.lt ?_).trans h
  intro e
  obtain ⟨_, cur, hc⟩ := ho.block e.symm
  rw [show w.heap[ad]? = _ from h] at hc
  simp at hc
  exact ht hc.2
theorem OwnV.some {B : Nat} {w : World} {v : Value} {n : Nat} {zs : List Int} (h : OwnV B w v n zs) (hn : n ≠ 0) : ∃ g c, v = .slice (some ⟨g, 0, none⟩) n c ∧ B ≤ g ∧ Own w g n c zs := by
  rcases h.2 with ⟨rfl, h0⟩ | ⟨g, cap, cur, rfl, hb, hg, rest⟩
  · exact absurd h0 hn
  · exact ⟨g, cap, rfl, hb, h.1, .inr ⟨g, cap, cur, rfl, Nat.zero_le _, hg, rest⟩⟩
theorem Own.toV {B : Nat} {w : World} {g n c : Nat} {zs : List Int} (h : Own w g n c zs) (hB : B ≤ g) : OwnV B w (.slice (some ⟨g, 0, none⟩) n c) n zs := by
  refine ⟨h.1, ?_⟩
  rcases h.2 with ⟨h', _⟩ | ⟨g', cap', cur, h', _, rest⟩
  · simp at h'
  · refine .inr ⟨g', cap', cur, h', ?_, rest⟩
    simp only [Value.slice.injEq, Option.some.injEq, Addr.mk.injEq, and_true, true_and] at h'
    omega
theorem ownV_nil (B : Nat) (w : World) : OwnV B w (.slice none 0 0) 0 [] := ⟨rfl, .inl ⟨rfl, rfl⟩⟩
end

section
open Go.RowKit
theorem row_at {e : TypeId} {B s n : Nat} {w : World} {v : Value} {xs : List Value} (h : w.ownsRow B e s v n xs) {g : Nat} (hg : v.ownBlock = some g) : B ≤ g ∧ ∃ cur, w.heap[g]? = some (.cells cur e (0, 0)) := by
  rcases h.2 with ⟨rfl, _⟩ | ⟨g', cap, cur, rfl, hb, hgg, _⟩
  · simp [Value.ownBlock] at hg
  · simp [Value.ownBlock] at hg
    subst hg
    exact ⟨hb, cur, hgg⟩
/-- All blocks but the three rows are as they were. -/
structure But (w w' : World) (r1 r2 r3 : Option Nat) : Prop where
  os : w'.os = w.os
  tape : w'.tape = w.tape
  output : w'.output = w.output
  size : w.heap.size ≤ w'.heap.size
  block : ∀ k, k < w.heap.size → some k ≠ r1 → some k ≠ r2 → some k ≠ r3 → w'.heap[k]? = w.heap[k]?
theorem OwnV.keep {B : Nat} {w w' : World} {v : Value} {n : Nat} {zs : List Int} (h : OwnV B w v n zs) (hb : Below w.heap.size w w') : OwnV B w' v n zs := by
  refine ⟨h.1, ?_⟩
  rcases h.2 with h' | ⟨g', cap', cur, h', hb', hgg, rest⟩
  · exact .inl h'
  · exact .inr ⟨g', cap', cur, h', hb', (hb.block g' (Array.getElem?_eq_some_iff.1 hgg).1).trans hgg, rest⟩
end

section
open Go.RowKit
theorem OwnV.drew {B : Nat} {w : World} {v : Value} {n : Nat} {zs : List Int} (h : OwnV B w v n zs) : OwnV B w.drew v n zs := h
theorem Blk.drew {w : World} {B : Nat} {t : TypeId} {vs : Array Value} (h : Blk w B t vs) : Blk w.drew B t vs := h
/-- All blocks of these types are as they were. -/
def KpT (W W' : World) (ts : List TypeId) : Prop := ∀ (B : Nat) (cur : Array Value) (t : TypeId) (fr : Nat × Nat), W.heap[B]? = some (Obj.cells cur t fr) → t ∈ ts → W'.heap[B]? = W.heap[B]?
theorem KpT.below {W W' : World} (h : Below W.heap.size W W') (ts : List TypeId) : KpT W W' ts := fun B _ _ _ hB _ => h.block B (Array.getElem?_eq_some_iff.1 hB).1
theorem KpT.grown {W W' : World} {R : Nat} {t : TypeId} {vs : Array Value} {ts : List TypeId} (h : W.grownBy W' (some R)) (hb : Blk W R t vs) (ht : t ∉ ts) : KpT W W' ts := fun B cur t' fr hB hm => h.block B (Array.getElem?_eq_some_iff.1 hB).1 (fun e => by
  simp at e
  subst e
  rw [show W.heap[B]? = _ from hb] at hB
  simp at hB
  exact ht (by rw [hB.2.1]; exact hm))
theorem KpT.row {W W' : World} {v : Value} {e : TypeId} {B s n : Nat} {xs : List Value} {ts : List TypeId} (h : W.grownBy W' v.ownBlock) (ho : W.ownsRow B e s v n xs) (ht : e ∉ ts) : KpT W W' ts := fun b cur t' fr hB hm => h.block b (Array.getElem?_eq_some_iff.1 hB).1 (fun q => by
  obtain ⟨_, c, hc⟩ := row_at ho q.symm
  rw [hc] at hB
  simp at hB
  exact ht (by rw [hB.2.1]; exact hm))
theorem KpT.but {W W' : World} {r1 r2 : Nat} {t1 t2 : TypeId} {u1 u2 : Array Value} {ts : List TypeId} (h : But W W' (some r1) (some r2) none) (h1 : Blk W r1 t1 u1) (h2 : Blk W r2 t2 u2) (n1 : t1 ∉ ts) (n2 : t2 ∉ ts) : KpT W W' ts := fun B cur t' fr hB hm => by
  refine h.block B (Array.getElem?_eq_some_iff.1 hB).1 (fun e => ?_) (fun e => ?_) (by simp)
  · simp at e
    subst e
    rw [show W.heap[B]? = _ from h1] at hB
    simp at hB
    exact n1 (by rw [hB.2.1]; exact hm)
  · simp at e
    subst e
    rw [show W.heap[B]? = _ from h2] at hB
    simp at hB
    exact n2 (by rw [hB.2.1]; exact hm)
theorem Blk.kp {W W' : World} {B : Nat} {t : TypeId} {vs : Array Value} {ts : List TypeId} (h : Blk W B t vs) (k : KpT W W' ts) (ht : t ∈ ts) : Blk W' B t vs := (k B _ _ _ h ht).trans h
theorem pair_news (w : World) (p : VP) (t : TypeId) : ∀ j u, [p.1, p.2][j]? = some u → (w.alloc (.cells #[p.1, p.2] t)).cell? ((⟨w.heap.size, 0, none⟩ : Addr).add j) = some u := by
  intro j u hj
  rw [add_at, (Blk.new w t #[p.1, p.2]).cell j]
  match j, hj with
  | 0, hj => simpa using hj
  | 1, hj => simpa using hj
  | j + 2, hj => simp at hj
end
end Go.Proofs.YtkhgafmhbibikaaGreatDoor
