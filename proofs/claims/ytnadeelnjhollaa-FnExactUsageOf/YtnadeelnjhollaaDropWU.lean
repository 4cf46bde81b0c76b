/-
  What the law on DropInode needs: tables whose row may be nil, compared and marked.
-/
import Derived.Test.YtnadeelnjhollaaTabNewU
import Derived.Test.YtnadeelnjhollaaAtWU
import Derived.Test.YtnadeelnjhollaaDropQU
namespace Go.Proofs.Ytnadeelnjhollaa
open Go.RowKit
theorem DQT.outs {B : Nat} {W W' : World} {v : Value} {ds : List InoR} {js : List InoJ} {Lo Hi : Nat} (h : DQT B W v ds js) (k : Out Lo Hi W W') (hd : Hi ≤ B) : DQT B W' v ds js := by
  refine ⟨h.ds, ?_, ⟨fun i j e => InoG.kept (h.jq.G i j e) (fun b h1 h2 => k.block b (by have := h.jq.lo i j e; omega) (by have := h.jq.lo i j e; omega)), fun i j e => by have := h.jq.lo i j e; have := k.size; omega, h.jq.ord⟩, h.ap⟩
  refine ⟨h.row.1, h.row.2.imp id (fun ⟨g, c, cur, h1, h2, h3, rest⟩ => ⟨g, c, cur, h1, h2, ?_, rest⟩)⟩
  rw [k.block g (Array.getElem?_eq_some_iff.1 h3).1 (by omega)]
  exact h3
theorem DQT.cases {B : Nat} {W : World} {a : Option Addr} {n c : Nat} {ds : List InoR} {js : List InoJ} (h : DQT B W (.slice a n c) ds js) (hn : js.length = n) : (a = none ∧ js = [] ∧ n = 0 ∧ c = 0) ∨ ∃ g, a = some ⟨g, 0, none⟩ ∧ B ≤ g ∧ OwnI W g n c (js.map InoJ.r) := by
  have hr := h.row
  rw [hn] at hr
  rcases hr.2 with ⟨h1, h2⟩ | ⟨g, c', cur, h1, h2, rest⟩
  · simp at h1
    obtain ⟨rfl, h3, rfl⟩ := h1
    exact .inl ⟨rfl, List.length_eq_zero_iff.1 (by omega), h3, rfl⟩
  · simp at h1
    obtain ⟨rfl, rfl⟩ := h1
    exact .inr ⟨g, rfl, h2, ⟨hr.1, .inr ⟨g, _, cur, rfl, Nat.zero_le _, rest⟩⟩⟩
theorem InoJ.G.rd {w : World} {j : InoJ} (h : j.G w) : j.r.rd w := by
  obtain ⟨a1, c1, a2, c2, a3, c3, e1, e2, e3, hr⟩ := InoG.form h
  simp [InoJ.v1] at e1
  simp [InoJ.v2] at e2
  simp [InoJ.v3] at e3
  unfold InoR.rd
  rw [e1.1, e2.1, e3.1]
  exact hr
theorem DQT.rd {B : Nat} {W : World} {a : Option Addr} {n c : Nat} {ds : List InoR} {js : List InoJ} (h : DQT B W (.slice a n c) ds js) (hn : js.length = n) : RdI W a (js.map InoJ.r) := by
  rcases h.cases hn with ⟨_, rfl, _, _⟩ | ⟨g, rfl, _, ho⟩
  · exact .inl rfl
  · refine OwnI.rds ho (fun r hr => ?_)
    obtain ⟨j, hj, rfl⟩ := List.mem_map.1 hr
    obtain ⟨i, hi⟩ := List.getElem?_of_mem hj
    exact (h.jq.G i j hi).rd
theorem DQT.small {B : Nat} {W : World} {v : Value} {ds : List InoR} {js : List InoJ} (h : DQT B W v ds js) (hs : ∀ r ∈ ds, InoSmall r.D) : ∀ r ∈ js.map InoJ.r, InoSmall r.D := by
  intro r hr
  have h1 : r.D ∈ (js.map InoJ.r).map InoR.D := List.mem_map_of_mem hr
  rw [h.ds] at h1
  obtain ⟨q, hq, hqr⟩ := List.mem_map.1 h1
  rw [← hqr]
  exact hs q hq
theorem eqV {B B' : Nat} {W : World} {a a' : Option Addr} {n c c' : Nat} {ds : List InoR} {js js' : List InoJ} (nx : Int) (hs : n ≤ 1048576) (hsm : ∀ r ∈ ds, InoSmall r.D) (h : DQT B W (.slice a n c) ds js) (h' : DQT B' W (.slice a' n c') ds js') (hn : js.length = n) (hn' : js'.length = n) :
    Calls Try.prog 11 #[.agg #[.slice a n c, .int .i64 nx], .agg #[.slice a' n c', .int .i64 nx]] W fun e w' => e = .returned (.bool true) ∧ Below W.heap.size W w' :=
  eqTab_same _ _ n c c' nx _ _ W (by rw [List.length_map]; exact hn) (by omega) (by rw [h'.ds, h.ds]) (h.small hsm) (h.rd hn) (h'.rd hn')
end Go.Proofs.Ytnadeelnjhollaa
