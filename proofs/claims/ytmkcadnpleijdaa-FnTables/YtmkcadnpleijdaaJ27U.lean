/-
  Joined: TbD, TbA.
-/
import Derived.Test.YtmkcadnpleijdaaJ23U
import Derived.Test.YtmkcadnpleijdaaJ26U
namespace Go.Proofs.Ytmkcadnpleijdaa
section
open Go.RowKit
/-- What is known of a table while it is drawn: its box, the answer's cell, its rows (all blocks behind the base), and that texts' blocks are as they were. -/
structure XT (w Wb W : World) (gc n cap : Nat) (a : Option Addr) (zs : List Int) (X : Nat) (nx : Int) (vb v : Value) (ps : List RwD) : Prop where
  src : Src W gc n cap a zs
  gr : w.grownBy W (some gc)
  res : Blk W w.heap.size 26 #[.int .i64 0, .slice none 0 0]
  box : Blk W X 26 #[.int .i64 nx, vb]
  own : W.ownsRow (w.heap.size + 1) 35 5 v ps.length (rwE.xv ps)
  hX : w.heap.size < X
  hgc : gc < w.heap.size
  k9 : KpT Wb W [9]
theorem Cur.kp9 {W W' : World} {gc n cap : Nat} {a : Option Addr} (h : Cur W gc a n cap) (g : W.grownBy W' (some gc)) (ts : List TypeId) (hts : 81 ∉ ts) : KpT W W' ts := fun B cur t' fr hB hm => g.block B (Array.getElem?_eq_some_iff.1 hB).1 (fun e => by
  simp at e
  subst e
  obtain ⟨i, hh, _, hb⟩ := h
  rw [hb] at hB
  simp at hB
  exact hts (by rw [hB.2.1]; exact hm))
theorem XT.step {W' : World} {w Wb W : World} {gc n cap : Nat} {a : Option Addr} {zs : List Int} {X : Nat} {nx : Int} {vb v : Value} {ps : List RwD} (h : XT w Wb W gc n cap a zs X nx vb v ps) (hs : Src W' gc n cap a zs) (hg : W.grownBy W' (some gc)) : XT w Wb W' gc n cap a zs X nx vb v ps :=
  ⟨hs, h.gr.trans hg, h.res.kept hg (by have := h.hgc; omega), h.box.kept hg (by have := h.hgc; have := h.hX; omega), row_kept h.own hg (fun g hv e => by have := (row_at h.own hv).1; have := h.hgc; simp at e; omega), h.hX, h.hgc, h.k9.tb (h.src.cur.kp9 hg _ (by decide))⟩
theorem XT.alloc {w Wb W : World} {gc n cap : Nat} {a : Option Addr} {zs : List Int} {X : Nat} {nx : Int} {vb v : Value} {ps : List RwD} (h : XT w Wb W gc n cap a zs X nx vb v ps) (o : Obj) : XT w Wb (W.alloc o) gc n cap a zs X nx vb v ps :=
  ⟨h.src.alloc o, h.gr.trans (World.grownBy_alloc W o _), h.res.alloc o, h.box.alloc o, World.ownsRow.alloc h.own o, h.hX, h.hgc, h.k9.tb (KpT.below ((Below.refl _ _).alloc (Nat.le_refl _) o) _)⟩
/-- What stays but for nothing stays but for one. -/
theorem grT_any {W W' : World} (h : W.grownBy W' none) (g : Nat) : W.grownBy W' (some g) := ⟨h.os, h.tape, h.output, h.size, fun k hk _ => h.block k hk (by simp)⟩
theorem XT.drew {w Wb W : World} {gc n cap : Nat} {a : Option Addr} {zs : List Int} {X : Nat} {nx : Int} {vb v : Value} {ps : List RwD} (h : XT w Wb W gc n cap a zs X nx vb v ps) : XT w Wb W.drew gc n cap a zs X nx vb v ps :=
  ⟨h.src.keep (Below.refl _ _).drew, ⟨h.gr.os, h.gr.tape, h.gr.output, h.gr.size, h.gr.block⟩, h.res, h.box, h.own, h.hX, h.hgc, h.k9⟩
theorem XT.setV {w Wb W : World} {gc n cap : Nat} {a : Option Addr} {zs : List Int} {X : Nat} {nx : Int} {vb v : Value} {ps : List RwD} (h : XT w Wb W gc n cap a zs X nx vb v ps) (v' : Value) : XT w Wb (W.setCell ⟨X, 1, none⟩ v') gc n cap a zs X nx v' v ps := by
  have hg := gr_setC W X 1 v'
  have h1 := h.hX
  have h2 := h.hgc
  exact ⟨h.src.other hg (by omega), gr_mono h.gr (.inr (by omega)) hg, h.res.kept hg (by omega), h.box.set 1 _, row_kp h.own (KpT.grown (ts := [35]) hg h.box (by decide)) (by decide), h1, h2, h.k9.tb (KpT.grown hg h.box (by decide))⟩
/-- One row more, the box as it was. -/
theorem XT.app {W' : World} {v' : Value} {p : RwD} {w Wb W : World} {gc n cap : Nat} {a : Option Addr} {zs : List Int} {X : Nat} {nx : Int} {vb v : Value} {ps : List RwD} (h : XT w Wb W gc n cap a zs X nx vb v ps) (hg : W.grownBy W' v.ownBlock) (ho : W'.ownsRow (w.heap.size + 1) 35 5 v' (ps.length + 1) (rwE.xv (ps ++ [p]))) : XT w Wb W' gc n cap a zs X nx vb v' (ps ++ [p]) := by
  have h1 := h.hX
  have h2 := h.hgc
  have hne : ∀ g, v.ownBlock = some g → g ≠ gc ∧ w.heap.size < g := fun g hv => by have := (row_at h.own hv).1; omega
  have s1 : Src W' gc n cap a zs := by
    cases hv : v.ownBlock with
    | none => rw [hv] at hg; exact h.src.keep ((Below.refl _ _).grown hg (Nat.le_refl _) (by simp))
    | some g => rw [hv] at hg; exact h.src.other hg (by have := hne g hv; omega)
  have g1 : w.grownBy W' (some gc) := by
    cases hv : v.ownBlock with
    | none => rw [hv] at hg; exact h.gr.trans (grT_any hg gc)
    | some g => rw [hv] at hg; exact gr_mono h.gr (.inr (by have := hne g hv; omega)) hg
  have r1 : Blk W' w.heap.size 26 #[.int .i64 0, .slice none 0 0] := (hg.block _ h.res.lt (fun e => by have := hne _ e.symm; omega)).trans h.res
  have kT : KpT W W' [26, 9] := KpT.row hg h.own (by decide)
  exact ⟨s1, g1, r1, h.box.kp kT (by decide), by rw [List.length_append]; exact ho, h1, h2, h.k9.tb (kT.sub (by decide))⟩
/-- The names that are drawn. -/
def nmL (k : Nat) : ByteArray := ([⟨#[109, 97, 105, 110]⟩, ⟨#[115, 110, 97, 112]⟩, ⟨#[119, 111, 114, 107]⟩] : List ByteArray).getD k ⟨#[]⟩
/-- The row that is drawn in the place k. -/
def RwG (k : Nat) (r : RwD) : Prop := r.id = 1 + 2 * (k : Int) ∧ r.name = nmL k ∧ (32 ≤ r.lim ∧ r.lim ≤ 4000) ∧ 0 ≤ r.mp ∧ r.mp ≤ 191
def RwGs (ps : List RwD) : Prop := ∀ (j : Nat) (r : RwD), ps[j]? = some r → RwG j r
theorem rwGs_nil : RwGs [] := fun j r h => by simp at h
theorem RwGs.snoc {ps : List RwD} {r : RwD} (h : RwGs ps) (hr : RwG ps.length r) : RwGs (ps ++ [r]) := fun j q hj => by
  by_cases h1 : j < ps.length
  · rw [List.getElem?_append_left h1] at hj
    exact h j q hj
  · have hl := (List.getElem?_eq_some_iff.1 hj).1
    rw [List.length_append, List.length_singleton] at hl
    obtain rfl : j = ps.length := by omega
    rw [List.getElem?_append_right (Nat.le_refl _), Nat.sub_self] at hj
    simp at hj
    rw [← hj]
    exact hr
theorem nmL_ok (k : Nat) (h : k < 3) : nameOk (nmL k).data.toList = true := by
  rcases (show k = 0 ∨ k = 1 ∨ k = 2 by omega) with rfl | rfl | rfl <;> decide
theorem nmL_ne (j k : Nat) (hj : j < k) (hk : k < 3) : ((nmL j).toList == (nmL k).toList) = false := by
  rcases (show (j = 0 ∧ k = 1) ∨ (j = 0 ∧ k = 2) ∨ (j = 1 ∧ k = 2) by omega) with ⟨rfl, rfl⟩ | ⟨rfl, rfl⟩ | ⟨rfl, rfl⟩ <;> kernel_rfl
theorem RwGs.ok {ps : List RwD} (h : RwGs ps) (hl : ps.length ≤ 3) : tbB 9 ps = true := by
  rw [tb_good (fun k hk => ?_) (fun j k q r hjk hj hk => ?_)]
  · simp; omega
  · have hr : ps[k]? = some ps[k] := List.getElem?_eq_getElem hk
    obtain ⟨r, hrr⟩ : ∃ r, ps[k] = r := ⟨_, rfl⟩
    rw [hrr] at hr
    obtain ⟨h1, h2, h3, h4, h5⟩ := h k r hr
    rw [rwStep_at hr]
    have hok : rwOk 9 r = true := by
      unfold rwOk
      rw [h2, nmL_ok k (by omega), h1]
      simp
      omega
    rw [hok, Bool.true_and]
    by_cases h0 : k = 0
    · simp [h0]
    · have hp : ps[k - 1]? = some ps[k - 1] := List.getElem?_eq_getElem (by omega)
      obtain ⟨g1, _⟩ := h (k - 1) _ hp
      rw [getW_at hp, g1, h1]
      simp
      omega
  · obtain ⟨_, h2, _⟩ := h j q hj
    obtain ⟨_, g2, _⟩ := h k r hk
    rw [h2, g2]
    exact nmL_ne j k hjk (by have := (List.getElem?_eq_some_iff.1 hk).1; omega)
/-- A table was drawn: right, in memory of its own. -/
def R15 (w : World) (gc n cap : Nat) (a : Option Addr) (zs : List Int) (e : Ending) (w' : World) : Prop := ∃ (v : Value) (ps : List RwD), e = .returned (.agg #[.int .i64 9, v]) ∧ ps.length ≤ 3 ∧ RwGs ps ∧ w'.ownsRow (w.heap.size + 1) 35 5 v ps.length (rwE.xv ps) ∧ Src w' gc n cap a zs ∧ w.grownBy w' (some gc)
theorem nmL_small (k : Nat) : (nmL k).size ≤ 4 := by
  unfold nmL
  rw [List.getD_eq_getElem?_getD]
  match k with
  | 0 => decide
  | 1 => decide
  | 2 => decide
  | k + 3 => simp only [List.getElem?_cons_succ, List.getElem?_nil, Option.getD_none]; decide
theorem XT.fin {w Wb W : World} {gc n cap : Nat} {a : Option Addr} {zs : List Int} {X : Nat} {nx : Int} {vb v : Value} {ps : List RwD} (h : XT w Wb W gc n cap a zs X nx vb v ps) : ((W.setCell ⟨w.heap.size, 0, none⟩ (.int .i64 nx)).setCell ⟨w.heap.size, 1, none⟩ vb).ownsRow (w.heap.size + 1) 35 5 v ps.length (rwE.xv ps) ∧ Src ((W.setCell ⟨w.heap.size, 0, none⟩ (.int .i64 nx)).setCell ⟨w.heap.size, 1, none⟩ vb) gc n cap a zs ∧ w.grownBy ((W.setCell ⟨w.heap.size, 0, none⟩ (.int .i64 nx)).setCell ⟨w.heap.size, 1, none⟩ vb) (some gc) := by
  have gf := set2_gr W w.heap.size (.int .i64 nx) vb
  have h2 := h.hgc
  exact ⟨rowT_set2 h.own h.res _ _, h.src.other gf (by omega), gr_mono h.gr (.inr (Nat.le_refl _)) gf⟩
/-- A list of three numbers that a draw takes of. -/
def Tri (W : World) (gc : Nat) (cs : Array Value) (u : Value) : Prop := ∃ g : Nat, u = .slice (some ⟨g, 0, none⟩) 3 3 ∧ g ≠ gc ∧ Blk W g 3 cs
theorem Tri.alloc {W : World} {gc : Nat} {cs : Array Value} {u : Value} (h : Tri W gc cs u) (o : Obj) : Tri (W.alloc o) gc cs u := by obtain ⟨g, h1, h2, h3⟩ := h; exact ⟨g, h1, h2, h3.alloc o⟩
theorem Tri.step {W W' : World} {gc : Nat} {cs : Array Value} {u : Value} (h : Tri W gc cs u) (hg : W.grownBy W' (some gc)) : Tri W' gc cs u := by obtain ⟨g, h1, h2, h3⟩ := h; exact ⟨g, h1, h2, h3.kept hg h2⟩
/-- The row that is to be appended, in a list of its own. -/
def OneR (W : World) (gc : Nat) (G : RwD → Prop) (u : Value) : Prop := ∃ (g : Nat) (r : RwD), u = .slice (some ⟨g, 0, none⟩) 1 1 ∧ G r ∧ g ≠ gc ∧ Blk W g 35 #[.int .i64 r.id, .string r.name, .bool r.ro, .int .i64 r.lim, .int .i64 r.mp]
theorem OneR.alloc {W : World} {gc : Nat} {G : RwD → Prop} {u : Value} (h : OneR W gc G u) (o : Obj) : OneR (W.alloc o) gc G u := by obtain ⟨g, r, h1, h2, h3, h4⟩ := h; exact ⟨g, r, h1, h2, h3, h4.alloc o⟩
theorem OneR.step {W W' : World} {gc : Nat} {G : RwD → Prop} {u : Value} (h : OneR W gc G u) (hg : W.grownBy W' (some gc)) : OneR W' gc G u := by obtain ⟨g, r, h1, h2, h3, h4⟩ := h; exact ⟨g, r, h1, h2, h3, h4.kept hg h3⟩
/-- What the operations of the draw's round yield: ahead of the append, and behind it. -/
def JD (w Wb : World) (gc n cap : Nat) (a : Option Addr) (zs : List Int) (X : Nat) (v : Value) (ps : List RwD) (NB k : Nat) : Bool → Nat → Value → World → Prop
  | false, 0, u, _ => u = .pointer (some ⟨X, 1, none⟩)
  | false, 1, u, _ => u = v
  | false, 2, u, _ => u = .int .i64 (k : Int)
  | false, 3, u, _ => u = .int .i64 (2 * (k : Int))
  | false, 4, u, _ => u = .int .i64 (1 + 2 * (k : Int))
  | false, 5, u, _ => u = .slice (some ⟨NB, 0, none⟩) 3 3
  | false, 6, u, _ => u = .int .i64 (k : Int)
  | false, 7, u, _ => u = .pointer (some ⟨NB, k, none⟩)
  | false, 8, u, _ => u = .string (nmL k)
  | false, 9, u, _ => u = .pointer (some ⟨gc, 0, none⟩)
  | false, 10, u, _ => ∃ b, u = .bool b
  | false, 11, u, _ => u = .pointer (some ⟨gc, 0, none⟩)
  | false, 12, u, W => Tri W gc #[.int .i64 32, .int .i64 500, .int .i64 4000] u
  | false, 13, u, _ => ∃ q, u = .int .i64 q ∧ 32 ≤ q ∧ q ≤ 4000
  | false, 14, u, _ => u = .pointer (some ⟨gc, 0, none⟩)
  | false, 15, u, W => Tri W gc #[.int .i64 0, .int .i64 9, .int .i64 191] u
  | false, 16, u, _ => ∃ q, u = .int .i64 q ∧ 0 ≤ q ∧ q ≤ 191
  | false, 17, u, _ => ∃ r, u = .agg #[.int .i64 r.id, .string r.name, .bool r.ro, .int .i64 r.lim, .int .i64 r.mp] ∧ RwG k r
  | false, 18, u, W => OneR W gc (RwG k) u
  | true, 19, u, W => ∃ (g : Nat) (c : Nat) (r : RwD), u = .slice (some ⟨g, 0, none⟩) (ps.length + 1) c ∧ RwG k r ∧ XT w Wb W gc n cap a zs X 9 v u (ps ++ [r])
  | true, 20, u, _ => u = .pointer (some ⟨X, 1, none⟩)
  | _, _, _, _ => True
def SD (w Wb : World) (gc n cap : Nat) (a : Option Addr) (zs : List Int) (X : Nat) (v : Value) (ps : List RwD) (NB : Nat) : Bool → World → Prop
  | false, W => XT w Wb W gc n cap a zs X 9 v v ps ∧ Blk W NB 9 #[.string ⟨#[109, 97, 105, 110]⟩, .string ⟨#[115, 110, 97, 112]⟩, .string ⟨#[119, 111, 114, 107]⟩]
  | true, _ => True
theorem JD.alloc {w Wb W : World} {gc n cap : Nat} {a : Option Addr} {zs : List Int} {X : Nat} {v : Value} {ps : List RwD} {NB k : Nat} (o : Obj) : ∀ (j : Nat) (u : Value), JD w Wb gc n cap a zs X v ps NB k false j u W → JD w Wb gc n cap a zs X v ps NB k false j u (W.alloc o)
  | 0, _, h => h
  | 1, _, h => h
  | 2, _, h => h
  | 3, _, h => h
  | 4, _, h => h
  | 5, _, h => h
  | 6, _, h => h
  | 7, _, h => h
  | 8, _, h => h
  | 9, _, h => h
  | 10, _, h => h
  | 11, _, h => h
  | 12, _, h => Tri.alloc h o
  | 13, _, h => h
  | 14, _, h => h
  | 15, _, h => Tri.alloc h o
  | 16, _, h => h
  | 17, _, h => h
  | 18, _, h => OneR.alloc h o
  | _ + 19, _, _ => trivial
theorem JD.behind {w Wb W : World} {gc n cap : Nat} {a : Option Addr} {zs : List Int} {X : Nat} {v : Value} {ps : List RwD} {NB k : Nat} (j : Nat) (u : Value) (h1 : j ≠ 19) (h2 : j ≠ 20) : JD w Wb gc n cap a zs X v ps NB k true j u W := by
  unfold JD
  split <;> first | trivial | (exact absurd rfl h1) | (exact absurd rfl h2) | simp_all
theorem JD.step {w Wb W W' : World} {gc n cap : Nat} {a : Option Addr} {zs : List Int} {X : Nat} {v : Value} {ps : List RwD} {NB k : Nat} (hg : W.grownBy W' (some gc)) : ∀ (j : Nat) (u : Value), JD w Wb gc n cap a zs X v ps NB k false j u W → JD w Wb gc n cap a zs X v ps NB k false j u W'
  | 0, _, h => h
  | 1, _, h => h
  | 2, _, h => h
  | 3, _, h => h
  | 4, _, h => h
  | 5, _, h => h
  | 6, _, h => h
  | 7, _, h => h
  | 8, _, h => h
  | 9, _, h => h
  | 10, _, h => h
  | 11, _, h => h
  | 12, _, h => Tri.step h hg
  | 13, _, h => h
  | 14, _, h => h
  | 15, _, h => Tri.step h hg
  | 16, _, h => h
  | 17, _, h => h
  | 18, _, h => OneR.step h hg
  | _ + 19, _, _ => trivial
theorem nm_cell15 (k : Nat) (h : k < 3) : (#[.string ⟨#[109, 97, 105, 110]⟩, .string ⟨#[115, 110, 97, 112]⟩, .string ⟨#[119, 111, 114, 107]⟩] : Array Value)[k]? = some (.string (nmL k)) := by
  rcases (show k = 0 ∨ k = 1 ∨ k = 2 by omega) with rfl | rfl | rfl <;> rfl
theorem tri_cell (x y z : Int) (k : Nat) (h : k < 3) : (#[.int .i64 x, .int .i64 y, .int .i64 z] : Array Value)[k]? = some (.int .i64 (([x, y, z] : List Int).getD k 0)) := by
  rcases (show k = 0 ∨ k = 1 ∨ k = 2 by omega) with rfl | rfl | rfl <;> rfl
theorem triA_in (k : Nat) (h : k < 3) : 32 ≤ ([32, 500, 4000] : List Int).getD k 0 ∧ ([32, 500, 4000] : List Int).getD k 0 ≤ 4000 := by
  rcases (show k = 0 ∨ k = 1 ∨ k = 2 by omega) with rfl | rfl | rfl <;> simp
theorem triB_in (k : Nat) (h : k < 3) : 0 ≤ ([0, 9, 191] : List Int).getD k 0 ∧ ([0, 9, 191] : List Int).getD k 0 ≤ 191 := by
  rcases (show k = 0 ∨ k = 1 ∨ k = 2 by omega) with rfl | rfl | rfl <;> simp
theorem row5_at {W : World} {g : Nat} {r : RwD} (h : Blk W g 35 #[.int .i64 r.id, .string r.name, .bool r.ro, .int .i64 r.lim, .int .i64 r.mp]) : ∀ j u, [Value.int .i64 r.id, .string r.name, .bool r.ro, .int .i64 r.lim, .int .i64 r.mp][j]? = some u → W.cell? ((⟨g, 0, none⟩ : Addr).add j) = some u := by
  intro j u hj
  rw [add_at, h.cell j]
  match j, hj with
  | 0, hj => simpa using hj
  | 1, hj => simpa using hj
  | 2, hj => simpa using hj
  | 3, hj => simpa using hj
  | 4, hj => simpa using hj
  | j + 5, hj => simp at hj
theorem row5_one (r : RwD) : ∀ u ∈ [Value.int .i64 r.id, .string r.name, .bool r.ro, .int .i64 r.lim, .int .i64 r.mp], u.oneCell' = true := by
  intro u hu
  simp at hu
  rcases hu with rfl | rfl | rfl | rfl | rfl <;> rfl
set_option maxRecDepth 100000 in
set_option maxHeartbeats 8000000 in
theorem l15DrawS (gc n cap : Nat) (a : Option Addr) (zs : List Int) (w : World) (h : Src w gc n cap a zs) :
    Calls Try.prog 31 #[.pointer (some ⟨gc, 0, none⟩)] w (R15 w gc n cap a zs) := by
  have hgc := h.cur.lt
  have x0 : XT w (((w.alloc (.cells #[.int .i64 0, .slice none 0 0] 26)).alloc (.cells #[.int .i64 9, .slice none 0 0] 26)).alloc (.cells #[.string ⟨#[109, 97, 105, 110]⟩, .string ⟨#[115, 110, 97, 112]⟩, .string ⟨#[119, 111, 114, 107]⟩] 9)) (((w.alloc (.cells #[.int .i64 0, .slice none 0 0] 26)).alloc (.cells #[.int .i64 9, .slice none 0 0] 26)).alloc (.cells #[.string ⟨#[109, 97, 105, 110]⟩, .string ⟨#[115, 110, 97, 112]⟩, .string ⟨#[119, 111, 114, 107]⟩] 9)) gc n cap a zs (w.heap.size + 1) 9 (.slice none 0 0) (.slice none 0 0) [] :=
    ⟨((h.alloc _).alloc _).alloc _, ((World.grownBy_alloc w _ _).trans (World.grownBy_alloc _ _ _)).trans (World.grownBy_alloc _ _ _), ((Blk.new w _ _).alloc _).alloc _, (Blk.newAt (by simp)).alloc _, ⟨rfl, .inl ⟨rfl, rfl⟩⟩, by omega, hgc, KpT.refl _ _⟩
  have nb0 : Blk (((w.alloc (.cells #[.int .i64 0, .slice none 0 0] 26)).alloc (.cells #[.int .i64 9, .slice none 0 0] 26)).alloc (.cells #[.string ⟨#[109, 97, 105, 110]⟩, .string ⟨#[115, 110, 97, 112]⟩, .string ⟨#[119, 111, 114, 107]⟩] 9)) (w.heap.size + 2) 9 #[.string ⟨#[109, 97, 105, 110]⟩, .string ⟨#[115, 110, 97, 112]⟩, .string ⟨#[119, 111, 114, 107]⟩] := Blk.newAt (by simp)
  obtain ⟨ie, hie, ze0, ze1, ze2⟩ := info_parts Try.infoRow
  obtain ⟨P, hP⟩ : ∃ P, R15 w gc n cap a zs = P := ⟨_, rfl⟩
  have HP : Hid _ := hP
  rw [hP]
  clear hP h
  go_enter Try.func31, Try.ntmps31
  go_wp2
  obtain ⟨X, hX⟩ : ∃ X, w.heap.size + 1 = X := ⟨_, rfl⟩
  obtain ⟨NB, hNB⟩ : ∃ X, w.heap.size + 2 = X := ⟨_, rfl⟩
  obtain ⟨W0, hW0⟩ : ∃ W, (((w.alloc (.cells #[.int .i64 0, .slice none 0 0] 26)).alloc (.cells #[.int .i64 9, .slice none 0 0] 26)).alloc (.cells #[.string ⟨#[109, 97, 105, 110]⟩, .string ⟨#[115, 110, 97, 112]⟩, .string ⟨#[119, 111, 114, 107]⟩] 9)) = W := ⟨_, rfl⟩
  rw [hX, hW0] at x0
  rw [hNB, hW0] at nb0
  try rw [hW0]
  try rw [hX]
  try rw [hNB]
  have hXN : X + 1 = NB := by omega
  try rw [hXN]
  have HX : Hid (w.heap.size + 1 = X ∧ w.heap.size + 2 = NB) := ⟨hX, hNB⟩
  clear hX hNB hW0 hXN
  have HNB0 : Hid (Blk W0 NB 9 #[.string ⟨#[109, 97, 105, 110]⟩, .string ⟨#[115, 110, 97, 112]⟩, .string ⟨#[119, 111, 114, 107]⟩]) := nb0
  go_loopw [5] (fun i wr => ∃ (k : Nat) (v : Value) (ps : List RwD), k ≤ 3 ∧ i = .int .i64 k ∧ ps.length = k ∧ Hid (RwGs ps) ∧ XT w W0 wr gc n cap a zs X 9 v v ps ∧ Blk wr NB 9 #[.string ⟨#[109, 97, 105, 110]⟩, .string ⟨#[115, 110, 97, 112]⟩, .string ⟨#[119, 111, 114, 107]⟩]) (fun i _ => 3 - (intOf i).toNat)
  case atStart => exact ⟨0, .slice none 0 0, [], by omega, rfl, rfl, rwGs_nil, x0, nb0⟩
  case round =>
    obtain ⟨k, v, ps, hk, rfl, hl, hpg, xk, nk⟩ := hrel
    have HLk : Hid (ps.length = k) := hl
    clear hl
    clear x0 nb0
    have hgcN : gc < NB := by have := HX.out.2; omega
    go_wp2_with fail
    refine (below_step gc n cap a zs 4 wr xk.src (by omega) (by omega)).mono ?_
    rintro e u1 ⟨x, rfl, hx, s1, g1⟩
    have d1 := xk.step s1 g1
    have nb1 := nk.kept g1 (by omega)
    clear xk nk s1 g1
    by_cases hgo : k < x ∧ k < 3
    · have hk1 : (k : Int) < (x : Int) := by omega
      have hk3' : (k : Int) < 3 := by omega
      have hk3 : k < 3 := hgo.2
      go_upto_region 6 with fail
      refine wp_region_inv 21 19 21 (SD w W0 gc n cap a zs X v ps NB) (JD w W0 gc n cap a zs X v ps NB k) (by kernel_rfl) (by kernel_rfl) (by kernel_rfl) (by kernel_rfl) (by decide) (by decide) 12 (by kernel_rfl) ⟨d1.drew, nb1⟩ ?step ?fin
      case step =>
        intro i hi hne
        clear d1 nb1
        rcases (show i = 0 ∨ i = 1 ∨ i = 2 ∨ i = 3 ∨ i = 4 ∨ i = 5 ∨ i = 6 ∨ i = 7 ∨ i = 8 ∨ i = 9 ∨ i = 10 ∨ i = 11 ∨ i = 12 ∨ i = 13 ∨ i = 14 ∨ i = 15 ∨ i = 16 ∨ i = 17 ∨ i = 18 ∨ i = 19 ∨ i = 20 by omega) with rfl | rfl | rfl | rfl | rfl | rfl | rfl | rfl | rfl | rfl | rfl | rfl | rfl | rfl | rfl | rfl | rfl | rfl | rfl | rfl | rfl
        all_goals clear hi hne
        · intro o ho b a2 W hM hb1 hb0 hS hold hdep K hK
          simp only [List.getElem?_toArray, List.getElem?_cons_zero, Option.some.injEq] at ho
          subst ho
          clear hM
          obtain rfl : b = false := hb0 (by kernel_rfl)
          clear hb1 hb0
          have o3 : a2.tmps[3]? = some (.pointer (some ⟨X, 0, none⟩)) := hold 3 (by kernel_rfl)
          clear hdep hold
          go_simp
          exact hK _ _ hS rfl (fun _ _ _ _ h => h)
        · intro o ho b a2 W hM hb1 hb0 hS hold hdep K hK
          simp only [List.getElem?_toArray, List.getElem?_cons_zero, List.getElem?_cons_succ, Option.some.injEq] at ho
          subst ho
          clear hM
          obtain rfl : b = false := hb0 (by kernel_rfl)
          clear hb1 hb0
          obtain ⟨u0, e0, j0⟩ := hdep 0 (by kernel_rfl)
          have e0 := e0 18 (by kernel_rfl)
          have j0 : u0 = .pointer (some ⟨X, 1, none⟩) := j0
          clear hdep hold
          subst j0
          have c1 := hS.1.box.cell 1
          simp at c1
          go_simp
          exact hK _ _ hS rfl (fun _ _ _ _ h => h)
        · intro o ho b a2 W hM hb1 hb0 hS hold hdep K hK
          simp only [List.getElem?_toArray, List.getElem?_cons_zero, List.getElem?_cons_succ, Option.some.injEq] at ho
          subst ho
          clear hM
          obtain rfl : b = false := hb0 (by kernel_rfl)
          clear hb1 hb0
          have o5 : a2.tmps[5]? = some (.int .i64 (k : Int)) := hold 5 (by kernel_rfl)
          clear hdep hold
          go_simp
          exact hK _ _ hS rfl (fun _ _ _ _ h => h)
        · intro o ho b a2 W hM hb1 hb0 hS hold hdep K hK
          simp only [List.getElem?_toArray, List.getElem?_cons_zero, List.getElem?_cons_succ, Option.some.injEq] at ho
          subst ho
          clear hM
          obtain rfl : b = false := hb0 (by kernel_rfl)
          clear hb1 hb0
          obtain ⟨u2, e2, j2⟩ := hdep 2 (by kernel_rfl)
          have e2 := e2 20 (by kernel_rfl)
          have j2 : u2 = .int .i64 (k : Int) := j2
          clear hdep hold
          subst j2
          have hw2 : IntKind.i64.wrap (2 * (k : Int)) = 2 * (k : Int) := wrap_small _ (by omega) (by omega)
          go_simp
          try rw [hw2]
          exact hK _ _ hS rfl (fun _ _ _ _ h => h)
        · intro o ho b a2 W hM hb1 hb0 hS hold hdep K hK
          simp only [List.getElem?_toArray, List.getElem?_cons_zero, List.getElem?_cons_succ, Option.some.injEq] at ho
          subst ho
          clear hM
          obtain rfl : b = false := hb0 (by kernel_rfl)
          clear hb1 hb0
          obtain ⟨u3, e3, j3⟩ := hdep 3 (by kernel_rfl)
          have e3 := e3 21 (by kernel_rfl)
          have j3 : u3 = .int .i64 (2 * (k : Int)) := j3
          clear hdep hold
          subst j3
          have hw2 : IntKind.i64.wrap (1 + 2 * (k : Int)) = 1 + 2 * (k : Int) := wrap_small _ (by omega) (by omega)
          go_simp
          try rw [hw2]
          exact hK _ _ hS rfl (fun _ _ _ _ h => h)
        · intro o ho b a2 W hM hb1 hb0 hS hold hdep K hK
          simp only [List.getElem?_toArray, List.getElem?_cons_zero, List.getElem?_cons_succ, Option.some.injEq] at ho
          subst ho
          clear hM
          obtain rfl : b = false := hb0 (by kernel_rfl)
          clear hb1 hb0
          have o4 : a2.tmps[4]? = some (.slice (some ⟨NB, 0, none⟩) 3 3) := hold 4 (by kernel_rfl)
          clear hdep hold
          go_simp
          exact hK _ _ hS rfl (fun _ _ _ _ h => h)
        · intro o ho b a2 W hM hb1 hb0 hS hold hdep K hK
          simp only [List.getElem?_toArray, List.getElem?_cons_zero, List.getElem?_cons_succ, Option.some.injEq] at ho
          subst ho
          clear hM
          obtain rfl : b = false := hb0 (by kernel_rfl)
          clear hb1 hb0
          have o5 : a2.tmps[5]? = some (.int .i64 (k : Int)) := hold 5 (by kernel_rfl)
          clear hdep hold
          go_simp
          exact hK _ _ hS rfl (fun _ _ _ _ h => h)
        · intro o ho b a2 W hM hb1 hb0 hS hold hdep K hK
          simp only [List.getElem?_toArray, List.getElem?_cons_zero, List.getElem?_cons_succ, Option.some.injEq] at ho
          subst ho
          clear hM
          obtain rfl : b = false := hb0 (by kernel_rfl)
          clear hb1 hb0
          obtain ⟨u5, e5, j5⟩ := hdep 5 (by kernel_rfl)
          have e5 := e5 23 (by kernel_rfl)
          have j5 : u5 = .slice (some ⟨NB, 0, none⟩) 3 3 := j5
          obtain ⟨u6, e6, j6⟩ := hdep 6 (by kernel_rfl)
          have e6 := e6 24 (by kernel_rfl)
          have j6 : u6 = .int .i64 (k : Int) := j6
          clear hdep hold
          subst j5 j6
          go_simp
          exact hK _ _ hS rfl (fun _ _ _ _ h => h)
        · intro o ho b a2 W hM hb1 hb0 hS hold hdep K hK
          simp only [List.getElem?_toArray, List.getElem?_cons_zero, List.getElem?_cons_succ, Option.some.injEq] at ho
          subst ho
          clear hM
          obtain rfl : b = false := hb0 (by kernel_rfl)
          clear hb1 hb0
          obtain ⟨u7, e7, j7⟩ := hdep 7 (by kernel_rfl)
          have e7 := e7 25 (by kernel_rfl)
          have j7 : u7 = .pointer (some ⟨NB, k, none⟩) := j7
          clear hdep hold
          subst j7
          have c8 : W.cell? ⟨NB, k, none⟩ = some (.string (nmL k)) := (hS.2.cell k).trans (nm_cell15 k hk3)
          go_simp
          exact hK _ _ hS rfl (fun _ _ _ _ h => h)
        · intro o ho b a2 W hM hb1 hb0 hS hold hdep K hK
          simp only [List.getElem?_toArray, List.getElem?_cons_zero, List.getElem?_cons_succ, Option.some.injEq] at ho
          subst ho
          clear hM
          obtain rfl : b = false := hb0 (by kernel_rfl)
          clear hb1 hb0
          have o0 : a2.tmps[0]? = some (.pointer (some ⟨gc, 0, none⟩)) := hold 0 (by kernel_rfl)
          clear hdep hold
          go_simp
          exact hK _ _ hS rfl (fun _ _ _ _ h => h)
        · intro o ho b a2 W hM hb1 hb0 hS hold hdep K hK
          simp only [List.getElem?_toArray, List.getElem?_cons_zero, List.getElem?_cons_succ, Option.some.injEq] at ho
          subst ho
          clear hM
          obtain rfl : b = false := hb0 (by kernel_rfl)
          clear hb1 hb0
          obtain ⟨u9, e9, j9⟩ := hdep 9 (by kernel_rfl)
          have e9 := e9 27 (by kernel_rfl)
          have j9 : u9 = .pointer (some ⟨gc, 0, none⟩) := j9
          clear hdep hold
          subst j9
          go_simp
          go_at_call 53
          refine (once_step gc n cap a zs 2 W hS.1.src (by omega) (by omega)).mono ?_
          rintro e w8 ⟨B, rfl, s8, g8⟩
          exact hK _ _ ⟨hS.1.step s8 g8, hS.2.kept g8 (by omega)⟩ ⟨B, rfl⟩ (fun j u _ _ => JD.step g8 j u)
        · intro o ho b a2 W hM hb1 hb0 hS hold hdep K hK
          simp only [List.getElem?_toArray, List.getElem?_cons_zero, List.getElem?_cons_succ, Option.some.injEq] at ho
          subst ho
          clear hM
          obtain rfl : b = false := hb0 (by kernel_rfl)
          clear hb1 hb0
          have o0 : a2.tmps[0]? = some (.pointer (some ⟨gc, 0, none⟩)) := hold 0 (by kernel_rfl)
          clear hdep hold
          go_simp
          exact hK _ _ hS rfl (fun _ _ _ _ h => h)
        · intro o ho b a2 W hM hb1 hb0 hS hold hdep K hK
          simp only [List.getElem?_toArray, List.getElem?_cons_zero, List.getElem?_cons_succ, Option.some.injEq] at ho
          subst ho
          clear hM
          obtain rfl : b = false := hb0 (by kernel_rfl)
          clear hb1 hb0
          clear hdep hold
          have hgW := hS.1.src.cur.lt
          go_simp
          exact hK _ _ ⟨hS.1.alloc _, hS.2.alloc _⟩ ⟨W.heap.size, rfl, by omega, Blk.new W _ _⟩ (fun j u _ _ => JD.alloc _ j u)
        · intro o ho b a2 W hM hb1 hb0 hS hold hdep K hK
          simp only [List.getElem?_toArray, List.getElem?_cons_zero, List.getElem?_cons_succ, Option.some.injEq] at ho
          subst ho
          clear hM
          obtain rfl : b = false := hb0 (by kernel_rfl)
          clear hb1 hb0
          obtain ⟨u11, e11, j11⟩ := hdep 11 (by kernel_rfl)
          have e11 := e11 29 (by kernel_rfl)
          have j11 : u11 = .pointer (some ⟨gc, 0, none⟩) := j11
          obtain ⟨u12, e12, j12⟩ := hdep 12 (by kernel_rfl)
          have e12 := e12 30 (by kernel_rfl)
          have j12 : Tri W gc #[.int .i64 32, .int .i64 500, .int .i64 4000] u12 := j12
          clear hdep hold
          subst j11
          obtain ⟨g, rfl, hgc2, hb2⟩ := j12
          go_simp
          go_at_call 33
          refine (int_step gc n cap a zs g 3 [32, 500, 4000] W hS.1.src rfl (by omega) (by omega) hgc2 (fun j hj => (hb2.cell j).trans (tri_cell 32 500 4000 j hj))).mono ?_
          rintro e w8 ⟨x, rfl, hx, s8, g8⟩
          exact hK _ _ ⟨hS.1.step s8 g8, hS.2.kept g8 (by omega)⟩ ⟨_, rfl, triA_in x hx⟩ (fun j u _ _ => JD.step g8 j u)
        · intro o ho b a2 W hM hb1 hb0 hS hold hdep K hK
          simp only [List.getElem?_toArray, List.getElem?_cons_zero, List.getElem?_cons_succ, Option.some.injEq] at ho
          subst ho
          clear hM
          obtain rfl : b = false := hb0 (by kernel_rfl)
          clear hb1 hb0
          have o0 : a2.tmps[0]? = some (.pointer (some ⟨gc, 0, none⟩)) := hold 0 (by kernel_rfl)
          clear hdep hold
          go_simp
          exact hK _ _ hS rfl (fun _ _ _ _ h => h)
        · intro o ho b a2 W hM hb1 hb0 hS hold hdep K hK
          simp only [List.getElem?_toArray, List.getElem?_cons_zero, List.getElem?_cons_succ, Option.some.injEq] at ho
          subst ho
          clear hM
          obtain rfl : b = false := hb0 (by kernel_rfl)
          clear hb1 hb0
          clear hdep hold
          have hgW := hS.1.src.cur.lt
          go_simp
          exact hK _ _ ⟨hS.1.alloc _, hS.2.alloc _⟩ ⟨W.heap.size, rfl, by omega, Blk.new W _ _⟩ (fun j u _ _ => JD.alloc _ j u)
        · intro o ho b a2 W hM hb1 hb0 hS hold hdep K hK
          simp only [List.getElem?_toArray, List.getElem?_cons_zero, List.getElem?_cons_succ, Option.some.injEq] at ho
          subst ho
          clear hM
          obtain rfl : b = false := hb0 (by kernel_rfl)
          clear hb1 hb0
          obtain ⟨u14, e14, j14⟩ := hdep 14 (by kernel_rfl)
          have e14 := e14 32 (by kernel_rfl)
          have j14 : u14 = .pointer (some ⟨gc, 0, none⟩) := j14
          obtain ⟨u15, e15, j15⟩ := hdep 15 (by kernel_rfl)
          have e15 := e15 33 (by kernel_rfl)
          have j15 : Tri W gc #[.int .i64 0, .int .i64 9, .int .i64 191] u15 := j15
          clear hdep hold
          subst j14
          obtain ⟨g, rfl, hgc2, hb2⟩ := j15
          go_simp
          go_at_call 33
          refine (int_step gc n cap a zs g 3 [0, 9, 191] W hS.1.src rfl (by omega) (by omega) hgc2 (fun j hj => (hb2.cell j).trans (tri_cell 0 9 191 j hj))).mono ?_
          rintro e w8 ⟨x, rfl, hx, s8, g8⟩
          exact hK _ _ ⟨hS.1.step s8 g8, hS.2.kept g8 (by omega)⟩ ⟨_, rfl, triB_in x hx⟩ (fun j u _ _ => JD.step g8 j u)
        · intro o ho b a2 W hM hb1 hb0 hS hold hdep K hK
          simp only [List.getElem?_toArray, List.getElem?_cons_zero, List.getElem?_cons_succ, Option.some.injEq] at ho
          subst ho
          clear hM
          obtain rfl : b = false := hb0 (by kernel_rfl)
          clear hb1 hb0
          obtain ⟨u4, e4, j4⟩ := hdep 4 (by kernel_rfl)
          have e4 := e4 22 (by kernel_rfl)
          have j4 : u4 = .int .i64 (1 + 2 * (k : Int)) := j4
          obtain ⟨u8, e8, j8⟩ := hdep 8 (by kernel_rfl)
          have e8 := e8 26 (by kernel_rfl)
          have j8 : u8 = .string (nmL k) := j8
          obtain ⟨u10, e10, j10⟩ := hdep 10 (by kernel_rfl)
          have e10 := e10 28 (by kernel_rfl)
          have j10 : ∃ b, u10 = .bool b := j10
          obtain ⟨u13, e13, j13⟩ := hdep 13 (by kernel_rfl)
          have e13 := e13 31 (by kernel_rfl)
          have j13 : ∃ q, u13 = .int .i64 q ∧ 32 ≤ q ∧ q ≤ 4000 := j13
          obtain ⟨u16, e16, j16⟩ := hdep 16 (by kernel_rfl)
          have e16 := e16 34 (by kernel_rfl)
          have j16 : ∃ q, u16 = .int .i64 q ∧ 0 ≤ q ∧ q ≤ 191 := j16
          clear hdep hold
          subst j4 j8
          obtain ⟨B, rfl⟩ := j10
          obtain ⟨q1, rfl, hq1⟩ := j13
          obtain ⟨q2, rfl, hq2⟩ := j16
          go_simp
          exact hK _ _ hS ⟨⟨1 + 2 * (k : Int), nmL k, B, q1, q2⟩, rfl, rfl, rfl, hq1, hq2⟩ (fun _ _ _ _ h => h)
        · intro o ho b a2 W hM hb1 hb0 hS hold hdep K hK
          simp only [List.getElem?_toArray, List.getElem?_cons_zero, List.getElem?_cons_succ, Option.some.injEq] at ho
          subst ho
          clear hM
          obtain rfl : b = false := hb0 (by kernel_rfl)
          clear hb1 hb0
          obtain ⟨u17, e17, j17⟩ := hdep 17 (by kernel_rfl)
          have e17 := e17 35 (by kernel_rfl)
          have j17 : ∃ r, u17 = .agg #[.int .i64 r.id, .string r.name, .bool r.ro, .int .i64 r.lim, .int .i64 r.mp] ∧ RwG k r := j17
          clear hdep hold
          obtain ⟨r, rfl, hr⟩ := j17
          have hgW := hS.1.src.cur.lt
          go_simp
          exact hK _ _ ⟨hS.1.alloc _, hS.2.alloc _⟩ ⟨W.heap.size, r, rfl, hr, by omega, Blk.new W _ _⟩ (fun j u _ _ => JD.alloc _ j u)
        · intro o ho b a2 W hM hb1 hb0 hS hold hdep K hK
          simp only [List.getElem?_toArray, List.getElem?_cons_zero, List.getElem?_cons_succ, Option.some.injEq] at ho
          subst ho
          clear hM
          obtain rfl : b = false := hb0 (by kernel_rfl)
          clear hb1 hb0
          obtain ⟨u1, e1, j1⟩ := hdep 1 (by kernel_rfl)
          have e1 := e1 19 (by kernel_rfl)
          have j1 : u1 = v := j1
          obtain ⟨u18, e18, j18⟩ := hdep 18 (by kernel_rfl)
          have e18 := e18 36 (by kernel_rfl)
          have j18 : OneR W gc (RwG k) u18 := j18
          clear hdep hold
          subst j1
          have hlk := HLk.out
          obtain ⟨g, r, rfl, hr, hgc2, hb2⟩ := j18
          have hrow := hS.1.own
          have hbw := hS.1.src.cur.lt
          have hbz := hS.1.box.lt
          have hxx := hS.1.hX
          refine step_append_lies W rfl (.tmp 19) (.tmp 36) 24 rfl (w.heap.size + 1) 35 ie _ 5 48 Try.underlying24 hie ze0 ze1 ze2 rfl (by omega) u1 ps.length (rwE.xv ps) (eval_of e1) hrow ⟨g, 0, none⟩ 1 1 [.int .i64 r.id, .string r.name, .bool r.ro, .int .i64 r.lim, .int .i64 r.mp] (eval_of e18) rfl (row5_at hb2) (row5_one r) (by omega) (by unfold maxLen; omega) (by omega) (by omega) _ rfl ?_
          intro g5 c5 w8 ho5 hg5 _ _
          exact hK _ _ trivial ⟨g5, c5, r, rfl, hr, hS.1.app hg5 (by rw [rwE_snoc]; exact ho5)⟩ (fun j u hj hd _ => JD.behind j u hj (fun e => by subst e; cases hd (by kernel_rfl)))
        · intro o ho b a2 W hM hb1 hb0 hS hold hdep K hK
          simp only [List.getElem?_toArray, List.getElem?_cons_zero, List.getElem?_cons_succ, Option.some.injEq] at ho
          subst ho
          clear hM
          obtain rfl : b = true := hb1 (by kernel_rfl)
          clear hb1 hb0
          have o3 : a2.tmps[3]? = some (.pointer (some ⟨X, 0, none⟩)) := hold 3 (by kernel_rfl)
          clear hdep hold
          go_simp
          exact hK _ _ trivial rfl (fun _ _ _ _ h => h)
      case fin =>
        intro a2 W _ hdf hsz hold hall
        obtain ⟨u0, t0, _⟩ := hall 0 (by omega) (by decide)
        obtain ⟨u1, t1, _⟩ := hall 1 (by omega) (by decide)
        obtain ⟨u2, t2, _⟩ := hall 2 (by omega) (by decide)
        obtain ⟨u3, t3, _⟩ := hall 3 (by omega) (by decide)
        obtain ⟨u4, t4, _⟩ := hall 4 (by omega) (by decide)
        obtain ⟨u5, t5, _⟩ := hall 5 (by omega) (by decide)
        obtain ⟨u6, t6, _⟩ := hall 6 (by omega) (by decide)
        obtain ⟨u7, t7, _⟩ := hall 7 (by omega) (by decide)
        obtain ⟨u8, t8, _⟩ := hall 8 (by omega) (by decide)
        obtain ⟨u9, t9, _⟩ := hall 9 (by omega) (by decide)
        obtain ⟨u10, t10, _⟩ := hall 10 (by omega) (by decide)
        obtain ⟨u11, t11, _⟩ := hall 11 (by omega) (by decide)
        obtain ⟨u12, t12, _⟩ := hall 12 (by omega) (by decide)
        obtain ⟨u13, t13, _⟩ := hall 13 (by omega) (by decide)
        obtain ⟨u14, t14, _⟩ := hall 14 (by omega) (by decide)
        obtain ⟨u15, t15, _⟩ := hall 15 (by omega) (by decide)
        obtain ⟨u16, t16, _⟩ := hall 16 (by omega) (by decide)
        obtain ⟨u17, t17, _⟩ := hall 17 (by omega) (by decide)
        obtain ⟨u18, t18, _⟩ := hall 18 (by omega) (by decide)
        obtain ⟨u19, t19, j19⟩ := hall 19 (by omega) (by decide)
        obtain ⟨u20, t20, j20⟩ := hall 20 (by omega) (by decide)
        clear hall
        obtain rfl := puts_act (L := 21) [(18, u0), (19, u1), (20, u2), (21, u3), (22, u4), (23, u5), (24, u6), (25, u7), (26, u8), (27, u9), (28, u10), (29, u11), (30, u12), (31, u13), (32, u14), (33, u15), (34, u16), (35, u17), (36, u18), (37, u19), (38, u20)] (by kernel_rfl) hdf hsz hold (List.forall_mem_cons.2 ⟨t0 18 (by kernel_rfl), (List.forall_mem_cons.2 ⟨t1 19 (by kernel_rfl), (List.forall_mem_cons.2 ⟨t2 20 (by kernel_rfl), (List.forall_mem_cons.2 ⟨t3 21 (by kernel_rfl), (List.forall_mem_cons.2 ⟨t4 22 (by kernel_rfl), (List.forall_mem_cons.2 ⟨t5 23 (by kernel_rfl), (List.forall_mem_cons.2 ⟨t6 24 (by kernel_rfl), (List.forall_mem_cons.2 ⟨t7 25 (by kernel_rfl), (List.forall_mem_cons.2 ⟨t8 26 (by kernel_rfl), (List.forall_mem_cons.2 ⟨t9 27 (by kernel_rfl), (List.forall_mem_cons.2 ⟨t10 28 (by kernel_rfl), (List.forall_mem_cons.2 ⟨t11 29 (by kernel_rfl), (List.forall_mem_cons.2 ⟨t12 30 (by kernel_rfl), (List.forall_mem_cons.2 ⟨t13 31 (by kernel_rfl), (List.forall_mem_cons.2 ⟨t14 32 (by kernel_rfl), (List.forall_mem_cons.2 ⟨t15 33 (by kernel_rfl), (List.forall_mem_cons.2 ⟨t16 34 (by kernel_rfl), (List.forall_mem_cons.2 ⟨t17 35 (by kernel_rfl), (List.forall_mem_cons.2 ⟨t18 36 (by kernel_rfl), (List.forall_mem_cons.2 ⟨t19 37 (by kernel_rfl), (List.forall_mem_cons.2 ⟨t20 38 (by kernel_rfl), (fun p hp => by cases hp)⟩)⟩)⟩)⟩)⟩)⟩)⟩)⟩)⟩)⟩)⟩)⟩)⟩)⟩)⟩)⟩)⟩)⟩)⟩)⟩)⟩)
        clear hdf hsz hold t0 t1 t2 t3 t4 t5 t6 t7 t8 t9 t10 t11 t12 t13 t14 t15 t16 t17 t18 t19 t20
        obtain ⟨g5, c5, r, rfl, hr, xa⟩ := j19
        have j20 : u20 = .pointer (some ⟨X, 1, none⟩) := j20
        subst j20
        simp only [List.foldl_cons, List.foldl_nil, List.setIfInBounds_toArray, List.set_cons_zero, List.set_cons_succ]
        have c1 := xa.box.cell 1
        have f1 := xa.box.frozen 1
        simp at c1
        refine wpOp_last rfl (fun K hK => ?_)
        go_simp
        refine Shut.out hK _ _ ?_
        have xb := xa.setV (.slice (some ⟨g5, 0, none⟩) (ps.length + 1) c5)
        have nbx := HNB0.out.kp xb.k9 (by decide)
        have hpn : Hid (RwGs (ps ++ [r])) := hpg.out.snoc (by rw [HLk.out]; exact hr)
        clear xa c1 f1 hK
        go_wp2
        go_roundw
        all_goals first
          | (case rel => exact ⟨k + 1, _, ps ++ [r], by omega, by go_num, by rw [List.length_append, List.length_singleton, HLk.out], hpn, xb, nbx⟩)
          | (case rel => (repeat apply Exists.intro); exact ⟨⟨k + 1, _, ps ++ [r], by omega, by go_num, by rw [List.length_append, List.length_singleton, HLk.out], hpn, xb, nbx⟩, rfl⟩)
          | (case measure => simp [intOf]; omega)
    · obtain ⟨va, vc, rfl, _⟩ := rowR_form d1.own
      obtain ⟨q0, q1⟩ := d1.box.duo
      obtain ⟨r0, r1⟩ := d1.res.duo
      have f0 := d1.res.frozen 0
      have f1 := d1.res.frozen 1
      have FF : Hid _ := d1.fin
      have zf := (d1.res.set 0 (.int .i64 9)).set 1 (.slice va ps.length vc)
      have dd0 := zf.cell 0
      have dd1 := zf.cell 1
      simp at dd0 dd1
      have HL : Hid (ps.length ≤ 3) := by show _ ≤ _; have := HLk.out; omega
      clear d1 nb1 zf
      have hn1' : ¬ (k : Int) < (x : Int) := by omega
      go_wp2
      refine bodyPost_ret (v := .agg #[.int .i64 9, .slice va ps.length vc]) (by simp [results, Try.f31, go_sem, dd0, dd1]) rfl ?_
      rw [← HP.out]
      exact ⟨_, ps, rfl, HL.out, hpg.out, FF.out⟩
end

section
open Go.RowKit
theorem RwGs.small {ps : List RwD} (h : RwGs ps) : ∀ r ∈ ps, r.name.size ≤ 1048576 := fun r hr => by
  obtain ⟨j, hj⟩ := List.getElem?_of_mem hr
  rw [(h j r hj).2.1]
  have := nmL_small j
  omega
end
end Go.Proofs.Ytmkcadnpleijdaa
