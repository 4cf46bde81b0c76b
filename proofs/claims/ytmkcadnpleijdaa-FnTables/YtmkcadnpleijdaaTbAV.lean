/-
  Drawn tables of volumes, right or not.
-/
import Derived.Test.YtmkcadnpleijdaaJ29U
import Derived.Test.YtmkcadnpleijdaaJ30U
import Derived.Test.YtmkcadnpleijdaaDrawSV
import Derived.Test.YtmkcadnpleijdaaTbDV
import Derived.WalkKit
import Derived.WalkSpells
import Derived.WalkLawsBesides
import Derived.Deep.QuietTactic
import Derived.BigQuiet
import Derived.OpenShut
import Derived.Laws.BitsAllLaws
import Derived.Maps.AppendAt
import Derived.Lib.SliceRun
import Derived.Lib.Strings
import Derived.Deep.RegionWith
import Derived.Laws.IdiomStrings
import Derived.Deep.Slices
import Derived.ProofKit
import Derived.ChangeOld
import Derived.Below
import Derived.Deep.DeepCutAuto
import Derived.Lib.AppendStr
import Derived.Lib.ConvBytes
import Derived.Deep.RegionHeld3
import Derived.Deep.AppendLies
import Derived.Maps.OwnSet
import Derived.Maps.OwnOps
import Derived.Laws.StructEq
import Derived.Laws.BytesString
import Derived.Deep.CutBlock
import Derived.Deep.RegionLaw
import Derived.Deep.RegionHeld
import Derived.Laws.BitsLemmas
import Derived.Deep.OwnRows
namespace Go.Proofs.Ytmkcadnpleijdaa
open Go.RowKit
/-- A list that a draw takes of. -/
def Lst (W : World) (gc m : Nat) (t : TypeId) (cs : Array Value) (u : Value) : Prop := ∃ g : Nat, u = .slice (some ⟨g, 0, none⟩) m m ∧ g ≠ gc ∧ Blk W g t cs
theorem Lst.alloc {W : World} {gc m : Nat} {t : TypeId} {cs : Array Value} {u : Value} (h : Lst W gc m t cs u) (o : Obj) : Lst (W.alloc o) gc m t cs u := by obtain ⟨g, h1, h2, h3⟩ := h; exact ⟨g, h1, h2, h3.alloc o⟩
theorem Lst.step {W W' : World} {gc m : Nat} {t : TypeId} {cs : Array Value} {u : Value} (h : Lst W gc m t cs u) (hg : W.grownBy W' (some gc)) : Lst W' gc m t cs u := by obtain ⟨g, h1, h2, h3⟩ := h; exact ⟨g, h1, h2, h3.kept hg h2⟩
theorem quad_cell (x y z u : Int) (k : Nat) (h : k < 4) : (#[.int .i64 x, .int .i64 y, .int .i64 z, .int .i64 u] : Array Value)[k]? = some (.int .i64 (([x, y, z, u] : List Int).getD k 0)) := by
  rcases (show k = 0 ∨ k = 1 ∨ k = 2 ∨ k = 3 by omega) with rfl | rfl | rfl | rfl <;> rfl
theorem trs_cell (x y z : ByteArray) (k : Nat) (h : k < 3) : (#[.string x, .string y, .string z] : Array Value)[k]? = some (.string (([x, y, z] : List ByteArray).getD k ⟨#[]⟩)) := by
  rcases (show k = 0 ∨ k = 1 ∨ k = 2 by omega) with rfl | rfl | rfl <;> rfl
/-- What the operations yield: ahead of the append, and behind it. -/
def JA (w Wb : World) (gc n cap : Nat) (a : Option Addr) (zs : List Int) (X : Nat) (nx : Int) (v : Value) (ps : List RwD) : Bool → Nat → Value → World → Prop
  | false, 0, u, _ => u = .pointer (some ⟨X, 1, none⟩)
  | false, 1, u, _ => u = v
  | false, 2, u, _ => u = .pointer (some ⟨gc, 0, none⟩)
  | false, 3, u, W => Lst W gc 4 3 #[.int .i64 0, .int .i64 3, .int .i64 8, .int .i64 9] u
  | false, 4, u, _ => ∃ q, u = .int .i64 q
  | false, 5, u, _ => u = .pointer (some ⟨gc, 0, none⟩)
  | false, 6, u, W => Lst W gc 3 9 #[.string ⟨#[109, 97, 105, 110]⟩, .string ⟨#[120]⟩, .string ⟨#[]⟩] u
  | false, 7, u, _ => ∃ z, u = .string z ∧ z.size ≤ 16
  | false, 8, u, _ => u = .pointer (some ⟨gc, 0, none⟩)
  | false, 9, u, W => Lst W gc 3 3 #[.int .i64 31, .int .i64 32, .int .i64 4001] u
  | false, 10, u, _ => ∃ q, u = .int .i64 q
  | false, 11, u, _ => u = .pointer (some ⟨gc, 0, none⟩)
  | false, 12, u, W => Lst W gc 3 3 #[.int .i64 (-1), .int .i64 0, .int .i64 192] u
  | false, 13, u, _ => ∃ q, u = .int .i64 q
  | false, 14, u, _ => ∃ r : RwD, u = .agg #[.int .i64 r.id, .string r.name, .bool r.ro, .int .i64 r.lim, .int .i64 r.mp] ∧ r.name.size ≤ 16
  | false, 15, u, W => OneR W gc (fun r => r.name.size ≤ 16) u
  | true, 16, u, W => ∃ (g : Nat) (c : Nat) (r : RwD), u = .slice (some ⟨g, 0, none⟩) (ps.length + 1) c ∧ r.name.size ≤ 16 ∧ XT w Wb W gc n cap a zs X nx v u (ps ++ [r])
  | true, 17, u, _ => u = .pointer (some ⟨X, 1, none⟩)
  | _, _, _, _ => True
def SAn (w Wb : World) (gc n cap : Nat) (a : Option Addr) (zs : List Int) (X : Nat) (nx : Int) (v : Value) (ps : List RwD) : Bool → World → Prop
  | false, W => XT w Wb W gc n cap a zs X nx v v ps
  | true, _ => True
theorem JA.alloc {w Wb W : World} {gc n cap : Nat} {a : Option Addr} {zs : List Int} {X : Nat} {nx : Int} {v : Value} {ps : List RwD} (o : Obj) : ∀ (j : Nat) (u : Value), JA w Wb gc n cap a zs X nx v ps false j u W → JA w Wb gc n cap a zs X nx v ps false j u (W.alloc o)
  | 0, _, h => h
  | 1, _, h => h
  | 2, _, h => h
  | 3, _, h => Lst.alloc h o
  | 4, _, h => h
  | 5, _, h => h
  | 6, _, h => Lst.alloc h o
  | 7, _, h => h
  | 8, _, h => h
  | 9, _, h => Lst.alloc h o
  | 10, _, h => h
  | 11, _, h => h
  | 12, _, h => Lst.alloc h o
  | 13, _, h => h
  | 14, _, h => h
  | 15, _, h => OneR.alloc h o
  | _ + 16, _, _ => trivial
theorem JA.behind {w Wb W : World} {gc n cap : Nat} {a : Option Addr} {zs : List Int} {X : Nat} {nx : Int} {v : Value} {ps : List RwD} (j : Nat) (u : Value) (h1 : j ≠ 16) (h2 : j ≠ 17) : JA w Wb gc n cap a zs X nx v ps true j u W := by
  unfold JA
  split <;> first | trivial | (exact absurd rfl h1) | (exact absurd rfl h2) | simp_all
theorem JA.step {w Wb W : World} {gc n cap : Nat} {a : Option Addr} {zs : List Int} {X : Nat} {nx : Int} {v : Value} {ps : List RwD} {W' : World} (hg : W.grownBy W' (some gc)) : ∀ (j : Nat) (u : Value), JA w Wb gc n cap a zs X nx v ps false j u W → JA w Wb gc n cap a zs X nx v ps false j u W'
  | 0, _, h => h
  | 1, _, h => h
  | 2, _, h => h
  | 3, _, h => Lst.step h hg
  | 4, _, h => h
  | 5, _, h => h
  | 6, _, h => Lst.step h hg
  | 7, _, h => h
  | 8, _, h => h
  | 9, _, h => Lst.step h hg
  | 10, _, h => h
  | 11, _, h => h
  | 12, _, h => Lst.step h hg
  | 13, _, h => h
  | 14, _, h => h
  | 15, _, h => OneR.step h hg
  | _ + 16, _, _ => trivial
theorem trs_small : ∀ v ∈ ([⟨#[109, 97, 105, 110]⟩, ⟨#[120]⟩, ⟨#[]⟩] : List ByteArray), v.size ≤ 16 := by decide
set_option maxRecDepth 100000 in
set_option maxHeartbeats 8000000 in
theorem l15AnyS (gc n cap : Nat) (a : Option Addr) (zs : List Int) (w : World) (h : Src w gc n cap a zs) :
    Calls Try.prog 27 #[.pointer (some ⟨gc, 0, none⟩)] w (Q15 w gc n cap a zs) := by
  have hgc := h.cur.lt
  have h0 := h.alloc (.cells #[.int .i64 0, .slice none 0 0] 26)
  have res0 : Blk (w.alloc (.cells #[.int .i64 0, .slice none 0 0] 26)) w.heap.size 26 #[.int .i64 0, .slice none 0 0] := Blk.new w _ _
  have G0 : w.grownBy (w.alloc (.cells #[.int .i64 0, .slice none 0 0] 26)) (some gc) := World.grownBy_alloc w _ _
  obtain ⟨ie, hie, ze0, ze1, ze2⟩ := info_parts Try.infoRow
  obtain ⟨P, hP⟩ : ∃ P, Q15 w gc n cap a zs = P := ⟨_, rfl⟩
  have HP : Hid _ := hP
  rw [hP]
  clear hP
  go_enter Try.func27, Try.ntmps27
  go_wp2_with fail
  obtain ⟨W0, hW0⟩ : ∃ W, w.alloc (.cells #[.int .i64 0, .slice none 0 0] 26) = W := ⟨_, rfl⟩
  rw [hW0] at h0 res0 G0 ⊢
  have hs0 : W0.heap.size = w.heap.size + 1 := by rw [← hW0]; simp
  clear hW0
  refine (l15DrawS gc n cap a zs W0 h0).mono ?_
  rintro e w1 ⟨v, ps, rfl, hl, hpg, ho, s1, g1⟩
  have HNM : Hid _ := hpg.small
  have res1 : Blk w1 w.heap.size 26 _ := res0.kept g1 (by omega)
  have G1 := G0.trans g1
  have hsz1 := g1.size
  have xr0 : XT w (w1.alloc (.cells #[.int .i64 9, v] 26)) (w1.alloc (.cells #[.int .i64 9, v] 26)) gc n cap a zs w1.heap.size 9 v v ps :=
    ⟨s1.alloc _, G1.trans (World.grownBy_alloc _ _ _), res1.alloc _, Blk.new w1 _ _, World.ownsRow.alloc (rowT_less ho (by omega)) _, by omega, hgc, KpT.refl _ _⟩
  clear res0 G0 g1 h0 res1 G1 s1 ho hpg
  obtain ⟨va, vc, rfl, _⟩ := rowR_form xr0.own
  have HL4 : Hid (ps.length ≤ 3) := hl
  have HL5 : Hid (ps.length ≤ 4) := Nat.le_succ_of_le hl
  clear hl
  go_wp2_with fail
  obtain ⟨W1, hW1⟩ : ∃ W, w1.alloc (.cells #[.int .i64 9, .slice va ps.length vc] 26) = W := ⟨_, rfl⟩
  rw [hW1] at xr0 ⊢
  obtain ⟨X, hX⟩ : ∃ X, w1.heap.size = X := ⟨_, rfl⟩
  rw [hX] at xr0 ⊢
  clear hW1 hX
  refine (below_step gc n cap a zs 8 W1 xr0.src (by omega) (by omega)).mono ?_
  rintro e w2 ⟨x, rfl, hx, s2, g2⟩
  have xr := xr0.step s2 g2
  clear xr0 s2 g2 hsz1
  by_cases h0 : x = 0
  · subst h0
    have hcl : ∀ j, j < 4 → (w2.alloc (.cells #[.int .i64 0, .int .i64 1, .int .i64 99, .int .i64 100] 3)).cell? ⟨w2.heap.size, j, none⟩ = some (.int .i64 (([0, 1, 99, 100] : List Int).getD j 0)) := fun j hj => ints_cells w2 [0, 1, 99, 100] 3 j hj
    have HCL : Hid _ := hcl
    clear hcl
    have hgl := xr.gr.size
    have XRH : Hid (XT w W1 w2 gc n cap a zs X 9 (.slice va ps.length vc) (.slice va ps.length vc) ps) := xr
    clear xr
    go_wp2_with fail
    refine (int_step gc n cap a zs w2.heap.size 4 [0, 1, 99, 100] _ (XRH.out.alloc _).src rfl (by omega) (by omega) (by omega) HCL.out).mono ?_
    rintro e w3 ⟨k, rfl, hk, s3, g3⟩
    generalize ([0, 1, 99, 100] : List Int).getD k 0 = q
    have x3 := (XRH.out.alloc _).step s3 g3
    have fb0 := x3.box.frozen 0
    have cb0 := x3.box.cell 0
    simp at cb0
    have xf := x3.next q
    clear s3 g3 HCL x3
    obtain ⟨q0, q1⟩ := xf.box.duo
    obtain ⟨r0, r1⟩ := xf.res.duo
    have f0 := xf.res.frozen 0
    have f1 := xf.res.frozen 1
    have FF : Hid _ := xf.fin
    have zf := (xf.res.set 0 (.int .i64 q)).set 1 (.slice va ps.length vc)
    have dd0 := zf.cell 0
    have dd1 := zf.cell 1
    simp at dd0 dd1
    clear xf zf
    go_wp2
    refine bodyPost_ret (v := .agg #[.int .i64 q, .slice va ps.length vc]) (by simp [results, Try.f27, go_sem, dd0, dd1]) rfl ?_
    rw [← HP.out]
    exact ⟨_, _, ps, rfl, HL5.out, HNM.out, FF.out⟩

  by_cases h1 : x = 1
  · subst h1
    rw [show ((1 : Nat) : Int) = 1 from rfl]
    go_upto_region 6 with fail
    refine wp_region_inv 18 16 18 (SAn w W1 gc n cap a zs X 9 (.slice va ps.length vc) ps) (JA w W1 gc n cap a zs X 9 (.slice va ps.length vc) ps) (by kernel_rfl) (by kernel_rfl) (by kernel_rfl) (by kernel_rfl) (by decide) (by decide) 12 (by kernel_rfl) xr.drew ?step ?fin
    case step =>
      intro i hi hne
      clear xr
      obtain ⟨v, hv⟩ : ∃ v, Value.slice va ps.length vc = v := ⟨_, rfl⟩
      rw [hv]
      clear hv
      rcases (show i = 0 ∨ i = 1 ∨ i = 2 ∨ i = 3 ∨ i = 4 ∨ i = 5 ∨ i = 6 ∨ i = 7 ∨ i = 8 ∨ i = 9 ∨ i = 10 ∨ i = 11 ∨ i = 12 ∨ i = 13 ∨ i = 14 ∨ i = 15 ∨ i = 16 ∨ i = 17 by omega) with rfl | rfl | rfl | rfl | rfl | rfl | rfl | rfl | rfl | rfl | rfl | rfl | rfl | rfl | rfl | rfl | rfl | rfl
      all_goals clear hi hne
      · intro o ho b a2 W hM hb1 hb0 hS hold hdep K hK
        simp only [List.getElem?_toArray, List.getElem?_cons_zero, Option.some.injEq] at ho
        subst ho
        clear hM
        obtain rfl : b = false := hb0 (by kernel_rfl)
        clear hb1 hb0
        have o3 : a2.tmps[3]? = some (.pointer (some ⟨X, 0, none⟩)) := hold 3 (by kernel_rfl)
        clear hdep hold
        go_simp
        exact hK _ _ hS rfl (fun _ _ _ _ h => h)
      · intro o ho b a2 W hM hb1 hb0 hS hold hdep K hK
        simp only [List.getElem?_toArray, List.getElem?_cons_zero, List.getElem?_cons_succ, Option.some.injEq] at ho
        subst ho
        clear hM
        obtain rfl : b = false := hb0 (by kernel_rfl)
        clear hb1 hb0
        obtain ⟨u0, e0, j0⟩ := hdep 0 (by kernel_rfl)
        have e0 := e0 16 (by kernel_rfl)
        have j0 : u0 = .pointer (some ⟨X, 1, none⟩) := j0
        clear hdep hold
        subst j0
        have c1 := hS.box.cell 1
        simp at c1
        go_simp
        exact hK _ _ hS rfl (fun _ _ _ _ h => h)
      · intro o ho b a2 W hM hb1 hb0 hS hold hdep K hK
        simp only [List.getElem?_toArray, List.getElem?_cons_zero, List.getElem?_cons_succ, Option.some.injEq] at ho
        subst ho
        clear hM
        obtain rfl : b = false := hb0 (by kernel_rfl)
        clear hb1 hb0
        have o0 : a2.tmps[0]? = some (.pointer (some ⟨gc, 0, none⟩)) := hold 0 (by kernel_rfl)
        clear hdep hold
        go_simp
        exact hK _ _ hS rfl (fun _ _ _ _ h => h)
      · intro o ho b a2 W hM hb1 hb0 hS hold hdep K hK
        simp only [List.getElem?_toArray, List.getElem?_cons_zero, List.getElem?_cons_succ, Option.some.injEq] at ho
        subst ho
        clear hM
        obtain rfl : b = false := hb0 (by kernel_rfl)
        clear hb1 hb0
        clear hdep hold
        have hgW := hS.src.cur.lt
        go_simp
        exact hK _ _ (hS.alloc _) ⟨W.heap.size, rfl, by omega, Blk.new W _ _⟩ (fun j u _ _ => JA.alloc _ j u)
      · intro o ho b a2 W hM hb1 hb0 hS hold hdep K hK
        simp only [List.getElem?_toArray, List.getElem?_cons_zero, List.getElem?_cons_succ, Option.some.injEq] at ho
        subst ho
        clear hM
        obtain rfl : b = false := hb0 (by kernel_rfl)
        clear hb1 hb0
        obtain ⟨u2, e2, j2⟩ := hdep 2 (by kernel_rfl)
        have e2 := e2 18 (by kernel_rfl)
        have j2 : u2 = .pointer (some ⟨gc, 0, none⟩) := j2
        obtain ⟨u3, e3, j3⟩ := hdep 3 (by kernel_rfl)
        have e3 := e3 19 (by kernel_rfl)
        have j3 : Lst W gc 4 3 #[.int .i64 0, .int .i64 3, .int .i64 8, .int .i64 9] u3 := j3
        clear hdep hold
        subst j2
        obtain ⟨g, rfl, hgc2, hb2⟩ := j3
        go_simp
        go_at_call 33
        refine (int_step gc n cap a zs g 4 [0, 3, 8, 9] W hS.src rfl (by omega) (by omega) hgc2 (fun j hj => (hb2.cell j).trans (quad_cell 0 3 8 9 j hj))).mono ?_
        rintro e w8 ⟨x, rfl, hx, s8, g8⟩
        exact hK _ _ (hS.step s8 g8) ⟨_, rfl⟩ (fun j u _ _ => JA.step g8 j u)
      · intro o ho b a2 W hM hb1 hb0 hS hold hdep K hK
        simp only [List.getElem?_toArray, List.getElem?_cons_zero, List.getElem?_cons_succ, Option.some.injEq] at ho
        subst ho
        clear hM
        obtain rfl : b = false := hb0 (by kernel_rfl)
        clear hb1 hb0
        have o0 : a2.tmps[0]? = some (.pointer (some ⟨gc, 0, none⟩)) := hold 0 (by kernel_rfl)
        clear hdep hold
        go_simp
        exact hK _ _ hS rfl (fun _ _ _ _ h => h)
      · intro o ho b a2 W hM hb1 hb0 hS hold hdep K hK
        simp only [List.getElem?_toArray, List.getElem?_cons_zero, List.getElem?_cons_succ, Option.some.injEq] at ho
        subst ho
        clear hM
        obtain rfl : b = false := hb0 (by kernel_rfl)
        clear hb1 hb0
        clear hdep hold
        have hgW := hS.src.cur.lt
        go_simp
        exact hK _ _ (hS.alloc _) ⟨W.heap.size, rfl, by omega, Blk.new W _ _⟩ (fun j u _ _ => JA.alloc _ j u)
      · intro o ho b a2 W hM hb1 hb0 hS hold hdep K hK
        simp only [List.getElem?_toArray, List.getElem?_cons_zero, List.getElem?_cons_succ, Option.some.injEq] at ho
        subst ho
        clear hM
        obtain rfl : b = false := hb0 (by kernel_rfl)
        clear hb1 hb0
        obtain ⟨u5, e5, j5⟩ := hdep 5 (by kernel_rfl)
        have e5 := e5 21 (by kernel_rfl)
        have j5 : u5 = .pointer (some ⟨gc, 0, none⟩) := j5
        obtain ⟨u6, e6, j6⟩ := hdep 6 (by kernel_rfl)
        have e6 := e6 22 (by kernel_rfl)
        have j6 : Lst W gc 3 9 #[.string ⟨#[109, 97, 105, 110]⟩, .string ⟨#[120]⟩, .string ⟨#[]⟩] u6 := j6
        clear hdep hold
        subst j5
        obtain ⟨g, rfl, hgc2, hb2⟩ := j6
        go_simp
        go_at_call 52
        refine (str_step gc n cap a zs g 3 [⟨#[109, 97, 105, 110]⟩, ⟨#[120]⟩, ⟨#[]⟩] W hS.src rfl (by omega) (by omega) hgc2 (fun j hj => (hb2.cell j).trans (trs_cell _ _ _ j hj)) trs_small).mono ?_
        rintro e w8 ⟨z, rfl, hz, s8, g8⟩
        exact hK _ _ (hS.step s8 g8) ⟨z, rfl, hz⟩ (fun j u _ _ => JA.step g8 j u)
      · intro o ho b a2 W hM hb1 hb0 hS hold hdep K hK
        simp only [List.getElem?_toArray, List.getElem?_cons_zero, List.getElem?_cons_succ, Option.some.injEq] at ho
        subst ho
        clear hM
        obtain rfl : b = false := hb0 (by kernel_rfl)
        clear hb1 hb0
        have o0 : a2.tmps[0]? = some (.pointer (some ⟨gc, 0, none⟩)) := hold 0 (by kernel_rfl)
        clear hdep hold
        go_simp
        exact hK _ _ hS rfl (fun _ _ _ _ h => h)
      · intro o ho b a2 W hM hb1 hb0 hS hold hdep K hK
        simp only [List.getElem?_toArray, List.getElem?_cons_zero, List.getElem?_cons_succ, Option.some.injEq] at ho
        subst ho
        clear hM
        obtain rfl : b = false := hb0 (by kernel_rfl)
        clear hb1 hb0
        clear hdep hold
        have hgW := hS.src.cur.lt
        go_simp
        exact hK _ _ (hS.alloc _) ⟨W.heap.size, rfl, by omega, Blk.new W _ _⟩ (fun j u _ _ => JA.alloc _ j u)
      · intro o ho b a2 W hM hb1 hb0 hS hold hdep K hK
        simp only [List.getElem?_toArray, List.getElem?_cons_zero, List.getElem?_cons_succ, Option.some.injEq] at ho
        subst ho
        clear hM
        obtain rfl : b = false := hb0 (by kernel_rfl)
        clear hb1 hb0
        obtain ⟨u8, e8, j8⟩ := hdep 8 (by kernel_rfl)
        have e8 := e8 24 (by kernel_rfl)
        have j8 : u8 = .pointer (some ⟨gc, 0, none⟩) := j8
        obtain ⟨u9, e9, j9⟩ := hdep 9 (by kernel_rfl)
        have e9 := e9 25 (by kernel_rfl)
        have j9 : Lst W gc 3 3 #[.int .i64 31, .int .i64 32, .int .i64 4001] u9 := j9
        clear hdep hold
        subst j8
        obtain ⟨g, rfl, hgc2, hb2⟩ := j9
        go_simp
        go_at_call 33
        refine (int_step gc n cap a zs g 3 [31, 32, 4001] W hS.src rfl (by omega) (by omega) hgc2 (fun j hj => (hb2.cell j).trans (tri_cell 31 32 4001 j hj))).mono ?_
        rintro e w8 ⟨x, rfl, hx, s8, g8⟩
        exact hK _ _ (hS.step s8 g8) ⟨_, rfl⟩ (fun j u _ _ => JA.step g8 j u)
      · intro o ho b a2 W hM hb1 hb0 hS hold hdep K hK
        simp only [List.getElem?_toArray, List.getElem?_cons_zero, List.getElem?_cons_succ, Option.some.injEq] at ho
        subst ho
        clear hM
        obtain rfl : b = false := hb0 (by kernel_rfl)
        clear hb1 hb0
        have o0 : a2.tmps[0]? = some (.pointer (some ⟨gc, 0, none⟩)) := hold 0 (by kernel_rfl)
        clear hdep hold
        go_simp
        exact hK _ _ hS rfl (fun _ _ _ _ h => h)
      · intro o ho b a2 W hM hb1 hb0 hS hold hdep K hK
        simp only [List.getElem?_toArray, List.getElem?_cons_zero, List.getElem?_cons_succ, Option.some.injEq] at ho
        subst ho
        clear hM
        obtain rfl : b = false := hb0 (by kernel_rfl)
        clear hb1 hb0
        clear hdep hold
        have hgW := hS.src.cur.lt
        go_simp
        exact hK _ _ (hS.alloc _) ⟨W.heap.size, rfl, by omega, Blk.new W _ _⟩ (fun j u _ _ => JA.alloc _ j u)
      · intro o ho b a2 W hM hb1 hb0 hS hold hdep K hK
        simp only [List.getElem?_toArray, List.getElem?_cons_zero, List.getElem?_cons_succ, Option.some.injEq] at ho
        subst ho
        clear hM
        obtain rfl : b = false := hb0 (by kernel_rfl)
        clear hb1 hb0
        obtain ⟨u11, e11, j11⟩ := hdep 11 (by kernel_rfl)
        have e11 := e11 27 (by kernel_rfl)
        have j11 : u11 = .pointer (some ⟨gc, 0, none⟩) := j11
        obtain ⟨u12, e12, j12⟩ := hdep 12 (by kernel_rfl)
        have e12 := e12 28 (by kernel_rfl)
        have j12 : Lst W gc 3 3 #[.int .i64 (-1), .int .i64 0, .int .i64 192] u12 := j12
        clear hdep hold
        subst j11
        obtain ⟨g, rfl, hgc2, hb2⟩ := j12
        go_simp
        go_at_call 33
        refine (int_step gc n cap a zs g 3 [-1, 0, 192] W hS.src rfl (by omega) (by omega) hgc2 (fun j hj => (hb2.cell j).trans (tri_cell (-1) 0 192 j hj))).mono ?_
        rintro e w8 ⟨x, rfl, hx, s8, g8⟩
        exact hK _ _ (hS.step s8 g8) ⟨_, rfl⟩ (fun j u _ _ => JA.step g8 j u)
      · intro o ho b a2 W hM hb1 hb0 hS hold hdep K hK
        simp only [List.getElem?_toArray, List.getElem?_cons_zero, List.getElem?_cons_succ, Option.some.injEq] at ho
        subst ho
        clear hM
        obtain rfl : b = false := hb0 (by kernel_rfl)
        clear hb1 hb0
        obtain ⟨u4, e4, j4⟩ := hdep 4 (by kernel_rfl)
        have e4 := e4 20 (by kernel_rfl)
        have j4 : ∃ q, u4 = .int .i64 q := j4
        obtain ⟨u7, e7, j7⟩ := hdep 7 (by kernel_rfl)
        have e7 := e7 23 (by kernel_rfl)
        have j7 : ∃ z, u7 = .string z ∧ z.size ≤ 16 := j7
        obtain ⟨u10, e10, j10⟩ := hdep 10 (by kernel_rfl)
        have e10 := e10 26 (by kernel_rfl)
        have j10 : ∃ q, u10 = .int .i64 q := j10
        obtain ⟨u13, e13, j13⟩ := hdep 13 (by kernel_rfl)
        have e13 := e13 29 (by kernel_rfl)
        have j13 : ∃ q, u13 = .int .i64 q := j13
        clear hdep hold
        obtain ⟨q1, rfl⟩ := j4
        obtain ⟨z, rfl, hz⟩ := j7
        obtain ⟨q2, rfl⟩ := j10
        obtain ⟨q3, rfl⟩ := j13
        go_simp
        exact hK _ _ hS ⟨⟨q1, z, false, q2, q3⟩, rfl, hz⟩ (fun _ _ _ _ h => h)
      · intro o ho b a2 W hM hb1 hb0 hS hold hdep K hK
        simp only [List.getElem?_toArray, List.getElem?_cons_zero, List.getElem?_cons_succ, Option.some.injEq] at ho
        subst ho
        clear hM
        obtain rfl : b = false := hb0 (by kernel_rfl)
        clear hb1 hb0
        obtain ⟨u14, e14, j14⟩ := hdep 14 (by kernel_rfl)
        have e14 := e14 30 (by kernel_rfl)
        have j14 : ∃ r : RwD, u14 = .agg #[.int .i64 r.id, .string r.name, .bool r.ro, .int .i64 r.lim, .int .i64 r.mp] ∧ r.name.size ≤ 16 := j14
        clear hdep hold
        obtain ⟨r, rfl, hr⟩ := j14
        have hgW := hS.src.cur.lt
        go_simp
        exact hK _ _ (hS.alloc _) ⟨W.heap.size, r, rfl, hr, by omega, Blk.new W _ _⟩ (fun j u _ _ => JA.alloc _ j u)
      · intro o ho b a2 W hM hb1 hb0 hS hold hdep K hK
        simp only [List.getElem?_toArray, List.getElem?_cons_zero, List.getElem?_cons_succ, Option.some.injEq] at ho
        subst ho
        clear hM
        obtain rfl : b = false := hb0 (by kernel_rfl)
        clear hb1 hb0
        obtain ⟨u1, e1, j1⟩ := hdep 1 (by kernel_rfl)
        have e1 := e1 17 (by kernel_rfl)
        have j1 : u1 = v := j1
        obtain ⟨u15, e15, j15⟩ := hdep 15 (by kernel_rfl)
        have e15 := e15 31 (by kernel_rfl)
        have j15 : OneR W gc (fun r => r.name.size ≤ 16) u15 := j15
        clear hdep hold
        subst j1
        have hlk := HL4.out
        obtain ⟨g, r, rfl, hr, hgc2, hb2⟩ := j15
        have hrow := hS.own
        have hbw := hS.src.cur.lt
        have hbz := hS.box.lt
        have hxx := hS.hX
        refine step_append_lies W rfl (.tmp 17) (.tmp 31) 24 rfl (w.heap.size + 1) 35 ie _ 5 48 Try.underlying24 hie ze0 ze1 ze2 rfl (by omega) u1 ps.length (rwE.xv ps) (eval_of e1) hrow ⟨g, 0, none⟩ 1 1 [.int .i64 r.id, .string r.name, .bool r.ro, .int .i64 r.lim, .int .i64 r.mp] (eval_of e15) rfl (row5_at hb2) (row5_one r) (by omega) (by unfold maxLen; omega) (by omega) (by omega) _ rfl ?_
        intro g5 c5 w8 ho5 hg5 _ _
        exact hK _ _ trivial ⟨g5, c5, r, rfl, hr, hS.app hg5 (by rw [rwE_snoc]; exact ho5)⟩ (fun j u hj hd _ => JA.behind j u hj (fun e => by subst e; cases hd (by kernel_rfl)))
      · intro o ho b a2 W hM hb1 hb0 hS hold hdep K hK
        simp only [List.getElem?_toArray, List.getElem?_cons_zero, List.getElem?_cons_succ, Option.some.injEq] at ho
        subst ho
        clear hM
        obtain rfl : b = true := hb1 (by kernel_rfl)
        clear hb1 hb0
        have o3 : a2.tmps[3]? = some (.pointer (some ⟨X, 0, none⟩)) := hold 3 (by kernel_rfl)
        clear hdep hold
        go_simp
        exact hK _ _ trivial rfl (fun _ _ _ _ h => h)
    case fin =>
      intro a2 W _ hdf hsz hold hall
      obtain ⟨u0, t0, _⟩ := hall 0 (by omega) (by decide)
      obtain ⟨u1, t1, _⟩ := hall 1 (by omega) (by decide)
      obtain ⟨u2, t2, _⟩ := hall 2 (by omega) (by decide)
      obtain ⟨u3, t3, _⟩ := hall 3 (by omega) (by decide)
      obtain ⟨u4, t4, _⟩ := hall 4 (by omega) (by decide)
      obtain ⟨u5, t5, _⟩ := hall 5 (by omega) (by decide)
      obtain ⟨u6, t6, _⟩ := hall 6 (by omega) (by decide)
      obtain ⟨u7, t7, _⟩ := hall 7 (by omega) (by decide)
      obtain ⟨u8, t8, _⟩ := hall 8 (by omega) (by decide)
      obtain ⟨u9, t9, _⟩ := hall 9 (by omega) (by decide)
      obtain ⟨u10, t10, _⟩ := hall 10 (by omega) (by decide)
      obtain ⟨u11, t11, _⟩ := hall 11 (by omega) (by decide)
      obtain ⟨u12, t12, _⟩ := hall 12 (by omega) (by decide)
      obtain ⟨u13, t13, _⟩ := hall 13 (by omega) (by decide)
      obtain ⟨u14, t14, _⟩ := hall 14 (by omega) (by decide)
      obtain ⟨u15, t15, _⟩ := hall 15 (by omega) (by decide)
      obtain ⟨u16, t16, j16⟩ := hall 16 (by omega) (by decide)
      obtain ⟨u17, t17, j17⟩ := hall 17 (by omega) (by decide)
      clear hall
      obtain rfl := puts_act (L := 18) [(16, u0), (17, u1), (18, u2), (19, u3), (20, u4), (21, u5), (22, u6), (23, u7), (24, u8), (25, u9), (26, u10), (27, u11), (28, u12), (29, u13), (30, u14), (31, u15), (32, u16), (33, u17)] (by kernel_rfl) hdf hsz hold (List.forall_mem_cons.2 ⟨t0 16 (by kernel_rfl), (List.forall_mem_cons.2 ⟨t1 17 (by kernel_rfl), (List.forall_mem_cons.2 ⟨t2 18 (by kernel_rfl), (List.forall_mem_cons.2 ⟨t3 19 (by kernel_rfl), (List.forall_mem_cons.2 ⟨t4 20 (by kernel_rfl), (List.forall_mem_cons.2 ⟨t5 21 (by kernel_rfl), (List.forall_mem_cons.2 ⟨t6 22 (by kernel_rfl), (List.forall_mem_cons.2 ⟨t7 23 (by kernel_rfl), (List.forall_mem_cons.2 ⟨t8 24 (by kernel_rfl), (List.forall_mem_cons.2 ⟨t9 25 (by kernel_rfl), (List.forall_mem_cons.2 ⟨t10 26 (by kernel_rfl), (List.forall_mem_cons.2 ⟨t11 27 (by kernel_rfl), (List.forall_mem_cons.2 ⟨t12 28 (by kernel_rfl), (List.forall_mem_cons.2 ⟨t13 29 (by kernel_rfl), (List.forall_mem_cons.2 ⟨t14 30 (by kernel_rfl), (List.forall_mem_cons.2 ⟨t15 31 (by kernel_rfl), (List.forall_mem_cons.2 ⟨t16 32 (by kernel_rfl), (List.forall_mem_cons.2 ⟨t17 33 (by kernel_rfl), (fun p hp => by cases hp)⟩)⟩)⟩)⟩)⟩)⟩)⟩)⟩)⟩)⟩)⟩)⟩)⟩)⟩)⟩)⟩)⟩)⟩)
      clear hdf hsz hold t0 t1 t2 t3 t4 t5 t6 t7 t8 t9 t10 t11 t12 t13 t14 t15 t16 t17
      obtain ⟨g5, c5, r, rfl, hr, xa⟩ := j16
      have j17 : u17 = .pointer (some ⟨X, 1, none⟩) := j17
      subst j17
      simp only [List.foldl_cons, List.foldl_nil, List.setIfInBounds_toArray, List.set_cons_zero, List.set_cons_succ]
      have c1 := xa.box.cell 1
      have f1 := xa.box.frozen 1
      simp at c1
      refine wpOp_last rfl (fun K hK => ?_)
      go_simp
      refine Shut.out hK _ _ ?_
      have xf := xa.setV (.slice (some ⟨g5, 0, none⟩) (ps.length + 1) c5)
      have hn : ∀ q ∈ ps ++ [r], q.name.size ≤ 1048576 := fun q hq => by
        rcases List.mem_append.1 hq with h1 | h1
        · exact HNM.out q h1
        · simp at h1; subst h1; omega
      have HNM : Hid _ := hn
      have HL5 : Hid ((ps ++ [r]).length ≤ 4) := by show _ ≤ _; have := HL4.out; rw [List.length_append, List.length_singleton]; omega
      clear xa c1 f1 hK hn xr
      obtain ⟨q0, q1⟩ := xf.box.duo
      obtain ⟨r0, r1⟩ := xf.res.duo
      have f0 := xf.res.frozen 0
      have f1 := xf.res.frozen 1
      have FF : Hid _ := xf.fin
      have zf := (xf.res.set 0 (.int .i64 9)).set 1 (.slice (some ⟨g5, 0, none⟩) (ps.length + 1) c5)
      have dd0 := zf.cell 0
      have dd1 := zf.cell 1
      simp at dd0 dd1
      clear xf zf
      go_wp2
      refine bodyPost_ret (v := .agg #[.int .i64 9, .slice (some ⟨g5, 0, none⟩) (ps.length + 1) c5]) (by simp [results, Try.f27, go_sem, dd0, dd1]) rfl ?_
      rw [← HP.out]
      exact ⟨_, _, ps ++ [r], rfl, HL5.out, HNM.out, FF.out⟩

  have hx0 : ((x : Int) == 0) = false := by simpa using h0
  have hx1 : ((x : Int) == 1) = false := by simp; omega
  have xf := xr
  clear xr
  obtain ⟨q0, q1⟩ := xf.box.duo
  obtain ⟨r0, r1⟩ := xf.res.duo
  have f0 := xf.res.frozen 0
  have f1 := xf.res.frozen 1
  have FF : Hid _ := xf.fin
  have zf := (xf.res.set 0 (.int .i64 9)).set 1 (.slice va ps.length vc)
  have dd0 := zf.cell 0
  have dd1 := zf.cell 1
  simp at dd0 dd1
  clear xf zf
  go_wp2
  refine bodyPost_ret (v := .agg #[.int .i64 9, .slice va ps.length vc]) (by simp [results, Try.f27, go_sem, dd0, dd1]) rfl ?_
  rw [← HP.out]
  exact ⟨_, _, ps, rfl, HL5.out, HNM.out, FF.out⟩
/-- A table was drawn, right or not. -/
def DrawnT (w : World) (e : Ending) (w' : World) : Prop := ∃ (nx : Int) (a : Option Addr) (c : Nat) (ps : List RwD), e = .returned (.agg #[.int .i64 nx, .slice a ps.length c]) ∧ ps.length ≤ 4 ∧ (∀ r ∈ ps, r.name.size ≤ 1048576) ∧ w'.ownsRow w.heap.size 35 5 (.slice a ps.length c) ps.length (rwE.xv ps) ∧ Below w.heap.size w w'
set_option maxHeartbeats 1600000 in
theorem drawPutTable_any (a : Option Addr) (n cap : Nat) (zs : List Int) (w : World) (hn : zs.length = n) (hs : n ≤ 1048576) (hr : Rd w a zs) (hb : Byt zs) :
    Calls Try.prog 8 #[.slice a n cap] w (DrawnT w) := by
  have b0 : Below w.heap.size w (w.alloc (.cells #[.int .i64 0, .slice none 0 0] 26)) := (Below.refl _ w).alloc (Nat.le_refl _) _
  have z0 := Blk.new w 26 #[.int .i64 0, .slice none 0 0]
  have hsz : (w.alloc (.cells #[.int .i64 0, .slice none 0 0] 26)).heap.size = w.heap.size + 1 := by simp
  have HSZ : Hid _ := hsz
  have HB0 : Hid _ := b0
  obtain ⟨P, hP⟩ : ∃ P, DrawnT w = P := ⟨_, rfl⟩
  have HP : Hid _ := hP
  rw [hP]
  clear hsz hP
  go_enter Try.func8, Try.ntmps8
  go_wp2_with fail
  refine (new_step a n cap zs _ hn hs (hr.keep b0) hb).mono ?_
  rintro e w1 ⟨rfl, s1, b1⟩
  have zr := z0.keep b1
  have B1 := HB0.out.trans (b1.mono HB0.out.size)
  rw [HSZ.out] at s1 ⊢
  have hsz1 := b1.size
  rw [HSZ.out] at hsz1
  clear z0 b0 b1 hr hb hn
  go_wp2_with fail
  (with_reducible refine (l15AnyS _ n cap a zs w1 s1).mono ?_)
  rintro e w2 ⟨nx, v, ps, rfl, hl, hnm, ho, s2, g2⟩
  have zr2 : Blk w2 w.heap.size 26 #[.int .i64 0, .slice none 0 0] := Blk.kept zr g2 (by omega)
  have B2 : Below w.heap.size w w2 := B1.grown g2 B1.size (fun m hm => by simp at hm; omega)
  obtain ⟨va, vc, rfl, _⟩ := rowR_form ho
  obtain ⟨r0, r1⟩ := zr2.duo
  have f0 := zr2.frozen 0
  have f1 := zr2.frozen 1
  have zf := (zr2.set 0 (.int .i64 nx)).set 1 (.slice va ps.length vc)
  have gf := set2_gr w2 w.heap.size (.int .i64 nx) (.slice va ps.length vc)
  have dd0 := zf.cell 0
  have dd1 := zf.cell 1
  simp at dd0 dd1
  have HO : Hid _ := rowT_set2 (rowT_less ho (show w.heap.size ≤ _ by omega)) zr2 (.int .i64 nx) (.slice va ps.length vc)
  have HBF : Hid _ := B2.grown gf B2.size (fun k hk => by simp at hk; omega)
  clear zr zr2 B1 B2 s1 s2 g2 zf gf ho
  go_wp2
  refine bodyPost_ret (v := .agg #[.int .i64 nx, .slice va ps.length vc]) (by simp [results, Try.f8, go_sem, dd0, dd1]) rfl ?_
  rw [← HP.out]
  exact ⟨nx, va, vc, ps, rfl, hl, hnm, HO.out, HBF.out⟩
end Go.Proofs.Ytmkcadnpleijdaa


