/-
  Joined: LdF, LdG, LdH.
-/
import Derived.Test.YtpejfkgbfdkdnaaJ37B
namespace Go.Proofs.Ytpejfkgbfdkdnaa
section
open Go.RowKit
/-- Faults that stay, whatever is done below and behind. -/
def AFR (B : Nat) (w : World) (fa : Option Addr) (m : Nat) (fs : List FtD) : Prop := ∀ W : World, (∀ k, B ≤ k → k < w.heap.size → W.heap[k]? = w.heap[k]?) → FR W fa m fs
theorem AFR.less {B B' m : Nat} {w : World} {fa : Option Addr} {fs : List FtD} (h : AFR B w fa m fs) (hB : B' ≤ B) : AFR B' w fa m fs := fun W hW => h W fun k h1 h2 => hW k (Nat.le_trans hB h1) h2
theorem AFR.far {B m X i : Nat} {w : World} {fa : Option Addr} {fs : List FtD} (h : AFR B w fa m fs) (hX : X < B) (v : Value) : AFR B (w.setCell ⟨X, i, none⟩ v) fa m fs := fun W hW => h W fun k h1 h2 => (hW k h1 (by rw [size_setC]; exact h2)).trans (Below.heap_setCell _ _ _ _ (by show k ≠ X; omega))
theorem OwnFa.afr {B c m : Nat} {w : World} {fa : Option Addr} {fs : List FtD} (h : OwnFa w (.slice fa m c) m fs) (hn : ∀ g, (Value.slice fa m c).ownBlock = some g → B ≤ g) (hm : m ≤ 1048576) : AFR B w fa m fs := fun _ hW => OwnFa.fr (OwnE.block h fun g hg => hW g (hn g hg) (OwnE.lt h hg)) hm
/-- A device was drawn, right or not. -/
def Q11 (w : World) (gc n cap : Nat) (a : Option Addr) (zs : List Int) (e : Ending) (w' : World) : Prop := ∃ (va : Option Addr) (vn vc : Nat) (ops : Int) (fa : Option Addr) (m fc : Nat) (down : Bool) (qs : List BkR) (fs : List FtD), e = .returned (.agg #[.slice va vn vc, .int .i64 ops, .slice fa m fc, .bool down]) ∧ ACR w.heap.size w' va vn qs ∧ PgV vn qs ∧ AFR w.heap.size w' fa m fs ∧ m ≤ 21 ∧ Src w' gc n cap a zs ∧ Sv [gc] w w'
theorem q11_fin {w W : World} {gc n cap : Nat} {a : Option Addr} {zs : List Int} {va : Option Addr} {vn vc : Nat} {ops : Int} {fa : Option Addr} {m fc : Nat} {down : Bool} {qs : List BkR} {fs : List FtD} (hs : Src W gc n cap a zs) (sv : Sv [gc] w W) (hgc : gc < w.heap.size) (ha : ACR (w.heap.size + 1) W va vn qs) (hv : PgV vn qs) (hf : AFR (w.heap.size + 1) W fa m fs) (hm : m ≤ 21) (v0 v1 v2 v3 : Value) :
    Q11 w gc n cap a zs (.returned (.agg #[.slice va vn vc, .int .i64 ops, .slice fa m fc, .bool down])) ((((W.setCell ⟨w.heap.size, 0, none⟩ v0).setCell ⟨w.heap.size, 1, none⟩ v1).setCell ⟨w.heap.size, 2, none⟩ v2).setCell ⟨w.heap.size, 3, none⟩ v3) := by
  have h1 := hgc
  exact ⟨va, vn, vc, ops, fa, m, fc, down, qs, fs, rfl, ((((ha.far (by omega) _).far (by omega) _).far (by omega) _).far (by omega) _).less (by omega), hv, ((((hf.far (by omega) _).far (by omega) _).far (by omega) _).far (by omega) _).less (by omega), hm, (((hs.set h1).set h1).set h1).set h1, sv_new (sv_new (sv_new (sv_new sv (Nat.le_refl _)) (Nat.le_refl _)) (Nat.le_refl _)) (Nat.le_refl _)⟩
theorem XL.pgv {T : TypeId} {Zs xs : Array Value} {w W : World} {gc n cap : Nat} {a : Option Addr} {zs : List Int} {X : Nat} {D : DvD} {va : Option Addr} {vn vc : Nat} {fa : Option Addr} {m fc : Nat} {qs : List BkR} (h : XL w W gc n cap a zs X T Zs xs D va vn vc fa m fc qs) : PgV vn qs := .of h.vn.2.2 h.nd.bs.D (devB_parts.1 h.ok).1 h.bt h.nd.bs.caps
theorem XL.fin {xs : Array Value} {w W : World} {gc n cap : Nat} {a : Option Addr} {zs : List Int} {X : Nat} {D : DvD} {va : Option Addr} {vn vc : Nat} {fa : Option Addr} {m fc : Nat} {qs : List BkR} {ops : Int} {down : Bool} (h : XL w W gc n cap a zs X 29 #[.slice none 0 0, .int .i64 0, .slice none 0 0, .bool false] xs D va vn vc fa m fc qs) (v0 v1 v2 v3 : Value) : Q11 w gc n cap a zs (.returned (.agg #[.slice va vn vc, .int .i64 ops, .slice fa m fc, .bool down])) ((((W.setCell ⟨w.heap.size, 0, none⟩ v0).setCell ⟨w.heap.size, 1, none⟩ v1).setCell ⟨w.heap.size, 2, none⟩ v2).setCell ⟨w.heap.size, 3, none⟩ v3) :=
  have h2 := h.fr
  have h3 : m ≤ 20 := by
    have h4 := (devB_parts.1 h.ok).2.2
    unfold faultsB at h4
    simp at h4
    have := h2.len
    omega
  q11_fin h.src h.sv h.hgc (h.nd.bs.acr h.ql (devB_tot h.ok)) h.pgv (OwnFa.afr h.nd.fs (fun g hg => (h.nd.new g hg).1) (by omega)) (by omega) v0 v1 v2 v3
/-- A list that a draw takes of. -/
def Lst (W : World) (gc m : Nat) (t : TypeId) (cs : Array Value) (u : Value) : Prop := ∃ g : Nat, u = .slice (some ⟨g, 0, none⟩) m m ∧ g ≠ gc ∧ Blk W g t cs
theorem Lst.alloc {W : World} {gc m : Nat} {t : TypeId} {cs : Array Value} {u : Value} (h : Lst W gc m t cs u) (o : Obj) : Lst (W.alloc o) gc m t cs u := by obtain ⟨g, h1, h2, h3⟩ := h; exact ⟨g, h1, h2, h3.alloc o⟩
theorem blk_kept {W W' : World} {gc g : Nat} {t : TypeId} {cs : Array Value} (h : Blk W g t cs) (hg : W.grownBy W' (some gc)) (hne : g ≠ gc) : Blk W' g t cs := Blk.svs h (sv_grown hg) (by simpa using hne)
theorem Lst.step {W W' : World} {gc m : Nat} {t : TypeId} {cs : Array Value} {u : Value} (h : Lst W gc m t cs u) (hg : W.grownBy W' (some gc)) : Lst W' gc m t cs u := by obtain ⟨g, h1, h2, h3⟩ := h; exact ⟨g, h1, h2, blk_kept h3 hg h2⟩
/-- A list of one fault. -/
def OneF (W : World) (gc : Nat) (u : Value) : Prop := ∃ (g : Nat) (p : FtD), u = .slice (some ⟨g, 0, none⟩) 1 1 ∧ g ≠ gc ∧ Blk W g 93 #[.int .i64 p.tm, .int .i64 p.kd, .int .i64 p.kp]
theorem OneF.alloc {W : World} {gc : Nat} {u : Value} (h : OneF W gc u) (o : Obj) : OneF (W.alloc o) gc u := by obtain ⟨g, p, h1, h2, h3⟩ := h; exact ⟨g, p, h1, h2, h3.alloc o⟩
theorem OneF.step {W W' : World} {gc : Nat} {u : Value} (h : OneF W gc u) (hg : W.grownBy W' (some gc)) : OneF W' gc u := by obtain ⟨g, p, h1, h2, h3⟩ := h; exact ⟨g, p, h1, h2, blk_kept h3 hg h2⟩
theorem tri_cell3 (x y z : Int) (k : Nat) (h : k < 3) : (#[.int .i64 x, .int .i64 y, .int .i64 z] : Array Value)[k]? = some (.int .i64 (([x, y, z] : List Int).getD k 0)) := by
  rcases (show k = 0 ∨ k = 1 ∨ k = 2 by omega) with rfl | rfl | rfl <;> rfl
/-- The faults have one more. -/
structure XG (w W : World) (gc n cap : Nat) (a : Option Addr) (zs : List Int) (X : Nat) (xs : Array Value) (D : DvD) (va : Option Addr) (vn vc : Nat) (qs : List BkR) (g c m : Nat) (p : FtD) : Prop where
  src : Src W gc n cap a zs
  sv : Sv [gc] w W
  bs : NewBs W (w.heap.size + 1) (.slice va vn vc) D.ds qs
  ql : qs.length = vn
  ok : devB D.ds D.ops D.fs = true
  fs : OwnFa W (.slice (some ⟨g, 0, none⟩) m c) m (D.fs ++ [p])
  hg : w.heap.size + 1 ≤ g
  gX : g ≠ X
  res : Blk W w.heap.size 29 #[.slice none 0 0, .int .i64 0, .slice none 0 0, .bool false]
  hgc : gc < w.heap.size
  hX : w.heap.size < X
  x : Blk W X 29 xs
  xf : X ∉ fpBs (.slice va vn vc) qs
theorem XL.app {W' : World} {g c : Nat} {p : FtD} {xs : Array Value} {w W : World} {gc n cap : Nat} {a : Option Addr} {zs : List Int} {X : Nat} {D : DvD} {va : Option Addr} {vn vc : Nat} {fa : Option Addr} {m fc : Nat} {qs : List BkR} (h : XL w W gc n cap a zs X 29 #[.slice none 0 0, .int .i64 0, .slice none 0 0, .bool false] xs D va vn vc fa m fc qs) (hg : W.grownBy W' (Value.slice fa m fc).ownBlock) (ho : OwnFa W' (.slice (some ⟨g, 0, none⟩) (m + 1) c) (m + 1) (D.fs ++ [p])) (hgg : (Value.slice fa m fc).ownBlock = some g ∨ g = W.heap.size) : XG w W' gc n cap a zs X xs D va vn vc qs g c (m + 1) p := by
  have h1 := h.hX
  have h2 := h.hgc
  have h3 := h.sv.size
  have hxl := h.x.lt
  have hne : ∀ g, (Value.slice fa m fc).ownBlock = some g → w.heap.size < g := fun g hv => by have := (h.nd.new g hv).1; omega
  have hnx : ∀ g, (Value.slice fa m fc).ownBlock = some g → g ≠ X := fun g hv e => h.xf (by subst e; exact fpDv_fs hv)
  have s1 : Src W' gc n cap a zs := by
    cases hv : (Value.slice fa m fc).ownBlock with
    | none => rw [hv] at hg; exact h.src.keep ((Below.refl _ _).grown hg (Nat.le_refl _) (by simp))
    | some g => rw [hv] at hg; exact h.src.other hg (by have := hne g hv; omega)
  have kb : ∀ k, k < W.heap.size → (∀ g, (Value.slice fa m fc).ownBlock = some g → k ≠ g) → W'.heap[k]? = W.heap[k]? := fun k hk hkn => hg.block k hk (fun e => by first | exact hkn k e rfl | exact hkn k e.symm rfl)
  refine ⟨s1, ⟨hg.os.trans h.sv.os, hg.tape.trans h.sv.tape, hg.output.trans h.sv.output, Nat.le_trans h3 hg.size, fun b hb hf => (kb b (by omega) (fun g hv => by have := hne g hv; omega)).trans (h.sv.block b hb hf)⟩, ⟨h.nd.bs.D, h.nd.bs.own.block (fun j hj => kb j (h.nd.bs.own.lt j hj) (fun g hv e => by subst e; exact (h.nd.new j hv).2 hj)), h.nd.bs.new, h.nd.bs.nd⟩, h.ql, h.ok, ho, ?_, ?_, (kb _ h.res.lt (fun g hv => by have := hne g hv; omega)).trans h.res, h2, h1, (kb _ hxl (fun g hv e => hnx g hv e.symm)).trans h.x, fun hf => h.xf (fpDv_bs hf)⟩
  · rcases hgg with hv | rfl
    · have := hne g hv; omega
    · omega
  · rcases hgg with hv | rfl
    · exact hnx g hv
    · omega
theorem XG.setX {xs : Array Value} {w W : World} {gc n cap : Nat} {a : Option Addr} {zs : List Int} {X : Nat} {D : DvD} {va : Option Addr} {vn vc : Nat} {qs : List BkR} {g c m : Nat} {p : FtD} (h : XG w W gc n cap a zs X xs D va vn vc qs g c m p) (j : Nat) (v : Value) : XG w (W.setCell ⟨X, j, none⟩ v) gc n cap a zs X (xs.setIfInBounds j v) D va vn vc qs g c m p := by
  have h1 := h.hX
  have h2 := h.hgc
  have h3 := h.gX
  exact ⟨h.src.set (by omega), sv_new h.sv (by omega), ⟨h.bs.D, h.bs.own.block (fun k hk => Below.heap_setCell _ _ _ _ (fun e => h.xf (by have e2 : k = X := e; rw [← e2]; exact hk))), h.bs.new, h.bs.nd⟩, h.ql, h.ok, OwnE.block h.fs (fun k hk => Below.heap_setCell _ _ _ _ (by simp [Value.ownBlock] at hk; show k ≠ X; omega)), h.hg, h3, h.res.other (by omega) j v, h2, h1, h.x.set j v, h.xf⟩
theorem XG.fin {xs : Array Value} {w W : World} {gc n cap : Nat} {a : Option Addr} {zs : List Int} {X : Nat} {D : DvD} {va : Option Addr} {vn vc : Nat} {qs : List BkR} {g c m : Nat} {p : FtD} {ops : Int} {down : Bool} (h : XG w W gc n cap a zs X xs D va vn vc qs g c m p) (hm : m ≤ 21) (hv : PgV vn qs) (v0 v1 v2 v3 : Value) : Q11 w gc n cap a zs (.returned (.agg #[.slice va vn vc, .int .i64 ops, .slice (some ⟨g, 0, none⟩) m c, .bool down])) ((((W.setCell ⟨w.heap.size, 0, none⟩ v0).setCell ⟨w.heap.size, 1, none⟩ v1).setCell ⟨w.heap.size, 2, none⟩ v2).setCell ⟨w.heap.size, 3, none⟩ v3) :=
  q11_fin h.src h.sv h.hgc (h.bs.acr h.ql (devB_tot h.ok)) hv (OwnFa.afr h.fs (fun k hk => by simp [Value.ownBlock] at hk; have := h.hg; omega) (by omega)) hm v0 v1 v2 v3
theorem XL.alloc {xs : Array Value} {w W : World} {gc n cap : Nat} {a : Option Addr} {zs : List Int} {X : Nat} {D : DvD} {va : Option Addr} {vn vc : Nat} {fa : Option Addr} {m fc : Nat} {qs : List BkR} (h : XL w W gc n cap a zs X 29 #[.slice none 0 0, .int .i64 0, .slice none 0 0, .bool false] xs D va vn vc fa m fc qs) (o : Obj) : XL w (W.alloc o) gc n cap a zs X 29 #[.slice none 0 0, .int .i64 0, .slice none 0 0, .bool false] xs D va vn vc fa m fc qs := h.keep ((Below.refl _ W).alloc (Nat.le_refl _) o)
/-- What the operations yield: ahead of the append, and behind it. -/
def JD (w : World) (gc n cap : Nat) (a : Option Addr) (zs : List Int) (X : Nat) (D : DvD) (va : Option Addr) (vn vc : Nat) (fa : Option Addr) (m fc : Nat) (qs : List BkR) : Bool → Nat → Value → World → Prop
  | false, 0, u, _ => u = .pointer (some ⟨X, 2, none⟩)
  | false, 1, u, _ => u = .slice fa m fc
  | false, 2, u, _ => u = .pointer (some ⟨gc, 0, none⟩)
  | false, 3, u, W => Lst W gc 3 3 #[.int .i64 0, .int .i64 100000, .int .i64 100001] u
  | false, 4, u, _ => ∃ q, u = .int .i64 q
  | false, 5, u, _ => u = .pointer (some ⟨gc, 0, none⟩)
  | false, 6, u, _ => ∃ q, u = .int .i64 q
  | false, 7, u, _ => u = .pointer (some ⟨gc, 0, none⟩)
  | false, 8, u, W => Lst W gc 3 3 #[.int .i64 (-1), .int .i64 0, .int .i64 401] u
  | false, 9, u, _ => ∃ q, u = .int .i64 q
  | false, 10, u, _ => ∃ p : FtD, u = .agg #[.int .i64 p.tm, .int .i64 p.kd, .int .i64 p.kp]
  | false, 11, u, W => OneF W gc u
  | true, 12, u, W => ∃ (g c : Nat) (p : FtD), u = .slice (some ⟨g, 0, none⟩) (m + 1) c ∧ XG w W gc n cap a zs X #[.slice va vn vc, .int .i64 D.ops, .slice fa m fc, .bool D.down] D va vn vc qs g c (m + 1) p
  | true, 13, u, _ => u = .pointer (some ⟨X, 2, none⟩)
  | _, _, _, _ => True
def SD (w : World) (gc n cap : Nat) (a : Option Addr) (zs : List Int) (X : Nat) (D : DvD) (va : Option Addr) (vn vc : Nat) (fa : Option Addr) (m fc : Nat) (qs : List BkR) : Bool → World → Prop
  | false, W => XL w W gc n cap a zs X 29 #[.slice none 0 0, .int .i64 0, .slice none 0 0, .bool false] #[.slice va vn vc, .int .i64 D.ops, .slice fa m fc, .bool D.down] D va vn vc fa m fc qs
  | true, _ => True
theorem JD.alloc {w W : World} {gc n cap : Nat} {a : Option Addr} {zs : List Int} {X : Nat} {D : DvD} {va : Option Addr} {vn vc : Nat} {fa : Option Addr} {m fc : Nat} {qs : List BkR} (o : Obj) : ∀ (j : Nat) (u : Value), JD w gc n cap a zs X D va vn vc fa m fc qs false j u W → JD w gc n cap a zs X D va vn vc fa m fc qs false j u (W.alloc o)
  | 0, _, h => h
  | 1, _, h => h
  | 2, _, h => h
  | 3, _, h => Lst.alloc h o
  | 4, _, h => h
  | 5, _, h => h
  | 6, _, h => h
  | 7, _, h => h
  | 8, _, h => Lst.alloc h o
  | 9, _, h => h
  | 10, _, h => h
  | 11, _, h => OneF.alloc h o
  | _ + 12, _, _ => trivial
theorem JD.behind {w W : World} {gc n cap : Nat} {a : Option Addr} {zs : List Int} {X : Nat} {D : DvD} {va : Option Addr} {vn vc : Nat} {fa : Option Addr} {m fc : Nat} {qs : List BkR} (j : Nat) (u : Value) (h1 : j ≠ 12) (h2 : j ≠ 13) : JD w gc n cap a zs X D va vn vc fa m fc qs true j u W := by
  unfold JD
  split <;> first | trivial | (exact absurd rfl h1) | (exact absurd rfl h2) | simp_all
theorem JD.step {w W : World} {gc n cap : Nat} {a : Option Addr} {zs : List Int} {X : Nat} {D : DvD} {va : Option Addr} {vn vc : Nat} {fa : Option Addr} {m fc : Nat} {qs : List BkR} {W' : World} (hg : W.grownBy W' (some gc)) : ∀ (j : Nat) (u : Value), JD w gc n cap a zs X D va vn vc fa m fc qs false j u W → JD w gc n cap a zs X D va vn vc fa m fc qs false j u W'
  | 0, _, h => h
  | 1, _, h => h
  | 2, _, h => h
  | 3, _, h => Lst.step h hg
  | 4, _, h => h
  | 5, _, h => h
  | 6, _, h => h
  | 7, _, h => h
  | 8, _, h => Lst.step h hg
  | 9, _, h => h
  | 10, _, h => h
  | 11, _, h => OneF.step h hg
  | _ + 12, _, _ => trivial
theorem row3_at {W : World} {g : Nat} {p : FtD} (h : Blk W g 93 #[.int .i64 p.tm, .int .i64 p.kd, .int .i64 p.kp]) : ∀ j u, ([.int .i64 p.tm, .int .i64 p.kd, .int .i64 p.kp] : List Value)[j]? = some u → W.cell? ((⟨g, 0, none⟩ : Addr).add j) = some u := fun j u hu => by
  have hj : j < 3 := by
    have := List.getElem?_eq_some_iff.1 hu
    obtain ⟨h1, _⟩ := this
    exact h1
  have h1 := h.cell j
  have e : (⟨g, 0, none⟩ : Addr).add j = ⟨g, j, none⟩ := by simp [Addr.add]; intro h; exact h.symm
  rw [e, h1, ← hu]
  rcases (show j = 0 ∨ j = 1 ∨ j = 2 by omega) with rfl | rfl | rfl <;> rfl
set_option maxRecDepth 100000 in
set_option maxHeartbeats 8000000 in
theorem l11AnyS (gc n cap : Nat) (a : Option Addr) (zs : List Int) (w : World) (h : Src w gc n cap a zs) :
    Calls Try.prog 39 #[.pointer (some ⟨gc, 0, none⟩)] w (Q11 w gc n cap a zs) := by
  have hgc := h.cur.lt
  have B0 : Below w.heap.size w (w.alloc (.cells #[.slice none 0 0, .int .i64 0, .slice none 0 0, .bool false] 29)) := (Below.refl _ w).alloc (Nat.le_refl _) _
  have h0 := h.keep B0
  have res0 : Blk (w.alloc (.cells #[.slice none 0 0, .int .i64 0, .slice none 0 0, .bool false] 29)) w.heap.size 29 #[.slice none 0 0, .int .i64 0, .slice none 0 0, .bool false] := Blk.new w _ _
  obtain ⟨ie, hie, ze0, ze1, ze2⟩ := info_parts Try.infoFault
  obtain ⟨P, hP⟩ : ∃ P, Q11 w gc n cap a zs = P := ⟨_, rfl⟩
  have HP : Hid _ := hP
  rw [hP]
  clear hP
  go_enter Try.func39, Try.ntmps39
  go_wp2_with fail
  obtain ⟨W0, hW0⟩ : ∃ W, w.alloc (.cells #[.slice none 0 0, .int .i64 0, .slice none 0 0, .bool false] 29) = W := ⟨_, rfl⟩
  rw [hW0] at B0 h0 res0 ⊢
  have hs0 : W0.heap.size = w.heap.size + 1 := by rw [← hW0]; simp
  clear hW0
  refine (l11DrawS gc n cap a zs W0 h0).mono ?_
  rintro e w1 ⟨D, va, vn, vc, fa, m, fc, qs, rfl, hnd, hql, hok, hbt, s1, sv1⟩
  have res1 : Blk w1 w.heap.size 29 _ := Blk.svs res0 sv1 (by simp; omega)
  have hsz1 := sv1.size
  have b4 : Below w1.heap.size w1 (w1.alloc (.cells #[.slice va vn vc, .int .i64 D.ops, .slice fa m fc, .bool D.down] 29)) := (Below.refl _ _).alloc (Nat.le_refl _) _
  have xr0 : XL w (w1.alloc (.cells #[.slice va vn vc, .int .i64 D.ops, .slice fa m fc, .bool D.down] 29)) gc n cap a zs w1.heap.size 29 #[.slice none 0 0, .int .i64 0, .slice none 0 0, .bool false] #[.slice va vn vc, .int .i64 D.ops, .slice fa m fc, .bool D.down] D va vn vc fa m fc qs :=
    ⟨s1.keep b4, ((Below.sv B0 _).trans sv1).trans (Below.sv b4 _), (hnd.keep b4).wider (by omega), hql, hok, res1.keep b4, hgc, by omega, Blk.new w1 _ _, fun hf => by have := hnd.lt _ hf; omega, hbt⟩
  have HM : Hid (m ≤ 20) := by
    have h4 := (devB_parts.1 hok).2.2
    unfold faultsB at h4
    simp at h4
    have := OwnE.len hnd.fs
    show m ≤ 20
    omega
  clear res0 h0 res1 s1 hnd sv1 B0 b4 hok hql
  go_wp2_with fail
  obtain ⟨W1, hW1⟩ : ∃ W, w1.alloc (.cells #[.slice va vn vc, .int .i64 D.ops, .slice fa m fc, .bool D.down] 29) = W := ⟨_, rfl⟩
  rw [hW1] at xr0 ⊢
  obtain ⟨X, hX⟩ : ∃ X, w1.heap.size = X := ⟨_, rfl⟩
  rw [hX] at xr0 ⊢
  clear hW1 hX
  refine (below_step gc n cap a zs 16 W1 xr0.src (by omega) (by omega)).mono ?_
  rintro e w2 ⟨x, rfl, hx, s2, g2⟩
  have xr := xr0.step s2 g2
  clear xr0 s2 g2 hsz1
  by_cases h0 : x = 0
  · subst h0
    have hcl : ∀ j, j < 3 → (w2.alloc (.cells #[.int .i64 (-1), .int .i64 100000, .int .i64 100001] 3)).cell? ⟨w2.heap.size, j, none⟩ = some (.int .i64 (([-1, 100000, 100001] : List Int).getD j 0)) := fun j hj => ints_cells w2 [-1, 100000, 100001] 3 j hj
    have HCL : Hid _ := hcl
    clear hcl
    have hgl := xr.sv.size
    have XRH : Hid (XL w w2 gc n cap a zs X 29 #[.slice none 0 0, .int .i64 0, .slice none 0 0, .bool false] #[.slice va vn vc, .int .i64 D.ops, .slice fa m fc, .bool D.down] D va vn vc fa m fc qs) := xr
    clear xr
    go_wp2_with fail
    refine (int_step gc n cap a zs w2.heap.size 3 [-1, 100000, 100001] _ (XRH.out.alloc _).src rfl (by omega) (by omega) (by omega) HCL.out).mono ?_
    rintro e w3 ⟨k, rfl, hk, s3, g3⟩
    generalize ([-1, 100000, 100001] : List Int).getD k 0 = q
    have x3 := (XRH.out.alloc _).step s3 g3
    have fb0 := x3.x.frozen 1
    obtain ⟨cb0, cb1, cb2, cb3⟩ := x3.x.dev
    have xf := x3.setX 1 (.int .i64 q)
    simp at xf
    clear s3 g3 HCL x3
    obtain ⟨q0, q1, q2, q3⟩ := xf.x.dev
    obtain ⟨r0, r1, r2, r3⟩ := xf.res.dev
    have f0 := xf.res.frozen 0
    have f1 := xf.res.frozen 1
    have f2 := xf.res.frozen 2
    have f3 := xf.res.frozen 3
    have zf := (((xf.res.set 0 (.slice va vn vc)).set 1 (.int .i64 q)).set 2 (.slice fa m fc)).set 3 (.bool D.down)
    simp at zf
    obtain ⟨s0, s1, s2, s3⟩ := zf.dev
    have HQ : Hid _ := xf.fin (ops := q) (down := D.down) (vc := vc) (fc := fc) (.slice va vn vc) (.int .i64 q) (.slice fa m fc) (.bool D.down)
    clear xf zf
    go_wp2
    refine bodyPost_ret (v := .agg #[.slice va vn vc, .int .i64 q, .slice fa m fc, .bool D.down]) (by simp [results, Try.f39, go_sem, s0, s1, s2, s3]) rfl ?_
    rw [← HP.out]
    exact HQ.out

  by_cases h1 : x = 1
  · subst h1
    rw [show ((1 : Nat) : Int) = 1 from rfl]
    go_upto_region 6 with fail
    refine wp_region_inv 14 12 14 (SD w gc n cap a zs X D va vn vc fa m fc qs) (JD w gc n cap a zs X D va vn vc fa m fc qs) (by kernel_rfl) (by kernel_rfl) (by kernel_rfl) (by kernel_rfl) (by decide) (by decide) 12 (by kernel_rfl) xr.drew ?step ?fin
    case step =>
      intro i hi hne
      clear xr
      rcases (show i = 0 ∨ i = 1 ∨ i = 2 ∨ i = 3 ∨ i = 4 ∨ i = 5 ∨ i = 6 ∨ i = 7 ∨ i = 8 ∨ i = 9 ∨ i = 10 ∨ i = 11 ∨ i = 12 ∨ i = 13 by omega) with rfl | rfl | rfl | rfl | rfl | rfl | rfl | rfl | rfl | rfl | rfl | rfl | rfl | rfl
      all_goals clear hi hne
      · intro o ho b a2 W hM hb1 hb0 hS hold hdep K hK
        simp only [List.getElem?_toArray, List.getElem?_cons_zero, Option.some.injEq] at ho
        subst ho
        clear hM
        obtain rfl : b = false := hb0 (by kernel_rfl)
        clear hb1 hb0
        have o3 : a2.tmps[3]? = some (.pointer (some ⟨X, 0, none⟩)) := hold 3 (by kernel_rfl)
        clear hdep hold
        go_simp
        exact hK _ _ hS rfl (fun _ _ _ _ h => h)
      · intro o ho b a2 W hM hb1 hb0 hS hold hdep K hK
        simp only [List.getElem?_toArray, List.getElem?_cons_zero, List.getElem?_cons_succ, Option.some.injEq] at ho
        subst ho
        clear hM
        obtain rfl : b = false := hb0 (by kernel_rfl)
        clear hb1 hb0
        obtain ⟨u0, e0, j0⟩ := hdep 0 (by kernel_rfl)
        have e0 := e0 16 (by kernel_rfl)
        have j0 : u0 = .pointer (some ⟨X, 2, none⟩) := j0
        clear hdep hold
        subst j0
        have c2 := hS.x.cell 2
        simp at c2
        go_simp
        exact hK _ _ hS rfl (fun _ _ _ _ h => h)
      · intro o ho b a2 W hM hb1 hb0 hS hold hdep K hK
        simp only [List.getElem?_toArray, List.getElem?_cons_zero, List.getElem?_cons_succ, Option.some.injEq] at ho
        subst ho
        clear hM
        obtain rfl : b = false := hb0 (by kernel_rfl)
        clear hb1 hb0
        have o0 : a2.tmps[0]? = some (.pointer (some ⟨gc, 0, none⟩)) := hold 0 (by kernel_rfl)
        clear hdep hold
        go_simp
        exact hK _ _ hS rfl (fun _ _ _ _ h => h)
      · intro o ho b a2 W hM hb1 hb0 hS hold hdep K hK
        simp only [List.getElem?_toArray, List.getElem?_cons_zero, List.getElem?_cons_succ, Option.some.injEq] at ho
        subst ho
        clear hM
        obtain rfl : b = false := hb0 (by kernel_rfl)
        clear hb1 hb0
        clear hdep hold
        have hgW := hS.src.cur.lt
        go_simp
        exact hK _ _ (hS.alloc _) ⟨W.heap.size, rfl, by omega, Blk.new W _ _⟩ (fun j u _ _ => JD.alloc _ j u)
      · intro o ho b a2 W hM hb1 hb0 hS hold hdep K hK
        simp only [List.getElem?_toArray, List.getElem?_cons_zero, List.getElem?_cons_succ, Option.some.injEq] at ho
        subst ho
        clear hM
        obtain rfl : b = false := hb0 (by kernel_rfl)
        clear hb1 hb0
        obtain ⟨u2, e2, j2⟩ := hdep 2 (by kernel_rfl)
        have e2 := e2 18 (by kernel_rfl)
        have j2 : u2 = .pointer (some ⟨gc, 0, none⟩) := j2
        obtain ⟨u3, e3, j3⟩ := hdep 3 (by kernel_rfl)
        have e3 := e3 19 (by kernel_rfl)
        have j3 : Lst W gc 3 3 #[.int .i64 0, .int .i64 100000, .int .i64 100001] u3 := j3
        clear hdep hold
        subst j2
        obtain ⟨g, rfl, hgc2, hb2⟩ := j3
        go_simp
        go_at_call 21
        refine (int_step gc n cap a zs g 3 [0, 100000, 100001] W hS.src rfl (by omega) (by omega) hgc2 (fun j hj => (hb2.cell j).trans (tri_cell3 0 100000 100001 j hj))).mono ?_
        rintro e w8 ⟨x, rfl, hx, s8, g8⟩
        exact hK _ _ (hS.step s8 g8) ⟨_, rfl⟩ (fun j u _ _ => JD.step g8 j u)
      · intro o ho b a2 W hM hb1 hb0 hS hold hdep K hK
        simp only [List.getElem?_toArray, List.getElem?_cons_zero, List.getElem?_cons_succ, Option.some.injEq] at ho
        subst ho
        clear hM
        obtain rfl : b = false := hb0 (by kernel_rfl)
        clear hb1 hb0
        have o0 : a2.tmps[0]? = some (.pointer (some ⟨gc, 0, none⟩)) := hold 0 (by kernel_rfl)
        clear hdep hold
        go_simp
        exact hK _ _ hS rfl (fun _ _ _ _ h => h)
      · intro o ho b a2 W hM hb1 hb0 hS hold hdep K hK
        simp only [List.getElem?_toArray, List.getElem?_cons_zero, List.getElem?_cons_succ, Option.some.injEq] at ho
        subst ho
        clear hM
        obtain rfl : b = false := hb0 (by kernel_rfl)
        clear hb1 hb0
        obtain ⟨u5, e5, j5⟩ := hdep 5 (by kernel_rfl)
        have e5 := e5 21 (by kernel_rfl)
        have j5 : u5 = .pointer (some ⟨gc, 0, none⟩) := j5
        clear hdep hold
        subst j5
        have hb4 := below_step gc n cap a zs 4 W hS.src (by omega) (by omega)
        rw [show ((4 : Nat) : Int) = 4 from rfl] at hb4
        go_simp
        go_at_call 30
        refine (hb4).mono ?_
        rintro e w8 ⟨x, rfl, hx, s8, g8⟩
        exact hK _ _ (hS.step s8 g8) ⟨_, rfl⟩ (fun j u _ _ => JD.step g8 j u)
      · intro o ho b a2 W hM hb1 hb0 hS hold hdep K hK
        simp only [List.getElem?_toArray, List.getElem?_cons_zero, List.getElem?_cons_succ, Option.some.injEq] at ho
        subst ho
        clear hM
        obtain rfl : b = false := hb0 (by kernel_rfl)
        clear hb1 hb0
        have o0 : a2.tmps[0]? = some (.pointer (some ⟨gc, 0, none⟩)) := hold 0 (by kernel_rfl)
        clear hdep hold
        go_simp
        exact hK _ _ hS rfl (fun _ _ _ _ h => h)
      · intro o ho b a2 W hM hb1 hb0 hS hold hdep K hK
        simp only [List.getElem?_toArray, List.getElem?_cons_zero, List.getElem?_cons_succ, Option.some.injEq] at ho
        subst ho
        clear hM
        obtain rfl : b = false := hb0 (by kernel_rfl)
        clear hb1 hb0
        clear hdep hold
        have hgW := hS.src.cur.lt
        go_simp
        exact hK _ _ (hS.alloc _) ⟨W.heap.size, rfl, by omega, Blk.new W _ _⟩ (fun j u _ _ => JD.alloc _ j u)
      · intro o ho b a2 W hM hb1 hb0 hS hold hdep K hK
        simp only [List.getElem?_toArray, List.getElem?_cons_zero, List.getElem?_cons_succ, Option.some.injEq] at ho
        subst ho
        clear hM
        obtain rfl : b = false := hb0 (by kernel_rfl)
        clear hb1 hb0
        obtain ⟨u7, e7, j7⟩ := hdep 7 (by kernel_rfl)
        have e7 := e7 23 (by kernel_rfl)
        have j7 : u7 = .pointer (some ⟨gc, 0, none⟩) := j7
        obtain ⟨u8, e8, j8⟩ := hdep 8 (by kernel_rfl)
        have e8 := e8 24 (by kernel_rfl)
        have j8 : Lst W gc 3 3 #[.int .i64 (-1), .int .i64 0, .int .i64 401] u8 := j8
        clear hdep hold
        subst j7
        obtain ⟨g, rfl, hgc2, hb2⟩ := j8
        go_simp
        go_at_call 21
        refine (int_step gc n cap a zs g 3 [-1, 0, 401] W hS.src rfl (by omega) (by omega) hgc2 (fun j hj => (hb2.cell j).trans (tri_cell3 (-1) 0 401 j hj))).mono ?_
        rintro e w8 ⟨x, rfl, hx, s8, g8⟩
        exact hK _ _ (hS.step s8 g8) ⟨_, rfl⟩ (fun j u _ _ => JD.step g8 j u)
      · intro o ho b a2 W hM hb1 hb0 hS hold hdep K hK
        simp only [List.getElem?_toArray, List.getElem?_cons_zero, List.getElem?_cons_succ, Option.some.injEq] at ho
        subst ho
        clear hM
        obtain rfl : b = false := hb0 (by kernel_rfl)
        clear hb1 hb0
        obtain ⟨u4, e4, j4⟩ := hdep 4 (by kernel_rfl)
        have e4 := e4 20 (by kernel_rfl)
        have j4 : ∃ q, u4 = .int .i64 q := j4
        obtain ⟨u6, e6, j6⟩ := hdep 6 (by kernel_rfl)
        have e6 := e6 22 (by kernel_rfl)
        have j6 : ∃ q, u6 = .int .i64 q := j6
        obtain ⟨u9, e9, j9⟩ := hdep 9 (by kernel_rfl)
        have e9 := e9 25 (by kernel_rfl)
        have j9 : ∃ q, u9 = .int .i64 q := j9
        clear hdep hold
        obtain ⟨q1, rfl⟩ := j4
        obtain ⟨q2, rfl⟩ := j6
        obtain ⟨q3, rfl⟩ := j9
        go_simp
        exact hK _ _ hS ⟨⟨q1, q2, q3⟩, rfl⟩ (fun _ _ _ _ h => h)
      · intro o ho b a2 W hM hb1 hb0 hS hold hdep K hK
        simp only [List.getElem?_toArray, List.getElem?_cons_zero, List.getElem?_cons_succ, Option.some.injEq] at ho
        subst ho
        clear hM
        obtain rfl : b = false := hb0 (by kernel_rfl)
        clear hb1 hb0
        obtain ⟨u10, e10, j10⟩ := hdep 10 (by kernel_rfl)
        have e10 := e10 26 (by kernel_rfl)
        have j10 : ∃ p : FtD, u10 = .agg #[.int .i64 p.tm, .int .i64 p.kd, .int .i64 p.kp] := j10
        clear hdep hold
        obtain ⟨r, rfl⟩ := j10
        have hgW := hS.src.cur.lt
        go_simp
        exact hK _ _ (hS.alloc _) ⟨W.heap.size, r, rfl, by omega, Blk.new W _ _⟩ (fun j u _ _ => JD.alloc _ j u)
      · intro o ho b a2 W hM hb1 hb0 hS hold hdep K hK
        simp only [List.getElem?_toArray, List.getElem?_cons_zero, List.getElem?_cons_succ, Option.some.injEq] at ho
        subst ho
        clear hM
        obtain rfl : b = false := hb0 (by kernel_rfl)
        clear hb1 hb0
        obtain ⟨u1, e1, j1⟩ := hdep 1 (by kernel_rfl)
        have e1 := e1 17 (by kernel_rfl)
        have j1 : u1 = .slice fa m fc := j1
        obtain ⟨u11, e11, j11⟩ := hdep 11 (by kernel_rfl)
        have e11 := e11 27 (by kernel_rfl)
        have j11 : OneF W gc u11 := j11
        clear hdep hold
        subst j1
        have hlk := HM.out
        obtain ⟨g, r, rfl, hgc2, hb2⟩ := j11
        refine step_append_lies W rfl (.tmp 17) (.tmp 27) 27 rfl 0 93 ie _ 3 24 Try.underlying27 hie ze0 ze1 ze2 rfl (by omega) (.slice fa m fc) m (ftE.xv D.fs) (eval_of e1) hS.nd.fs ⟨g, 0, none⟩ 1 1 [.int .i64 r.tm, .int .i64 r.kd, .int .i64 r.kp] (eval_of e11) rfl (row3_at hb2) (fun u hu => by simp at hu; rcases hu with rfl | rfl | rfl <;> rfl) (by omega) (by unfold maxLen; omega) (by omega) (by omega) _ rfl ?_
        intro g5 c5 w8 ho5 hg5 hgg _
        exact hK _ _ trivial ⟨g5, c5, r, rfl, hS.app hg5 (by unfold OwnFa OwnE; rw [ftE_snoc]; exact ho5) hgg⟩ (fun j u hj hd _ => JD.behind j u hj (fun e => by subst e; cases hd (by kernel_rfl)))
      · intro o ho b a2 W hM hb1 hb0 hS hold hdep K hK
        simp only [List.getElem?_toArray, List.getElem?_cons_zero, List.getElem?_cons_succ, Option.some.injEq] at ho
        subst ho
        clear hM
        obtain rfl : b = true := hb1 (by kernel_rfl)
        clear hb1 hb0
        have o3 : a2.tmps[3]? = some (.pointer (some ⟨X, 0, none⟩)) := hold 3 (by kernel_rfl)
        clear hdep hold
        go_simp
        exact hK _ _ trivial rfl (fun _ _ _ _ h => h)
    case fin =>
      intro a2 W _ hdf hsz hold hall
      obtain ⟨u0, t0, _⟩ := hall 0 (by omega) (by decide)
      obtain ⟨u1, t1, _⟩ := hall 1 (by omega) (by decide)
      obtain ⟨u2, t2, _⟩ := hall 2 (by omega) (by decide)
      obtain ⟨u3, t3, _⟩ := hall 3 (by omega) (by decide)
      obtain ⟨u4, t4, _⟩ := hall 4 (by omega) (by decide)
      obtain ⟨u5, t5, _⟩ := hall 5 (by omega) (by decide)
      obtain ⟨u6, t6, _⟩ := hall 6 (by omega) (by decide)
      obtain ⟨u7, t7, _⟩ := hall 7 (by omega) (by decide)
      obtain ⟨u8, t8, _⟩ := hall 8 (by omega) (by decide)
      obtain ⟨u9, t9, _⟩ := hall 9 (by omega) (by decide)
      obtain ⟨u10, t10, _⟩ := hall 10 (by omega) (by decide)
      obtain ⟨u11, t11, _⟩ := hall 11 (by omega) (by decide)
      obtain ⟨u12, t12, j12⟩ := hall 12 (by omega) (by decide)
      obtain ⟨u13, t13, j13⟩ := hall 13 (by omega) (by decide)
      clear hall
      obtain rfl := puts_act (L := 14) [(16, u0), (17, u1), (18, u2), (19, u3), (20, u4), (21, u5), (22, u6), (23, u7), (24, u8), (25, u9), (26, u10), (27, u11), (28, u12), (29, u13)] (by kernel_rfl) hdf hsz hold (List.forall_mem_cons.2 ⟨t0 16 (by kernel_rfl), (List.forall_mem_cons.2 ⟨t1 17 (by kernel_rfl), (List.forall_mem_cons.2 ⟨t2 18 (by kernel_rfl), (List.forall_mem_cons.2 ⟨t3 19 (by kernel_rfl), (List.forall_mem_cons.2 ⟨t4 20 (by kernel_rfl), (List.forall_mem_cons.2 ⟨t5 21 (by kernel_rfl), (List.forall_mem_cons.2 ⟨t6 22 (by kernel_rfl), (List.forall_mem_cons.2 ⟨t7 23 (by kernel_rfl), (List.forall_mem_cons.2 ⟨t8 24 (by kernel_rfl), (List.forall_mem_cons.2 ⟨t9 25 (by kernel_rfl), (List.forall_mem_cons.2 ⟨t10 26 (by kernel_rfl), (List.forall_mem_cons.2 ⟨t11 27 (by kernel_rfl), (List.forall_mem_cons.2 ⟨t12 28 (by kernel_rfl), (List.forall_mem_cons.2 ⟨t13 29 (by kernel_rfl), (fun p hp => by cases hp)⟩)⟩)⟩)⟩)⟩)⟩)⟩)⟩)⟩)⟩)⟩)⟩)⟩)⟩)
      clear hdf hsz hold t0 t1 t2 t3 t4 t5 t6 t7 t8 t9 t10 t11 t12 t13
      obtain ⟨g5, c5, r, rfl, xa⟩ := j12
      have j13 : u13 = .pointer (some ⟨X, 2, none⟩) := j13
      subst j13
      simp only [List.foldl_cons, List.foldl_nil, List.setIfInBounds_toArray, List.set_cons_zero, List.set_cons_succ]
      have c2 := xa.x.cell 2
      have f2 := xa.x.frozen 2
      simp at c2
      refine wpOp_last rfl (fun K hK => ?_)
      go_simp
      refine Shut.out hK _ _ ?_
      have xf := xa.setX 2 (.slice (some ⟨g5, 0, none⟩) (m + 1) c5)
      simp at xf
      have hv24 := xr.pgv
      clear xa c2 f2 hK xr
      obtain ⟨q0, q1, q2, q3⟩ := xf.x.dev
      obtain ⟨r0, r1, r2, r3⟩ := xf.res.dev
      have f0 := xf.res.frozen 0
      have f1 := xf.res.frozen 1
      have f2 := xf.res.frozen 2
      have f3 := xf.res.frozen 3
      have zf := (((xf.res.set 0 (.slice va vn vc)).set 1 (.int .i64 D.ops)).set 2 (.slice (some ⟨g5, 0, none⟩) (m + 1) c5)).set 3 (.bool D.down)
      simp at zf
      obtain ⟨s0, s1, s2, s3⟩ := zf.dev
      have HQ : Hid _ := xf.fin (ops := D.ops) (down := D.down) (by have := HM.out; omega) hv24 (.slice va vn vc) (.int .i64 D.ops) (.slice (some ⟨g5, 0, none⟩) (m + 1) c5) (.bool D.down)
      clear xf zf
      go_wp2
      refine bodyPost_ret (v := .agg #[.slice va vn vc, .int .i64 D.ops, .slice (some ⟨g5, 0, none⟩) (m + 1) c5, .bool D.down]) (by simp [results, Try.f39, go_sem, s0, s1, s2, s3]) rfl ?_
      rw [← HP.out]
      exact HQ.out

  by_cases h2 : x = 2
  · subst h2
    rw [show ((2 : Nat) : Int) = 2 from rfl]
    go_wp2_with fail
    refine (l10AnyS2 gc n cap a zs w2 xr.src).mono ?_
    rintro e w3 ⟨va3, vn3, vc3, qs3, rfl, ac3, hv3, s3, sv3⟩
    have hgc2 := xr.src.cur.lt
    have hx3 := xr.x.lt
    have x3 : Blk w3 X 29 _ := Blk.svs xr.x sv3 (by have := xr.hX; simp; omega)
    have r3 : Blk w3 w.heap.size 29 _ := Blk.svs xr.res sv3 (by simp; omega)
    have hXw := xr.hX
    have hwl := xr.res.lt
    have of3 : OwnFa w3 (.slice fa m fc) m D.fs := OwnE.block xr.nd.fs (fun g hg => sv3.block g (OwnE.lt xr.nd.fs hg) (by have := (xr.nd.new g hg).1; simp; omega))
    have of4 : OwnFa (w3.setCell ⟨X, 0, none⟩ (.slice va3 vn3 vc3)) (.slice fa m fc) m D.fs := OwnE.block of3 (fun g hg => Below.heap_setCell _ _ _ _ (fun e => xr.xf (by have e2 : g = X := e; rw [← e2]; exact fpDv_fs hg)))
    have HQ0 : Hid (Q11 w gc n cap a zs (.returned (.agg #[.slice va3 vn3 vc3, .int .i64 D.ops, .slice fa m fc, .bool D.down])) _) := q11_fin (s3.set (show gc < X by omega)) (sv_new (xr.sv.trans sv3) (by omega)) hgc ((ac3.far hx3 (.slice va3 vn3 vc3)).less (by omega)) hv3 (OwnFa.afr of4 (fun g hg => (xr.nd.new g hg).1) (by have := HM.out; omega)) (by have := HM.out; omega) (.slice va3 vn3 vc3) (.int .i64 D.ops) (.slice fa m fc) (.bool D.down)
    obtain ⟨cb0, cb1, cb2, cb3⟩ := x3.dev
    have fb0 := x3.frozen 0
    have xs3 := x3.set 0 (.slice va3 vn3 vc3)
    simp at xs3
    obtain ⟨q0, q1, q2, q3⟩ := xs3.dev
    have rr3 := r3.other (B' := X) (by omega) 0 (.slice va3 vn3 vc3)
    obtain ⟨r0, r1, r2, r3'⟩ := rr3.dev
    have f0 := rr3.frozen 0
    have f1 := rr3.frozen 1
    have f2 := rr3.frozen 2
    have f3 := rr3.frozen 3
    have zf := (((rr3.set 0 (.slice va3 vn3 vc3)).set 1 (.int .i64 D.ops)).set 2 (.slice fa m fc)).set 3 (.bool D.down)
    simp at zf
    obtain ⟨s0', s1', s2', s3'⟩ := zf.dev
    clear xr x3 r3 of3 of4 ac3 xs3 rr3 zf sv3 s3
    go_wp2
    refine bodyPost_ret (v := .agg #[.slice va3 vn3 vc3, .int .i64 D.ops, .slice fa m fc, .bool D.down]) (by simp [results, Try.f39, go_sem, s0', s1', s2', s3']) rfl ?_
    rw [← HP.out]
    exact HQ0.out
  have hx0 : ((x : Int) == 0) = false := by simpa using h0
  have hx1 : ((x : Int) == 1) = false := by simp; omega
  have hx2 : ((x : Int) == 2) = false := by simp; omega
  have xf := xr
  clear xr
  obtain ⟨q0, q1, q2, q3⟩ := xf.x.dev
  obtain ⟨r0, r1, r2, r3⟩ := xf.res.dev
  have f0 := xf.res.frozen 0
  have f1 := xf.res.frozen 1
  have f2 := xf.res.frozen 2
  have f3 := xf.res.frozen 3
  have zf := (((xf.res.set 0 (.slice va vn vc)).set 1 (.int .i64 D.ops)).set 2 (.slice fa m fc)).set 3 (.bool D.down)
  simp at zf
  obtain ⟨s0, s1, s2, s3⟩ := zf.dev
  have HQ : Hid _ := xf.fin (ops := D.ops) (down := D.down) (vc := vc) (fc := fc) (.slice va vn vc) (.int .i64 D.ops) (.slice fa m fc) (.bool D.down)
  clear xf zf
  go_wp2
  refine bodyPost_ret (v := .agg #[.slice va vn vc, .int .i64 D.ops, .slice fa m fc, .bool D.down]) (by simp [results, Try.f39, go_sem, s0, s1, s2, s3]) rfl ?_
  rw [← HP.out]
  exact HQ.out
end

section
open Go.RowKit
/-- A log was drawn, right or not. -/
def Q13 (w : World) (gc n cap : Nat) (a : Option Addr) (zs : List Int) (e : Ending) (w' : World) : Prop := ∃ (va : Option Addr) (vn vc : Nat) (ops : Int) (fa : Option Addr) (m fc : Nat) (down : Bool) (seq : Int) (qs : List BkR) (fs : List FtD), e = .returned (.agg #[.slice va vn vc, .int .i64 ops, .slice fa m fc, .bool down, .int .i64 seq]) ∧ ACR w.heap.size w' va vn qs ∧ PgV vn qs ∧ AFR w.heap.size w' fa m fs ∧ m ≤ 21 ∧ Src w' gc n cap a zs ∧ Sv [gc] w w'
theorem q13_fin {w W : World} {gc n cap : Nat} {a : Option Addr} {zs : List Int} {va : Option Addr} {vn vc : Nat} {ops : Int} {fa : Option Addr} {m fc : Nat} {down : Bool} {seq : Int} {qs : List BkR} {fs : List FtD} (hs : Src W gc n cap a zs) (sv : Sv [gc] w W) (hgc : gc < w.heap.size) (ha : ACR (w.heap.size + 1) W va vn qs) (hv : PgV vn qs) (hf : AFR (w.heap.size + 1) W fa m fs) (hm : m ≤ 21) (v0 v1 v2 v3 v4 : Value) :
    Q13 w gc n cap a zs (.returned (.agg #[.slice va vn vc, .int .i64 ops, .slice fa m fc, .bool down, .int .i64 seq])) (((((W.setCell ⟨w.heap.size, 0, none⟩ v0).setCell ⟨w.heap.size, 1, none⟩ v1).setCell ⟨w.heap.size, 2, none⟩ v2).setCell ⟨w.heap.size, 3, none⟩ v3).setCell ⟨w.heap.size, 4, none⟩ v4) :=
  ⟨va, vn, vc, ops, fa, m, fc, down, seq, qs, fs, rfl, (((((ha.far (by omega) _).far (by omega) _).far (by omega) _).far (by omega) _).far (by omega) _).less (by omega), hv, (((((hf.far (by omega) _).far (by omega) _).far (by omega) _).far (by omega) _).far (by omega) _).less (by omega), hm, ((((hs.set hgc).set hgc).set hgc).set hgc).set hgc, sv_new (sv_new (sv_new (sv_new (sv_new sv (Nat.le_refl _)) (Nat.le_refl _)) (Nat.le_refl _)) (Nat.le_refl _)) (Nat.le_refl _)⟩
theorem XL.finL {T : TypeId} {Zs xs : Array Value} {w W : World} {gc n cap : Nat} {a : Option Addr} {zs : List Int} {X : Nat} {D : DvD} {va : Option Addr} {vn vc : Nat} {fa : Option Addr} {m fc : Nat} {qs : List BkR} {ops : Int} {down : Bool} {seq : Int} (h : XL w W gc n cap a zs X T Zs xs D va vn vc fa m fc qs) (v0 v1 v2 v3 v4 : Value) : Q13 w gc n cap a zs (.returned (.agg #[.slice va vn vc, .int .i64 ops, .slice fa m fc, .bool down, .int .i64 seq])) (((((W.setCell ⟨w.heap.size, 0, none⟩ v0).setCell ⟨w.heap.size, 1, none⟩ v1).setCell ⟨w.heap.size, 2, none⟩ v2).setCell ⟨w.heap.size, 3, none⟩ v3).setCell ⟨w.heap.size, 4, none⟩ v4) :=
  have h2 := h.fr
  have h3 : m ≤ 20 := by
    have h4 := (devB_parts.1 h.ok).2.2
    unfold faultsB at h4
    simp at h4
    have := h2.len
    omega
  q13_fin h.src h.sv h.hgc (h.nd.bs.acr h.ql (devB_tot h.ok)) h.pgv (OwnFa.afr h.nd.fs (fun g hg => (h.nd.new g hg).1) (by omega)) (by omega) v0 v1 v2 v3 v4
set_option maxRecDepth 100000 in
set_option maxHeartbeats 8000000 in
theorem l13AnyS (gc n cap : Nat) (a : Option Addr) (zs : List Int) (w : World) (h : Src w gc n cap a zs) :
    Calls Try.prog 20 #[.pointer (some ⟨gc, 0, none⟩)] w (Q13 w gc n cap a zs) := by
  have hgc := h.cur.lt
  have B0 : Below w.heap.size w (w.alloc (.cells #[.slice none 0 0, .int .i64 0, .slice none 0 0, .bool false, .int .i64 0] 31)) := (Below.refl _ w).alloc (Nat.le_refl _) _
  have h0 := h.keep B0
  have res0 : Blk (w.alloc (.cells #[.slice none 0 0, .int .i64 0, .slice none 0 0, .bool false, .int .i64 0] 31)) w.heap.size 31 #[.slice none 0 0, .int .i64 0, .slice none 0 0, .bool false, .int .i64 0] := Blk.new w _ _
  obtain ⟨P, hP⟩ : ∃ P, Q13 w gc n cap a zs = P := ⟨_, rfl⟩
  have HP : Hid _ := hP
  rw [hP]
  clear hP
  go_enter Try.func20, Try.ntmps20
  go_wp2_with fail
  obtain ⟨W0, hW0⟩ : ∃ W, w.alloc (.cells #[.slice none 0 0, .int .i64 0, .slice none 0 0, .bool false, .int .i64 0] 31) = W := ⟨_, rfl⟩
  rw [hW0] at B0 h0 res0 ⊢
  have hs0 : W0.heap.size = w.heap.size + 1 := by rw [← hW0]; simp
  clear hW0
  refine (l13DrawS gc n cap a zs W0 h0).mono ?_
  rintro e w1 ⟨D, seq, va, vn, vc, fa, m, fc, qs, rfl, hnd, hql, hok, hbt, hsq13, s1, sv1⟩
  have res1 : Blk w1 w.heap.size 31 _ := Blk.svs res0 sv1 (by simp; omega)
  have hsz1 := sv1.size
  have b4 : Below w1.heap.size w1 (w1.alloc (.cells #[.slice va vn vc, .int .i64 D.ops, .slice fa m fc, .bool D.down, .int .i64 seq] 31)) := (Below.refl _ _).alloc (Nat.le_refl _) _
  have xr0 : XL w (w1.alloc (.cells #[.slice va vn vc, .int .i64 D.ops, .slice fa m fc, .bool D.down, .int .i64 seq] 31)) gc n cap a zs w1.heap.size 31 #[.slice none 0 0, .int .i64 0, .slice none 0 0, .bool false, .int .i64 0] #[.slice va vn vc, .int .i64 D.ops, .slice fa m fc, .bool D.down, .int .i64 seq] D va vn vc fa m fc qs :=
    ⟨s1.keep b4, ((Below.sv B0 _).trans sv1).trans (Below.sv b4 _), (hnd.keep b4).wider (by omega), hql, hok, res1.keep b4, hgc, by omega, Blk.new w1 _ _, fun hf => by have := hnd.lt _ hf; omega, hbt⟩
  have HM : Hid (m ≤ 20) := by
    have h4 := (devB_parts.1 hok).2.2
    unfold faultsB at h4
    simp at h4
    have := OwnE.len hnd.fs
    show m ≤ 20
    omega
  clear res0 h0 res1 s1 hnd sv1 B0 b4 hok hql
  go_wp2_with fail
  obtain ⟨W1, hW1⟩ : ∃ W, w1.alloc (.cells #[.slice va vn vc, .int .i64 D.ops, .slice fa m fc, .bool D.down, .int .i64 seq] 31) = W := ⟨_, rfl⟩
  rw [hW1] at xr0 ⊢
  obtain ⟨X, hX⟩ : ∃ X, w1.heap.size = X := ⟨_, rfl⟩
  rw [hX] at xr0 ⊢
  clear hW1 hX
  refine (below_step gc n cap a zs 12 W1 xr0.src (by omega) (by omega)).mono ?_
  rintro e w2 ⟨x, rfl, hx, s2, g2⟩
  have xr := xr0.step s2 g2
  clear xr0 s2 g2 hsz1
  by_cases h0 : x = 0
  · subst h0
    have hcl : ∀ j, j < 4 → (w2.alloc (.cells #[.int .i64 (-1), .int .i64 0, .int .i64 1000000, .int .i64 1000001] 3)).cell? ⟨w2.heap.size, j, none⟩ = some (.int .i64 (([-1, 0, 1000000, 1000001] : List Int).getD j 0)) := fun j hj => ints_cells w2 [-1, 0, 1000000, 1000001] 3 j hj
    have HCL : Hid _ := hcl
    clear hcl
    have hgl := xr.sv.size
    have XRH : Hid (XL w w2 gc n cap a zs X 31 #[.slice none 0 0, .int .i64 0, .slice none 0 0, .bool false, .int .i64 0] #[.slice va vn vc, .int .i64 D.ops, .slice fa m fc, .bool D.down, .int .i64 seq] D va vn vc fa m fc qs) := xr
    clear xr
    go_wp2_with fail
    refine (int_step gc n cap a zs w2.heap.size 4 [-1, 0, 1000000, 1000001] _ (XRH.out.keep ((Below.refl _ _).alloc (Nat.le_refl _) _)).src rfl (by omega) (by omega) (by omega) HCL.out).mono ?_
    rintro e w3 ⟨k, rfl, hk, s3, g3⟩
    generalize ([-1, 0, 1000000, 1000001] : List Int).getD k 0 = q
    have x3 := (XRH.out.keep ((Below.refl _ _).alloc (Nat.le_refl _) _)).step s3 g3
    have fb0 := x3.x.frozen 4
    obtain ⟨cb0, cb1, cb2, cb3, cb4⟩ := x3.x.log
    have xf := x3.setX 4 (.int .i64 q)
    simp at xf
    clear s3 g3 HCL x3
    obtain ⟨q0, q1, q2, q3, q4⟩ := xf.x.log
    obtain ⟨r0, r1, r2, r3, r4⟩ := xf.res.log
    have f0 := xf.res.frozen 0
    have f1 := xf.res.frozen 1
    have f2 := xf.res.frozen 2
    have f3 := xf.res.frozen 3
    have f4 := xf.res.frozen 4
    have zf := (((((xf.res.set 0 (.slice va vn vc)).set 1 (.int .i64 D.ops)).set 2 (.slice fa m fc)).set 3 (.bool D.down)).set 4 (.int .i64 q))
    simp at zf
    obtain ⟨s0, s1, s2, s3, s4⟩ := zf.log
    have HQ : Hid _ := xf.finL (ops := D.ops) (down := D.down) (seq := q) (vc := vc) (fc := fc) (.slice va vn vc) (.int .i64 D.ops) (.slice fa m fc) (.bool D.down) (.int .i64 q)
    clear xf zf
    go_wp2
    refine bodyPost_ret (v := .agg #[.slice va vn vc, .int .i64 D.ops, .slice fa m fc, .bool D.down, .int .i64 q]) (by simp [results, Try.f20, go_sem, s0, s1, s2, s3, s4]) rfl ?_
    rw [← HP.out]
    exact HQ.out

  by_cases h1 : x = 1
  · subst h1
    rw [show ((1 : Nat) : Int) = 1 from rfl]
    go_wp2_with fail
    refine (l11AnyS gc n cap a zs w2 xr.src).mono ?_
    rintro e w3 ⟨va3, vn3, vc3, op3, fa3, m3, fc3, dn3, qs3, fs3, rfl, ac3, hv3, af3, hm3, s3, sv3⟩
    have hx3 := xr.x.lt
    have hXw := xr.hX
    have x3 : Blk w3 X 31 _ := Blk.svs xr.x sv3 (by simp; omega)
    have r3 : Blk w3 w.heap.size 31 _ := Blk.svs xr.res sv3 (by simp; omega)
    have hgX : gc < X := by omega
    have HQ0 : Hid (Q13 w gc n cap a zs (.returned (.agg #[.slice va3 vn3 vc3, .int .i64 op3, .slice fa3 m3 fc3, .bool dn3, .int .i64 seq])) _) := q13_fin (W := ((((w3.setCell ⟨X, 0, none⟩ (.slice va3 vn3 vc3)).setCell ⟨X, 1, none⟩ (.int .i64 op3)).setCell ⟨X, 2, none⟩ (.slice fa3 m3 fc3)).setCell ⟨X, 3, none⟩ (.bool dn3))) ((((s3.set hgX).set hgX).set hgX).set hgX) (sv_new (sv_new (sv_new (sv_new (xr.sv.trans sv3) (by omega)) (by omega)) (by omega)) (by omega)) hgc (((((ac3.far hx3 (.slice va3 vn3 vc3)).far hx3 (.int .i64 op3)).far hx3 (.slice fa3 m3 fc3)).far hx3 (.bool dn3)).less (by omega)) hv3 (((((af3.far hx3 (.slice va3 vn3 vc3)).far hx3 (.int .i64 op3)).far hx3 (.slice fa3 m3 fc3)).far hx3 (.bool dn3)).less (by omega)) hm3 (.slice va3 vn3 vc3) (.int .i64 op3) (.slice fa3 m3 fc3) (.bool dn3) (.int .i64 seq)
    obtain ⟨cb0, cb1, cb2, cb3, cb4⟩ := x3.log
    have fb0 := x3.frozen 0
    have fb1 := x3.frozen 1
    have fb2 := x3.frozen 2
    have fb3 := x3.frozen 3
    have xs3 := (((x3.set 0 (.slice va3 vn3 vc3)).set 1 (.int .i64 op3)).set 2 (.slice fa3 m3 fc3)).set 3 (.bool dn3)
    simp at xs3
    obtain ⟨q0, q1, q2, q3, q4⟩ := xs3.log
    have rr3 := (((r3.other (B' := X) (by omega) 0 (.slice va3 vn3 vc3)).other (B' := X) (by omega) 1 (.int .i64 op3)).other (B' := X) (by omega) 2 (.slice fa3 m3 fc3)).other (B' := X) (by omega) 3 (.bool dn3)
    obtain ⟨r0, r1, r2, r3', r4⟩ := rr3.log
    have f0 := rr3.frozen 0
    have f1 := rr3.frozen 1
    have f2 := rr3.frozen 2
    have f3 := rr3.frozen 3
    have f4 := rr3.frozen 4
    have zf := ((((rr3.set 0 (.slice va3 vn3 vc3)).set 1 (.int .i64 op3)).set 2 (.slice fa3 m3 fc3)).set 3 (.bool dn3)).set 4 (.int .i64 seq)
    simp at zf
    obtain ⟨t0, t1, t2, t3, t4⟩ := zf.log
    clear xr x3 r3 ac3 af3 xs3 rr3 zf sv3 s3
    go_wp2
    refine bodyPost_ret (v := .agg #[.slice va3 vn3 vc3, .int .i64 op3, .slice fa3 m3 fc3, .bool dn3, .int .i64 seq]) (by simp [results, Try.f20, go_sem, t0, t1, t2, t3, t4]) rfl ?_
    rw [← HP.out]
    exact HQ0.out
  have hx0 : ((x : Int) == 0) = false := by simpa using h0
  have hx1 : ((x : Int) == 1) = false := by simp; omega
  have xf := xr
  clear xr
  obtain ⟨q0, q1, q2, q3, q4⟩ := xf.x.log
  obtain ⟨r0, r1, r2, r3, r4⟩ := xf.res.log
  have f0 := xf.res.frozen 0
  have f1 := xf.res.frozen 1
  have f2 := xf.res.frozen 2
  have f3 := xf.res.frozen 3
  have f4 := xf.res.frozen 4
  have zf := (((((xf.res.set 0 (.slice va vn vc)).set 1 (.int .i64 D.ops)).set 2 (.slice fa m fc)).set 3 (.bool D.down)).set 4 (.int .i64 seq))
  simp at zf
  obtain ⟨s0, s1, s2, s3, s4⟩ := zf.log
  have HQ : Hid _ := xf.finL (ops := D.ops) (down := D.down) (seq := seq) (vc := vc) (fc := fc) (.slice va vn vc) (.int .i64 D.ops) (.slice fa m fc) (.bool D.down) (.int .i64 seq)
  clear xf zf
  go_wp2
  refine bodyPost_ret (v := .agg #[.slice va vn vc, .int .i64 D.ops, .slice fa m fc, .bool D.down, .int .i64 seq]) (by simp [results, Try.f20, go_sem, s0, s1, s2, s3, s4]) rfl ?_
  rw [← HP.out]
  exact HQ.out
end

section
open Go.RowKit
theorem below_svs {H : Nat} {F : List Nat} {w0 w w' : World} (h : Below H w0 w) (k : Sv F w w') (hF : ∀ g ∈ F, H ≤ g) (hH : H ≤ w0.heap.size) : Below H w0 w' :=
  ⟨k.os.trans h.os, k.tape.trans h.tape, k.output.trans h.output, Nat.le_trans h.size k.size, fun i hi => (k.block i (by have := h.size; omega) (fun hf => by have := hF i hf; omega)).trans (h.block i hi)⟩
end
end Go.Proofs.Ytpejfkgbfdkdnaa
