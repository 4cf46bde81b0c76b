/-
  What the specification's GetInode answers.
-/
import Derived.Test.YtnllhpeddoaehaaGetS
namespace Go.Proofs.Ytnllhpeddoaehaa
open Go.RowKit

/-- What both GetInode functions answer: the inode that the bytes tell, if it is there whole and right, in memory of its own; else the zero one. -/
def GetPost (B : Nat) (w' : World) (zs : List Int) (e : Ending) : Prop :=
  (gOk zs = true ∧ ∃ v1 v2 v3, e = .returned (.tuple #[.agg #[.int .i64 ((g1 zs).1 : Int), .int .i64 ((g2 zs).1 : Int), .int .i64 ((g3 zs).1 : Int), v1, v2, v3], .bool true]) ∧ DQ B w' v1 (strZ (g4 zs).1) ∧ w'.ownsRow B 35 2 v2 (gE zs).1.length (pv (eP (gE zs).1)) ∧ w'.ownsRow B 77 2 v3 (gA zs).1.length (pv (aP (gA zs).1))) ∨
  (gOk zs = false ∧ e = .returned (.tuple #[.agg #[.int .i64 0, .int .i64 0, .int .i64 0, .slice none 0 0, .slice none 0 0, .slice none 0 0], .bool false]))

theorem RS.kpt {W W' : World} {R : Nat} {a : Option Addr} {n cap : Nat} {st : Option Nat} (h : RS W R a n cap st) (g : W.grownBy W' (some R)) : KpT W W' [27, 5, 35, 77] := by
  obtain ⟨p, hb, _⟩ := h
  exact KpT.grown g hb (by decide)
theorem below_gr {B : Nat} {w0 W W' : World} {R : Nat} (h : Below B w0 W) (g : W.grownBy W' (some R)) (hB : B ≤ w0.heap.size) (hR : B ≤ R) : Below B w0 W' := h.grown g (Nat.le_trans hB h.size) (by intro k hk; simp at hk; omega)

/-- What is known while an inode is read: the answer's cell, the inode's box, its lists. -/
structure GX (w0 W : World) (X : Nat) (xs : Array Value) (v1 : Value) (dz : List Int) (v2 : Value) (es : List (ByteArray × Int)) (v3 : Value) (ats : List (ByteArray × ByteArray)) : Prop where
  below : Below w0.heap.size w0 W
  res : Blk W w0.heap.size 27 #[.int .i64 0, .int .i64 0, .int .i64 0, .slice none 0 0, .slice none 0 0, .slice none 0 0]
  x : Blk W X 27 xs
  hX : w0.heap.size < X
  d : v1 = .slice none 0 0 ∨ DQ w0.heap.size W v1 dz
  e : W.ownsRow w0.heap.size 35 2 v2 es.length (pv (eP es))
  t : W.ownsRow w0.heap.size 77 2 v3 ats.length (pv (aP ats))
theorem GX.kp {w0 W W' : World} {X : Nat} {xs : Array Value} {v1 v2 v3 : Value} {dz : List Int} {es : List (ByteArray × Int)} {ats : List (ByteArray × ByteArray)} (h : GX w0 W X xs v1 dz v2 es v3 ats) (k : KpT W W' [27, 5, 35, 77]) (hb : Below w0.heap.size w0 W') : GX w0 W' X xs v1 dz v2 es v3 ats :=
  ⟨hb, h.res.kp k (by decide), h.x.kp k (by decide), h.hX, h.d.imp id (fun q => q.kp k (by decide)), row_kp h.e k (by decide), row_kp h.t k (by decide)⟩
theorem GX.keep {w0 W W' : World} {X : Nat} {xs : Array Value} {v1 v2 v3 : Value} {dz : List Int} {es : List (ByteArray × Int)} {ats : List (ByteArray × ByteArray)} (h : GX w0 W X xs v1 dz v2 es v3 ats) (hb : Below W.heap.size W W') : GX w0 W' X xs v1 dz v2 es v3 ats :=
  h.kp (KpT.below hb _) (h.below.trans (hb.mono h.below.size))
theorem GX.setX {w0 W : World} {X : Nat} {xs : Array Value} {v1 v2 v3 : Value} {dz : List Int} {es : List (ByteArray × Int)} {ats : List (ByteArray × ByteArray)} (h : GX w0 W X xs v1 dz v2 es v3 ats) (j : Nat) (v : Value) : GX w0 (W.setCell ⟨X, j, none⟩ v) X (xs.setIfInBounds j v) v1 dz v2 es v3 ats := by
  have k : KpT W (W.setCell ⟨X, j, none⟩ v) [5, 35, 77] := KpT.grown (gr_setC W X j v) h.x (by decide)
  exact ⟨h.below.setCell (p := ⟨X, j, none⟩) (Nat.le_of_lt h.hX) v, h.res.other (Nat.ne_of_lt h.hX) j v, h.x.set j v, h.hX, h.d.imp id (fun q => q.kp k (by decide)), row_kp h.e k (by decide), row_kp h.t k (by decide)⟩
theorem RS.setX {W : World} {X R : Nat} {xs : Array Value} {a : Option Addr} {n cap : Nat} {st : Option Nat} (h : RS W R a n cap st) (hx : Blk W X 27 xs) (j : Nat) (v : Value) : RS (W.setCell ⟨X, j, none⟩ v) R a n cap st :=
  h.kp (KpT.grown (ts := [92]) (gr_setC W X j v) hx (by decide)) (by decide)
theorem RS.keep {W W' : World} {R : Nat} {a : Option Addr} {n cap : Nat} {st : Option Nat} (h : RS W R a n cap st) (hb : Below W.heap.size W W') : RS W' R a n cap st := h.kp (KpT.below hb [92]) (by decide)

theorem pv_snoc (ps : List VP) (p : VP) : pv (ps ++ [p]) = pv ps ++ [p.1, p.2] := by rw [pv_append]; rfl
theorem pair_news (w : World) (p : VP) (t : TypeId) : ∀ j u, [p.1, p.2][j]? = some u → (w.alloc (.cells #[p.1, p.2] t)).cell? ((⟨w.heap.size, 0, none⟩ : Addr).add j) = some u := by
  intro j u hj
  rw [add_at, (Blk.new w t #[p.1, p.2]).cell j]
  match j, hj with
  | 0, hj => simpa using hj
  | 1, hj => simpa using hj
  | j + 2, hj => simp at hj

/-- One pair appended to a row of the call's own. -/
theorem wpList_appP (w : World) {ops : Array Oper} {rest : List Oper} {o : Oper} {a : Act} {Q : Exit → Act → World → Prop} (hgd : o.guard = none) (s x : Operand) (t e : TypeId)
    (ho : o.op = .call { callee := .builtin .append, args := #[s, x], argTypes := #[t, t] }) (ht : Try.prog.underlying t = some (.slice e)) (i : TypeInfo) (z : Value) (bytes : Nat) (hi : Try.prog.info? e = some i) (hz : i.zero = some z) (hsz : i.size = 2) (hby : i.bytes = bytes) (hzs : z.cells.size = 2) (hb64 : bytes ≤ 64)
    (B : Nat) (v : Value) (n : Nat) (ps : List VP) (p : VP) (hs : a.eval s = v) (hown : w.ownsRow B e 2 v n (pv ps)) (hn : n ≤ 100000) (hx : a.eval x = .slice (some ⟨w.heap.size, 0, none⟩) 1 1) (p1 : p.1.oneCell' = true) (p2 : p.2.oneCell' = true) (hB : B ≤ w.heap.size)
    (h : ∀ v' w', w'.ownsRow B e 2 v' (n + 1) (pv (ps ++ [p])) → (w.alloc (.cells #[p.1, p.2] e)).grownBy w' v.ownBlock → wpList Try.prog ops Q rest (a.put o.dst v') w') :
    wpList Try.prog ops Q (o :: rest) a (w.alloc (.cells #[p.1, p.2] e)) := by
  refine wpList_append_own_at _ hgd s x t ho B e i z 2 bytes ht hi hz hsz hby hzs (by decide) v n (pv ps) hs (World.ownsRow.alloc hown _) ⟨w.heap.size, 0, none⟩ 1 1 [p.1, p.2] hx rfl (pair_news w p e) ?_ (by unfold maxLen; omega) ?_ (by simp; omega) ?_
  · intro u hu
    simp at hu
    rcases hu with rfl | rfl
    · exact p1
    · exact p2
  · have : (n + 1) * bytes ≤ 100001 * 64 := Nat.mul_le_mul (by omega) hb64
    omega
  · intro v' w' h1 h2 _ _
    refine h v' w' ?_ h2
    rw [pv_snoc]
    exact h1

theorem row_some {B : Nat} {W : World} {v : Value} {e : TypeId} {n : Nat} {xs : List Value} (h : W.ownsRow B e 2 v n xs) (hn : n ≠ 0) : ∃ g c, v = .slice (some ⟨g, 0, none⟩) n c := by
  rcases h.2 with ⟨_, h0⟩ | ⟨g, c, cur, rfl, _⟩
  · exact absurd h0 hn
  · exact ⟨g, c, rfl⟩
theorem eP_snoc (es : List (ByteArray × Int)) (q : ByteArray × Int) : eP (es ++ [q]) = eP es ++ [(.string q.1, .int .i64 q.2)] := by simp [eP]
theorem aP_snoc (es : List (ByteArray × ByteArray)) (q : ByteArray × ByteArray) : aP (es ++ [q]) = aP es ++ [(.string q.1, .string q.2)] := by simp [aP]
theorem GX.appE {w0 W W' : World} {X : Nat} {xs : Array Value} {v1 v2 v3 : Value} {dz : List Int} {es : List (ByteArray × Int)} {ats : List (ByteArray × ByteArray)} (h : GX w0 W X xs v1 dz v2 es v3 ats) (o : Obj) (hg : (W.alloc o).grownBy W' v2.ownBlock) (v2' : Value) (es' : List (ByteArray × Int)) (ho : W'.ownsRow w0.heap.size 35 2 v2' es'.length (pv (eP es'))) : GX w0 W' X xs v1 dz v2' es' v3 ats := by
  have ha := h.keep ((Below.refl W.heap.size W).alloc (Nat.le_refl _) o)
  have k : KpT (W.alloc o) W' [27, 5, 77] := KpT.row hg ha.e (by decide)
  exact ⟨ha.below.grown hg ha.below.size (fun g hk => (row_at ha.e hk).1), ha.res.kp k (by decide), ha.x.kp k (by decide), ha.hX, ha.d.imp id (fun q => q.kp k (by decide)), ho, row_kp ha.t k (by decide)⟩
theorem GX.appA {w0 W W' : World} {X : Nat} {xs : Array Value} {v1 v2 v3 : Value} {dz : List Int} {es : List (ByteArray × Int)} {ats : List (ByteArray × ByteArray)} (h : GX w0 W X xs v1 dz v2 es v3 ats) (o : Obj) (hg : (W.alloc o).grownBy W' v3.ownBlock) (v3' : Value) (ats' : List (ByteArray × ByteArray)) (ho : W'.ownsRow w0.heap.size 77 2 v3' ats'.length (pv (aP ats'))) : GX w0 W' X xs v1 dz v2 es v3' ats' := by
  have ha := h.keep ((Below.refl W.heap.size W).alloc (Nat.le_refl _) o)
  have k : KpT (W.alloc o) W' [27, 5, 35] := KpT.row hg ha.t (by decide)
  exact ⟨ha.below.grown hg ha.below.size (fun g hk => (row_at ha.t hk).1), ha.res.kp k (by decide), ha.x.kp k (by decide), ha.hX, ha.d.imp id (fun q => q.kp k (by decide)), row_kp ha.e k (by decide), ho⟩
theorem RS.app {W W' : World} {R B n' s : Nat} {a : Option Addr} {n cap : Nat} {st : Option Nat} {v : Value} {e : TypeId} {xs : List Value} (h : RS W R a n cap st) (o : Obj) (hg : (W.alloc o).grownBy W' v.ownBlock) (hr : W.ownsRow B e s v n' xs) (he : e ∉ [92]) : RS W' R a n cap st :=
  (h.keep ((Below.refl W.heap.size W).alloc (Nat.le_refl _) o)).kp (KpT.row hg (World.ownsRow.alloc hr o) he) (by decide)
end Go.Proofs.Ytnllhpeddoaehaa
