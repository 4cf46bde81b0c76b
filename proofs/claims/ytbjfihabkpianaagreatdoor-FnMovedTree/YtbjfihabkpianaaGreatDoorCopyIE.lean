/-
  What the program's copyInode answers.
-/
import Derived.Test.YtbjfihabkpianaaGreatDoorJ04E
namespace Go.Proofs.YtbjfihabkpianaaGreatDoor
open Go.RowKit
/-- The append at a step of a region that draws. -/
theorem step_fresh (W : World) {ops : Array Oper} {o : Oper} {a : Act} {K : Act → World → Prop} {Q : Exit → Act → World → Prop} {E : Prop} (hgd : o.guard = none) (s x : Operand) (t : TypeId)
    (ho : o.op = .call { callee := .builtin .append, args := #[s, x], argTypes := #[t, t] }) (B : Nat) (g : Nat) (ad : Option Addr) (m c : Nat) (e : TypeId) (size : Nat) (news : List Value)
    (hs : a.eval s = .slice (some ⟨g, 0, none⟩) 0 0) (hx : a.eval x = .slice ad m c)
    (hr : ∀ ty, ∃ g' c' W', (Builtin.append_ #[t, t] ty #[.slice (some ⟨g, 0, none⟩) 0 0, .slice ad m c]).run Tryz.prog W = .ok (.slice (some ⟨g', 0, none⟩) m c') W' ∧ W'.ownsRow B e size (.slice (some ⟨g', 0, none⟩) m c') m news ∧ B ≤ g' ∧ g' < W'.heap.size ∧ Below W.heap.size W W')
    (h : ∀ g' c' W', W'.ownsRow B e size (.slice (some ⟨g', 0, none⟩) m c') m news → B ≤ g' → g' < W'.heap.size → Below W.heap.size W W' → K (a.put o.dst (.slice (some ⟨g', 0, none⟩) m c')) W') :
    if Region.wanted o (yielded ops a.tmps) = true then Oper.wp Tryz.prog o a W K Q else E := by
  have hw : Region.wanted o (yielded ops a.tmps) = true := by simp [Region.wanted, hgd]
  rw [if_pos hw]
  obtain ⟨g', c', W', h1, h2, h3, h4, h5⟩ := hr o.type
  unfold Oper.wp execOp
  simp only [ho, resolve, invoke, builtin, Sem.run_bind, Sem.run_pure, Result.andThen_ok, List.map_toArray, List.map_cons, List.map_nil, hs, hx, h1]
  exact h g' c' W' h2 h3 h4 h5
/-- What is known behind the first statement. -/
def CYR (w w' : World) (i1 i2 i3 : Int) (n1 : Nat) (dz : List Int) (xs : Array Value) (s : Value) (wx : World) : Prop :=
  ∃ X g1 d1, s = .pointer (some ⟨X, 0, none⟩) ∧ GX w' wx X #[.int .i64 i1, .int .i64 i2, .int .i64 i3, .slice (some ⟨g1, 0, none⟩) n1 d1, .slice none 0 0, .slice none 0 0] (.slice none 0 0) [] (.slice none 0 0) [] (.slice none 0 0) [] ∧ wx.ownsRow w'.heap.size 5 1 (.slice (some ⟨g1, 0, none⟩) n1 d1) n1 (dz.map (Value.int .u8)) ∧ Blk wx w.heap.size 68 xs
theorem cyr_new {w w' V : World} {i1 i2 i3 : Int} {n1 g1 d1 : Nat} {dz : List Int} {xs : Array Value} (hb : Below w'.heap.size w' V) (zR : Blk V w'.heap.size 68 #[.int .i64 0, .int .i64 0, .int .i64 0, .slice none 0 0, .slice none 0 0, .slice none 0 0]) (zX : Blk V w.heap.size 68 xs) (o : V.ownsRow w'.heap.size 5 1 (.slice (some ⟨g1, 0, none⟩) n1 d1) n1 (dz.map (Value.int .u8))) :
    CYR w w' i1 i2 i3 n1 dz xs (.pointer (some ⟨V.heap.size, 0, none⟩)) (V.alloc (.cells #[.int .i64 i1, .int .i64 i2, .int .i64 i3, .slice (some ⟨g1, 0, none⟩) n1 d1, .slice none 0 0, .slice none 0 0] 68)) :=
  ⟨V.heap.size, g1, d1, rfl, ⟨hb.alloc hb.size _, zR.alloc _, Blk.new V _ _, zR.lt, .inl rfl, ⟨rfl, .inl ⟨rfl, rfl⟩⟩, ⟨rfl, .inl ⟨rfl, rfl⟩⟩⟩, World.ownsRow.alloc o _, zX.alloc _⟩
theorem cyr_set {w w' V : World} {X : Nat} {i1 i2 i3 : Int} {n1 g1 d1 : Nat} {dz : List Int} {xs : Array Value} (hb : Below w'.heap.size w' V) (zR : Blk V w'.heap.size 68 #[.int .i64 0, .int .i64 0, .int .i64 0, .slice none 0 0, .slice none 0 0, .slice none 0 0]) (zX : Blk V w.heap.size 68 xs) (o : V.ownsRow w'.heap.size 5 1 (.slice (some ⟨g1, 0, none⟩) n1 d1) n1 (dz.map (Value.int .u8))) (zo : Blk V X 68 #[.int .i64 0, .int .i64 0, .int .i64 0, .slice none 0 0, .slice none 0 0, .slice none 0 0]) (hX : w'.heap.size < X) (hx : w.heap.size ≠ X) :
    CYR w w' i1 i2 i3 n1 dz xs (.pointer (some ⟨X, 0, none⟩)) ((((((V.setCell ⟨X, 0, none⟩ (.int .i64 i1)).setCell ⟨X, 1, none⟩ (.int .i64 i2)).setCell ⟨X, 2, none⟩ (.int .i64 i3)).setCell ⟨X, 3, none⟩ (.slice (some ⟨g1, 0, none⟩) n1 d1)).setCell ⟨X, 4, none⟩ (.slice none 0 0)).setCell ⟨X, 5, none⟩ (.slice none 0 0)) := by
  have g : V.grownBy ((((((V.setCell ⟨X, 0, none⟩ (.int .i64 i1)).setCell ⟨X, 1, none⟩ (.int .i64 i2)).setCell ⟨X, 2, none⟩ (.int .i64 i3)).setCell ⟨X, 3, none⟩ (.slice (some ⟨g1, 0, none⟩) n1 d1)).setCell ⟨X, 4, none⟩ (.slice none 0 0)).setCell ⟨X, 5, none⟩ (.slice none 0 0)) (some X) := gr_more (gr_more (gr_more (gr_more (gr_more (gr_setC V X 0 _) 1 _) 2 _) 3 _) 4 _) 5 _
  have k : KpT V ((((((V.setCell ⟨X, 0, none⟩ (.int .i64 i1)).setCell ⟨X, 1, none⟩ (.int .i64 i2)).setCell ⟨X, 2, none⟩ (.int .i64 i3)).setCell ⟨X, 3, none⟩ (.slice (some ⟨g1, 0, none⟩) n1 d1)).setCell ⟨X, 4, none⟩ (.slice none 0 0)).setCell ⟨X, 5, none⟩ (.slice none 0 0)) [5, 154, 106] := KpT6 zo _ _ _ _ _ _
  refine ⟨X, g1, d1, rfl, ⟨hb.grown g hb.size (fun m hm => by simp at hm; omega), zR.kept g (by omega), (((((zo.set 0 _).set 1 _).set 2 _).set 3 _).set 4 _).set 5 _, hX, .inl rfl, ⟨rfl, .inl ⟨rfl, rfl⟩⟩, ⟨rfl, .inl ⟨rfl, rfl⟩⟩⟩, row_kp o k (by decide), zX.kept g hx⟩
/-- What is known while the lists are copied. -/
structure CY (w w' W : World) (X n1 : Nat) (dz : List Int) (xs : Array Value) (V1 : Value) (os : Array Value) (v2 : Value) (es : List (ByteArray × Int)) (v3 : Value) (ats : List (ByteArray × ByteArray)) : Prop where
  gx : GX w' W X os (.slice none 0 0) [] v2 es v3 ats
  o : W.ownsRow w'.heap.size 5 1 V1 n1 (dz.map (Value.int .u8))
  zX : Blk W w.heap.size 68 xs
theorem CY.keep {w w' W W' : World} {X n1 : Nat} {dz : List Int} {xs : Array Value} {V1 : Value} {os : Array Value} {v2 : Value} {es : List (ByteArray × Int)} {v3 : Value} {ats : List (ByteArray × ByteArray)} (h : CY w w' W X n1 dz xs V1 os v2 es v3 ats) (hb : Below W.heap.size W W') : CY w w' W' X n1 dz xs V1 os v2 es v3 ats :=
  ⟨h.gx.keep hb, row_kp h.o (KpT.below hb [5]) (by decide), h.zX.keep hb⟩
theorem CY.setX {w w' W : World} {X n1 : Nat} {dz : List Int} {xs : Array Value} {V1 : Value} {os : Array Value} {v2 : Value} {es : List (ByteArray × Int)} {v3 : Value} {ats : List (ByteArray × ByteArray)} (h : CY w w' W X n1 dz xs V1 os v2 es v3 ats) (hw : w.heap.size ≤ w'.heap.size) (j : Nat) (v : Value) : CY w w' (W.setCell ⟨X, j, none⟩ v) X n1 dz xs V1 (os.setIfInBounds j v) v2 es v3 ats :=
  ⟨h.gx.setX j v, row_kp h.o (KpT.grown (ts := [5]) (gr_setC W X j v) h.gx.x (by decide)) (by decide), h.zX.other (by have := h.gx.hX; omega) j v⟩
theorem CY.appE {w w' W W' : World} {X n1 : Nat} {dz : List Int} {xs : Array Value} {V1 : Value} {os : Array Value} {v2 : Value} {es : List (ByteArray × Int)} {v3 : Value} {ats : List (ByteArray × ByteArray)} (h : CY w w' W X n1 dz xs V1 os v2 es v3 ats) (o : Obj) (hg : (W.alloc o).grownBy W' v2.ownBlock) (v2' : Value) (es' : List (ByteArray × Int)) (ho : W'.ownsRow w'.heap.size 154 2 v2' es'.length (pv (eP es'))) : CY w w' W' X n1 dz xs V1 os v2' es' v3 ats := by
  have k := KpT.row (ts := [5, 68]) hg (World.ownsRow.alloc h.gx.e o) (by decide)
  exact ⟨h.gx.appE o hg v2' es' ho, row_kp (World.ownsRow.alloc h.o o) k (by decide), (h.zX.alloc o).kp k (by decide)⟩
theorem CY.appA {w w' W W' : World} {X n1 : Nat} {dz : List Int} {xs : Array Value} {V1 : Value} {os : Array Value} {v2 : Value} {es : List (ByteArray × Int)} {v3 : Value} {ats : List (ByteArray × ByteArray)} (h : CY w w' W X n1 dz xs V1 os v2 es v3 ats) (o : Obj) (hg : (W.alloc o).grownBy W' v3.ownBlock) (v3' : Value) (ats' : List (ByteArray × ByteArray)) (ho : W'.ownsRow w'.heap.size 106 2 v3' ats'.length (pv (aP ats'))) : CY w w' W' X n1 dz xs V1 os v2 es v3' ats' := by
  have k := KpT.row (ts := [5, 68]) hg (World.ownsRow.alloc h.gx.t o) (by decide)
  exact ⟨h.gx.appA o hg v3' ats' ho, row_kp (World.ownsRow.alloc h.o o) k (by decide), (h.zX.alloc o).kp k (by decide)⟩
theorem blk_app {W W' : World} {E : Nat} {t : TypeId} {vs : Array Value} {v : Value} {o : Obj} (h : Blk W E t vs) (hg : (W.alloc o).grownBy W' v.ownBlock) (hv : ∀ m, v.ownBlock = some m → m < E) : Blk W' E t vs :=
  (hg.block E (by simp; have := h.lt; omega) (fun e => by have := hv E e.symm; omega)).trans (h.alloc o)
theorem row_shape {B : Nat} {W : World} {v : Value} {e : TypeId} {n : Nat} {ps : List VP} (h : W.ownsRow B e 2 v n (pv ps)) : ∃ a c, v = .slice a n c ∧ RdP W a ps := by
  have hl : ps.length = n := by have := h.1; rw [pv_length] at this; omega
  rcases h.2 with ⟨rfl, h0⟩ | ⟨g, c, cur, rfl, _, rest⟩
  · subst h0
    exact ⟨none, 0, rfl, .inl (List.length_eq_zero_iff.1 hl)⟩
  · have ho : OwnP e W g n c ps := ⟨h.1, .inr ⟨g, c, cur, rfl, Nat.zero_le _, rest⟩⟩
    exact ⟨some ⟨g, 0, none⟩, c, rfl, ho.rd⟩
theorem take_snoc {α : Type} (l : List α) (k : Nat) (h : k < l.length) : l.take (k + 1) = l.take k ++ [l[k]] := by
  rw [List.take_add_one, List.getElem?_eq_getElem h]; rfl
set_option maxRecDepth 100000 in
set_option maxHeartbeats 4000000 in
theorem copyInode_any (D : InoD) (a1 a2 a3 : Option Addr) (c1 c2 c3 : Nat) (w : World) (hsm : InoSmall D) (hr : InoRd w D a1 a2 a3) :
    Calls Tryz.prog 153 #[.agg #[.int .i64 D.ino, .int .i64 D.kind, .int .i64 D.links, .slice a1 D.data.length c1, .slice a2 D.ents.length c2, .slice a3 D.attrs.length c3]] w fun e w' => CopyPost w D e w' := by
  obtain ⟨n1, h1⟩ : ∃ n, D.data.length = n := ⟨_, rfl⟩
  obtain ⟨n2, h2⟩ : ∃ n, D.ents.length = n := ⟨_, rfl⟩
  obtain ⟨n3, h3⟩ : ∃ n, D.attrs.length = n := ⟨_, rfl⟩
  have hp : Hid (∀ (e : Ending) (w' : World) (b1 : Option Addr) (d1 : Nat) (b2 : Option Addr) (d2 : Nat) (b3 : Option Addr) (d3 : Nat), e = .returned (.agg #[.int .i64 D.ino, .int .i64 D.kind, .int .i64 D.links, .slice b1 n1 d1, .slice b2 n2 d2, .slice b3 n3 d3]) → InoG w' w.heap.size w'.heap.size D (.slice b1 n1 d1) (.slice b2 n2 d2) (.slice b3 n3 d3) → Below w.heap.size w w' → CopyPost w D e w') := by
    intro e w' b1 d1 b2 d2 b3 d3 he hg hb
    refine ⟨b1, d1, b2, d2, b3, d3, ?_, ?_, hb⟩
    · rw [h1, h2, h3]; exact he
    · rw [h1, h2, h3]; exact hg
  obtain ⟨r1, rb, r2, r3⟩ := hr
  obtain ⟨s1, s2, s3, s4, s5⟩ := hsm
  rw [h1] at s1
  rw [h2] at s2
  rw [h3] at s3
  have H1 : Hid (D.data.length = n1 ∧ D.ents.length = n2 ∧ D.attrs.length = n3) := ⟨h1, h2, h3⟩
  have H4 : Hid _ := s4
  have H5 : Hid _ := s5
  rw [h1, h2, h3]
  generalize CopyPost w D = P at hp ⊢
  obtain ⟨i1, hi1⟩ : ∃ n, D.ino = n := ⟨_, rfl⟩
  obtain ⟨i2, hi2⟩ : ∃ n, D.kind = n := ⟨_, rfl⟩
  obtain ⟨i3, hi3⟩ : ∃ n, D.links = n := ⟨_, rfl⟩
  rw [hi1, hi2, hi3] at hp ⊢
  clear h1 h2 h3 hi1 hi2 hi3 s4 s5
  obtain ⟨ie, hie, ze0, ze1, ze2⟩ := info_parts Tryz.infoEnt
  obtain ⟨ia, hia, za0, za1, za2⟩ := info_parts Tryz.infoAttr
  have B0 : Below w.heap.size w ((w.alloc (.cells #[.int .i64 i1, .int .i64 i2, .int .i64 i3, .slice a1 n1 c1, .slice a2 n2 c2, .slice a3 n3 c3] 68)).alloc (.cells #[.int .i64 0, .int .i64 0, .int .i64 0, .slice none 0 0, .slice none 0 0, .slice none 0 0] 68)) := ((Below.refl _ w).alloc (Nat.le_refl _) _).alloc (by simp) _
  have zX : Blk ((w.alloc (.cells #[.int .i64 i1, .int .i64 i2, .int .i64 i3, .slice a1 n1 c1, .slice a2 n2 c2, .slice a3 n3 c3] 68)).alloc (.cells #[.int .i64 0, .int .i64 0, .int .i64 0, .slice none 0 0, .slice none 0 0, .slice none 0 0] 68)) w.heap.size 68 #[.int .i64 i1, .int .i64 i2, .int .i64 i3, .slice a1 n1 c1, .slice a2 n2 c2, .slice a3 n3 c3] := (Blk.new w _ _).alloc _
  have zR := Blk.new (w.alloc (.cells #[.int .i64 i1, .int .i64 i2, .int .i64 i3, .slice a1 n1 c1, .slice a2 n2 c2, .slice a3 n3 c3] 68)) 68 #[.int .i64 0, .int .i64 0, .int .i64 0, .slice none 0 0, .slice none 0 0, .slice none 0 0]
  simp only [World.size_alloc] at zR
  go_enter Tryz.func153, Tryz.ntmps153
  go_upto_region 1 with fail
  obtain ⟨w', hw'⟩ : ∃ W, w.alloc (.cells #[.int .i64 i1, .int .i64 i2, .int .i64 i3, .slice a1 n1 c1, .slice a2 n2 c2, .slice a3 n3 c3] 68) = W := ⟨_, rfl⟩
  have hws : w'.heap.size = w.heap.size + 1 := by rw [← hw']; simp
  have bW : Below w.heap.size w w' := by rw [← hw']; exact (Below.refl _ w).alloc (Nat.le_refl _) _
  have B0' : Below w'.heap.size w' ((w.alloc (.cells #[.int .i64 i1, .int .i64 i2, .int .i64 i3, .slice a1 n1 c1, .slice a2 n2 c2, .slice a3 n3 c3] 68)).alloc (.cells #[.int .i64 0, .int .i64 0, .int .i64 0, .slice none 0 0, .slice none 0 0, .slice none 0 0] 68)) := by rw [hw']; exact (Below.refl _ w').alloc (Nat.le_refl _) _
  obtain ⟨W0, hW0⟩ : ∃ W, (w.alloc (.cells #[.int .i64 i1, .int .i64 i2, .int .i64 i3, .slice a1 n1 c1, .slice a2 n2 c2, .slice a3 n3 c3] 68)).alloc (.cells #[.int .i64 0, .int .i64 0, .int .i64 0, .slice none 0 0, .slice none 0 0, .slice none 0 0] 68) = W := ⟨_, rfl⟩
  rw [hW0] at B0 zX zR B0' ⊢
  clear hW0 hw'
  obtain ⟨x0, x1, x2, x3, x4, x5⟩ := zX.six
  have hB0s := B0.size
  have hf1 := fun ty => fresh_bytes ((W0.alloc (.cells #[] 5)).drew) w'.heap.size W0.heap.size a1 n1 c1 D.data H1.out.1 (by omega) B0'.size (show ((W0.alloc (.cells #[] 5)).drew).ownsRow w'.heap.size 5 1 _ 0 [] from empty_row W0 w'.heap.size 5 1 B0'.size) (r1.keep (B0.alloc hB0s _).drew) ty
  have hf2 := fun ty => fresh_bytes (((W0.alloc (.cells #[] 5)).alloc (.cells #[.int .i64 0, .int .i64 0, .int .i64 0, .slice none 0 0, .slice none 0 0, .slice none 0 0] 68)).drew) w'.heap.size W0.heap.size a1 n1 c1 D.data H1.out.1 (by omega) B0'.size (show (((W0.alloc (.cells #[] 5)).alloc (.cells #[.int .i64 0, .int .i64 0, .int .i64 0, .slice none 0 0, .slice none 0 0, .slice none 0 0] 68)).drew).ownsRow w'.heap.size 5 1 _ 0 [] from World.ownsRow.alloc (empty_row W0 w'.heap.size 5 1 B0'.size) _) (r1.keep ((B0.alloc hB0s _).alloc (by simp; omega) _).drew) ty
  have hf3 := fun ty => fresh_bytes (((W0.alloc (.cells #[.int .i64 0, .int .i64 0, .int .i64 0, .slice none 0 0, .slice none 0 0, .slice none 0 0] 68)).alloc (.cells #[] 5)).drew) w'.heap.size (W0.heap.size + 1) a1 n1 c1 D.data H1.out.1 (by omega) (by have := B0'.size; omega) (show (((W0.alloc (.cells #[.int .i64 0, .int .i64 0, .int .i64 0, .slice none 0 0, .slice none 0 0, .slice none 0 0] 68)).alloc (.cells #[] 5)).drew).ownsRow w'.heap.size 5 1 _ 0 [] from (by have := empty_row (W0.alloc (.cells #[.int .i64 0, .int .i64 0, .int .i64 0, .slice none 0 0, .slice none 0 0, .slice none 0 0] 68)) w'.heap.size 5 1 (by simp; have := B0'.size; omega); simp only [World.size_alloc] at this; exact this)) (r1.keep ((B0.alloc hB0s _).alloc (by simp; omega) _).drew) ty
  have bA : Below W0.heap.size W0 ((W0.alloc (.cells #[] 5)).drew) := ((Below.refl _ W0).alloc (Nat.le_refl _) _).drew
  have bB : Below W0.heap.size W0 (((W0.alloc (.cells #[] 5)).alloc (.cells #[.int .i64 0, .int .i64 0, .int .i64 0, .slice none 0 0, .slice none 0 0, .slice none 0 0] 68)).drew) := (((Below.refl _ W0).alloc (Nat.le_refl _) _).alloc (by simp) _).drew
  have bC : Below W0.heap.size W0 (((W0.alloc (.cells #[.int .i64 0, .int .i64 0, .int .i64 0, .slice none 0 0, .slice none 0 0, .slice none 0 0] 68)).alloc (.cells #[] 5)).drew) := (((Below.refl _ W0).alloc (Nat.le_refl _) _).alloc (by simp) _).drew
  have zB : Blk (((W0.alloc (.cells #[] 5)).alloc (.cells #[.int .i64 0, .int .i64 0, .int .i64 0, .slice none 0 0, .slice none 0 0, .slice none 0 0] 68)).drew) (W0.heap.size + 1) 68 #[.int .i64 0, .int .i64 0, .int .i64 0, .slice none 0 0, .slice none 0 0, .slice none 0 0] := by
    have := Blk.new (W0.alloc (.cells #[] 5)) 68 #[.int .i64 0, .int .i64 0, .int .i64 0, .slice none 0 0, .slice none 0 0, .slice none 0 0]
    simp only [World.size_alloc] at this
    exact this
  have zC : Blk (((W0.alloc (.cells #[.int .i64 0, .int .i64 0, .int .i64 0, .slice none 0 0, .slice none 0 0, .slice none 0 0] 68)).alloc (.cells #[] 5)).drew) W0.heap.size 68 #[.int .i64 0, .int .i64 0, .int .i64 0, .slice none 0 0, .slice none 0 0, .slice none 0 0] := (Blk.new W0 68 #[.int .i64 0, .int .i64 0, .int .i64 0, .slice none 0 0, .slice none 0 0, .slice none 0 0]).alloc (.cells #[] 5)
  have HZ : Hid _ := And.intro zB zC
  clear zB zC
  have hzl := zX.lt
  have hn1 : w.heap.size ≠ W0.heap.size := by omega
  have hn2 : w.heap.size ≠ W0.heap.size + 1 := by omega
  have hn3 : W0.heap.size ≠ w.heap.size := by omega
  have hn4 : W0.heap.size + 1 ≠ w.heap.size := by omega
  have zR' : Blk W0 w'.heap.size 68 #[.int .i64 0, .int .i64 0, .int .i64 0, .slice none 0 0, .slice none 0 0, .slice none 0 0] := by rw [hws]; exact zR
  have hzR := zR'.lt
  have HZR : Hid _ := zR'
  have HWS : Hid _ := hws
  clear zR' hws zR
  go_cut [3] (fun s wx => CYR w w' i1 i2 i3 n1 D.data #[.int .i64 i1, .int .i64 i2, .int .i64 i3, .slice a1 n1 c1, .slice a2 n2 c2, .slice a3 n3 c3] s wx)
  case first =>
    go_region_held3 (fun W : World => W.cell? ⟨w.heap.size, 0, none⟩ = some (.int .i64 i1) ∧ W.cell? ⟨w.heap.size, 1, none⟩ = some (.int .i64 i2) ∧ W.cell? ⟨w.heap.size, 2, none⟩ = some (.int .i64 i3) ∧ W.cell? ⟨w.heap.size, 3, none⟩ = some (.slice a1 n1 c1)) (go_keep) (first
      | (refine step_fresh ((W0.alloc (.cells #[] 5)).drew) rfl (.tmp 14) (.tmp 16) 42 rfl w'.heap.size W0.heap.size a1 n1 c1 5 1 (D.data.map (Value.int .u8)) rfl rfl hf1 ?_; intro g1 d1 V1 o1 hB1 hl1 b1; have bV := bA.trans (b1.mono bA.size); obtain ⟨e0, e1, e2, e3, e4, e5⟩ := (zX.keep bV).six)
      | (refine step_fresh (((W0.alloc (.cells #[] 5)).alloc (.cells #[.int .i64 0, .int .i64 0, .int .i64 0, .slice none 0 0, .slice none 0 0, .slice none 0 0] 68)).drew) rfl (.tmp 14) (.tmp 16) 42 rfl w'.heap.size W0.heap.size a1 n1 c1 5 1 (D.data.map (Value.int .u8)) rfl rfl hf2 ?_; intro g1 d1 V1 o1 hB1 hl1 b1; have bV := bB.trans (b1.mono bB.size); obtain ⟨e0, e1, e2, e3, e4, e5⟩ := (zX.keep bV).six; have zo := Blk.keep HZ.out.1 b1; have k0 := zo.frozen 0; have k1 := zo.frozen 1; have k2 := zo.frozen 2; have k3 := zo.frozen 3; have k4 := zo.frozen 4; have k5 := zo.frozen 5; obtain ⟨j0, j1, j2, j3, j4, j5⟩ := zo.six)
      | (refine step_fresh (((W0.alloc (.cells #[.int .i64 0, .int .i64 0, .int .i64 0, .slice none 0 0, .slice none 0 0, .slice none 0 0] 68)).alloc (.cells #[] 5)).drew) rfl (.tmp 14) (.tmp 16) 42 rfl w'.heap.size (W0.heap.size + 1) a1 n1 c1 5 1 (D.data.map (Value.int .u8)) rfl rfl hf3 ?_; intro g1 d1 V1 o1 hB1 hl1 b1; have bV := bC.trans (b1.mono bC.size); obtain ⟨e0, e1, e2, e3, e4, e5⟩ := (zX.keep bV).six; have zo := Blk.keep HZ.out.2 b1; have k0 := zo.frozen 0; have k1 := zo.frozen 1; have k2 := zo.frozen 2; have k3 := zo.frozen 3; have k4 := zo.frozen 4; have k5 := zo.frozen 5; obtain ⟨j0, j1, j2, j3, j4, j5⟩ := zo.six))
    all_goals (go_wp2_with fail; go_meet; first | (have zo' := zo; exact cyr_set (B0'.trans (bV.mono B0'.size)) (Blk.keep HZR.out bV) (zX.keep bV) o1 zo' (by omega) (by omega)) | exact cyr_new (B0'.trans (bV.mono B0'.size)) (Blk.keep HZR.out bV) (zX.keep bV) o1)
  case rest =>
  obtain ⟨X, g1, d1, rfl, gx1, o1, zX1⟩ := hcut
  obtain ⟨W1, hwc⟩ : ∃ W, W = wc := ⟨_, rfl⟩
  subst hwc
  have hws := HWS.out
  clear HZR HWS hf1 hf2 hf3 bA bB bC HZ x0 x1 x2 x3 x4 x5 zX hn1 hn2 hn3 hn4 hzl hzR B0 B0' hB0s
  have HS : Hid (w'.heap.size = w.heap.size + 1) := hws
  have hwz : w.heap.size ≤ w'.heap.size := by omega
  clear hws
  have cy1 : CY w w' W1 X n1 D.data #[.int .i64 i1, .int .i64 i2, .int .i64 i3, .slice a1 n1 c1, .slice a2 n2 c2, .slice a3 n3 c3] (.slice (some ⟨g1, 0, none⟩) n1 d1) #[.int .i64 i1, .int .i64 i2, .int .i64 i3, .slice (some ⟨g1, 0, none⟩) n1 d1, .slice none 0 0, .slice none 0 0] (.slice none 0 0) [] (.slice none 0 0) [] := ⟨gx1, o1, zX1⟩
  obtain ⟨x0, x1, x2, x3, x4, x5⟩ := zX1.six
  clear gx1 o1 zX1
  go_wp2_with fail
  clear x0 x1 x2 x3 x4 x5
  go_loopw [22] (fun i wr => ∃ (k : Nat) (v2 : Value), k ≤ n2 ∧ i = .int .i64 k ∧ CY w w' wr X n1 D.data #[.int .i64 i1, .int .i64 i2, .int .i64 i3, .slice a1 n1 c1, .slice a2 n2 c2, .slice a3 n3 c3] (.slice (some ⟨g1, 0, none⟩) n1 d1) #[.int .i64 i1, .int .i64 i2, .int .i64 i3, .slice (some ⟨g1, 0, none⟩) n1 d1, v2, .slice none 0 0] v2 (D.ents.take k) (.slice none 0 0) []) (fun i _ => n2 - (intOf i).toNat)
  case atStart => exact ⟨0, .slice none 0 0, by omega, rfl, cy1⟩
  case round =>
    obtain ⟨k, v2, hkm, rfl, cyk⟩ := hrel
    by_cases hgo : k < n2
    · have hk1 : (k : Int) < (n2 : Int) := by omega
      have hkl : k < D.ents.length := by rw [H1.out.2.1]; exact hgo
      have hlk : (D.ents.take k).length = k := by rw [List.length_take]; omega
      have hes : Hid (D.ents.take (k + 1) = D.ents.take k ++ [(D.ents[k].1, D.ents[k].2)]) := take_snoc D.ents k hkl
      have hne : eP D.ents ≠ [] := by intro h; have := congrArg List.length h; rw [eP_length] at this; simp only [List.length_nil] at this; omega
      obtain ⟨b, off, rfl, hlt, hc⟩ := (r2.keep (bW.trans (cyk.gx.below.mono hwz))).lt hne
      have hx := hc k (by rw [eP_length]; exact hkl)
      rw [eP_at D.ents k hkl] at hx
      have hzs : D.ents[k].1.size ≤ 1048576 := (H4.out _ (List.getElem_mem hkl))
      obtain ⟨z, hz⟩ : ∃ z, D.ents[k].1 = z := ⟨_, rfl⟩
      obtain ⟨u, hu⟩ : ∃ u, D.ents[k].2 = u := ⟨_, rfl⟩
      rw [hz, hu] at hx hes
      rw [hz] at hzs
      obtain ⟨x1, x2⟩ := hx
      dsimp only at x1 x2
      obtain ⟨es, hes'⟩ : ∃ l, D.ents.take k = l := ⟨_, rfl⟩
      rw [hes'] at cyk hes hlk
      clear hes' hz hu hkl hne hc
      go_upto_region 5 with fail
      have bE : Below wr.heap.size wr (wr.alloc (.cells #[.string z, .int .i64 u] 154)) := (Below.refl _ wr).alloc (Nat.le_refl _) _
      have cy8 := cyk.keep bE
      have zE := Blk.new wr 154 #[.string z, .int .i64 u]
      have hvE : ∀ m, v2.ownBlock = some m → m < wr.heap.size := fun m hm => (World.ownsRow.lt cyk.gx.e m hm).2
      have hEX : wr.heap.size ≠ X := fun e => by have := cyk.gx.x.lt; omega
      obtain ⟨E, hE⟩ : ∃ E, wr.heap.size = E := ⟨_, rfl⟩
      obtain ⟨W8, hW8⟩ : ∃ W, wr.alloc (.cells #[.string z, .int .i64 u] 154) = W := ⟨_, rfl⟩
      rw [hW8] at cy8 zE ⊢
      rw [hE] at zE hvE hEX ⊢
      have hEX' : X ≠ E := fun e => hEX e.symm
      have HVE : Hid _ := hvE
      clear hvE hW8 hE bE cyk x1 x2 hlt
      have hcl := strClone z W8.drew (by omega)
      have x4 := cy8.gx.x.cell 4
      simp at x4
      have p0 := zE.cell 0
      have p1 := zE.cell 1
      simp at p0 p1
      go_region_law (first
        | (go_simp; go_at_call 140; (with_reducible refine hcl.mono ?_); rintro e w10 ⟨rfl, b10⟩; have b11 : Below W8.heap.size W8 w10 := (Below.refl W8.heap.size W8).drew.trans b10; have cy10 := cy8.keep b11; have q0 := (zE.keep b11).cell 0; have q1 := (zE.keep b11).cell 1; have x4' := cy10.gx.x.cell 4; have x4'' := (cy10.gx.x.alloc (.cells #[.string z, .int .i64 u] 154)).cell 4; simp at x4' x4'' q0 q1; have hrow := World.ownsRow.alloc cy10.gx.e (.cells #[.string z, .int .i64 u] 154); rw [hlk] at hrow; have hbw : w'.heap.size ≤ (w10.alloc (.cells #[.string z, .int .i64 u] 154)).heap.size := (by simp; have := cy10.gx.below.size; omega); dsimp only)
        | (refine step_append_lies (w10.alloc (.cells #[.string z, .int .i64 u] 154)) rfl (.tmp 27) (.tmp 34) 65 rfl w'.heap.size 154 ie _ 2 24 Tryz.underlying65 hie ze0 ze1 ze2 rfl (by omega) v2 k (pv (eP es)) rfl hrow ⟨w10.heap.size, 0, none⟩ 1 1 [.string z, .int .i64 u] rfl rfl (pair_news w10 (.string z, .int .i64 u) _) (by intro u hu; simp at hu; rcases hu with rfl | rfl <;> rfl) (by omega) (by unfold maxLen; omega) (by omega) hbw (w10.heap.size + 1) (by simp) ?_; intro g2 cc2 w12 ho12 hg12 hat12 hlt12; have cy12 := cy10.appE (.cells #[.string z, .int .i64 u] 154) hg12 (.slice (some ⟨g2, 0, none⟩) (k + 1) cc2) (es ++ [(z, u)]) (by rw [show (es ++ [(z, u)]).length = k + 1 by simp [hlk], eP_snoc, pv_snoc]; exact ho12); have zE12 := blk_app (zE.keep b11) hg12 HVE.out; have r0 := zE12.cell 0; have r1 := zE12.cell 1; have c4 := cy12.gx.x.cell 4; have f4 := cy12.gx.x.frozen 4; simp at c4 r0 r1))
      all_goals (have cy13 : CY w w' (w12.setCell ⟨X, 4, none⟩ (.slice (some ⟨g2, 0, none⟩) (k + 1) cc2)) X n1 D.data #[.int .i64 i1, .int .i64 i2, .int .i64 i3, .slice a1 n1 c1, .slice (some ⟨b, off, none⟩) n2 c2, .slice a3 n3 c3] (.slice (some ⟨g1, 0, none⟩) n1 d1) #[.int .i64 i1, .int .i64 i2, .int .i64 i3, .slice (some ⟨g1, 0, none⟩) n1 d1, .slice (some ⟨g2, 0, none⟩) (k + 1) cc2, .slice none 0 0] (.slice (some ⟨g2, 0, none⟩) (k + 1) cc2) (es ++ [(z, u)]) (.slice none 0 0) [] := cy12.setX hwz 4 _; clear cy12 cy10 hrow hbw)
      all_goals go_wp2
      all_goals go_roundw
      all_goals first
        | (case rel => (repeat apply Exists.intro); exact ⟨⟨k + 1, .slice (some ⟨g2, 0, none⟩) (k + 1) cc2, by omega, by go_num, by rw [hes.out]; exact cy13⟩, rfl⟩)
        | (case rel => exact ⟨k + 1, .slice (some ⟨g2, 0, none⟩) (k + 1) cc2, by omega, by go_num, by rw [hes.out]; exact cy13⟩)
        | (case measure => simp [intOf]; omega)
    · have hi1' : ¬ (k : Int) < (n2 : Int) := by omega
      have hke : D.ents.take k = D.ents := List.take_of_length_le (by rw [H1.out.2.1]; omega)
      rw [hke] at cyk
      clear hke cy1
      obtain ⟨w14, hw14⟩ : ∃ W, W = wr := ⟨_, rfl⟩
      subst hw14
      obtain ⟨x0, x1, x2, x3, x4, x5⟩ := cyk.zX.six
      go_upto_region 8 with fail
      clear x0 x1 x2 x3 x4 x5
      go_loopw [41] (fun i wr => ∃ (j : Nat) (v3 : Value), j ≤ n3 ∧ i = .int .i64 j ∧ CY w w' wr X n1 D.data #[.int .i64 i1, .int .i64 i2, .int .i64 i3, .slice a1 n1 c1, .slice a2 n2 c2, .slice a3 n3 c3] (.slice (some ⟨g1, 0, none⟩) n1 d1) #[.int .i64 i1, .int .i64 i2, .int .i64 i3, .slice (some ⟨g1, 0, none⟩) n1 d1, v2, v3] v2 D.ents v3 (D.attrs.take j)) (fun i _ => n3 - (intOf i).toNat)
      case atStart => exact ⟨0, .slice none 0 0, by omega, rfl, cyk⟩
      case round =>
        obtain ⟨j, v3, hjm, rfl, cyj⟩ := hrel
        by_cases hgo2 : j < n3
        · have hk2 : (j : Int) < (n3 : Int) := by omega
          have hkl : j < D.attrs.length := by rw [H1.out.2.2]; exact hgo2
          have hlk : (D.attrs.take j).length = j := by rw [List.length_take]; omega
          have hes : Hid (D.attrs.take (j + 1) = D.attrs.take j ++ [(D.attrs[j].1, D.attrs[j].2)]) := take_snoc D.attrs j hkl
          have hne : aP D.attrs ≠ [] := by intro h; have := congrArg List.length h; rw [aP_length] at this; simp only [List.length_nil] at this; omega
          obtain ⟨b, off, rfl, hlt, hc⟩ := (r3.keep (bW.trans (cyj.gx.below.mono hwz))).lt hne
          have hx := hc j (by rw [aP_length]; exact hkl)
          rw [aP_at D.attrs j hkl] at hx
          have hzs : D.attrs[j].1.size ≤ 1048576 ∧ D.attrs[j].2.size ≤ 1048576 := (H5.out _ (List.getElem_mem hkl))
          obtain ⟨z, hz⟩ : ∃ z, D.attrs[j].1 = z := ⟨_, rfl⟩
          obtain ⟨u, hu⟩ : ∃ u, D.attrs[j].2 = u := ⟨_, rfl⟩
          rw [hz, hu] at hx hes hzs
          obtain ⟨hzs1, hzs2⟩ := hzs
          obtain ⟨x1, x2⟩ := hx
          dsimp only at x1 x2
          obtain ⟨ats, hes'⟩ : ∃ l, D.attrs.take j = l := ⟨_, rfl⟩
          rw [hes'] at cyj hes hlk
          clear hes' hz hu hkl hne hc cyk
          go_upto_region 10 with fail
          obtain ⟨wq, hwq⟩ : ∃ W, wr = W := ⟨_, rfl⟩
          have bE : Below wr.heap.size wr (wr.alloc (.cells #[.string z, .string u] 106)) := (Below.refl _ wr).alloc (Nat.le_refl _) _
          have cy8 := cyj.keep bE
          have zE := Blk.new wr 106 #[.string z, .string u]
          have hEX : wr.heap.size ≠ X := fun e => by have := cyj.gx.x.lt; omega
          obtain ⟨E, hE⟩ : ∃ E, wr.heap.size = E := ⟨_, rfl⟩
          obtain ⟨W8, hW8⟩ : ∃ W, wr.alloc (.cells #[.string z, .string u] 106) = W := ⟨_, rfl⟩
          rw [hW8] at cy8 zE ⊢
          rw [hE] at zE hEX ⊢
          have hEX' : X ≠ E := fun e => hEX e.symm
          clear hW8 hE bE cyj x1 x2 hlt
          have hcl := strClone z W8.drew (by omega)
          have hcl2 := fun W => strClone u W (by omega)
          have x4 := cy8.gx.x.cell 5
          simp at x4
          have p0 := zE.cell 0
          have p1 := zE.cell 1
          simp at p0 p1
          go_region_law (first
            | (go_simp; go_at_call 140; (with_reducible refine hcl.mono ?_); rintro e w9 ⟨rfl, b9⟩; have b9' : Below W8.heap.size W8 w9 := (Below.refl W8.heap.size W8).drew.trans b9; have cy9 := cy8.keep b9'; have q0 := (zE.keep b9').cell 0; have q1 := (zE.keep b9').cell 1; have y4 := cy9.gx.x.cell 5; simp at y4 q0 q1; dsimp only)
            | (go_simp; go_at_call 140; (with_reducible refine (hcl2 w9).mono ?_); rintro e w10 ⟨rfl, b10⟩; have cy10 := cy9.keep b10; have x4' := cy10.gx.x.cell 5; have x4'' := (cy10.gx.x.alloc (.cells #[.string z, .string u] 106)).cell 5; simp at x4' x4''; have hrow := World.ownsRow.alloc cy10.gx.t (.cells #[.string z, .string u] 106); rw [hlk] at hrow; have hbw : w'.heap.size ≤ (w10.alloc (.cells #[.string z, .string u] 106)).heap.size := (by simp; have := cy10.gx.below.size; omega); dsimp only)
            | (refine step_append_lies (w10.alloc (.cells #[.string z, .string u] 106)) rfl (.tmp 46) (.tmp 54) 66 rfl w'.heap.size 106 ia _ 2 32 Tryz.underlying66 hia za0 za1 za2 rfl (by omega) v3 j (pv (aP ats)) rfl hrow ⟨w10.heap.size, 0, none⟩ 1 1 [.string z, .string u] rfl rfl (pair_news w10 (.string z, .string u) _) (by intro u hu; simp at hu; rcases hu with rfl | rfl <;> rfl) (by omega) (by unfold maxLen; omega) (by omega) hbw (w10.heap.size + 1) (by simp) ?_; intro g2 cc2 w12 ho12 hg12 hat12 hlt12; have cy12 := cy10.appA (.cells #[.string z, .string u] 106) hg12 (.slice (some ⟨g2, 0, none⟩) (j + 1) cc2) (ats ++ [(z, u)]) (by rw [show (ats ++ [(z, u)]).length = j + 1 by simp [hlk], aP_snoc, pv_snoc]; exact ho12); have c4 := cy12.gx.x.cell 5; have f4 := cy12.gx.x.frozen 5; simp at c4))
          all_goals (have cy13 : CY w w' (w12.setCell ⟨X, 5, none⟩ (.slice (some ⟨g2, 0, none⟩) (j + 1) cc2)) X n1 D.data #[.int .i64 i1, .int .i64 i2, .int .i64 i3, .slice a1 n1 c1, .slice a2 n2 c2, .slice (some ⟨b, off, none⟩) n3 c3] (.slice (some ⟨g1, 0, none⟩) n1 d1) #[.int .i64 i1, .int .i64 i2, .int .i64 i3, .slice (some ⟨g1, 0, none⟩) n1 d1, v2, .slice (some ⟨g2, 0, none⟩) (j + 1) cc2] v2 D.ents (.slice (some ⟨g2, 0, none⟩) (j + 1) cc2) (ats ++ [(z, u)]) := cy12.setX hwz 5 _; clear cy12 cy10 cy9 hrow hbw)
          all_goals go_wp2
          all_goals go_roundw
          all_goals first
            | (case rel => (repeat apply Exists.intro); exact ⟨⟨j + 1, .slice (some ⟨g2, 0, none⟩) (j + 1) cc2, by omega, by go_num, by rw [hes.out]; exact cy13⟩, rfl⟩)
            | (case rel => exact ⟨j + 1, .slice (some ⟨g2, 0, none⟩) (j + 1) cc2, by omega, by go_num, by rw [hes.out]; exact cy13⟩)
            | (case measure => simp [intOf]; omega)
        · have hi2' : ¬ (j : Int) < (n3 : Int) := by omega
          have hke : D.attrs.take j = D.attrs := List.take_of_length_le (by rw [H1.out.2.2]; omega)
          rw [hke] at cyj
          clear hke cyk
          obtain ⟨W3, hW3⟩ : ∃ W, W = wr := ⟨_, rfl⟩
          subst hW3
          obtain ⟨x0, x1, x2, x3, x4, x5⟩ := cyj.gx.x.six
          obtain ⟨va2, vc2, rfl, _⟩ := row_shape cyj.gx.e
          obtain ⟨va3, vc3, rfl, _⟩ := row_shape cyj.gx.t
          have hres := cyj.gx.res
          rw [HS.out] at hres
          obtain ⟨t0, t1, t2, t3, t4, t5⟩ := hres.six
          have fz0 := hres.frozen 0
          have fz1 := hres.frozen 1
          have fz2 := hres.frozen 2
          have fz3 := hres.frozen 3
          have fz4 := hres.frozen 4
          have fz5 := hres.frozen 5
          have HG : Hid _ := cyj
          have HR : Hid _ := hres
          rw [H1.out.2.1] at x4
          rw [H1.out.2.2] at x5
          clear cyj hres hie ze0 ze1 ze2 hia za0 za1 za2 r1 r2 r3
          go_wp2
          have zf := ((((((show Blk W3 (w.heap.size + 1) 68 _ from HR.out).set 0 (.int .i64 i1)).set 1 (.int .i64 i2)).set 2 (.int .i64 i3)).set 3 (.slice (some ⟨g1, 0, none⟩) n1 d1)).set 4 (.slice va2 n2 vc2)).set 5 (.slice va3 n3 vc3)
          have dd0 := zf.cell 0
          have dd1 := zf.cell 1
          have dd2 := zf.cell 2
          have dd3 := zf.cell 3
          have dd4 := zf.cell 4
          have dd5 := zf.cell 5
          simp at dd0 dd1 dd2 dd3 dd4 dd5
          refine bodyPost_ret (v := .agg #[.int .i64 i1, .int .i64 i2, .int .i64 i3, .slice (some ⟨g1, 0, none⟩) n1 d1, .slice va2 n2 vc2, .slice va3 n3 vc3]) (by simp [results, Tryz.f153, go_sem, dd0, dd1, dd2, dd3, dd4, dd5]) rfl ?_
          have kF := KpT6 HR.out (.int .i64 i1) (.int .i64 i2) (.int .i64 i3) (.slice (some ⟨g1, 0, none⟩) n1 d1) (.slice va2 n2 vc2) (.slice va3 n3 vc3)
          have u1 := row_kp HG.out.o kF (by decide)
          have u2 := row_kp HG.out.gx.e kF (by decide)
          have u3 := row_kp HG.out.gx.t kF (by decide)
          have l1 := fun m hm => (World.ownsRow.lt u1 m hm)
          have l2 := fun m hm => (World.ownsRow.lt u2 m hm)
          have l3 := fun m hm => (World.ownsRow.lt u3 m hm)
          rw [H1.out.2.1] at u2 l2
          rw [H1.out.2.2] at u3 l3
          refine hp.out _ _ _ _ _ _ _ _ rfl ⟨by rw [H1.out.1]; exact row_zero' u1, rb, by rw [H1.out.2.1]; exact row_zero' u2, by rw [H1.out.2.2]; exact row_zero' u3, ?_⟩ ?_
          · intro m hm
            rcases hm with hm | hm | hm
            · have := l1 m hm; exact ⟨by omega, this.2⟩
            · have := l2 m hm; exact ⟨by omega, this.2⟩
            · have := l3 m hm; exact ⟨by omega, this.2⟩
          · exact (((((((bW.trans (HG.out.gx.below.mono hwz)).setCell (p := ⟨w.heap.size + 1, 0, none⟩) (by simp only; omega) _).setCell (p := ⟨w.heap.size + 1, 1, none⟩) (by simp only; omega) _).setCell (p := ⟨w.heap.size + 1, 2, none⟩) (by simp only; omega) _).setCell (p := ⟨w.heap.size + 1, 3, none⟩) (by simp only; omega) _).setCell (p := ⟨w.heap.size + 1, 4, none⟩) (by simp only; omega) _).setCell (p := ⟨w.heap.size + 1, 5, none⟩) (by simp only; omega) _)
end Go.Proofs.YtbjfihabkpianaaGreatDoor

