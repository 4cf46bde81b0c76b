/-
  What the program's SetInode answers.
-/
import Derived.Test.YtbjfihabkpianaaGreatDoorSetSE
import Derived.Test.YtbjfihabkpianaaGreatDoorJ28E
namespace Go.Proofs.YtbjfihabkpianaaGreatDoor
open Go.RowKit Go.Maps
theorem below_al {w X : World} (h : Below w.heap.size w X) (o : Obj) : Below w.heap.size w (X.alloc o) := h.alloc h.size o
/-- What is known behind the copies: both arguments' boxes, the answer's, the table's copy in X, the inode's in Y. -/
structure SI (w W : World) (X Y : Nat) (nx : Int) (tv : Value) (xs : Array Value) (g n : Nat) (ds : List InoR) (js : List InoJ) (r' : InoR) (BT TT lo hi : Nat) : Prop where
  below : Below w.heap.size w W
  tb : Blk W w.heap.size 47 #[tv, .int .i64 nx]
  xb : Blk W (w.heap.size + 1) 68 xs
  res : Blk W (w.heap.size + 2) 47 #[.slice none 0 0, .int .i64 0]
  out : Blk W X 47 #[.slice (some ⟨g, 0, none⟩) n n, .int .i64 nx]
  own : Blk W Y 68 #[.int .i64 r'.D.ino, .int .i64 r'.D.kind, .int .i64 r'.D.links, .slice r'.a1 r'.D.data.length r'.c1, .slice r'.a2 r'.D.ents.length r'.c2, .slice r'.a3 r'.D.attrs.length r'.c3]
  q : DQA BT W (.slice (some ⟨g, 0, none⟩) n n) ds js
  apT : ApV TT (.slice (some ⟨g, 0, none⟩) n n) js
  G : (⟨r', lo, hi⟩ : InoJ).G W
  ord : w.heap.size + 3 ≤ BT ∧ BT ≤ TT ∧ TT ≤ lo ∧ lo ≤ hi ∧ hi ≤ W.heap.size
  hX : w.heap.size + 3 ≤ X ∧ (X < BT ∨ TT ≤ X) ∧ (X < lo ∨ hi ≤ X)
  hY : w.heap.size + 3 ≤ Y ∧ (Y < BT ∨ TT ≤ Y) ∧ (Y < lo ∨ hi ≤ Y)
  ne : X ≠ Y
theorem SI.keep {w W W' : World} {X Y : Nat} {nx : Int} {tv : Value} {xs : Array Value} {g n : Nat} {ds : List InoR} {js : List InoJ} {r' : InoR} {BT TT lo hi : Nat} (h : SI w W X Y nx tv xs g n ds js r' BT TT lo hi) (hb : Below W.heap.size W W') : SI w W' X Y nx tv xs g n ds js r' BT TT lo hi :=
  ⟨h.below.trans (hb.mono h.below.size), h.tb.keep hb, h.xb.keep hb, h.res.keep hb, h.out.keep hb, h.own.keep hb, h.q.keep hb, h.apT, InoG.keep h.G h.ord.2.2.2.2 hb, ⟨h.ord.1, h.ord.2.1, h.ord.2.2.1, h.ord.2.2.2.1, Nat.le_trans h.ord.2.2.2.2 hb.size⟩, h.hX, h.hY, h.ne⟩
/-- The same without the two boxes. -/
structure SB (w W : World) (nx : Int) (tv : Value) (xs : Array Value) (g n : Nat) (ds : List InoR) (js : List InoJ) (r' : InoR) (BT TT lo hi : Nat) : Prop where
  below : Below w.heap.size w W
  tb : Blk W w.heap.size 47 #[tv, .int .i64 nx]
  xb : Blk W (w.heap.size + 1) 68 xs
  res : Blk W (w.heap.size + 2) 47 #[.slice none 0 0, .int .i64 0]
  q : DQA BT W (.slice (some ⟨g, 0, none⟩) n n) ds js
  apT : ApV TT (.slice (some ⟨g, 0, none⟩) n n) js
  G : (⟨r', lo, hi⟩ : InoJ).G W
  ord : w.heap.size + 3 ≤ BT ∧ BT ≤ TT ∧ TT ≤ lo ∧ lo ≤ hi ∧ hi ≤ W.heap.size
theorem SB.keep {w W W' : World} {nx : Int} {tv : Value} {xs : Array Value} {g n : Nat} {ds : List InoR} {js : List InoJ} {r' : InoR} {BT TT lo hi : Nat} (h : SB w W nx tv xs g n ds js r' BT TT lo hi) (hb : Below W.heap.size W W') : SB w W' nx tv xs g n ds js r' BT TT lo hi :=
  ⟨h.below.trans (hb.mono h.below.size), h.tb.keep hb, h.xb.keep hb, h.res.keep hb, h.q.keep hb, h.apT, InoG.keep h.G h.ord.2.2.2.2 hb, ⟨h.ord.1, h.ord.2.1, h.ord.2.2.1, h.ord.2.2.2.1, Nat.le_trans h.ord.2.2.2.2 hb.size⟩⟩
/-- A place that is none of those that are told of. -/
def Free (w : World) (BT TT lo hi Z : Nat) : Prop := w.heap.size + 3 ≤ Z ∧ (Z < BT ∨ TT ≤ Z) ∧ (Z < lo ∨ hi ≤ Z)
theorem free_mk {w : World} {BT TT lo hi Z : Nat} (h1 : w.heap.size + 3 ≤ Z) (h2 : Z < BT ∨ TT ≤ Z) (h3 : Z < lo ∨ hi ≤ Z) : Free w BT TT lo hi Z := ⟨h1, h2, h3⟩
theorem SB.st {w W : World} {nx : Int} {tv : Value} {xs : Array Value} {g n : Nat} {ds : List InoR} {js : List InoJ} {r' : InoR} {BT TT lo hi Z : Nat} (h : SB w W nx tv xs g n ds js r' BT TT lo hi) (hZ : Free w BT TT lo hi Z) (i : Nat) (v : Value) : SB w (W.setCell ⟨Z, i, none⟩ v) nx tv xs g n ds js r' BT TT lo hi := by
  obtain ⟨h1, h2, h3⟩ := hZ
  have hg := h.apT.2 g rfl
  have hgB := (World.ownsRow.lt h.q.row g rfl).1
  have ho := h.ord
  refine ⟨h.below.setCell (p := ⟨Z, i, none⟩) (by simp only; omega) _, h.tb.other (by omega) i v, h.xb.other (by omega) i v, h.res.other (by omega) i v, h.q.setY (fun m hm => by simp [Value.ownBlock] at hm; omega) (fun k j e => by have := h.apT.1 k j e; have := h.q.lo k j e; omega) i v, h.apT, h.G.gr ho.2.2.2.2 (gr_setC W Z i v) h3, ?_⟩
  simp only [World.setCell, Array.size_modify]
  exact ho
theorem sb_mk {w W0 A w11 C w13 : World} {nx : Int} {tv : Value} {xs : Array Value} {g n : Nat} {ds : List InoR} {js : List InoJ} {r' : InoR} (B0 : Below w.heap.size w W0) (hz : W0.heap.size = w.heap.size + 3) (hA : W0.heap.size ≤ A.heap.size) (q11 : DQT A.heap.size w11 (.slice (some ⟨g, 0, none⟩) n n) ds js) (b11 : Below A.heap.size A w11) (hC : w11.heap.size ≤ C.heap.size) (bQ : Below w11.heap.size w11 w13) (gC : (⟨r', C.heap.size, w13.heap.size⟩ : InoJ).G w13) (b13 : Below C.heap.size C w13) (B13 : Below W0.heap.size W0 w13) (z0 : Blk W0 w.heap.size 47 #[tv, .int .i64 nx]) (z1 : Blk W0 (w.heap.size + 1) 68 xs) (z2 : Blk W0 (w.heap.size + 2) 47 #[.slice none 0 0, .int .i64 0]) :
    SB w w13 nx tv xs g n ds js r' A.heap.size w11.heap.size C.heap.size w13.heap.size :=
  ⟨below_tr B0 B13, z0.keep B13, z1.keep B13, z2.keep B13, q11.dqa.keep bQ, q11.apV, gC, by omega, b11.size, hC, b13.size, Nat.le_refl _⟩
theorem si_f1 {w W : World} {nx : Int} {tv : Value} {xs : Array Value} {g n : Nat} {ds : List InoR} {js : List InoJ} {r' : InoR} {BT TT lo : Nat} (h : SB w W nx tv xs g n ds js r' BT TT lo W.heap.size) :
    SI w ((W.alloc (.cells #[.slice (some ⟨g, 0, none⟩) n n, .int .i64 nx] 47)).alloc (.cells #[.int .i64 r'.D.ino, .int .i64 r'.D.kind, .int .i64 r'.D.links, .slice r'.a1 r'.D.data.length r'.c1, .slice r'.a2 r'.D.ents.length r'.c2, .slice r'.a3 r'.D.attrs.length r'.c3] 68)) W.heap.size (W.heap.size + 1) nx tv xs g n ds js r' BT TT lo W.heap.size := by
  have ho := h.ord
  have h2 := h.keep (((Below.refl _ W).alloc (Nat.le_refl _) (.cells #[.slice (some ⟨g, 0, none⟩) n n, .int .i64 nx] 47)).alloc (by simp) (.cells #[.int .i64 r'.D.ino, .int .i64 r'.D.kind, .int .i64 r'.D.links, .slice r'.a1 r'.D.data.length r'.c1, .slice r'.a2 r'.D.ents.length r'.c2, .slice r'.a3 r'.D.attrs.length r'.c3] 68))
  exact ⟨h2.below, h2.tb, h2.xb, h2.res, (Blk.new W _ _).alloc _, Blk.newAt (by simp), h2.q, h2.apT, h2.G, h2.ord, by omega, by omega, by omega⟩
theorem si_f2 {w W : World} {nx : Int} {tv : Value} {xs : Array Value} {g n : Nat} {ds : List InoR} {js : List InoJ} {r' : InoR} {BT TT lo : Nat} (h : SB w W nx tv xs g n ds js r' BT TT lo W.heap.size) :
    SI w ((W.alloc (.cells #[.int .i64 r'.D.ino, .int .i64 r'.D.kind, .int .i64 r'.D.links, .slice r'.a1 r'.D.data.length r'.c1, .slice r'.a2 r'.D.ents.length r'.c2, .slice r'.a3 r'.D.attrs.length r'.c3] 68)).alloc (.cells #[.slice (some ⟨g, 0, none⟩) n n, .int .i64 nx] 47)) (W.heap.size + 1) W.heap.size nx tv xs g n ds js r' BT TT lo W.heap.size := by
  have ho := h.ord
  have h2 := h.keep (((Below.refl _ W).alloc (Nat.le_refl _) (.cells #[.int .i64 r'.D.ino, .int .i64 r'.D.kind, .int .i64 r'.D.links, .slice r'.a1 r'.D.data.length r'.c1, .slice r'.a2 r'.D.ents.length r'.c2, .slice r'.a3 r'.D.attrs.length r'.c3] 68)).alloc (by simp) (.cells #[.slice (some ⟨g, 0, none⟩) n n, .int .i64 nx] 47))
  exact ⟨h2.below, h2.tb, h2.xb, h2.res, Blk.newAt (by simp), (Blk.new W _ _).alloc _, h2.q, h2.apT, h2.G, h2.ord, by omega, by omega, by omega⟩
theorem si_f3 {w W : World} {nx : Int} {tv : Value} {xs : Array Value} {g n X : Nat} {ds : List InoR} {js : List InoJ} {r' : InoR} {BT TT lo : Nat} (h : SB w W nx tv xs g n ds js r' BT TT lo W.heap.size) (kT : Blk W X 47 #[.slice none 0 0, .int .i64 0]) (hX : Free w BT TT lo W.heap.size X) :
    SI w (((W.setCell ⟨X, 0, none⟩ (.slice (some ⟨g, 0, none⟩) n n)).setCell ⟨X, 1, none⟩ (.int .i64 nx)).alloc (.cells #[.int .i64 r'.D.ino, .int .i64 r'.D.kind, .int .i64 r'.D.links, .slice r'.a1 r'.D.data.length r'.c1, .slice r'.a2 r'.D.ents.length r'.c2, .slice r'.a3 r'.D.attrs.length r'.c3] 68)) X W.heap.size nx tv xs g n ds js r' BT TT lo W.heap.size := by
  have ho := h.ord
  have hl := kT.lt
  have h1 := (h.st hX 0 (.slice (some ⟨g, 0, none⟩) n n)).st hX 1 (.int .i64 nx)
  have h2 := h1.keep ((Below.refl _ _).alloc (Nat.le_refl _) (.cells #[.int .i64 r'.D.ino, .int .i64 r'.D.kind, .int .i64 r'.D.links, .slice r'.a1 r'.D.data.length r'.c1, .slice r'.a2 r'.D.ents.length r'.c2, .slice r'.a3 r'.D.attrs.length r'.c3] 68))
  exact ⟨h2.below, h2.tb, h2.xb, h2.res, ((kT.set 0 _).set 1 _).alloc _, Blk.newAt (by simp [World.setCell]), h2.q, h2.apT, h2.G, h2.ord, hX, by omega, by omega⟩
theorem si_f4 {w W : World} {nx : Int} {tv : Value} {xs : Array Value} {g n Y : Nat} {ds : List InoR} {js : List InoJ} {r' : InoR} {BT TT lo : Nat} (h : SB w W nx tv xs g n ds js r' BT TT lo W.heap.size) (kI : Blk W Y 68 #[.int .i64 0, .int .i64 0, .int .i64 0, .slice none 0 0, .slice none 0 0, .slice none 0 0]) (hY : Free w BT TT lo W.heap.size Y) :
    SI w (((((((W.setCell ⟨Y, 0, none⟩ (.int .i64 r'.D.ino)).setCell ⟨Y, 1, none⟩ (.int .i64 r'.D.kind)).setCell ⟨Y, 2, none⟩ (.int .i64 r'.D.links)).setCell ⟨Y, 3, none⟩ (.slice r'.a1 r'.D.data.length r'.c1)).setCell ⟨Y, 4, none⟩ (.slice r'.a2 r'.D.ents.length r'.c2)).setCell ⟨Y, 5, none⟩ (.slice r'.a3 r'.D.attrs.length r'.c3)).alloc (.cells #[.slice (some ⟨g, 0, none⟩) n n, .int .i64 nx] 47)) W.heap.size Y nx tv xs g n ds js r' BT TT lo W.heap.size := by
  have ho := h.ord
  have hl := kI.lt
  have h1 := (((((h.st hY 0 (.int .i64 r'.D.ino)).st hY 1 (.int .i64 r'.D.kind)).st hY 2 (.int .i64 r'.D.links)).st hY 3 (.slice r'.a1 r'.D.data.length r'.c1)).st hY 4 (.slice r'.a2 r'.D.ents.length r'.c2)).st hY 5 (.slice r'.a3 r'.D.attrs.length r'.c3)
  have h2 := h1.keep ((Below.refl _ _).alloc (Nat.le_refl _) (.cells #[.slice (some ⟨g, 0, none⟩) n n, .int .i64 nx] 47))
  exact ⟨h2.below, h2.tb, h2.xb, h2.res, Blk.newAt (by simp [World.setCell]), ((((((kI.set 0 _).set 1 _).set 2 _).set 3 _).set 4 _).set 5 _).alloc _, h2.q, h2.apT, h2.G, h2.ord, by omega, hY, by omega⟩
theorem si_f5 {w W : World} {nx : Int} {tv : Value} {xs : Array Value} {g n X Y : Nat} {ds : List InoR} {js : List InoJ} {r' : InoR} {BT TT lo : Nat} (h : SB w W nx tv xs g n ds js r' BT TT lo W.heap.size) (kT : Blk W X 47 #[.slice none 0 0, .int .i64 0]) (kI : Blk W Y 68 #[.int .i64 0, .int .i64 0, .int .i64 0, .slice none 0 0, .slice none 0 0, .slice none 0 0]) (hX : Free w BT TT lo W.heap.size X) (hY : Free w BT TT lo W.heap.size Y) (hne : X ≠ Y) :
    SI w ((((((((W.setCell ⟨X, 0, none⟩ (.slice (some ⟨g, 0, none⟩) n n)).setCell ⟨X, 1, none⟩ (.int .i64 nx)).setCell ⟨Y, 0, none⟩ (.int .i64 r'.D.ino)).setCell ⟨Y, 1, none⟩ (.int .i64 r'.D.kind)).setCell ⟨Y, 2, none⟩ (.int .i64 r'.D.links)).setCell ⟨Y, 3, none⟩ (.slice r'.a1 r'.D.data.length r'.c1)).setCell ⟨Y, 4, none⟩ (.slice r'.a2 r'.D.ents.length r'.c2)).setCell ⟨Y, 5, none⟩ (.slice r'.a3 r'.D.attrs.length r'.c3)) X Y nx tv xs g n ds js r' BT TT lo W.heap.size := by
  have h0 := (h.st hX 0 (.slice (some ⟨g, 0, none⟩) n n)).st hX 1 (.int .i64 nx)
  have h2 := (((((h0.st hY 0 (.int .i64 r'.D.ino)).st hY 1 (.int .i64 r'.D.kind)).st hY 2 (.int .i64 r'.D.links)).st hY 3 (.slice r'.a1 r'.D.data.length r'.c1)).st hY 4 (.slice r'.a2 r'.D.ents.length r'.c2)).st hY 5 (.slice r'.a3 r'.D.attrs.length r'.c3)
  exact ⟨h2.below, h2.tb, h2.xb, h2.res, ((((((((kT.set 0 _).set 1 _).other hne 0 _).other hne 1 _).other hne 2 _).other hne 3 _).other hne 4 _).other hne 5 _), (((((((kI.other (Ne.symm hne) 0 _).other (Ne.symm hne) 1 _).set 0 _).set 1 _).set 2 _).set 3 _).set 4 _).set 5 _, h2.q, h2.apT, h2.G, h2.ord, hX, hY, hne⟩
theorem look_some {W : World} {M cnt p : Nat} {Dm : DataW Unit} {rs : List InoR} {x : Int} (hown : W.ownsMap Tryz.prog 3 (plainElem Tryz.prog 3) M cnt Dm) (hM : MapIs Dm (inos rs)) (hwx : (Lit.int .i64 x).wf = true) (hf : firstAt (inos rs) x = some p) :
    (Instr.lookup 157 (.map (some M)) (.int .i64 x) true).run Tryz.prog W = .ok (.tuple #[.int .i64 (p : Int), .bool true]) W := by
  obtain ⟨v, ps, hrun, hv⟩ := hown.look_ok Tryz.keyInt Tryz.underlying157 (Tryz.zeroInt W) (plainElem_int Tryz.underlying3 (by decide)) (keyOf_int_mk Tryz.underlying3 hwx)
  obtain ⟨c, rfl, hc, _⟩ := plainElem_int_inv Tryz.underlying3 hv
  have h1 := (hM.2 x).2 p hf
  have h2 : Dm.atKey (.int .i64 x) (.lit (.int .i64 0)) = .lit (.int .i64 c) := congrArg Prod.fst hc
  rw [h2] at h1
  simp at h1
  rw [hrun, (hM.2 x).1, hf, h1]
  rfl
theorem look_none {W : World} {M cnt : Nat} {Dm : DataW Unit} {rs : List InoR} {x : Int} (hown : W.ownsMap Tryz.prog 3 (plainElem Tryz.prog 3) M cnt Dm) (hM : MapIs Dm (inos rs)) (hwx : (Lit.int .i64 x).wf = true) (hf : firstAt (inos rs) x = none) :
    ∃ c : Int, (Instr.lookup 157 (.map (some M)) (.int .i64 x) true).run Tryz.prog W = .ok (.tuple #[.int .i64 c, .bool false]) W := by
  obtain ⟨v, ps, hrun, hv⟩ := hown.look_ok Tryz.keyInt Tryz.underlying157 (Tryz.zeroInt W) (plainElem_int Tryz.underlying3 (by decide)) (keyOf_int_mk Tryz.underlying3 hwx)
  obtain ⟨c, rfl, hc, _⟩ := plainElem_int_inv Tryz.underlying3 hv
  refine ⟨c, ?_⟩
  rw [hrun, (hM.2 x).1, hf]
  rfl
/-- What is known behind the copies, of the two boxes' places. -/
def SIR (w : World) (nx : Int) (tv : Value) (xs : Array Value) (n : Nat) (ds : List InoR) (D : InoD) (s5 s6 : Value) (wx : World) : Prop :=
  ∃ (X Y g : Nat) (js : List InoJ) (b1 : Option Addr) (d1 : Nat) (b2 : Option Addr) (d2 : Nat) (b3 : Option Addr) (d3 : Nat) (BT TT lo hi : Nat), s5 = .pointer (some ⟨X, 0, none⟩) ∧ s6 = .pointer (some ⟨Y, 0, none⟩) ∧ js.length = n ∧ SI w wx X Y nx tv xs g n ds js ⟨D, b1, d1, b2, d2, b3, d3⟩ BT TT lo hi
theorem sir_mk {w : World} {nx : Int} {tv : Value} {xs : Array Value} {n : Nat} {ds : List InoR} {D : InoD} {wx : World} {X Y g : Nat} {js : List InoJ} {b1 : Option Addr} {d1 : Nat} {b2 : Option Addr} {d2 : Nat} {b3 : Option Addr} {d3 : Nat} {BT TT lo hi : Nat} (hjn : js.length = n) (h : SI w wx X Y nx tv xs g n ds js ⟨D, b1, d1, b2, d2, b3, d3⟩ BT TT lo hi) : SIR w nx tv xs n ds D (.pointer (some ⟨X, 0, none⟩)) (.pointer (some ⟨Y, 0, none⟩)) wx :=
  ⟨X, Y, g, js, b1, d1, b2, d2, b3, d3, BT, TT, lo, hi, rfl, rfl, hjn, h⟩
set_option maxRecDepth 100000 in
set_option maxHeartbeats 8000000 in
theorem setI (a : Option Addr) (n cap : Nat) (nx : Int) (rs : List InoR) (D : InoD) (a1 a2 a3 : Option Addr) (c1 c2 c3 : Nat) (w : World) (hn : rs.length = n) (hs : n ≤ 1048576) (hwx : (Lit.int .i64 D.ino).wf = true) (hwf : ∀ r ∈ rs, (Lit.int .i64 r.D.ino).wf = true) (hsm : ∀ r ∈ rs, InoSmall r.D) (hsx : InoSmall D) (hr : RdI w a rs) (hx : InoRd w D a1 a2 a3)  :
    Calls Tryz.prog 207 #[.agg #[.slice a n cap, .int .i64 nx], .agg #[.int .i64 D.ino, .int .i64 D.kind, .int .i64 D.links, .slice a1 D.data.length c1, .slice a2 D.ents.length c2, .slice a3 D.attrs.length c3]] w fun e w' => SetPost w nx (setR rs ⟨D, a1, c1, a2, c2, a3, c3⟩) e w' := by
  skip
  have B0 : Below w.heap.size w (((w.alloc (.cells #[.slice a n cap, .int .i64 nx] 47)).alloc (.cells #[.int .i64 D.ino, .int .i64 D.kind, .int .i64 D.links, .slice a1 D.data.length c1, .slice a2 D.ents.length c2, .slice a3 D.attrs.length c3] 68)).alloc (.cells #[.slice none 0 0, .int .i64 0] 47)) := (((Below.refl _ w).alloc (Nat.le_refl _) _).alloc (by simp) _).alloc (by simp; omega) _
  have z0 := ((Blk.new w 47 #[.slice a n cap, .int .i64 nx]).alloc (.cells #[.int .i64 D.ino, .int .i64 D.kind, .int .i64 D.links, .slice a1 D.data.length c1, .slice a2 D.ents.length c2, .slice a3 D.attrs.length c3] 68)).alloc (.cells #[.slice none 0 0, .int .i64 0] 47)
  have z1 := (Blk.new (w.alloc (.cells #[.slice a n cap, .int .i64 nx] 47)) 68 #[.int .i64 D.ino, .int .i64 D.kind, .int .i64 D.links, .slice a1 D.data.length c1, .slice a2 D.ents.length c2, .slice a3 D.attrs.length c3]).alloc (.cells #[.slice none 0 0, .int .i64 0] 47)
  have z2 := Blk.new ((w.alloc (.cells #[.slice a n cap, .int .i64 nx] 47)).alloc (.cells #[.int .i64 D.ino, .int .i64 D.kind, .int .i64 D.links, .slice a1 D.data.length c1, .slice a2 D.ents.length c2, .slice a3 D.attrs.length c3] 68)) 47 #[.slice none 0 0, .int .i64 0]
  have hsz : (((w.alloc (.cells #[.slice a n cap, .int .i64 nx] 47)).alloc (.cells #[.int .i64 D.ino, .int .i64 D.kind, .int .i64 D.links, .slice a1 D.data.length c1, .slice a2 D.ents.length c2, .slice a3 D.attrs.length c3] 68)).alloc (.cells #[.slice none 0 0, .int .i64 0] 47)).heap.size = w.heap.size + 3 := by simp
  simp only [World.size_alloc] at z1 z2
  go_enter Tryz.func207, Tryz.ntmps207
  go_upto_region 1 with fail
  obtain ⟨W0, hW0⟩ : ∃ W, ((w.alloc (.cells #[.slice a n cap, .int .i64 nx] 47)).alloc (.cells #[.int .i64 D.ino, .int .i64 D.kind, .int .i64 D.links, .slice a1 D.data.length c1, .slice a2 D.ents.length c2, .slice a3 D.attrs.length c3] 68)).alloc (.cells #[.slice none 0 0, .int .i64 0] 47) = W := ⟨_, rfl⟩
  rw [hW0] at B0 z0 z1 z2 hsz ⊢
  have HSZ : Hid _ := hsz
  have hz2 : w.heap.size + 2 < W0.heap.size := by omega
  clear hW0 hsz
  have hcT : ∀ W : World, Below W0.heap.size W0 W → _ := fun W hb => copyTab_any a n cap nx rs W hn hs hsm (hr.keep (below_tr B0 hb))
  have hcI : ∀ W : World, Below W0.heap.size W0 W → _ := fun W hb => copyInode_any D a1 a2 a3 c1 c2 c3 W hsx (InoRd.keep hx (below_tr B0 hb))
  have HT : Hid _ := hcT
  have HI : Hid _ := hcI
  have HZ : Hid _ := And.intro z0 z1
  have bR : Below W0.heap.size W0 W0 := Below.refl _ W0
  have bD : Below W0.heap.size W0 W0.drew := bR.drew
  have t0 := z0.cell 0
  have t1 := z0.cell 1
  simp at t0 t1
  obtain ⟨x0, x1, x2, x3, x4, x5⟩ := z1.six
  clear z0 z1 hcT hcI
  have nP0a : ¬ w.heap.size = W0.heap.size := (by omega)
  have nP0b : ¬ W0.heap.size = w.heap.size := (by omega)
  have nP1a : ¬ w.heap.size + 1 = W0.heap.size := (by omega)
  have nP1b : ¬ W0.heap.size = w.heap.size + 1 := (by omega)
  have nQ0a : ¬ w.heap.size = W0.heap.size + 1 := (by omega)
  have nQ0b : ¬ W0.heap.size + 1 = w.heap.size := (by omega)
  have nQ1a : ¬ w.heap.size + 1 = W0.heap.size + 1 := (by omega)
  have nQ1b : ¬ W0.heap.size + 1 = w.heap.size + 1 := (by omega)
  go_cut [5, 6] (fun s5 s6 wx => SIR w nx (.slice a n cap) #[.int .i64 D.ino, .int .i64 D.kind, .int .i64 D.links, .slice a1 D.data.length c1, .slice a2 D.ents.length c2, .slice a3 D.attrs.length c3] n rs D s5 s6 wx)
  case first =>
    go_region_held3 (fun W : World => W.cell? ⟨w.heap.size, 0, none⟩ = some (.slice a n cap) ∧ W.cell? ⟨w.heap.size, 1, none⟩ = some (.int .i64 nx) ∧ W.cell? ⟨w.heap.size + 1, 0, none⟩ = some (.int .i64 D.ino) ∧ W.cell? ⟨w.heap.size + 1, 1, none⟩ = some (.int .i64 D.kind) ∧ W.cell? ⟨w.heap.size + 1, 2, none⟩ = some (.int .i64 D.links) ∧ W.cell? ⟨w.heap.size + 1, 3, none⟩ = some (.slice a1 D.data.length c1) ∧ W.cell? ⟨w.heap.size + 1, 4, none⟩ = some (.slice a2 D.ents.length c2) ∧ W.cell? ⟨w.heap.size + 1, 5, none⟩ = some (.slice a3 D.attrs.length c3)) (go_keep) (first
      | (go_at_call 109; (with_reducible refine (HT.out _ (by first | with_reducible exact bD | with_reducible exact (below_al bR _).drew | with_reducible exact (below_al (below_al bR _) _).drew)).mono ?_); rintro e w11 ⟨g, js, rfl, hjn, q11, b11⟩; have B11 : Below W0.heap.size W0 w11 := below_tr (by first | with_reducible exact bD | with_reducible exact (below_al bR _).drew | with_reducible exact (below_al (below_al bR _) _).drew) b11; have hs11 := b11.size; (try simp at hs11); have y0 := (HZ.out.1.keep B11).cell 0; have y1 := (HZ.out.1.keep B11).cell 1; (simp at y0 y1); obtain ⟨y2, y3, y4, y5, y6, y7⟩ := (HZ.out.2.keep B11).six; (first | (with_reducible (have kT : Blk w11 W0.heap.size 47 #[.slice none 0 0, .int .i64 0] := Blk.keep (W := (W0.alloc (.cells #[.slice none 0 0, .int .i64 0] 47)).drew) (Blk.drew (Blk.newAt rfl)) b11)) | (with_reducible (have kI : Blk w11 W0.heap.size 68 #[.int .i64 0, .int .i64 0, .int .i64 0, .slice none 0 0, .slice none 0 0, .slice none 0 0] := Blk.keep (W := (W0.alloc (.cells #[.int .i64 0, .int .i64 0, .int .i64 0, .slice none 0 0, .slice none 0 0, .slice none 0 0] 68)).drew) (Blk.drew (Blk.newAt rfl)) b11)) | ((with_reducible (have kT : Blk w11 W0.heap.size 47 #[.slice none 0 0, .int .i64 0] := Blk.keep (W := ((W0.alloc (.cells #[.slice none 0 0, .int .i64 0] 47)).alloc (.cells #[.int .i64 0, .int .i64 0, .int .i64 0, .slice none 0 0, .slice none 0 0, .slice none 0 0] 68)).drew) (Blk.drew (Blk.alloc (Blk.newAt rfl) _)) b11)); have kI : Blk w11 (W0.heap.size + 1) 68 #[.int .i64 0, .int .i64 0, .int .i64 0, .slice none 0 0, .slice none 0 0, .slice none 0 0] := Blk.keep (W := ((W0.alloc (.cells #[.slice none 0 0, .int .i64 0] 47)).alloc (.cells #[.int .i64 0, .int .i64 0, .int .i64 0, .slice none 0 0, .slice none 0 0, .slice none 0 0] 68)).drew) (Blk.drew (Blk.newAt (by simp))) b11) | ((with_reducible (have kI : Blk w11 W0.heap.size 68 #[.int .i64 0, .int .i64 0, .int .i64 0, .slice none 0 0, .slice none 0 0, .slice none 0 0] := Blk.keep (W := ((W0.alloc (.cells #[.int .i64 0, .int .i64 0, .int .i64 0, .slice none 0 0, .slice none 0 0, .slice none 0 0] 68)).alloc (.cells #[.slice none 0 0, .int .i64 0] 47)).drew) (Blk.drew (Blk.alloc (Blk.newAt rfl) _)) b11)); have kT : Blk w11 (W0.heap.size + 1) 47 #[.slice none 0 0, .int .i64 0] := Blk.keep (W := ((W0.alloc (.cells #[.int .i64 0, .int .i64 0, .int .i64 0, .slice none 0 0, .slice none 0 0, .slice none 0 0] 68)).alloc (.cells #[.slice none 0 0, .int .i64 0] 47)).drew) (Blk.drew (Blk.newAt (by simp))) b11) | skip); have hq11 := B11.size; have nR0a : ¬ w.heap.size = w11.heap.size := (by omega); have nR0b : ¬ w11.heap.size = w.heap.size := (by omega); have nR1a : ¬ w.heap.size + 1 = w11.heap.size := (by omega); have nR1b : ¬ w11.heap.size = w.heap.size + 1 := (by omega); have nT0a : ¬ w.heap.size = w11.heap.size + 1 := (by omega); have nT0b : ¬ w11.heap.size + 1 = w.heap.size := (by omega); have nT1a : ¬ w.heap.size + 1 = w11.heap.size + 1 := (by omega); have nT1b : ¬ w11.heap.size + 1 = w.heap.size + 1 := (by omega))
      | (go_at_call 153; (with_reducible refine (HI.out _ (by first | with_reducible exact B11 | with_reducible exact below_al B11 _ | with_reducible exact below_al (below_al B11 _) _)).mono ?_); rintro e w13 ⟨b1, d1, b2, d2, b3, d3, rfl, gC, b13⟩; have B13 : Below W0.heap.size W0 w13 := below_tr (by first | with_reducible exact B11 | with_reducible exact below_al B11 _ | with_reducible exact below_al (below_al B11 _) _) b13; have hs13 := b13.size; (try simp at hs13); have y0 := (HZ.out.1.keep B13).cell 0; have y1 := (HZ.out.1.keep B13).cell 1; (simp at y0 y1); obtain ⟨y2, y3, y4, y5, y6, y7⟩ := (HZ.out.2.keep B13).six; have bQ : Below w11.heap.size w11 w13 := below_tr (by first | with_reducible exact (Below.refl w11.heap.size w11) | with_reducible exact below_al (Below.refl w11.heap.size w11) _ | with_reducible exact below_al (below_al (Below.refl w11.heap.size w11) _) _) b13; (try (have kT := kT.keep bQ)); (try (have kI := kI.keep bQ)); (first | (with_reducible (have kT : Blk w13 w11.heap.size 47 #[.slice none 0 0, .int .i64 0] := Blk.keep (W := w11.alloc (.cells #[.slice none 0 0, .int .i64 0] 47)) (Blk.newAt rfl) b13)) | (with_reducible (have kI : Blk w13 w11.heap.size 68 #[.int .i64 0, .int .i64 0, .int .i64 0, .slice none 0 0, .slice none 0 0, .slice none 0 0] := Blk.keep (W := w11.alloc (.cells #[.int .i64 0, .int .i64 0, .int .i64 0, .slice none 0 0, .slice none 0 0, .slice none 0 0] 68)) (Blk.newAt rfl) b13)) | ((with_reducible (have kT : Blk w13 w11.heap.size 47 #[.slice none 0 0, .int .i64 0] := Blk.keep (W := (w11.alloc (.cells #[.slice none 0 0, .int .i64 0] 47)).alloc (.cells #[.int .i64 0, .int .i64 0, .int .i64 0, .slice none 0 0, .slice none 0 0, .slice none 0 0] 68)) (Blk.alloc (Blk.newAt rfl) _) b13)); have kI : Blk w13 (w11.heap.size + 1) 68 #[.int .i64 0, .int .i64 0, .int .i64 0, .slice none 0 0, .slice none 0 0, .slice none 0 0] := Blk.keep (W := (w11.alloc (.cells #[.slice none 0 0, .int .i64 0] 47)).alloc (.cells #[.int .i64 0, .int .i64 0, .int .i64 0, .slice none 0 0, .slice none 0 0, .slice none 0 0] 68)) (Blk.newAt (by simp)) b13) | ((with_reducible (have kI : Blk w13 w11.heap.size 68 #[.int .i64 0, .int .i64 0, .int .i64 0, .slice none 0 0, .slice none 0 0, .slice none 0 0] := Blk.keep (W := (w11.alloc (.cells #[.int .i64 0, .int .i64 0, .int .i64 0, .slice none 0 0, .slice none 0 0, .slice none 0 0] 68)).alloc (.cells #[.slice none 0 0, .int .i64 0] 47)) (Blk.alloc (Blk.newAt rfl) _) b13)); have kT : Blk w13 (w11.heap.size + 1) 47 #[.slice none 0 0, .int .i64 0] := Blk.keep (W := (w11.alloc (.cells #[.int .i64 0, .int .i64 0, .int .i64 0, .slice none 0 0, .slice none 0 0, .slice none 0 0] 68)).alloc (.cells #[.slice none 0 0, .int .i64 0] 47)) (Blk.newAt (by simp)) b13) | skip); have hq13 := B13.size; have hr13 := bQ.size; have nU0a : ¬ w.heap.size = w13.heap.size := (by omega); have nU0b : ¬ w13.heap.size = w.heap.size := (by omega); have nU1a : ¬ w.heap.size + 1 = w13.heap.size := (by omega); have nU1b : ¬ w13.heap.size = w.heap.size + 1 := (by omega); have nV0a : ¬ w.heap.size = w13.heap.size + 1 := (by omega); have nV0b : ¬ w13.heap.size + 1 = w.heap.size := (by omega); have nV1a : ¬ w.heap.size + 1 = w13.heap.size + 1 := (by omega); have nV1b : ¬ w13.heap.size + 1 = w.heap.size + 1 := (by omega); (try (have ltT := kT.lt; have p0 := kT.cell 0; have p1 := kT.cell 1; (simp at p0 p1); have pf0 := kT.frozen 0; have pf1 := kT.frozen 1; have p2 := (kT.alloc (.cells #[.int .i64 0, .int .i64 0, .int .i64 0, .slice none 0 0, .slice none 0 0, .slice none 0 0] 68)).cell 0; have p3 := (kT.alloc (.cells #[.int .i64 0, .int .i64 0, .int .i64 0, .slice none 0 0, .slice none 0 0, .slice none 0 0] 68)).cell 1; (simp at p2 p3); have pf2 := (kT.alloc (.cells #[.int .i64 0, .int .i64 0, .int .i64 0, .slice none 0 0, .slice none 0 0, .slice none 0 0] 68)).frozen 0; have pf3 := (kT.alloc (.cells #[.int .i64 0, .int .i64 0, .int .i64 0, .slice none 0 0, .slice none 0 0, .slice none 0 0] 68)).frozen 1)); (try (have ltI := kI.lt; obtain ⟨o0, o1, o2, o3, o4, o5⟩ := kI.six; have of0 := kI.frozen 0; have of1 := kI.frozen 1; have of2 := kI.frozen 2; have of3 := kI.frozen 3; have of4 := kI.frozen 4; have of5 := kI.frozen 5; obtain ⟨q0, q1, q2, q3, q4, q5⟩ := (kI.alloc (.cells #[.slice none 0 0, .int .i64 0] 47)).six; have qf0 := (kI.alloc (.cells #[.slice none 0 0, .int .i64 0] 47)).frozen 0; have qf1 := (kI.alloc (.cells #[.slice none 0 0, .int .i64 0] 47)).frozen 1; have qf2 := (kI.alloc (.cells #[.slice none 0 0, .int .i64 0] 47)).frozen 2; have qf3 := (kI.alloc (.cells #[.slice none 0 0, .int .i64 0] 47)).frozen 3; have qf4 := (kI.alloc (.cells #[.slice none 0 0, .int .i64 0] 47)).frozen 4; have qf5 := (kI.alloc (.cells #[.slice none 0 0, .int .i64 0] 47)).frozen 5)); (try (have nn1 : ¬ W0.heap.size = w11.heap.size := (by omega); have nn2 : ¬ w11.heap.size = W0.heap.size := (by omega))); (try (have nn3 : ¬ W0.heap.size = w13.heap.size := (by omega); have nn4 : ¬ w13.heap.size = W0.heap.size := (by omega))); (try (have nn5 : ¬ w11.heap.size = w13.heap.size := (by omega); have nn6 : ¬ w13.heap.size = w11.heap.size := (by omega))))
      | fail)
    all_goals (go_wp2_with fail; go_meet; have hb := sb_mk (r' := ⟨D, b1, d1, b2, d2, b3, d3⟩) B0 HSZ.out (by simp <;> omega) q11 b11 (by simp <;> omega) bQ gC b13 B13 HZ.out.1 HZ.out.2 z2; first | with_reducible exact sir_mk hjn (si_f1 hb) | with_reducible exact sir_mk hjn (si_f2 hb) | with_reducible exact sir_mk hjn (si_f3 hb kT (free_mk (by omega) (by (try simp) <;> omega) (by (try simp) <;> omega))) | with_reducible exact sir_mk hjn (si_f4 hb kI (free_mk (by omega) (by (try simp) <;> omega) (by (try simp) <;> omega))) | with_reducible exact sir_mk hjn (si_f5 hb kT kI (free_mk (by omega) (by (try simp) <;> omega) (by (try simp) <;> omega)) (free_mk (by omega) (by (try simp) <;> omega) (by (try simp) <;> omega)) (by omega)) | fail)
  case rest =>
  obtain ⟨X, Y, g, js, b1, d1, b2, d2, b3, d3, BT, TT, lo, hi, rfl, rfl, hjn, si1⟩ := hcut
  obtain ⟨W1, hwc⟩ : ∃ W, W = wc := ⟨_, rfl⟩
  subst hwc
  have hz2' : Hid _ := hz2
  clear bR bD t0 t1 x0 x1 x2 x3 x4 x5 HT HI HZ z2 B0 HSZ nP0a nP0b nP1a nP1b nQ0a nQ0b nQ1a nQ1b hz2 hz2' hsm hsx hx
  have hmf : ∀ (fn : Fn) (first cap : Array Value) (w : World), (Instr.makeFunc fn first cap).run Tryz.prog w = .ok (.func fn first cap) w := fun _ _ _ _ => rfl
  have hcB := byNumber_any a n cap nx rs W1.drew hn (by omega) hwf (hr.keep si1.below.drew)
  have HSI : Hid _ := si1
  have t0 := si1.tb.cell 0
  have t1 := si1.tb.cell 1
  simp at t0 t1
  obtain ⟨x0, x1, x2, x3, x4, x5⟩ := si1.xb.six
  clear si1
  cases hp : firstAt (inos rs) D.ino with
  | some p =>
    have hpl := firstAt_in hp
    rw [hn] at hpl
    have HP : Hid _ := hp
    clear hp hn hr hwf
    have hp0 : (0 : Int) ≤ (p : Int) := by omega
    have hpn : (p : Int) < (n : Int) := by omega
    go_wp2_with fail
    go_region_held3 (fun W : World => W.cell? ⟨w.heap.size, 0, none⟩ = some (.slice a n cap) ∧ W.cell? ⟨w.heap.size, 1, none⟩ = some (.int .i64 nx) ∧ W.cell? ⟨w.heap.size + 1, 0, none⟩ = some (.int .i64 D.ino)) (go_keep) (first
      | (go_at_call 112; (with_reducible refine hcB.mono ?_); rintro e w2 ⟨cnt, Dm, rfl, hcnt, hM, hown, bB⟩; have bW : Below W1.heap.size W1 w2 := (Below.refl W1.heap.size W1).drew.trans bB; have si2 := HSI.out.keep bW; have y0 := si2.tb.cell 0; have y1 := si2.tb.cell 1; (simp at y0 y1); obtain ⟨y2, y3, y4, y5, y6, y7⟩ := si2.xb.six; have hlk : (Instr.lookup 157 (.map (some (W1.heap.size + 1))) (.int .i64 D.ino) true).run Tryz.prog w2 = .ok (.tuple #[.int .i64 (p : Int), .bool true]) w2 := look_some hown hM hwx HP.out)
      | fail)
    obtain ⟨jp, hjp⟩ : ∃ j, js[p]? = some j := ⟨_, List.getElem?_eq_getElem (by omega)⟩
    have ow := si2.q.own hjn
    obtain ⟨u0, u1, u2, u3, u4, u5⟩ := ow.six p jp.r (by simp [hjp])
    have f0 := ow.frozen (p * 6)
    have f1 := ow.frozen (p * 6 + 1)
    have f2 := ow.frozen (p * 6 + 2)
    have f3 := ow.frozen (p * 6 + 3)
    have f4 := ow.frozen (p * 6 + 4)
    have f5 := ow.frozen (p * 6 + 5)
    have o0 := si2.out.cell 0
    have o1 := si2.out.cell 1
    have r0 := si2.res.cell 0
    have r1 := si2.res.cell 1
    have g0 := si2.res.frozen 0
    have g1 := si2.res.frozen 1
    simp at o0 o1 r0 r1
    obtain ⟨v0, v1, v2, v3, v4, v5⟩ := si2.own.six
    have hgT := si2.apT.2 g rfl
    have hgB := (World.ownsRow.lt si2.q.row g rfl).1
    have hord := si2.ord
    have hX := si2.hX
    have hY := si2.hY
    have n1 : ¬ g = X := by omega
    have n2 : ¬ X = g := by omega
    have n5 : ¬ g = w.heap.size + 2 := by omega
    have n6 : ¬ w.heap.size + 2 = g := by omega
    have n7 : ¬ g = Y := by omega
    have n8 : ¬ Y = g := by omega
    have HS2 : Hid _ := si2
    clear si2 ow HSI y0 y1 y2 y3 y4 y5 y6 y7 hlk hM hown hcB bB bW
    go_wp2
    have qp := HS2.out.q.put hjn ⟨D, a1, c1, a2, c2, a3, c3⟩ ⟨D, b1, d1, b2, d2, b3, d3⟩ rfl HS2.out.G ⟨by omega, by omega, by omega⟩ (fun i j e => .inl (by have := HS2.out.apT.1 i j e; omega)) (.inl (by omega)) p hpl
    have kb : Below w.heap.size w _ := HS2.out.below.grown (gr_more (gr_more (gr_more (gr_more (gr_more (gr_setC w2 g (p * 6) (.int .i64 D.ino)) (p * 6 + 1) (.int .i64 D.kind)) (p * 6 + 2) (.int .i64 D.links)) (p * 6 + 3) (.slice b1 D.data.length d1)) (p * 6 + 4) (.slice b2 D.ents.length d2)) (p * 6 + 5) (.slice b3 D.attrs.length d3)) HS2.out.below.size (fun m hm => by simp at hm; omega)
    have kr := HS2.out.res.kept (gr_more (gr_more (gr_more (gr_more (gr_more (gr_setC w2 g (p * 6) (.int .i64 D.ino)) (p * 6 + 1) (.int .i64 D.kind)) (p * 6 + 2) (.int .i64 D.links)) (p * 6 + 3) (.slice b1 D.data.length d1)) (p * 6 + 4) (.slice b2 D.ents.length d2)) (p * 6 + 5) (.slice b3 D.attrs.length d3)) (by omega)
    dsimp only at qp
    generalize (((((w2.setCell ⟨g, p * 6, none⟩ (.int .i64 D.ino)).setCell ⟨g, p * 6 + 1, none⟩ (.int .i64 D.kind)).setCell ⟨g, p * 6 + 2, none⟩ (.int .i64 D.links)).setCell ⟨g, p * 6 + 3, none⟩ (.slice b1 D.data.length d1)).setCell ⟨g, p * 6 + 4, none⟩ (.slice b2 D.ents.length d2)).setCell ⟨g, p * 6 + 5, none⟩ (.slice b3 D.attrs.length d3) = W5 at qp kb kr ⊢
    have zf := (kr.set 0 (.slice (some ⟨g, 0, none⟩) n n)).set 1 (.int .i64 nx)
    have dd0 := zf.cell 0
    have dd1 := zf.cell 1
    simp at dd0 dd1
    refine bodyPost_ret (v := .agg #[.slice (some ⟨g, 0, none⟩) n n, .int .i64 nx]) (by simp [results, Tryz.f207, go_sem, dd0, dd1]) rfl ?_
    rw [setR_some (r := ⟨D, a1, c1, a2, c2, a3, c3⟩) HP.out]
    have hl : (js.set p ⟨⟨D, b1, d1, b2, d2, b3, d3⟩, lo, hi⟩).length = n := by rw [List.length_set, hjn]
    refine ⟨some ⟨g, 0, none⟩, n, js.set p ⟨⟨D, b1, d1, b2, d2, b3, d3⟩, lo, hi⟩, by rw [hl], ?_, ?_⟩
    · rw [hl]
      have qB := qp.setX (X := w.heap.size + 1 + 1) (by omega) 0 (.slice (some ⟨g, 0, none⟩) n n)
      have qC := qB.setX (X := w.heap.size + 1 + 1) (by omega) 1 (.int .i64 nx)
      exact qC.lower (by omega)
    · exact (kb.setCell (p := ⟨w.heap.size + 2, 0, none⟩) (by simp only; omega) _).setCell (p := ⟨w.heap.size + 2, 1, none⟩) (by simp only; omega) _
  | none =>
    have HP : Hid _ := hp
    have HI : Hid (∀ W : World, Below w.heap.size w W → W.cell? ⟨w.heap.size + 1, 0, none⟩ = some (.int .i64 D.ino) → Calls Tryz.prog 250 #[.slice a n cap, .func (.func 251) #[] #[.pointer (some ⟨w.heap.size + 1, 0, none⟩)]] W fun e w' => e = .returned (.int .i64 (idxN rs D.ino)) ∧ Below W.heap.size W w') := fun W hb hc => indexFunc_any a n cap rs D.ino (w.heap.size + 1) W hn (by omega) (hr.keep hb) hc
    have hPle := placeOf_le rs D.ino
    rw [hn] at hPle
    have hidx : idxN rs D.ino = if placeOf rs D.ino < n then ((placeOf rs D.ino : Nat) : Int) else -1 := by unfold idxN; rw [hn]
    have HSR : Hid (setR rs ⟨D, a1, c1, a2, c2, a3, c3⟩ = putAt rs ⟨D, a1, c1, a2, c2, a3, c3⟩ (placeOf rs D.ino)) := setR_none (r := ⟨D, a1, c1, a2, c2, a3, c3⟩) hp
    generalize placeOf rs D.ino = P at hPle hidx HSR
    rw [hidx] at HI
    clear hp hn hr hwf hidx
    go_wp2_with fail
    go_region_held3 (fun W : World => W.cell? ⟨w.heap.size, 0, none⟩ = some (.slice a n cap) ∧ W.cell? ⟨w.heap.size, 1, none⟩ = some (.int .i64 nx) ∧ W.cell? ⟨w.heap.size + 1, 0, none⟩ = some (.int .i64 D.ino)) (go_keep) (first
      | (go_at_call 112; (with_reducible refine hcB.mono ?_); rintro e w2 ⟨cnt, Dm, rfl, hcnt, hM, hown, bB⟩; have bW : Below W1.heap.size W1 w2 := (Below.refl W1.heap.size W1).drew.trans bB; have si2 := HSI.out.keep bW; have y0 := si2.tb.cell 0; have y1 := si2.tb.cell 1; (simp at y0 y1); obtain ⟨y2, y3, y4, y5, y6, y7⟩ := si2.xb.six; obtain ⟨cc, hlk⟩ : ∃ c : Int, (Instr.lookup 157 (.map (some (W1.heap.size + 1))) (.int .i64 D.ino) true).run Tryz.prog w2 = .ok (.tuple #[.int .i64 c, .bool false]) w2 := look_none hown hM hwx HP.out)
      | fail)
    have HS2 : Hid _ := si2
    have hcI := HI.out w2 si2.below y2
    clear si2 hM hown hcB bB bW HSI t0 t1 x0 x1 x2 x3 x4 x5 hlk
    by_cases hPn : P < n
    · rw [if_pos hPn] at hcI
      go_upto_region 9 with (first | (go_at_call 250; (with_reducible refine hcI.mono ?_); rintro e w3 ⟨rfl, b3'⟩; have si3 := HS2.out.keep b3'; have y0 := si3.tb.cell 0; (simp at y0)) | fail)
      clear HS2 hcI
      have hord := si3.ord
      have hX := si3.hX
      have hY := si3.hY
      have hXl := si3.out.lt
      have hrow := World.ownsRow.alloc si3.q.row (.cells #[.int .i64 D.ino, .int .i64 D.kind, .int .i64 D.links, .slice b1 D.data.length d1, .slice b2 D.ents.length d2, .slice b3 D.attrs.length d3] 68)
      rw [hjn] at hrow
      have hcS := insert_any BT g n w3.heap.size P (iv (js.map InoJ.r)) (InoR.six ⟨D, b1, d1, b2, d2, b3, d3⟩) (w3.alloc (.cells #[.int .i64 D.ino, .int .i64 D.kind, .int .i64 D.links, .slice b1 D.data.length d1, .slice b2 D.ents.length d2, .slice b3 D.attrs.length d3] 68)) (by omega) hs (by simp; omega) hrow (fun j u hj => by have := six_news w3 ⟨D, b1, d1, b2, d2, b3, d3⟩ 68 j u hj; rw [Addr.add_lit, Nat.zero_add] at this; exact this) rfl (iv_one _) (six_one _) (by simp)
      have si3' := si3.keep ((Below.refl w3.heap.size w3).alloc (Nat.le_refl _) (.cells #[.int .i64 D.ino, .int .i64 D.kind, .int .i64 D.links, .slice b1 D.data.length d1, .slice b2 D.ents.length d2, .slice b3 D.attrs.length d3] 68))
      have o0 := si3.out.cell 0
      simp at o0
      obtain ⟨v0, v1, v2, v3, v4, v5⟩ := si3.own.six
      have hGsz : (w3.alloc (.cells #[.int .i64 D.ino, .int .i64 D.kind, .int .i64 D.links, .slice b1 D.data.length d1, .slice b2 D.ents.length d2, .slice b3 D.attrs.length d3] 68)).heap.size = w3.heap.size + 1 := by simp
      have HGS : Hid _ := hGsz
      clear si3 hGsz hrow
      go_wp2_with (first | (go_at_call 252; (with_reducible refine hcS.mono ?_); rintro e w4 ⟨c6, rfl, o6, b6⟩; have si4 := si3'.keep b6; rw [HGS.out] at o6 ⊢; have m0 := si4.out.cell 0; have m1 := si4.out.cell 1; have mf := si4.out.frozen 0; have r0 := si4.res.cell 0; have r1 := si4.res.cell 1; have f0 := si4.res.frozen 0; have f1 := si4.res.frozen 1; (simp at m0 m1 r0 r1); have ne1 : ¬ w.heap.size + 2 = X := (by omega); have ne2 : ¬ X = w.heap.size + 2 := (by omega); have HG : Hid _ := si4; clear si4 si3') | fail)
      have hs4 := b6.size
      rw [HGS.out] at hs4
      have hw4 := (World.ownsRow.lt o6 (w3.heap.size + 1) rfl).2
      have e6 : (iv (js.map InoJ.r)).take (P * 6) = iv ((js.take P).map InoJ.r) := by rw [List.map_take, iv_take]
      have e7 : (iv (js.map InoJ.r)).drop (P * 6) = iv ((js.drop P).map InoJ.r) := by rw [List.map_drop, iv_drop]
      rw [e6, e7] at o6
      have q6 := HG.out.q.ins hjn hPle ⟨D, a1, c1, a2, c2, a3, c3⟩ ⟨D, b1, d1, b2, d2, b3, d3⟩ rfl (Nat.le_refl _) o6 (fun _ _ _ _ _ _ => rfl) HG.out.G ⟨by omega, by omega, HG.out.ord.2.2.2.2⟩ (fun i j e => .inl (by have := HG.out.apT.1 i j e; omega)) (.inr (by omega)) (fun i j e => .inr (by have := HG.out.apT.1 i j e; omega))
      have hjs : ∀ (i : Nat) (j : InoJ), (js.take P ++ ⟨⟨D, b1, d1, b2, d2, b3, d3⟩, lo, hi⟩ :: js.drop P)[i]? = some j → X < j.lo ∨ j.hi ≤ X := by
        have hold : ∀ (i : Nat) (j : InoJ), js[i]? = some j → X < j.lo ∨ j.hi ≤ X := fun i j e => by
          have := HG.out.apT.1 i j e
          have := HG.out.q.lo i j e
          omega
        intro i j e
        rcases List.mem_append.1 (List.mem_of_getElem? e) with h | h
        · obtain ⟨i0, e0⟩ := List.getElem?_of_mem (List.mem_of_mem_take h)
          exact hold i0 j e0
        · rcases List.mem_cons.1 h with rfl | h
          · exact hX.2.2
          · obtain ⟨i0, e0⟩ := List.getElem?_of_mem (List.mem_of_mem_drop h)
            exact hold i0 j e0
      have hvX : ∀ m, (Value.slice (some ⟨w3.heap.size + 1, 0, none⟩) (n + 1) c6).ownBlock = some m → m ≠ X := fun m hm => by simp [Value.ownBlock] at hm; omega
      have zf := (((HG.out.res.other (show w.heap.size + 2 ≠ X by omega) 0 (.slice (some ⟨w3.heap.size + 1, 0, none⟩) (n + 1) c6))).set 0 (.slice (some ⟨w3.heap.size + 1, 0, none⟩) (n + 1) c6)).set 1 (.int .i64 nx)
      have dd0 := zf.cell 0
      have dd1 := zf.cell 1
      simp at dd0 dd1
      refine bodyPost_ret (v := .agg #[.slice (some ⟨w3.heap.size + 1, 0, none⟩) (n + 1) c6, .int .i64 nx]) (by simp [results, Tryz.f207, go_sem, dd0, dd1]) rfl ?_
      rw [HSR.out]
      have hl : (js.take P ++ ⟨⟨D, b1, d1, b2, d2, b3, d3⟩, lo, hi⟩ :: js.drop P).length = n + 1 := by simp; omega
      refine ⟨some ⟨w3.heap.size + 1, 0, none⟩, c6, js.take P ++ ⟨⟨D, b1, d1, b2, d2, b3, d3⟩, lo, hi⟩ :: js.drop P, by rw [hl], ?_, ?_⟩
      · rw [hl]
        have qA := q6.setY (X := X) hvX hjs 0 (.slice (some ⟨w3.heap.size + 1, 0, none⟩) (n + 1) c6)
        have qB := qA.setX (X := w.heap.size + 1 + 1) (by omega) 0 (.slice (some ⟨w3.heap.size + 1, 0, none⟩) (n + 1) c6)
        have qC := qB.setX (X := w.heap.size + 1 + 1) (by omega) 1 (.int .i64 nx)
        exact qC.lower (by omega)
      · exact ((HG.out.below.setCell (p := ⟨X, 0, none⟩) (by simp only; omega) _).setCell (p := ⟨w.heap.size + 2, 0, none⟩) (by simp only; omega) _).setCell (p := ⟨w.heap.size + 2, 1, none⟩) (by simp only; omega) _
    · rw [if_neg hPn] at hcI
      obtain rfl : P = n := by omega
      go_upto_region 9 with (first | (go_at_call 250; (with_reducible refine hcI.mono ?_); rintro e w3 ⟨rfl, b3'⟩; have si3 := HS2.out.keep b3'; have y0 := si3.tb.cell 0; (simp at y0)) | fail)
      clear HS2 hcI
      have hord := si3.ord
      have hX := si3.hX
      have hY := si3.hY
      have hXl := si3.out.lt
      have hrow := World.ownsRow.alloc si3.q.row (.cells #[.int .i64 D.ino, .int .i64 D.kind, .int .i64 D.links, .slice b1 D.data.length d1, .slice b2 D.ents.length d2, .slice b3 D.attrs.length d3] 68)
      rw [hjn] at hrow
      have hcS := insert_any BT g P w3.heap.size P (iv (js.map InoJ.r)) (InoR.six ⟨D, b1, d1, b2, d2, b3, d3⟩) (w3.alloc (.cells #[.int .i64 D.ino, .int .i64 D.kind, .int .i64 D.links, .slice b1 D.data.length d1, .slice b2 D.ents.length d2, .slice b3 D.attrs.length d3] 68)) (by omega) hs (by simp; omega) hrow (fun j u hj => by have := six_news w3 ⟨D, b1, d1, b2, d2, b3, d3⟩ 68 j u hj; rw [Addr.add_lit, Nat.zero_add] at this; exact this) rfl (iv_one _) (six_one _) (by simp)
      have si3' := si3.keep ((Below.refl w3.heap.size w3).alloc (Nat.le_refl _) (.cells #[.int .i64 D.ino, .int .i64 D.kind, .int .i64 D.links, .slice b1 D.data.length d1, .slice b2 D.ents.length d2, .slice b3 D.attrs.length d3] 68))
      have o0 := si3.out.cell 0
      simp at o0
      obtain ⟨v0, v1, v2, v3, v4, v5⟩ := si3.own.six
      have hGsz : (w3.alloc (.cells #[.int .i64 D.ino, .int .i64 D.kind, .int .i64 D.links, .slice b1 D.data.length d1, .slice b2 D.ents.length d2, .slice b3 D.attrs.length d3] 68)).heap.size = w3.heap.size + 1 := by simp
      have HGS : Hid _ := hGsz
      clear si3 hGsz hrow
      go_wp2_with (first | (go_at_call 252; (with_reducible refine hcS.mono ?_); rintro e w4 ⟨c6, rfl, o6, b6⟩; have si4 := si3'.keep b6; rw [HGS.out] at o6 ⊢; have m0 := si4.out.cell 0; have m1 := si4.out.cell 1; have mf := si4.out.frozen 0; have r0 := si4.res.cell 0; have r1 := si4.res.cell 1; have f0 := si4.res.frozen 0; have f1 := si4.res.frozen 1; (simp at m0 m1 r0 r1); have ne1 : ¬ w.heap.size + 2 = X := (by omega); have ne2 : ¬ X = w.heap.size + 2 := (by omega); have HG : Hid _ := si4; clear si4 si3') | fail)
      have hs4 := b6.size
      rw [HGS.out] at hs4
      have hw4 := (World.ownsRow.lt o6 (w3.heap.size + 1) rfl).2
      have e6 : (iv (js.map InoJ.r)).take (P * 6) = iv ((js.take P).map InoJ.r) := by rw [List.map_take, iv_take]
      have e7 : (iv (js.map InoJ.r)).drop (P * 6) = iv ((js.drop P).map InoJ.r) := by rw [List.map_drop, iv_drop]
      rw [e6, e7] at o6
      have q6 := HG.out.q.ins hjn hPle ⟨D, a1, c1, a2, c2, a3, c3⟩ ⟨D, b1, d1, b2, d2, b3, d3⟩ rfl (Nat.le_refl _) o6 (fun _ _ _ _ _ _ => rfl) HG.out.G ⟨by omega, by omega, HG.out.ord.2.2.2.2⟩ (fun i j e => .inl (by have := HG.out.apT.1 i j e; omega)) (.inr (by omega)) (fun i j e => .inr (by have := HG.out.apT.1 i j e; omega))
      have hjs : ∀ (i : Nat) (j : InoJ), (js.take P ++ ⟨⟨D, b1, d1, b2, d2, b3, d3⟩, lo, hi⟩ :: js.drop P)[i]? = some j → X < j.lo ∨ j.hi ≤ X := by
        have hold : ∀ (i : Nat) (j : InoJ), js[i]? = some j → X < j.lo ∨ j.hi ≤ X := fun i j e => by
          have := HG.out.apT.1 i j e
          have := HG.out.q.lo i j e
          omega
        intro i j e
        rcases List.mem_append.1 (List.mem_of_getElem? e) with h | h
        · obtain ⟨i0, e0⟩ := List.getElem?_of_mem (List.mem_of_mem_take h)
          exact hold i0 j e0
        · rcases List.mem_cons.1 h with rfl | h
          · exact hX.2.2
          · obtain ⟨i0, e0⟩ := List.getElem?_of_mem (List.mem_of_mem_drop h)
            exact hold i0 j e0
      have hvX : ∀ m, (Value.slice (some ⟨w3.heap.size + 1, 0, none⟩) (P + 1) c6).ownBlock = some m → m ≠ X := fun m hm => by simp [Value.ownBlock] at hm; omega
      have zf := (((HG.out.res.other (show w.heap.size + 2 ≠ X by omega) 0 (.slice (some ⟨w3.heap.size + 1, 0, none⟩) (P + 1) c6))).set 0 (.slice (some ⟨w3.heap.size + 1, 0, none⟩) (P + 1) c6)).set 1 (.int .i64 nx)
      have dd0 := zf.cell 0
      have dd1 := zf.cell 1
      simp at dd0 dd1
      refine bodyPost_ret (v := .agg #[.slice (some ⟨w3.heap.size + 1, 0, none⟩) (P + 1) c6, .int .i64 nx]) (by simp [results, Tryz.f207, go_sem, dd0, dd1]) rfl ?_
      rw [HSR.out]
      have hl : (js.take P ++ ⟨⟨D, b1, d1, b2, d2, b3, d3⟩, lo, hi⟩ :: js.drop P).length = P + 1 := by simp; omega
      refine ⟨some ⟨w3.heap.size + 1, 0, none⟩, c6, js.take P ++ ⟨⟨D, b1, d1, b2, d2, b3, d3⟩, lo, hi⟩ :: js.drop P, by rw [hl], ?_, ?_⟩
      · rw [hl]
        have qA := q6.setY (X := X) hvX hjs 0 (.slice (some ⟨w3.heap.size + 1, 0, none⟩) (P + 1) c6)
        have qB := qA.setX (X := w.heap.size + 1 + 1) (by omega) 0 (.slice (some ⟨w3.heap.size + 1, 0, none⟩) (P + 1) c6)
        have qC := qB.setX (X := w.heap.size + 1 + 1) (by omega) 1 (.int .i64 nx)
        exact qC.lower (by omega)
      · exact ((HG.out.below.setCell (p := ⟨X, 0, none⟩) (by simp only; omega) _).setCell (p := ⟨w.heap.size + 2, 0, none⟩) (by simp only; omega) _).setCell (p := ⟨w.heap.size + 2, 1, none⟩) (by simp only; omega) _
end Go.Proofs.YtbjfihabkpianaaGreatDoor

