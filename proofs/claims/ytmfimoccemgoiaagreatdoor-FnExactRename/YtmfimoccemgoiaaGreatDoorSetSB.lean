/-
  What the specification's SetInode answers.
-/
import Derived.Test.YtmfimoccemgoiaaGreatDoorJ11B
namespace Go.Proofs.YtmfimoccemgoiaaGreatDoor
open Go.RowKit
theorem below_tr {w X U : World} (h : Below w.heap.size w X) (k : Below X.heap.size X U) : Below w.heap.size w U := h.trans (k.mono h.size)
/-- What is known behind the copy of the table: both arguments' boxes, the answer's, the copy's. -/
structure SX (w W : World) (X : Nat) (nx : Int) (tv : Value) (xs : Array Value) (v : Value) (ds : List InoR) (js : List InoJ) : Prop where
  below : Below w.heap.size w W
  tb : Blk W w.heap.size 28 #[tv, .int .i64 nx]
  xb : Blk W (w.heap.size + 1) 68 xs
  res : Blk W (w.heap.size + 2) 28 #[.slice none 0 0, .int .i64 0]
  out : Blk W X 28 #[v, .int .i64 nx]
  hX : w.heap.size + 2 < X
  q : DQA (w.heap.size + 3) W v ds js
  qx : ∀ (i : Nat) (j : InoJ), js[i]? = some j → j.hi ≤ X
  gx : ∀ g, v.ownBlock = some g → g < X
theorem SX.keep {w W W' : World} {X : Nat} {nx : Int} {tv v : Value} {xs : Array Value} {ds : List InoR} {js : List InoJ} (h : SX w W X nx tv xs v ds js) (hb : Below W.heap.size W W') : SX w W' X nx tv xs v ds js :=
  ⟨h.below.trans (hb.mono h.below.size), h.tb.keep hb, h.xb.keep hb, h.res.keep hb, h.out.keep hb, h.hX, h.q.keep hb, h.qx, h.gx⟩
/-- A row behind X was turned. -/
theorem SX.gr {w W W' : World} {X g : Nat} {nx : Int} {tv v : Value} {xs : Array Value} {ds : List InoR} {js : List InoJ} (h : SX w W X nx tv xs v ds js) (hg : W.grownBy W' (some g)) (hX : X < g) : SX w W' X nx tv xs v ds js := by
  have hx := h.hX
  refine ⟨h.below.grown hg h.below.size (fun m hm => by simp at hm; omega), h.tb.kept hg (by omega), h.xb.kept hg (by omega), h.res.kept hg (by omega), h.out.kept hg (by omega), h.hX, h.q.kept hg.size ?_ (fun i j e b h1 h2 => hg.block b (by have := h.q.lo i j e; omega) (by have := h.qx i j e; simp; omega)), h.qx, h.gx⟩
  exact row_kept h.q.row hg (fun m hm e => by have := h.gx m hm; simp at e; omega)
theorem iv_take_at {js : List InoJ} {k j : Nat} {u : Value} (h : (iv ((js.take k).map InoJ.r))[j]? = some u) : (iv (js.map InoJ.r))[j]? = some u := by
  rw [List.map_take, iv_take, List.getElem?_take] at h
  split at h
  · exact h
  · cases h
theorem iv_drop_at {js : List InoJ} {k j : Nat} {u : Value} (h : (iv ((js.drop k).map InoJ.r))[j]? = some u) : (iv (js.map InoJ.r))[k * 6 + j]? = some u := by
  rw [List.map_drop, iv_drop, List.getElem?_drop] at h
  exact h
theorem InoJ.G.gr {w w' : World} {j : InoJ} {g : Nat} (h : j.G w) (hT : j.hi ≤ w.heap.size) (hg : w.grownBy w' (some g)) (hd : g < j.lo ∨ j.hi ≤ g) : j.G w' :=
  InoG.kept h (fun b h1 h2 => hg.block b (by omega) (by simp; omega))
theorem InoJ.G.al {w : World} {j : InoJ} (h : j.G w) (hT : j.hi ≤ w.heap.size) (o : Obj) : j.G (w.alloc o) := InoG.keep h hT ((Below.refl _ w).alloc (Nat.le_refl _) o)
theorem DQA.setY {B : Nat} {W : World} {v : Value} {rs : List InoR} {js : List InoJ} (h : DQA B W v rs js) {X : Nat} (hv : ∀ g, v.ownBlock = some g → g ≠ X) (hj : ∀ (i : Nat) (j : InoJ), js[i]? = some j → X < j.lo ∨ j.hi ≤ X) (i : Nat) (u : Value) : DQA B (W.setCell ⟨X, i, none⟩ u) v rs js :=
  h.kept (by simp [World.setCell]) (row_kept h.row (gr_setC W X i u) (fun m hm e => by have := hv m hm; simp at e; omega)) (fun k j e b h1 h2 => (gr_setC W X i u).block b (by have := h.lo k j e; omega) (by have := hj k j e; simp; omega))
theorem own_cap {w : World} {g n cap : Nat} {rs : List InoR} (h : OwnI w g n cap rs) : n ≤ cap := by
  rcases h.2 with ⟨h', _⟩ | ⟨g', c', cur, h', _, _, h5, _⟩
  · simp at h'
  · simp at h'
    omega
theorem row_cap {B : Nat} {w : World} {e : TypeId} {s g n cap : Nat} {xs : List Value} (h : w.ownsRow B e s (.slice (some ⟨g, 0, none⟩) n cap) n xs) : n ≤ cap := by
  rcases h.2 with ⟨h', _⟩ | ⟨g', c', cur, h', _, _, h5, _⟩
  · simp at h'
  · simp at h'
    omega
set_option maxRecDepth 100000 in
set_option maxHeartbeats 8000000 in
theorem setS_some (a : Option Addr) (n cap : Nat) (nx : Int) (rs : List InoR) (D : InoD) (a1 a2 a3 : Option Addr) (c1 c2 c3 : Nat) (w : World) (hn : rs.length = n) (hs : n ≤ 1048576) (hsm : ∀ r ∈ rs, InoSmall r.D) (hsx : InoSmall D) (hr : RdI w a rs) (hx : InoRd w D a1 a2 a3) (p : Nat) (hp : firstAt (inos rs) D.ino = some p) :
    Calls Tryz.prog 71 #[.agg #[.slice a n cap, .int .i64 nx], .agg #[.int .i64 D.ino, .int .i64 D.kind, .int .i64 D.links, .slice a1 D.data.length c1, .slice a2 D.ents.length c2, .slice a3 D.attrs.length c3]] w fun e w' => SetPost w nx (setR rs ⟨D, a1, c1, a2, c2, a3, c3⟩) e w' := by
  have hpl := firstAt_in hp
  rw [hn] at hpl
  have hat : atN rs D.ino = (p : Int) := by unfold atN; rw [hp]
  rw [setR_some (r := ⟨D, a1, c1, a2, c2, a3, c3⟩) hp]
  have B0 : Below w.heap.size w (((w.alloc (.cells #[.slice a n cap, .int .i64 nx] 28)).alloc (.cells #[.int .i64 D.ino, .int .i64 D.kind, .int .i64 D.links, .slice a1 D.data.length c1, .slice a2 D.ents.length c2, .slice a3 D.attrs.length c3] 68)).alloc (.cells #[.slice none 0 0, .int .i64 0] 28)) := (((Below.refl _ w).alloc (Nat.le_refl _) _).alloc (by simp) _).alloc (by simp; omega) _
  have z0 := ((Blk.new w 28 #[.slice a n cap, .int .i64 nx]).alloc (.cells #[.int .i64 D.ino, .int .i64 D.kind, .int .i64 D.links, .slice a1 D.data.length c1, .slice a2 D.ents.length c2, .slice a3 D.attrs.length c3] 68)).alloc (.cells #[.slice none 0 0, .int .i64 0] 28)
  have z1 := (Blk.new (w.alloc (.cells #[.slice a n cap, .int .i64 nx] 28)) 68 #[.int .i64 D.ino, .int .i64 D.kind, .int .i64 D.links, .slice a1 D.data.length c1, .slice a2 D.ents.length c2, .slice a3 D.attrs.length c3]).alloc (.cells #[.slice none 0 0, .int .i64 0] 28)
  have z2 := Blk.new ((w.alloc (.cells #[.slice a n cap, .int .i64 nx] 28)).alloc (.cells #[.int .i64 D.ino, .int .i64 D.kind, .int .i64 D.links, .slice a1 D.data.length c1, .slice a2 D.ents.length c2, .slice a3 D.attrs.length c3] 68)) 28 #[.slice none 0 0, .int .i64 0]
  have hsz : (((w.alloc (.cells #[.slice a n cap, .int .i64 nx] 28)).alloc (.cells #[.int .i64 D.ino, .int .i64 D.kind, .int .i64 D.links, .slice a1 D.data.length c1, .slice a2 D.ents.length c2, .slice a3 D.attrs.length c3] 68)).alloc (.cells #[.slice none 0 0, .int .i64 0] 28)).heap.size = w.heap.size + 3 := by simp
  simp only [World.size_alloc] at z1 z2
  go_enter Tryz.func71, Tryz.ntmps71
  go_upto_region 1 with fail
  obtain ⟨W0, hW0⟩ : ∃ W, ((w.alloc (.cells #[.slice a n cap, .int .i64 nx] 28)).alloc (.cells #[.int .i64 D.ino, .int .i64 D.kind, .int .i64 D.links, .slice a1 D.data.length c1, .slice a2 D.ents.length c2, .slice a3 D.attrs.length c3] 68)).alloc (.cells #[.slice none 0 0, .int .i64 0] 28) = W := ⟨_, rfl⟩
  rw [hW0] at B0 z0 z1 z2 hsz ⊢
  have HSZ : Hid _ := hsz
  clear hW0 hsz
  have t0 := z0.cell 0
  have t1 := z0.cell 1
  simp at t0 t1
  have hcC := l4CopyS a n cap nx rs W0 hn hs hsm (hr.keep B0)
  go_wp2_with fail
  (with_reducible refine hcC.mono ?_)
  rintro e w1 ⟨va, vc, js, rfl, q1, b1⟩
  have hjn : js.length = n := by rw [q1.len, hn]
  rw [hjn] at q1 ⊢
  rw [HSZ.out] at q1
  have hX : w.heap.size + 2 < w1.heap.size := by have := z2.lt; have := b1.size; omega
  have sx1 : SX w (w1.alloc (.cells #[.slice va n vc, .int .i64 nx] 28)) w1.heap.size nx (.slice a n cap) #[.int .i64 D.ino, .int .i64 D.kind, .int .i64 D.links, .slice a1 D.data.length c1, .slice a2 D.ents.length c2, .slice a3 D.attrs.length c3] (.slice va n vc) rs js :=
    ⟨(below_tr B0 b1).alloc (below_tr B0 b1).size _, (z0.keep b1).alloc _, (z1.keep b1).alloc _, (z2.keep b1).alloc _, Blk.new w1 _ _, hX, q1.dqa.keep ((Below.refl _ w1).alloc (Nat.le_refl _) _), fun i j e => (q1.jq.lo i j e).2.2, fun g hg => (World.ownsRow.lt q1.row g hg).2⟩
  clear t0 t1 hcC z0 z1 z2 B0 b1 q1 hX HSZ
  go_upto_region 2 with fail
  obtain ⟨W1, hW1⟩ : ∃ W, w1.alloc (.cells #[.slice va n vc, .int .i64 nx] 28) = W := ⟨_, rfl⟩
  obtain ⟨X, hXX⟩ : ∃ X, w1.heap.size = X := ⟨_, rfl⟩
  rw [hW1, hXX] at sx1 ⊢
  clear hW1 hXX
  have hcA := l4At_any a n cap nx D.ino rs W1 hn (by omega) (hr.keep sx1.below)
  rw [hat] at hcA
  have t0 := sx1.tb.cell 0
  have t1 := sx1.tb.cell 1
  simp at t0 t1
  obtain ⟨x0, x1, x2, x3, x4, x5⟩ := sx1.xb.six
  have hp0 : (0 : Int) ≤ (p : Int) := by omega
  have hpn : (p : Int) < (n : Int) := by omega
  go_upto_region 4 with (go_at_call 92; (with_reducible refine hcA.mono ?_); rintro e w2 ⟨rfl, b2⟩)
  have sx2 := sx1.keep b2
  clear x0 x1 x2 x3 x4 x5 t0 t1 hcA
  obtain ⟨g, rfl, hgB, _⟩ : ∃ g, va = some ⟨g, 0, none⟩ ∧ w.heap.size + 3 ≤ g ∧ OwnI w2 g n vc (js.map InoJ.r) := by
    rcases sx2.q.cases hjn with ⟨_, _, h0, _⟩ | h
    · omega
    · exact h
  obtain ⟨jp, hjp⟩ : ∃ j, js[p]? = some j := ⟨_, List.getElem?_eq_getElem (by omega)⟩
  have hcL := l3Copy_any D a1 a2 a3 c1 c2 c3 w2.drew hsx (InoRd.keep hx sx2.below.drew)
  have HSX : Hid _ := sx2
  have o0 := sx2.out.cell 0
  simp at o0
  obtain ⟨x0, x1, x2, x3, x4, x5⟩ := sx2.xb.six
  have hgX := sx2.gx g rfl
  have hXw := sx2.hX
  have hXl : Hid (X < w2.heap.size) := sx2.out.lt
  have n1 : ¬ g = X := by omega
  have n2 : ¬ X = g := by omega
  have n3 : ¬ g = w.heap.size + 1 := by omega
  have n4 : ¬ w.heap.size + 1 = g := by omega
  have n5 : ¬ g = w.heap.size + 2 := by omega
  have n6 : ¬ w.heap.size + 2 = g := by omega
  clear sx1 sx2 b2 hx hr hsm hsx hn
  go_region_held3 (fun W : World => W.cell? ⟨X, 0, none⟩ = some (.slice (some ⟨g, 0, none⟩) n vc) ∧ W.cell? ⟨w.heap.size + 1, 0, none⟩ = some (.int .i64 D.ino) ∧ W.cell? ⟨w.heap.size + 1, 1, none⟩ = some (.int .i64 D.kind) ∧ W.cell? ⟨w.heap.size + 1, 2, none⟩ = some (.int .i64 D.links) ∧ W.cell? ⟨w.heap.size + 1, 3, none⟩ = some (.slice a1 D.data.length c1) ∧ W.cell? ⟨w.heap.size + 1, 4, none⟩ = some (.slice a2 D.ents.length c2) ∧ W.cell? ⟨w.heap.size + 1, 5, none⟩ = some (.slice a3 D.attrs.length c3)) (go_keep) ((go_at_call 121; (with_reducible refine hcL.mono ?_); rintro e w10 ⟨b1, d1, b2, d2, b3, d3, rfl, gC, bC⟩; have b11 : Below w2.heap.size w2 w10 := (Below.refl w2.heap.size w2).drew.trans bC; have sx10 := HSX.out.keep b11; have o1 := sx10.out.cell 0; simp at o1; obtain ⟨y0, y1, y2, y3, y4, y5⟩ := sx10.xb.six; have ow := sx10.q.own hjn; obtain ⟨u0, u1, u2, u3, u4, u5⟩ := ow.six p jp.r (by simp [hjp]); have f0 := ow.frozen (p * 6); have f1 := ow.frozen (p * 6 + 1); have f2 := ow.frozen (p * 6 + 2); have f3 := ow.frozen (p * 6 + 3); have f4 := ow.frozen (p * 6 + 4); have f5 := ow.frozen (p * 6 + 5)))
  have HS10 : Hid _ := sx10
  have o2 := sx10.out.cell 1
  have r0 := sx10.res.cell 0
  have r1 := sx10.res.cell 1
  have g0 := sx10.res.frozen 0
  have g1 := sx10.res.frozen 1
  simp at o2 r0 r1
  clear sx10 ow hcL HSX
  go_wp2
  have qp := HS10.out.q.put hjn ⟨D, a1, c1, a2, c2, a3, c3⟩ ⟨D, b1, d1, b2, d2, b3, d3⟩ rfl gC ⟨by have := hXl.out; show _ ≤ w2.heap.size; omega, bC.size, Nat.le_refl _⟩ (fun i j e => .inl (by have := HS10.out.qx i j e; have := hXl.out; show _ ≤ w2.heap.size; omega)) (.inl (by have := hXl.out; show _ < w2.heap.size; omega)) p hpl
  have kb : Below w.heap.size w _ := HS10.out.below.grown (gr_more (gr_more (gr_more (gr_more (gr_more (gr_setC w10 g (p * 6) (.int .i64 D.ino)) (p * 6 + 1) (.int .i64 D.kind)) (p * 6 + 2) (.int .i64 D.links)) (p * 6 + 3) (.slice b1 D.data.length d1)) (p * 6 + 4) (.slice b2 D.ents.length d2)) (p * 6 + 5) (.slice b3 D.attrs.length d3)) HS10.out.below.size (fun m hm => by simp at hm; omega)
  have kr := HS10.out.res.kept (gr_more (gr_more (gr_more (gr_more (gr_more (gr_setC w10 g (p * 6) (.int .i64 D.ino)) (p * 6 + 1) (.int .i64 D.kind)) (p * 6 + 2) (.int .i64 D.links)) (p * 6 + 3) (.slice b1 D.data.length d1)) (p * 6 + 4) (.slice b2 D.ents.length d2)) (p * 6 + 5) (.slice b3 D.attrs.length d3)) (by omega)
  dsimp only at qp
  generalize (((((w10.setCell ⟨g, p * 6, none⟩ (.int .i64 D.ino)).setCell ⟨g, p * 6 + 1, none⟩ (.int .i64 D.kind)).setCell ⟨g, p * 6 + 2, none⟩ (.int .i64 D.links)).setCell ⟨g, p * 6 + 3, none⟩ (.slice b1 D.data.length d1)).setCell ⟨g, p * 6 + 4, none⟩ (.slice b2 D.ents.length d2)).setCell ⟨g, p * 6 + 5, none⟩ (.slice b3 D.attrs.length d3) = W5 at qp kb kr ⊢
  have zf := (kr.set 0 (.slice (some ⟨g, 0, none⟩) n vc)).set 1 (.int .i64 nx)
  have dd0 := zf.cell 0
  have dd1 := zf.cell 1
  simp at dd0 dd1
  refine bodyPost_ret (v := .agg #[.slice (some ⟨g, 0, none⟩) n vc, .int .i64 nx]) (by simp [results, Tryz.f71, go_sem, dd0, dd1]) rfl ?_
  have hl : (js.set p ⟨⟨D, b1, d1, b2, d2, b3, d3⟩, w2.heap.size, w10.heap.size⟩).length = n := by rw [List.length_set, hjn]
  refine ⟨some ⟨g, 0, none⟩, vc, js.set p ⟨⟨D, b1, d1, b2, d2, b3, d3⟩, w2.heap.size, w10.heap.size⟩, by rw [hl], ?_, ?_⟩
  · rw [hl]
    exact ((qp.setX (X := w.heap.size + 2) (by omega) 0 (.slice (some ⟨g, 0, none⟩) n vc)).setX (X := w.heap.size + 2) (by omega) 1 (.int .i64 nx)).lower (by omega)
  · exact (kb.setCell (p := ⟨w.heap.size + 2, 0, none⟩) (by simp only; omega) _).setCell (p := ⟨w.heap.size + 2, 1, none⟩) (by simp only; omega) _
set_option maxRecDepth 100000 in
set_option maxHeartbeats 8000000 in
theorem setS_none (a : Option Addr) (n cap : Nat) (nx : Int) (rs : List InoR) (D : InoD) (a1 a2 a3 : Option Addr) (c1 c2 c3 : Nat) (w : World) (hn : rs.length = n) (hs : n ≤ 1048576) (hsm : ∀ r ∈ rs, InoSmall r.D) (hsx : InoSmall D) (hr : RdI w a rs) (hx : InoRd w D a1 a2 a3) (hp : firstAt (inos rs) D.ino = none) :
    Calls Tryz.prog 71 #[.agg #[.slice a n cap, .int .i64 nx], .agg #[.int .i64 D.ino, .int .i64 D.kind, .int .i64 D.links, .slice a1 D.data.length c1, .slice a2 D.ents.length c2, .slice a3 D.attrs.length c3]] w fun e w' => SetPost w nx (setR rs ⟨D, a1, c1, a2, c2, a3, c3⟩) e w' := by
  have hat : atN rs D.ino = -1 := by unfold atN; rw [hp]
  rw [setR_none (r := ⟨D, a1, c1, a2, c2, a3, c3⟩) hp]
  have hne : ∀ (k : Nat) (r : InoR), rs[k]? = some r → r.D.ino ≠ D.ino := by
    intro k r hk he
    unfold firstAt at hp
    rw [List.findIdx?_eq_none_iff] at hp
    have := hp r.D.ino (List.mem_of_getElem? (inos_is hk))
    simp [he] at this
  have hPle := placeOf_le rs D.ino
  rw [hn] at hPle
  have hPlt : Hid (∀ (k : Nat) (r : InoR), k < placeOf rs D.ino → rs[k]? = some r → r.D.ino < D.ino) := by
    intro k r hk hr
    have h1 := List.not_of_lt_findIdx (p := fun r : InoR => decide (D.ino < r.D.ino)) hk
    obtain ⟨hl, he⟩ := List.getElem?_eq_some_iff.1 hr
    rw [he] at h1
    have h2 := hne k r hr
    simp at h1
    omega
  have hPge : Hid (∀ r, rs[placeOf rs D.ino]? = some r → ¬ r.D.ino < D.ino) := by
    intro r hr
    obtain ⟨hl, he⟩ := List.getElem?_eq_some_iff.1 hr
    have h1 := List.findIdx_getElem (p := fun r : InoR => decide (D.ino < r.D.ino)) (w := hl)
    have he' : rs[rs.findIdx fun r => decide (D.ino < r.D.ino)] = r := he
    rw [he'] at h1
    simp at h1
    omega
  show Calls _ _ _ _ fun e w' => SetPost w nx (putAt rs ⟨D, a1, c1, a2, c2, a3, c3⟩ (placeOf rs D.ino)) e w'
  generalize placeOf rs D.ino = P at hPle hPlt hPge ⊢
  clear hne
  have B0 : Below w.heap.size w (((w.alloc (.cells #[.slice a n cap, .int .i64 nx] 28)).alloc (.cells #[.int .i64 D.ino, .int .i64 D.kind, .int .i64 D.links, .slice a1 D.data.length c1, .slice a2 D.ents.length c2, .slice a3 D.attrs.length c3] 68)).alloc (.cells #[.slice none 0 0, .int .i64 0] 28)) := (((Below.refl _ w).alloc (Nat.le_refl _) _).alloc (by simp) _).alloc (by simp; omega) _
  have z0 := ((Blk.new w 28 #[.slice a n cap, .int .i64 nx]).alloc (.cells #[.int .i64 D.ino, .int .i64 D.kind, .int .i64 D.links, .slice a1 D.data.length c1, .slice a2 D.ents.length c2, .slice a3 D.attrs.length c3] 68)).alloc (.cells #[.slice none 0 0, .int .i64 0] 28)
  have z1 := (Blk.new (w.alloc (.cells #[.slice a n cap, .int .i64 nx] 28)) 68 #[.int .i64 D.ino, .int .i64 D.kind, .int .i64 D.links, .slice a1 D.data.length c1, .slice a2 D.ents.length c2, .slice a3 D.attrs.length c3]).alloc (.cells #[.slice none 0 0, .int .i64 0] 28)
  have z2 := Blk.new ((w.alloc (.cells #[.slice a n cap, .int .i64 nx] 28)).alloc (.cells #[.int .i64 D.ino, .int .i64 D.kind, .int .i64 D.links, .slice a1 D.data.length c1, .slice a2 D.ents.length c2, .slice a3 D.attrs.length c3] 68)) 28 #[.slice none 0 0, .int .i64 0]
  have hsz : (((w.alloc (.cells #[.slice a n cap, .int .i64 nx] 28)).alloc (.cells #[.int .i64 D.ino, .int .i64 D.kind, .int .i64 D.links, .slice a1 D.data.length c1, .slice a2 D.ents.length c2, .slice a3 D.attrs.length c3] 68)).alloc (.cells #[.slice none 0 0, .int .i64 0] 28)).heap.size = w.heap.size + 3 := by simp
  simp only [World.size_alloc] at z1 z2
  go_enter Tryz.func71, Tryz.ntmps71
  go_upto_region 1 with fail
  obtain ⟨W0, hW0⟩ : ∃ W, ((w.alloc (.cells #[.slice a n cap, .int .i64 nx] 28)).alloc (.cells #[.int .i64 D.ino, .int .i64 D.kind, .int .i64 D.links, .slice a1 D.data.length c1, .slice a2 D.ents.length c2, .slice a3 D.attrs.length c3] 68)).alloc (.cells #[.slice none 0 0, .int .i64 0] 28) = W := ⟨_, rfl⟩
  rw [hW0] at B0 z0 z1 z2 hsz ⊢
  have HSZ : Hid _ := hsz
  clear hW0 hsz
  have t0 := z0.cell 0
  have t1 := z0.cell 1
  simp at t0 t1
  have hcC := l4CopyS a n cap nx rs W0 hn hs hsm (hr.keep B0)
  go_wp2_with fail
  (with_reducible refine hcC.mono ?_)
  rintro e w1 ⟨va, vc, js, rfl, q1, b1⟩
  have hjn : js.length = n := by rw [q1.len, hn]
  rw [hjn] at q1 ⊢
  rw [HSZ.out] at q1
  have hX : w.heap.size + 2 < w1.heap.size := by have := z2.lt; have := b1.size; omega
  have sx1 : SX w (w1.alloc (.cells #[.slice va n vc, .int .i64 nx] 28)) w1.heap.size nx (.slice a n cap) #[.int .i64 D.ino, .int .i64 D.kind, .int .i64 D.links, .slice a1 D.data.length c1, .slice a2 D.ents.length c2, .slice a3 D.attrs.length c3] (.slice va n vc) rs js :=
    ⟨(below_tr B0 b1).alloc (below_tr B0 b1).size _, (z0.keep b1).alloc _, (z1.keep b1).alloc _, (z2.keep b1).alloc _, Blk.new w1 _ _, hX, q1.dqa.keep ((Below.refl _ w1).alloc (Nat.le_refl _) _), fun i j e => (q1.jq.lo i j e).2.2, fun g hg => (World.ownsRow.lt q1.row g hg).2⟩
  clear t0 t1 hcC z0 z1 z2 B0 b1 q1 hX HSZ
  go_upto_region 2 with fail
  obtain ⟨W1, hW1⟩ : ∃ W, w1.alloc (.cells #[.slice va n vc, .int .i64 nx] 28) = W := ⟨_, rfl⟩
  obtain ⟨X, hXX⟩ : ∃ X, w1.heap.size = X := ⟨_, rfl⟩
  rw [hW1, hXX] at sx1 ⊢
  clear hW1 hXX
  have hcA := l4At_any a n cap nx D.ino rs W1 hn (by omega) (hr.keep sx1.below)
  rw [hat] at hcA
  have t0 := sx1.tb.cell 0
  have t1 := sx1.tb.cell 1
  simp at t0 t1
  obtain ⟨x0, x1, x2, x3, x4, x5⟩ := sx1.xb.six
  go_upto_region 6 with (go_at_call 92; (with_reducible refine hcA.mono ?_); rintro e w2 ⟨rfl, b2⟩)
  have sx2 := sx1.keep b2
  have hn' : Hid (rs.length = n) := hn
  have HR : Hid _ := hr
  clear x0 x1 x2 x3 x4 x5 t0 t1 hcA sx1 b2 hn hr
  have HSX : Hid _ := sx2
  clear sx2
  go_wp2
  go_loopw [6] (fun i wr => ∃ k : Nat, k ≤ P ∧ i = .int .i64 k ∧ Below w2.heap.size w2 wr) (fun i _ => P - (intOf i).toNat)
  case atStart => exact ⟨0, Nat.zero_le _, rfl, Below.refl _ _⟩
  case round =>
    obtain ⟨k, hk, rfl, hB⟩ := hrel
    have sx2 := HSX.out.keep hB
    clear HSX
    have t0 := sx2.tb.cell 0
    simp at t0
    obtain ⟨x0, x1, x2, x3, x4, x5⟩ := sx2.xb.six
    have hk0 : (0 : Int) ≤ (k : Int) := by omega
    by_cases hkP : k < P
    · obtain ⟨r, hrk⟩ : ∃ r, rs[k]? = some r := ⟨_, List.getElem?_eq_getElem (by rw [hn'.out]; omega)⟩
      have hlt := hPlt.out k r hkP hrk
      obtain ⟨b, off, rfl, hbl, hc⟩ := (RdI.keep HR.out sx2.below).lt (by intro h; have := hn'.out; rw [h] at this; simp at this; omega)
      have c0 := (hc k r hrk).1.c0
      have hki : (k : Int) < (n : Int) := by omega
      have hd1 : decide ((k : Int) < (n : Int)) = true := by simpa using hki
      have hd2 : decide (r.D.ino < D.ino) = true := by simpa using hlt
      clear hc hrk hPlt hPge
      go_wp2
      go_quiet (fail)
      go_wp2
      go_roundw
      case rel => exact ⟨k + 1, by omega, by go_num, below_drewN hB _⟩
      case measure => simp [intOf]; omega
    · obtain rfl : k = P := by omega
      by_cases hkn : k < n
      · obtain ⟨r, hrk⟩ : ∃ r, rs[k]? = some r := ⟨_, List.getElem?_eq_getElem (by rw [hn'.out]; omega)⟩
        have hlt := hPge.out r hrk
        obtain ⟨b, off, rfl, hbl, hc⟩ := (RdI.keep HR.out sx2.below).lt (by intro h; have := hn'.out; rw [h] at this; simp at this; omega)
        have c0 := (hc k r hrk).1.c0
        have hki : (k : Int) < (n : Int) := by omega
        have hd1 : decide ((k : Int) < (n : Int)) = true := by simpa using hki
        have hd2 : decide (r.D.ino < D.ino) = false := by simpa using hlt
        clear hc hrk hPlt hPge
        obtain ⟨g, rfl, hgB, hown⟩ : ∃ g, va = some ⟨g, 0, none⟩ ∧ w.heap.size + 3 ≤ g ∧ OwnI wr g n vc (js.map InoJ.r) := by
          rcases sx2.q.cases hjn with ⟨_, _, h0, _⟩ | h
          · omega
          · exact h
        have hvc := own_cap hown
        have hvk : ¬ vc = k := by omega
        have hkc : (k : Int) ≤ (vc : Int) := by omega
        have hkn2 : (k : Int) ≤ (n : Int) := by omega
        clear hown
        go_wp2
        go_quiet (fail)
        go_upto_region 9 with fail
        obtain ⟨W9, hW9⟩ : ∃ W, wr.drewN nq = W := ⟨_, rfl⟩
        have hB9 : Below wr.heap.size wr W9 := by rw [← hW9]; exact below_drewN (Below.refl _ _) nq
        rw [hW9]
        clear hW9 x0 x1 x2 x3 x4 x5 t0
        have sx9 := sx2.keep hB9
        have hX9 := sx9.out.lt
        have hX3 := sx9.hX
        clear sx2
        have o0 := sx9.out.cell 0
        simp at o0
        obtain ⟨x0, x1, x2, x3, x4, x5⟩ := sx9.xb.six
        have hlk : (iv ((js.take k).map InoJ.r)).length = k * 6 := by rw [iv_length, List.length_map, List.length_take]; omega
        have hld : (iv ((js.drop k).map InoJ.r)).length = (n - k) * 6 := by rw [iv_length, List.length_map, List.length_drop]; omega
        have sxE : SX w (W9.drew.alloc (.cells #[] 68)) X nx _ #[.int .i64 D.ino, .int .i64 D.kind, .int .i64 D.links, .slice a1 D.data.length c1, .slice a2 D.ents.length c2, .slice a3 D.attrs.length c3] (.slice (some ⟨g, 0, none⟩) n vc) rs js := sx9.keep ((Below.refl W9.heap.size W9).drew.alloc (Nat.le_refl _) _)
        have oE : (W9.drew.alloc (.cells #[] 68)).ownsRow (w.heap.size + 3) 68 6 (.slice (some ⟨W9.heap.size, 0, none⟩) 0 0) 0 [] := empty_row W9.drew (w.heap.size + 3) 68 6 (by show _ ≤ W9.heap.size; omega)
        have s46 : k = 0 ∨ ∃ ad, (some ⟨g, 0, none⟩ : Option Addr) = some ad ∧ ∀ j u, (iv ((js.take k).map InoJ.r))[j]? = some u → (W9.drew.alloc (.cells #[] 68)).cell? (ad.add j) = some u := .inr ⟨_, rfl, fun j u hj => by rw [Addr.add_lit, Nat.zero_add]; exact sxE.q.cell hjn j u (iv_take_at hj)⟩
        have hX4 : ∀ g4, (g4 = W9.heap.size ∨ g4 = (W9.drew.alloc (.cells #[] 68)).heap.size) → X < g4 := by
          intro g4 h
          rcases h with rfl | rfl
          · exact hX9
          · simp
            omega
        have hBUf : ∀ (U : World) (o : Obj), X < U.heap.size → w.heap.size + 3 ≤ (U.alloc o).heap.size := by
          intro U o h
          simp
          omega
        have hk2m : k + 1 ≤ 2000000 ∧ 0 + k ≤ 2000000 := by omega
        have hBE : w.heap.size + 3 ≤ (W9.drew.alloc (.cells #[] 68)).heap.size := by simp; omega
        go_region_held3 (fun W : World => W.cell? ⟨X, 0, none⟩ = some (.slice (some ⟨g, 0, none⟩) n vc) ∧ W.cell? ⟨w.heap.size + 1, 0, none⟩ = some (.int .i64 D.ino) ∧ W.cell? ⟨w.heap.size + 1, 1, none⟩ = some (.int .i64 D.kind) ∧ W.cell? ⟨w.heap.size + 1, 2, none⟩ = some (.int .i64 D.links) ∧ W.cell? ⟨w.heap.size + 1, 3, none⟩ = some (.slice a1 D.data.length c1) ∧ W.cell? ⟨w.heap.size + 1, 4, none⟩ = some (.slice a2 D.ents.length c2) ∧ W.cell? ⟨w.heap.size + 1, 5, none⟩ = some (.slice a3 D.attrs.length c3)) (go_keep) (first
          | (refine step_app6 (W9.drew.alloc (.cells #[] 68)) (by rfl) (.tmp 41) (.tmp 45) (by rfl) (w.heap.size + 3) W9.heap.size 0 0 [] hBE (by rfl) oE (some ⟨g, 0, none⟩) k vc (by rfl) (iv ((js.take k).map InoJ.r)) hlk s46 (iv_one _) hk2m.2 ?_; intro g4 e4 V o4 hg4 at4 lt4; have sxV := sxE.gr hg4 hX9; have v0 := sxV.out.cell 0; simp at v0; obtain ⟨v1, v2, v3, v4, v5, v6⟩ := sxV.xb.six; have hcL := l3Copy_any D a1 a2 a3 c1 c2 c3 V hsx (InoRd.keep hx sxV.below))
          | (go_at_call 121; (with_reducible refine hcL.mono ?_); rintro e U ⟨b1, d1, b2, d2, b3, d3, rfl, gC, bC⟩; have sxU := sxV.keep bC; have u0 := sxU.out.cell 0; simp at u0; obtain ⟨u1, u2, u3, u4, u5, u6⟩ := sxU.xb.six; have oU := World.ownsRow.alloc (row_keep6 o4 bC) (.cells #[.int .i64 D.ino, .int .i64 D.kind, .int .i64 D.links, .slice b1 D.data.length d1, .slice b2 D.ents.length d2, .slice b3 D.attrs.length d3] 68); rw [Nat.zero_add, List.nil_append] at oU; have hBU := hBUf U (.cells #[.int .i64 D.ino, .int .i64 D.kind, .int .i64 D.links, .slice b1 D.data.length d1, .slice b2 D.ents.length d2, .slice b3 D.attrs.length d3] 68) sxU.out.lt)
          | (refine step_app6 (U.alloc (.cells #[.int .i64 D.ino, .int .i64 D.kind, .int .i64 D.links, .slice b1 D.data.length d1, .slice b2 D.ents.length d2, .slice b3 D.attrs.length d3] 68)) (by rfl) (.tmp 46) (.tmp 49) (by rfl) (w.heap.size + 3) g4 k e4 (iv ((js.take k).map InoJ.r)) hBU (by first | rfl | simp [Act.eval, Act.put]) oU (some ⟨U.heap.size, 0, none⟩) 1 1 (by rfl) (InoR.six ⟨D, b1, d1, b2, d2, b3, d3⟩) rfl (.inr ⟨_, rfl, six_news U ⟨D, b1, d1, b2, d2, b3, d3⟩ _⟩) (six_one _) hk2m.1 ?_; intro g5 e5 Wf o5 hg5 at5 lt5; have hg4X : X < g4 := hX4 g4 at4; have sxF := (sxU.keep ((Below.refl U.heap.size U).alloc (Nat.le_refl _) (.cells #[.int .i64 D.ino, .int .i64 D.kind, .int .i64 D.links, .slice b1 D.data.length d1, .slice b2 D.ents.length d2, .slice b3 D.attrs.length d3] 68))).gr hg5 hg4X; have w0 := sxF.out.cell 0; simp at w0; obtain ⟨w1', w2', w3', w4', w5', w6'⟩ := sxF.xb.six)
          | fail)
        have HF : Hid _ := sxF
        have hBF : w.heap.size + 3 ≤ Wf.heap.size := by have := sxF.out.lt; omega
        have sF : n - k = 0 ∨ ∃ ad, (some ⟨g, k * 6, none⟩ : Option Addr) = some ad ∧ ∀ j u, (iv ((js.drop k).map InoJ.r))[j]? = some u → Wf.cell? (ad.add j) = some u := .inr ⟨_, rfl, fun j u hj => by rw [Addr.add_lit]; exact sxF.q.cell hjn _ u (iv_drop_at hj)⟩
        have hgC : (⟨⟨D, b1, d1, b2, d2, b3, d3⟩, V.heap.size, U.heap.size⟩ : InoJ).G U := gC
        have hUV := bC.size
        have hVW : W9.heap.size + 1 ≤ V.heap.size := by have := hg4.size; simp at this; exact this
        have hg5lt : g5 < V.heap.size ∨ U.heap.size ≤ g5 := by
          rcases at5 with rfl | rfl
          · exact .inl lt4
          · exact .inr (by simp)
        have hUF : U.heap.size + 1 ≤ Wf.heap.size := by have := hg5.size; simp at this; exact this
        have gF := (hgC.al (Nat.le_refl _) (.cells #[.int .i64 D.ino, .int .i64 D.kind, .int .i64 D.links, .slice b1 D.data.length d1, .slice b2 D.ents.length d2, .slice b3 D.attrs.length d3] 68)).gr (by simp) hg5 (.inl lt4)
        have hX5 : X < g5 := by
          rcases hg5lt with h | h
          · rcases at5 with rfl | rfl
            · exact hg4X
            · simp; omega
          · omega
        clear w1' w2' w3' w4' w5' w6' u0 u1 u2 u3 u4 u5 u6 v0 v1 v2 v3 v4 v5 v6 x0 x1 x2 x3 x4 x5 o0 sxU sxV sxE sx9 oU oE s46 hcL
        go_wp2_with (first | (at_builtin; refine wpList_app6 Wf rfl (.tmp 51) (.tmp 55) rfl (w.heap.size + 3) g5 (k + 1) e5 _ hBF rfl o5 _ (n - k) _ rfl (iv ((js.drop k).map InoJ.r)) hld sF (iv_one _) (by omega) ?_; intro g6 e6 Wg o6 hg6 at6 lt6; have sxG := sxF.gr hg6 hX5; have m0 := sxG.out.cell 0; have m1 := sxG.out.cell 1; have mf := sxG.out.frozen 0; have r0 := sxG.res.cell 0; have r1 := sxG.res.cell 1; have f0 := sxG.res.frozen 0; have f1 := sxG.res.frozen 1; simp at m0 m1 r0 r1; have ne1 : ¬ w.heap.size + 2 = X := (by omega); have ne2 : ¬ X = w.heap.size + 2 := (by omega); have HG : Hid _ := sxG; clear sxG sxF w0) | fail)
        have hFG := hg6.size
        have hg6lt : g6 < V.heap.size ∨ U.heap.size ≤ g6 := by rcases at6 with rfl | rfl <;> omega
        have hX6 : X < g6 := by rcases at6 with rfl | rfl <;> omega
        have gG := gF.gr (show U.heap.size ≤ _ by omega) hg6 hg5lt
        rw [show k + 1 + (n - k) = n + 1 by omega] at o6
        have q6 := HG.out.q.ins hjn (by omega) ⟨D, a1, c1, a2, c2, a3, c3⟩ ⟨D, b1, d1, b2, d2, b3, d3⟩ rfl (Nat.le_refl _) o6 (fun _ _ _ _ _ _ => rfl) gG ⟨by omega, hUV, by omega⟩ (fun i j e => .inl (by have := HG.out.qx i j e; omega)) hg6lt (fun i j e => .inr (by have := HG.out.qx i j e; omega))
        rw [show k + 1 + (n - k) = n + 1 by omega]
        have hjs : ∀ (i : Nat) (j : InoJ), (js.take k ++ ⟨⟨D, b1, d1, b2, d2, b3, d3⟩, V.heap.size, U.heap.size⟩ :: js.drop k)[i]? = some j → X < j.lo ∨ j.hi ≤ X := by
          intro i j e
          rcases List.mem_append.1 (List.mem_of_getElem? e) with h | h
          · obtain ⟨i0, e0⟩ := List.getElem?_of_mem (List.mem_of_mem_take h)
            exact .inr (HG.out.qx i0 j e0)
          · rcases List.mem_cons.1 h with rfl | h
            · exact .inl (by show X < V.heap.size; omega)
            · obtain ⟨i0, e0⟩ := List.getElem?_of_mem (List.mem_of_mem_drop h)
              exact .inr (HG.out.qx i0 j e0)
        have hvX : ∀ m, (Value.slice (some ⟨g6, 0, none⟩) (n + 1) e6).ownBlock = some m → m ≠ X := fun m hm => by simp [Value.ownBlock] at hm; omega
        have zf := (((HG.out.res.other (show w.heap.size + 2 ≠ X by omega) 0 (.slice (some ⟨g6, 0, none⟩) (n + 1) e6))).set 0 (.slice (some ⟨g6, 0, none⟩) (n + 1) e6)).set 1 (.int .i64 nx)
        have dd0 := zf.cell 0
        have dd1 := zf.cell 1
        simp at dd0 dd1
        refine bodyPost_ret (v := .agg #[.slice (some ⟨g6, 0, none⟩) (n + 1) e6, .int .i64 nx]) (by simp [results, Tryz.f71, go_sem, dd0, dd1]) rfl ?_
        have hl : (js.take k ++ ⟨⟨D, b1, d1, b2, d2, b3, d3⟩, V.heap.size, U.heap.size⟩ :: js.drop k).length = n + 1 := by simp; omega
        refine ⟨some ⟨g6, 0, none⟩, e6, js.take k ++ ⟨⟨D, b1, d1, b2, d2, b3, d3⟩, V.heap.size, U.heap.size⟩ :: js.drop k, by rw [hl], ?_, ?_⟩
        · rw [hl]
          have qA := q6.setY (X := X) hvX hjs 0 (.slice (some ⟨g6, 0, none⟩) (n + 1) e6)
          have qB := qA.setX (X := w.heap.size + 1 + 1) (Nat.lt_succ_self _) 0 (.slice (some ⟨g6, 0, none⟩) (n + 1) e6)
          have qC := qB.setX (X := w.heap.size + 1 + 1) (Nat.lt_succ_self _) 1 (.int .i64 nx)
          exact qC.lower (Nat.le_add_right _ 3)
        · exact ((HG.out.below.setCell (p := ⟨X, 0, none⟩) (by simp only; omega) _).setCell (p := ⟨w.heap.size + 2, 0, none⟩) (by simp only; omega) _).setCell (p := ⟨w.heap.size + 2, 1, none⟩) (by simp only; omega) _
      · have hki : ¬ (k : Int) < (n : Int) := by omega
        have hd1 : decide ((k : Int) < (n : Int)) = false := by simpa using hki
        have hkn2 : (k : Int) ≤ (n : Int) := by omega
        clear hPlt hPge
        rcases sx2.q.cases hjn with ⟨rfl, hj0, hn0, hc0⟩ | ⟨g, rfl, hgB, hown⟩
        · have hk00 : Hid (k = 0) := by show k = 0; omega
          obtain rfl : k = n := by omega
          obtain rfl : k = vc := by omega
          clear hj0 hn0 hc0
          have hkc : (k : Int) ≤ (k : Int) := Int.le_refl _
          go_wp2
          go_quiet (fail)
          go_upto_region 9 with fail
          obtain ⟨W9, hW9⟩ : ∃ W, wr.drewN nq = W := ⟨_, rfl⟩
          have hB9 : Below wr.heap.size wr W9 := by rw [← hW9]; exact below_drewN (Below.refl _ _) nq
          rw [hW9]
          clear hW9 x0 x1 x2 x3 x4 x5 t0
          have sx9 := sx2.keep hB9
          have hX9 := sx9.out.lt
          have hX3 := sx9.hX
          clear sx2
          have o0 := sx9.out.cell 0
          simp at o0
          obtain ⟨x0, x1, x2, x3, x4, x5⟩ := sx9.xb.six
          have hlk : (iv ((js.take k).map InoJ.r)).length = k * 6 := by rw [iv_length, List.length_map, List.length_take]; omega
          have hld : (iv ((js.drop k).map InoJ.r)).length = (k - k) * 6 := by rw [iv_length, List.length_map, List.length_drop]; omega
          have sxE : SX w (W9.drew.alloc (.cells #[] 68)) X nx _ #[.int .i64 D.ino, .int .i64 D.kind, .int .i64 D.links, .slice a1 D.data.length c1, .slice a2 D.ents.length c2, .slice a3 D.attrs.length c3] (.slice none k k) rs js := sx9.keep ((Below.refl W9.heap.size W9).drew.alloc (Nat.le_refl _) _)
          have oE : (W9.drew.alloc (.cells #[] 68)).ownsRow (w.heap.size + 3) 68 6 (.slice (some ⟨W9.heap.size, 0, none⟩) 0 0) 0 [] := empty_row W9.drew (w.heap.size + 3) 68 6 (by show _ ≤ W9.heap.size; omega)
          have s46 : k = 0 ∨ ∃ ad, (none : Option Addr) = some ad ∧ ∀ j u, (iv ((js.take k).map InoJ.r))[j]? = some u → (W9.drew.alloc (.cells #[] 68)).cell? (ad.add j) = some u := .inl hk00.out
          have hX4 : ∀ g4, (g4 = W9.heap.size ∨ g4 = (W9.drew.alloc (.cells #[] 68)).heap.size) → X < g4 := by
            intro g4 h
            rcases h with rfl | rfl
            · exact hX9
            · simp
              omega
          have hBUf : ∀ (U : World) (o : Obj), X < U.heap.size → w.heap.size + 3 ≤ (U.alloc o).heap.size := by
            intro U o h
            simp
            omega
          have hk2m : k + 1 ≤ 2000000 ∧ 0 + k ≤ 2000000 := by omega
          have hBE : w.heap.size + 3 ≤ (W9.drew.alloc (.cells #[] 68)).heap.size := by simp; omega
          go_region_held3 (fun W : World => W.cell? ⟨X, 0, none⟩ = some (.slice none k k) ∧ W.cell? ⟨w.heap.size + 1, 0, none⟩ = some (.int .i64 D.ino) ∧ W.cell? ⟨w.heap.size + 1, 1, none⟩ = some (.int .i64 D.kind) ∧ W.cell? ⟨w.heap.size + 1, 2, none⟩ = some (.int .i64 D.links) ∧ W.cell? ⟨w.heap.size + 1, 3, none⟩ = some (.slice a1 D.data.length c1) ∧ W.cell? ⟨w.heap.size + 1, 4, none⟩ = some (.slice a2 D.ents.length c2) ∧ W.cell? ⟨w.heap.size + 1, 5, none⟩ = some (.slice a3 D.attrs.length c3)) (go_keep) (first
            | (refine step_app6 (W9.drew.alloc (.cells #[] 68)) (by rfl) (.tmp 41) (.tmp 45) (by rfl) (w.heap.size + 3) W9.heap.size 0 0 [] hBE (by rfl) oE none k k (by rfl) (iv ((js.take k).map InoJ.r)) hlk s46 (iv_one _) hk2m.2 ?_; intro g4 e4 V o4 hg4 at4 lt4; have sxV := sxE.gr hg4 hX9; have v0 := sxV.out.cell 0; simp at v0; obtain ⟨v1, v2, v3, v4, v5, v6⟩ := sxV.xb.six; have hcL := l3Copy_any D a1 a2 a3 c1 c2 c3 V hsx (InoRd.keep hx sxV.below))
            | (go_at_call 121; (with_reducible refine hcL.mono ?_); rintro e U ⟨b1, d1, b2, d2, b3, d3, rfl, gC, bC⟩; have sxU := sxV.keep bC; have u0 := sxU.out.cell 0; simp at u0; obtain ⟨u1, u2, u3, u4, u5, u6⟩ := sxU.xb.six; have oU := World.ownsRow.alloc (row_keep6 o4 bC) (.cells #[.int .i64 D.ino, .int .i64 D.kind, .int .i64 D.links, .slice b1 D.data.length d1, .slice b2 D.ents.length d2, .slice b3 D.attrs.length d3] 68); rw [Nat.zero_add, List.nil_append] at oU; have hBU := hBUf U (.cells #[.int .i64 D.ino, .int .i64 D.kind, .int .i64 D.links, .slice b1 D.data.length d1, .slice b2 D.ents.length d2, .slice b3 D.attrs.length d3] 68) sxU.out.lt)
            | (refine step_app6 (U.alloc (.cells #[.int .i64 D.ino, .int .i64 D.kind, .int .i64 D.links, .slice b1 D.data.length d1, .slice b2 D.ents.length d2, .slice b3 D.attrs.length d3] 68)) (by rfl) (.tmp 46) (.tmp 49) (by rfl) (w.heap.size + 3) g4 k e4 (iv ((js.take k).map InoJ.r)) hBU (by first | rfl | simp [Act.eval, Act.put]) oU (some ⟨U.heap.size, 0, none⟩) 1 1 (by rfl) (InoR.six ⟨D, b1, d1, b2, d2, b3, d3⟩) rfl (.inr ⟨_, rfl, six_news U ⟨D, b1, d1, b2, d2, b3, d3⟩ _⟩) (six_one _) hk2m.1 ?_; intro g5 e5 Wf o5 hg5 at5 lt5; have hg4X : X < g4 := hX4 g4 at4; have sxF := (sxU.keep ((Below.refl U.heap.size U).alloc (Nat.le_refl _) (.cells #[.int .i64 D.ino, .int .i64 D.kind, .int .i64 D.links, .slice b1 D.data.length d1, .slice b2 D.ents.length d2, .slice b3 D.attrs.length d3] 68))).gr hg5 hg4X; have w0 := sxF.out.cell 0; simp at w0; obtain ⟨w1', w2', w3', w4', w5', w6'⟩ := sxF.xb.six)
            | fail)
          have hgC : (⟨⟨D, b1, d1, b2, d2, b3, d3⟩, V.heap.size, U.heap.size⟩ : InoJ).G U := gC
          have hUV := bC.size
          have hVW : W9.heap.size + 1 ≤ V.heap.size := by have := hg4.size; simp at this; exact this
          have hg5lt : g5 < V.heap.size ∨ U.heap.size ≤ g5 := by
            rcases at5 with rfl | rfl
            · exact .inl lt4
            · exact .inr (by simp)
          have hUF : U.heap.size + 1 ≤ Wf.heap.size := by have := hg5.size; simp at this; exact this
          have gF := (hgC.al (Nat.le_refl _) (.cells #[.int .i64 D.ino, .int .i64 D.kind, .int .i64 D.links, .slice b1 D.data.length d1, .slice b2 D.ents.length d2, .slice b3 D.attrs.length d3] 68)).gr (by simp) hg5 (.inl lt4)
          have hX5 : X < g5 := by
            rcases hg5lt with h | h
            · rcases at5 with rfl | rfl
              · exact hg4X
              · simp; omega
            · omega
          clear w1' w2' w3' w4' w5' w6' u0 u1 u2 u3 u4 u5 u6 v0 v1 v2 v3 v4 v5 v6 x0 x1 x2 x3 x4 x5 o0 sxU sxV sxE sx9 oU oE s46 hcL
          have m1 := sxF.out.cell 1
          have mf := sxF.out.frozen 0
          have r0 := sxF.res.cell 0
          have r1 := sxF.res.cell 1
          have f0 := sxF.res.frozen 0
          have f1 := sxF.res.frozen 1
          simp at m1 r0 r1
          have ne1 : ¬ w.heap.size + 2 = X := by omega
          have ne2 : ¬ X = w.heap.size + 2 := by omega
          have HG : Hid _ := sxF
          have hke : k + 1 ≤ e5 := row_cap o5
          clear sxF
          go_wp2
          have hdr : js.drop k = [] := List.drop_of_length_le (by omega)
          have q6 := HG.out.q.ins hjn (Nat.le_refl _) ⟨D, a1, c1, a2, c2, a3, c3⟩ ⟨D, b1, d1, b2, d2, b3, d3⟩ rfl (Nat.le_refl _) (by rw [hdr]; simpa [iv] using o5) (fun _ _ _ _ _ _ => rfl) gF ⟨by omega, hUV, by omega⟩ (fun i j e => .inl (by have := HG.out.qx i j e; omega)) hg5lt (fun i j e => .inr (by have := HG.out.qx i j e; omega))
          have hjs : ∀ (i : Nat) (j : InoJ), (js.take k ++ ⟨⟨D, b1, d1, b2, d2, b3, d3⟩, V.heap.size, U.heap.size⟩ :: js.drop k)[i]? = some j → X < j.lo ∨ j.hi ≤ X := by
            intro i j e
            rcases List.mem_append.1 (List.mem_of_getElem? e) with h | h
            · obtain ⟨i0, e0⟩ := List.getElem?_of_mem (List.mem_of_mem_take h)
              exact .inr (HG.out.qx i0 j e0)
            · rcases List.mem_cons.1 h with rfl | h
              · exact .inl (by show X < V.heap.size; omega)
              · obtain ⟨i0, e0⟩ := List.getElem?_of_mem (List.mem_of_mem_drop h)
                exact .inr (HG.out.qx i0 j e0)
          have hvX : ∀ m, (Value.slice (some ⟨g5, 0, none⟩) (k + 1) e5).ownBlock = some m → m ≠ X := fun m hm => by simp [Value.ownBlock] at hm; omega
          have zf := (((HG.out.res.other (show w.heap.size + 2 ≠ X by omega) 0 (.slice (some ⟨g5, 0, none⟩) (k + 1) e5))).set 0 (.slice (some ⟨g5, 0, none⟩) (k + 1) e5)).set 1 (.int .i64 nx)
          have dd0 := zf.cell 0
          have dd1 := zf.cell 1
          simp at dd0 dd1
          refine bodyPost_ret (v := .agg #[.slice (some ⟨g5, 0, none⟩) (k + 1) e5, .int .i64 nx]) (by simp [results, Tryz.f71, go_sem, dd0, dd1]) rfl ?_
          have hl : (js.take k ++ ⟨⟨D, b1, d1, b2, d2, b3, d3⟩, V.heap.size, U.heap.size⟩ :: js.drop k).length = k + 1 := by simp; omega
          refine ⟨some ⟨g5, 0, none⟩, e5, js.take k ++ ⟨⟨D, b1, d1, b2, d2, b3, d3⟩, V.heap.size, U.heap.size⟩ :: js.drop k, by rw [hl], ?_, ?_⟩
          · rw [hl]
            have qA := q6.setY (X := X) hvX hjs 0 (.slice (some ⟨g5, 0, none⟩) (k + 1) e5)
            have qB := qA.setX (X := w.heap.size + 1 + 1) (Nat.lt_succ_self _) 0 (.slice (some ⟨g5, 0, none⟩) (k + 1) e5)
            have qC := qB.setX (X := w.heap.size + 1 + 1) (Nat.lt_succ_self _) 1 (.int .i64 nx)
            exact qC.lower (Nat.le_add_right _ 3)
          · exact ((HG.out.below.setCell (p := ⟨X, 0, none⟩) (by simp only; omega) _).setCell (p := ⟨w.heap.size + 2, 0, none⟩) (by simp only; omega) _).setCell (p := ⟨w.heap.size + 2, 1, none⟩) (by simp only; omega) _
        · have hvc := own_cap hown
          have hkc : (k : Int) ≤ (vc : Int) := by omega
          clear hown
          by_cases hvk : k = vc
          · subst hvk
            obtain rfl : k = n := by omega
            go_wp2
            go_quiet (fail)
            go_upto_region 9 with fail
            obtain ⟨W9, hW9⟩ : ∃ W, wr.drewN nq = W := ⟨_, rfl⟩
            have hB9 : Below wr.heap.size wr W9 := by rw [← hW9]; exact below_drewN (Below.refl _ _) nq
            rw [hW9]
            clear hW9 x0 x1 x2 x3 x4 x5 t0
            have sx9 := sx2.keep hB9
            have hX9 := sx9.out.lt
            have hX3 := sx9.hX
            clear sx2
            have o0 := sx9.out.cell 0
            simp at o0
            obtain ⟨x0, x1, x2, x3, x4, x5⟩ := sx9.xb.six
            have hlk : (iv ((js.take k).map InoJ.r)).length = k * 6 := by rw [iv_length, List.length_map, List.length_take]; omega
            have hld : (iv ((js.drop k).map InoJ.r)).length = (k - k) * 6 := by rw [iv_length, List.length_map, List.length_drop]; omega
            have sxE : SX w (W9.drew.alloc (.cells #[] 68)) X nx _ #[.int .i64 D.ino, .int .i64 D.kind, .int .i64 D.links, .slice a1 D.data.length c1, .slice a2 D.ents.length c2, .slice a3 D.attrs.length c3] (.slice (some ⟨g, 0, none⟩) k k) rs js := sx9.keep ((Below.refl W9.heap.size W9).drew.alloc (Nat.le_refl _) _)
            have oE : (W9.drew.alloc (.cells #[] 68)).ownsRow (w.heap.size + 3) 68 6 (.slice (some ⟨W9.heap.size, 0, none⟩) 0 0) 0 [] := empty_row W9.drew (w.heap.size + 3) 68 6 (by show _ ≤ W9.heap.size; omega)
            have s46 : k = 0 ∨ ∃ ad, (some ⟨g, 0, none⟩ : Option Addr) = some ad ∧ ∀ j u, (iv ((js.take k).map InoJ.r))[j]? = some u → (W9.drew.alloc (.cells #[] 68)).cell? (ad.add j) = some u := .inr ⟨_, rfl, fun j u hj => by rw [Addr.add_lit, Nat.zero_add]; exact sxE.q.cell hjn j u (iv_take_at hj)⟩
            have hX4 : ∀ g4, (g4 = W9.heap.size ∨ g4 = (W9.drew.alloc (.cells #[] 68)).heap.size) → X < g4 := by
              intro g4 h
              rcases h with rfl | rfl
              · exact hX9
              · simp
                omega
            have hBUf : ∀ (U : World) (o : Obj), X < U.heap.size → w.heap.size + 3 ≤ (U.alloc o).heap.size := by
              intro U o h
              simp
              omega
            have hk2m : k + 1 ≤ 2000000 ∧ 0 + k ≤ 2000000 := by omega
            have hBE : w.heap.size + 3 ≤ (W9.drew.alloc (.cells #[] 68)).heap.size := by simp; omega
            go_region_held3 (fun W : World => W.cell? ⟨X, 0, none⟩ = some (.slice (some ⟨g, 0, none⟩) k k) ∧ W.cell? ⟨w.heap.size + 1, 0, none⟩ = some (.int .i64 D.ino) ∧ W.cell? ⟨w.heap.size + 1, 1, none⟩ = some (.int .i64 D.kind) ∧ W.cell? ⟨w.heap.size + 1, 2, none⟩ = some (.int .i64 D.links) ∧ W.cell? ⟨w.heap.size + 1, 3, none⟩ = some (.slice a1 D.data.length c1) ∧ W.cell? ⟨w.heap.size + 1, 4, none⟩ = some (.slice a2 D.ents.length c2) ∧ W.cell? ⟨w.heap.size + 1, 5, none⟩ = some (.slice a3 D.attrs.length c3)) (go_keep) (first
              | (refine step_app6 (W9.drew.alloc (.cells #[] 68)) (by rfl) (.tmp 41) (.tmp 45) (by rfl) (w.heap.size + 3) W9.heap.size 0 0 [] hBE (by rfl) oE (some ⟨g, 0, none⟩) k k (by rfl) (iv ((js.take k).map InoJ.r)) hlk s46 (iv_one _) hk2m.2 ?_; intro g4 e4 V o4 hg4 at4 lt4; have sxV := sxE.gr hg4 hX9; have v0 := sxV.out.cell 0; simp at v0; obtain ⟨v1, v2, v3, v4, v5, v6⟩ := sxV.xb.six; have hcL := l3Copy_any D a1 a2 a3 c1 c2 c3 V hsx (InoRd.keep hx sxV.below))
              | (go_at_call 121; (with_reducible refine hcL.mono ?_); rintro e U ⟨b1, d1, b2, d2, b3, d3, rfl, gC, bC⟩; have sxU := sxV.keep bC; have u0 := sxU.out.cell 0; simp at u0; obtain ⟨u1, u2, u3, u4, u5, u6⟩ := sxU.xb.six; have oU := World.ownsRow.alloc (row_keep6 o4 bC) (.cells #[.int .i64 D.ino, .int .i64 D.kind, .int .i64 D.links, .slice b1 D.data.length d1, .slice b2 D.ents.length d2, .slice b3 D.attrs.length d3] 68); rw [Nat.zero_add, List.nil_append] at oU; have hBU := hBUf U (.cells #[.int .i64 D.ino, .int .i64 D.kind, .int .i64 D.links, .slice b1 D.data.length d1, .slice b2 D.ents.length d2, .slice b3 D.attrs.length d3] 68) sxU.out.lt)
              | (refine step_app6 (U.alloc (.cells #[.int .i64 D.ino, .int .i64 D.kind, .int .i64 D.links, .slice b1 D.data.length d1, .slice b2 D.ents.length d2, .slice b3 D.attrs.length d3] 68)) (by rfl) (.tmp 46) (.tmp 49) (by rfl) (w.heap.size + 3) g4 k e4 (iv ((js.take k).map InoJ.r)) hBU (by first | rfl | simp [Act.eval, Act.put]) oU (some ⟨U.heap.size, 0, none⟩) 1 1 (by rfl) (InoR.six ⟨D, b1, d1, b2, d2, b3, d3⟩) rfl (.inr ⟨_, rfl, six_news U ⟨D, b1, d1, b2, d2, b3, d3⟩ _⟩) (six_one _) hk2m.1 ?_; intro g5 e5 Wf o5 hg5 at5 lt5; have hg4X : X < g4 := hX4 g4 at4; have sxF := (sxU.keep ((Below.refl U.heap.size U).alloc (Nat.le_refl _) (.cells #[.int .i64 D.ino, .int .i64 D.kind, .int .i64 D.links, .slice b1 D.data.length d1, .slice b2 D.ents.length d2, .slice b3 D.attrs.length d3] 68))).gr hg5 hg4X; have w0 := sxF.out.cell 0; simp at w0; obtain ⟨w1', w2', w3', w4', w5', w6'⟩ := sxF.xb.six)
              | fail)
            have hgC : (⟨⟨D, b1, d1, b2, d2, b3, d3⟩, V.heap.size, U.heap.size⟩ : InoJ).G U := gC
            have hUV := bC.size
            have hVW : W9.heap.size + 1 ≤ V.heap.size := by have := hg4.size; simp at this; exact this
            have hg5lt : g5 < V.heap.size ∨ U.heap.size ≤ g5 := by
              rcases at5 with rfl | rfl
              · exact .inl lt4
              · exact .inr (by simp)
            have hUF : U.heap.size + 1 ≤ Wf.heap.size := by have := hg5.size; simp at this; exact this
            have gF := (hgC.al (Nat.le_refl _) (.cells #[.int .i64 D.ino, .int .i64 D.kind, .int .i64 D.links, .slice b1 D.data.length d1, .slice b2 D.ents.length d2, .slice b3 D.attrs.length d3] 68)).gr (by simp) hg5 (.inl lt4)
            have hX5 : X < g5 := by
              rcases hg5lt with h | h
              · rcases at5 with rfl | rfl
                · exact hg4X
                · simp; omega
              · omega
            clear w1' w2' w3' w4' w5' w6' u0 u1 u2 u3 u4 u5 u6 v0 v1 v2 v3 v4 v5 v6 x0 x1 x2 x3 x4 x5 o0 sxU sxV sxE sx9 oU oE s46 hcL
            have m1 := sxF.out.cell 1
            have mf := sxF.out.frozen 0
            have r0 := sxF.res.cell 0
            have r1 := sxF.res.cell 1
            have f0 := sxF.res.frozen 0
            have f1 := sxF.res.frozen 1
            simp at m1 r0 r1
            have ne1 : ¬ w.heap.size + 2 = X := by omega
            have ne2 : ¬ X = w.heap.size + 2 := by omega
            have HG : Hid _ := sxF
            have hke : k + 1 ≤ e5 := row_cap o5
            clear sxF
            go_wp2
            have hdr : js.drop k = [] := List.drop_of_length_le (by omega)
            have q6 := HG.out.q.ins hjn (Nat.le_refl _) ⟨D, a1, c1, a2, c2, a3, c3⟩ ⟨D, b1, d1, b2, d2, b3, d3⟩ rfl (Nat.le_refl _) (by rw [hdr]; simpa [iv] using o5) (fun _ _ _ _ _ _ => rfl) gF ⟨by omega, hUV, by omega⟩ (fun i j e => .inl (by have := HG.out.qx i j e; omega)) hg5lt (fun i j e => .inr (by have := HG.out.qx i j e; omega))
            have hjs : ∀ (i : Nat) (j : InoJ), (js.take k ++ ⟨⟨D, b1, d1, b2, d2, b3, d3⟩, V.heap.size, U.heap.size⟩ :: js.drop k)[i]? = some j → X < j.lo ∨ j.hi ≤ X := by
              intro i j e
              rcases List.mem_append.1 (List.mem_of_getElem? e) with h | h
              · obtain ⟨i0, e0⟩ := List.getElem?_of_mem (List.mem_of_mem_take h)
                exact .inr (HG.out.qx i0 j e0)
              · rcases List.mem_cons.1 h with rfl | h
                · exact .inl (by show X < V.heap.size; omega)
                · obtain ⟨i0, e0⟩ := List.getElem?_of_mem (List.mem_of_mem_drop h)
                  exact .inr (HG.out.qx i0 j e0)
            have hvX : ∀ m, (Value.slice (some ⟨g5, 0, none⟩) (k + 1) e5).ownBlock = some m → m ≠ X := fun m hm => by simp [Value.ownBlock] at hm; omega
            have zf := (((HG.out.res.other (show w.heap.size + 2 ≠ X by omega) 0 (.slice (some ⟨g5, 0, none⟩) (k + 1) e5))).set 0 (.slice (some ⟨g5, 0, none⟩) (k + 1) e5)).set 1 (.int .i64 nx)
            have dd0 := zf.cell 0
            have dd1 := zf.cell 1
            simp at dd0 dd1
            refine bodyPost_ret (v := .agg #[.slice (some ⟨g5, 0, none⟩) (k + 1) e5, .int .i64 nx]) (by simp [results, Tryz.f71, go_sem, dd0, dd1]) rfl ?_
            have hl : (js.take k ++ ⟨⟨D, b1, d1, b2, d2, b3, d3⟩, V.heap.size, U.heap.size⟩ :: js.drop k).length = k + 1 := by simp; omega
            refine ⟨some ⟨g5, 0, none⟩, e5, js.take k ++ ⟨⟨D, b1, d1, b2, d2, b3, d3⟩, V.heap.size, U.heap.size⟩ :: js.drop k, by rw [hl], ?_, ?_⟩
            · rw [hl]
              have qA := q6.setY (X := X) hvX hjs 0 (.slice (some ⟨g5, 0, none⟩) (k + 1) e5)
              have qB := qA.setX (X := w.heap.size + 1 + 1) (Nat.lt_succ_self _) 0 (.slice (some ⟨g5, 0, none⟩) (k + 1) e5)
              have qC := qB.setX (X := w.heap.size + 1 + 1) (Nat.lt_succ_self _) 1 (.int .i64 nx)
              exact qC.lower (Nat.le_add_right _ 3)
            · exact ((HG.out.below.setCell (p := ⟨X, 0, none⟩) (by simp only; omega) _).setCell (p := ⟨w.heap.size + 2, 0, none⟩) (by simp only; omega) _).setCell (p := ⟨w.heap.size + 2, 1, none⟩) (by simp only; omega) _
          · have hvk' : ¬ vc = k := fun e => hvk e.symm
            clear hvk
            go_wp2
            go_quiet (fail)
            go_upto_region 9 with fail
            obtain ⟨W9, hW9⟩ : ∃ W, wr.drewN nq = W := ⟨_, rfl⟩
            have hB9 : Below wr.heap.size wr W9 := by rw [← hW9]; exact below_drewN (Below.refl _ _) nq
            rw [hW9]
            clear hW9 x0 x1 x2 x3 x4 x5 t0
            have sx9 := sx2.keep hB9
            have hX9 := sx9.out.lt
            have hX3 := sx9.hX
            clear sx2
            have o0 := sx9.out.cell 0
            simp at o0
            obtain ⟨x0, x1, x2, x3, x4, x5⟩ := sx9.xb.six
            have hlk : (iv ((js.take k).map InoJ.r)).length = k * 6 := by rw [iv_length, List.length_map, List.length_take]; omega
            have hld : (iv ((js.drop k).map InoJ.r)).length = (n - k) * 6 := by rw [iv_length, List.length_map, List.length_drop]; omega
            have sxE : SX w (W9.drew.alloc (.cells #[] 68)) X nx _ #[.int .i64 D.ino, .int .i64 D.kind, .int .i64 D.links, .slice a1 D.data.length c1, .slice a2 D.ents.length c2, .slice a3 D.attrs.length c3] (.slice (some ⟨g, 0, none⟩) n vc) rs js := sx9.keep ((Below.refl W9.heap.size W9).drew.alloc (Nat.le_refl _) _)
            have oE : (W9.drew.alloc (.cells #[] 68)).ownsRow (w.heap.size + 3) 68 6 (.slice (some ⟨W9.heap.size, 0, none⟩) 0 0) 0 [] := empty_row W9.drew (w.heap.size + 3) 68 6 (by show _ ≤ W9.heap.size; omega)
            have s46 : k = 0 ∨ ∃ ad, (some ⟨g, 0, none⟩ : Option Addr) = some ad ∧ ∀ j u, (iv ((js.take k).map InoJ.r))[j]? = some u → (W9.drew.alloc (.cells #[] 68)).cell? (ad.add j) = some u := .inr ⟨_, rfl, fun j u hj => by rw [Addr.add_lit, Nat.zero_add]; exact sxE.q.cell hjn j u (iv_take_at hj)⟩
            have hX4 : ∀ g4, (g4 = W9.heap.size ∨ g4 = (W9.drew.alloc (.cells #[] 68)).heap.size) → X < g4 := by
              intro g4 h
              rcases h with rfl | rfl
              · exact hX9
              · simp
                omega
            have hBUf : ∀ (U : World) (o : Obj), X < U.heap.size → w.heap.size + 3 ≤ (U.alloc o).heap.size := by
              intro U o h
              simp
              omega
            have hk2m : k + 1 ≤ 2000000 ∧ 0 + k ≤ 2000000 := by omega
            have hBE : w.heap.size + 3 ≤ (W9.drew.alloc (.cells #[] 68)).heap.size := by simp; omega
            go_region_held3 (fun W : World => W.cell? ⟨X, 0, none⟩ = some (.slice (some ⟨g, 0, none⟩) n vc) ∧ W.cell? ⟨w.heap.size + 1, 0, none⟩ = some (.int .i64 D.ino) ∧ W.cell? ⟨w.heap.size + 1, 1, none⟩ = some (.int .i64 D.kind) ∧ W.cell? ⟨w.heap.size + 1, 2, none⟩ = some (.int .i64 D.links) ∧ W.cell? ⟨w.heap.size + 1, 3, none⟩ = some (.slice a1 D.data.length c1) ∧ W.cell? ⟨w.heap.size + 1, 4, none⟩ = some (.slice a2 D.ents.length c2) ∧ W.cell? ⟨w.heap.size + 1, 5, none⟩ = some (.slice a3 D.attrs.length c3)) (go_keep) (first
              | (refine step_app6 (W9.drew.alloc (.cells #[] 68)) (by rfl) (.tmp 41) (.tmp 45) (by rfl) (w.heap.size + 3) W9.heap.size 0 0 [] hBE (by rfl) oE (some ⟨g, 0, none⟩) k vc (by rfl) (iv ((js.take k).map InoJ.r)) hlk s46 (iv_one _) hk2m.2 ?_; intro g4 e4 V o4 hg4 at4 lt4; have sxV := sxE.gr hg4 hX9; have v0 := sxV.out.cell 0; simp at v0; obtain ⟨v1, v2, v3, v4, v5, v6⟩ := sxV.xb.six; have hcL := l3Copy_any D a1 a2 a3 c1 c2 c3 V hsx (InoRd.keep hx sxV.below))
              | (go_at_call 121; (with_reducible refine hcL.mono ?_); rintro e U ⟨b1, d1, b2, d2, b3, d3, rfl, gC, bC⟩; have sxU := sxV.keep bC; have u0 := sxU.out.cell 0; simp at u0; obtain ⟨u1, u2, u3, u4, u5, u6⟩ := sxU.xb.six; have oU := World.ownsRow.alloc (row_keep6 o4 bC) (.cells #[.int .i64 D.ino, .int .i64 D.kind, .int .i64 D.links, .slice b1 D.data.length d1, .slice b2 D.ents.length d2, .slice b3 D.attrs.length d3] 68); rw [Nat.zero_add, List.nil_append] at oU; have hBU := hBUf U (.cells #[.int .i64 D.ino, .int .i64 D.kind, .int .i64 D.links, .slice b1 D.data.length d1, .slice b2 D.ents.length d2, .slice b3 D.attrs.length d3] 68) sxU.out.lt)
              | (refine step_app6 (U.alloc (.cells #[.int .i64 D.ino, .int .i64 D.kind, .int .i64 D.links, .slice b1 D.data.length d1, .slice b2 D.ents.length d2, .slice b3 D.attrs.length d3] 68)) (by rfl) (.tmp 46) (.tmp 49) (by rfl) (w.heap.size + 3) g4 k e4 (iv ((js.take k).map InoJ.r)) hBU (by first | rfl | simp [Act.eval, Act.put]) oU (some ⟨U.heap.size, 0, none⟩) 1 1 (by rfl) (InoR.six ⟨D, b1, d1, b2, d2, b3, d3⟩) rfl (.inr ⟨_, rfl, six_news U ⟨D, b1, d1, b2, d2, b3, d3⟩ _⟩) (six_one _) hk2m.1 ?_; intro g5 e5 Wf o5 hg5 at5 lt5; have hg4X : X < g4 := hX4 g4 at4; have sxF := (sxU.keep ((Below.refl U.heap.size U).alloc (Nat.le_refl _) (.cells #[.int .i64 D.ino, .int .i64 D.kind, .int .i64 D.links, .slice b1 D.data.length d1, .slice b2 D.ents.length d2, .slice b3 D.attrs.length d3] 68))).gr hg5 hg4X; have w0 := sxF.out.cell 0; simp at w0; obtain ⟨w1', w2', w3', w4', w5', w6'⟩ := sxF.xb.six)
              | fail)
            have HF : Hid _ := sxF
            have hBF : w.heap.size + 3 ≤ Wf.heap.size := by have := sxF.out.lt; omega
            have sF : n - k = 0 ∨ ∃ ad, (some ⟨g, k * 6, none⟩ : Option Addr) = some ad ∧ ∀ j u, (iv ((js.drop k).map InoJ.r))[j]? = some u → Wf.cell? (ad.add j) = some u := .inr ⟨_, rfl, fun j u hj => by rw [Addr.add_lit]; exact sxF.q.cell hjn _ u (iv_drop_at hj)⟩
            have hgC : (⟨⟨D, b1, d1, b2, d2, b3, d3⟩, V.heap.size, U.heap.size⟩ : InoJ).G U := gC
            have hUV := bC.size
            have hVW : W9.heap.size + 1 ≤ V.heap.size := by have := hg4.size; simp at this; exact this
            have hg5lt : g5 < V.heap.size ∨ U.heap.size ≤ g5 := by
              rcases at5 with rfl | rfl
              · exact .inl lt4
              · exact .inr (by simp)
            have hUF : U.heap.size + 1 ≤ Wf.heap.size := by have := hg5.size; simp at this; exact this
            have gF := (hgC.al (Nat.le_refl _) (.cells #[.int .i64 D.ino, .int .i64 D.kind, .int .i64 D.links, .slice b1 D.data.length d1, .slice b2 D.ents.length d2, .slice b3 D.attrs.length d3] 68)).gr (by simp) hg5 (.inl lt4)
            have hX5 : X < g5 := by
              rcases hg5lt with h | h
              · rcases at5 with rfl | rfl
                · exact hg4X
                · simp; omega
              · omega
            clear w1' w2' w3' w4' w5' w6' u0 u1 u2 u3 u4 u5 u6 v0 v1 v2 v3 v4 v5 v6 x0 x1 x2 x3 x4 x5 o0 sxU sxV sxE sx9 oU oE s46 hcL
            go_wp2_with (first | (at_builtin; refine wpList_app6 Wf rfl (.tmp 51) (.tmp 55) rfl (w.heap.size + 3) g5 (k + 1) e5 _ hBF rfl o5 _ (n - k) _ rfl (iv ((js.drop k).map InoJ.r)) hld sF (iv_one _) (by omega) ?_; intro g6 e6 Wg o6 hg6 at6 lt6; have sxG := sxF.gr hg6 hX5; have m0 := sxG.out.cell 0; have m1 := sxG.out.cell 1; have mf := sxG.out.frozen 0; have r0 := sxG.res.cell 0; have r1 := sxG.res.cell 1; have f0 := sxG.res.frozen 0; have f1 := sxG.res.frozen 1; simp at m0 m1 r0 r1; have ne1 : ¬ w.heap.size + 2 = X := (by omega); have ne2 : ¬ X = w.heap.size + 2 := (by omega); have HG : Hid _ := sxG; clear sxG sxF w0) | fail)
            have hFG := hg6.size
            have hg6lt : g6 < V.heap.size ∨ U.heap.size ≤ g6 := by rcases at6 with rfl | rfl <;> omega
            have hX6 : X < g6 := by rcases at6 with rfl | rfl <;> omega
            have gG := gF.gr (show U.heap.size ≤ _ by omega) hg6 hg5lt
            rw [show k + 1 + (n - k) = n + 1 by omega] at o6
            have q6 := HG.out.q.ins hjn (by omega) ⟨D, a1, c1, a2, c2, a3, c3⟩ ⟨D, b1, d1, b2, d2, b3, d3⟩ rfl (Nat.le_refl _) o6 (fun _ _ _ _ _ _ => rfl) gG ⟨by omega, hUV, by omega⟩ (fun i j e => .inl (by have := HG.out.qx i j e; omega)) hg6lt (fun i j e => .inr (by have := HG.out.qx i j e; omega))
            rw [show k + 1 + (n - k) = n + 1 by omega]
            have hjs : ∀ (i : Nat) (j : InoJ), (js.take k ++ ⟨⟨D, b1, d1, b2, d2, b3, d3⟩, V.heap.size, U.heap.size⟩ :: js.drop k)[i]? = some j → X < j.lo ∨ j.hi ≤ X := by
              intro i j e
              rcases List.mem_append.1 (List.mem_of_getElem? e) with h | h
              · obtain ⟨i0, e0⟩ := List.getElem?_of_mem (List.mem_of_mem_take h)
                exact .inr (HG.out.qx i0 j e0)
              · rcases List.mem_cons.1 h with rfl | h
                · exact .inl (by show X < V.heap.size; omega)
                · obtain ⟨i0, e0⟩ := List.getElem?_of_mem (List.mem_of_mem_drop h)
                  exact .inr (HG.out.qx i0 j e0)
            have hvX : ∀ m, (Value.slice (some ⟨g6, 0, none⟩) (n + 1) e6).ownBlock = some m → m ≠ X := fun m hm => by simp [Value.ownBlock] at hm; omega
            have zf := (((HG.out.res.other (show w.heap.size + 2 ≠ X by omega) 0 (.slice (some ⟨g6, 0, none⟩) (n + 1) e6))).set 0 (.slice (some ⟨g6, 0, none⟩) (n + 1) e6)).set 1 (.int .i64 nx)
            have dd0 := zf.cell 0
            have dd1 := zf.cell 1
            simp at dd0 dd1
            refine bodyPost_ret (v := .agg #[.slice (some ⟨g6, 0, none⟩) (n + 1) e6, .int .i64 nx]) (by simp [results, Tryz.f71, go_sem, dd0, dd1]) rfl ?_
            have hl : (js.take k ++ ⟨⟨D, b1, d1, b2, d2, b3, d3⟩, V.heap.size, U.heap.size⟩ :: js.drop k).length = n + 1 := by simp; omega
            refine ⟨some ⟨g6, 0, none⟩, e6, js.take k ++ ⟨⟨D, b1, d1, b2, d2, b3, d3⟩, V.heap.size, U.heap.size⟩ :: js.drop k, by rw [hl], ?_, ?_⟩
            · rw [hl]
              have qA := q6.setY (X := X) hvX hjs 0 (.slice (some ⟨g6, 0, none⟩) (n + 1) e6)
              have qB := qA.setX (X := w.heap.size + 1 + 1) (Nat.lt_succ_self _) 0 (.slice (some ⟨g6, 0, none⟩) (n + 1) e6)
              have qC := qB.setX (X := w.heap.size + 1 + 1) (Nat.lt_succ_self _) 1 (.int .i64 nx)
              exact qC.lower (Nat.le_add_right _ 3)
            · exact ((HG.out.below.setCell (p := ⟨X, 0, none⟩) (by simp only; omega) _).setCell (p := ⟨w.heap.size + 2, 0, none⟩) (by simp only; omega) _).setCell (p := ⟨w.heap.size + 2, 1, none⟩) (by simp only; omega) _
/-- What the specification's SetInode answers. -/
theorem setS (a : Option Addr) (n cap : Nat) (nx : Int) (rs : List InoR) (D : InoD) (a1 a2 a3 : Option Addr) (c1 c2 c3 : Nat) (w : World) (hn : rs.length = n) (hs : n ≤ 1048576) (hsm : ∀ r ∈ rs, InoSmall r.D) (hsx : InoSmall D) (hr : RdI w a rs) (hx : InoRd w D a1 a2 a3) :
    Calls Tryz.prog 71 #[.agg #[.slice a n cap, .int .i64 nx], .agg #[.int .i64 D.ino, .int .i64 D.kind, .int .i64 D.links, .slice a1 D.data.length c1, .slice a2 D.ents.length c2, .slice a3 D.attrs.length c3]] w fun e w' => SetPost w nx (setR rs ⟨D, a1, c1, a2, c2, a3, c3⟩) e w' := by
  cases hp : firstAt (inos rs) D.ino with
  | none => exact setS_none a n cap nx rs D a1 a2 a3 c1 c2 c3 w hn hs hsm hsx hr hx hp
  | some p => exact setS_some a n cap nx rs D a1 a2 a3 c1 c2 c3 w hn hs hsm hsx hr hx p hp
end Go.Proofs.YtmfimoccemgoiaaGreatDoor
