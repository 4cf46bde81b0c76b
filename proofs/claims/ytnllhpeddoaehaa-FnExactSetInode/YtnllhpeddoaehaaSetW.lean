/-
  What the law on SetInode needs: what is known of its tables, marked and compared.
-/
import Derived.Test.YtnllhpeddoaehaaSetI
namespace Go.Proofs.Ytnllhpeddoaehaa
open Go.RowKit

theorem toInode_g (D : InoD) (a1 a2 a3 : Option Addr) (c1 c2 c3 : Nat) (w : World) (hs : InoSmall D) (hr : InoRd w D a1 a2 a3) :
    Calls Try.prog 49 #[.agg #[.int .i64 D.ino, .int .i64 D.kind, .int .i64 D.links, .slice a1 D.data.length c1, .slice a2 D.ents.length c2, .slice a3 D.attrs.length c3]] w fun e w' => ∃ g1 g2 g3 : Nat, e = .returned (.agg #[.int .i64 D.ino, .int .i64 D.kind, .int .i64 D.links, .slice (some ⟨g1, 0, none⟩) D.data.length D.data.length, .slice (some ⟨g2, 0, none⟩) D.ents.length D.ents.length, .slice (some ⟨g3, 0, none⟩) D.attrs.length D.attrs.length]) ∧ InoG w' w.heap.size w'.heap.size D (.slice (some ⟨g1, 0, none⟩) D.data.length D.data.length) (.slice (some ⟨g2, 0, none⟩) D.ents.length D.ents.length) (.slice (some ⟨g3, 0, none⟩) D.attrs.length D.attrs.length) ∧ Below w.heap.size w w' :=
  (toInode_any D a1 a2 a3 c1 c2 c3 w hs.data hs.ents hs.attrs hr).mono fun _ _ ⟨g1, g2, g3, he, h1, h2, h3, ho, hb⟩ => ⟨g1, g2, g3, he, inoOwn_G (B := w.heap.size) ho h1 (by omega) (by omega), hb⟩
theorem inoG_rd {w : World} {B T : Nat} {D : InoD} {a1 a2 a3 : Option Addr} {c1 c2 c3 : Nat} (h : InoG w B T D (.slice a1 D.data.length c1) (.slice a2 D.ents.length c2) (.slice a3 D.attrs.length c3)) : InoRd w D a1 a2 a3 := by
  obtain ⟨b1, d1, b2, d2, b3, d3, e1, e2, e3, hr⟩ := h.form
  simp at e1 e2 e3
  rw [e1.1, e2.1, e3.1]
  exact hr
/-- What both SetInode functions answer of copied arguments. -/
def SetOut (W : World) (nx : Int) (m : Nat) (ds : List InoR) (e : Ending) (w' : World) : Prop :=
  ∃ (a : Option Addr) (c : Nat) (js : List InoJ), e = .returned (.agg #[.slice a m c, .int .i64 nx]) ∧ DQA W.heap.size w' (.slice a m c) ds js ∧ js.length = m ∧ Below W.heap.size W w'
theorem set_out {W w' : World} {nx : Int} {ds ds' : List InoR} {e : Ending} (h : SetPost W nx ds e w') (he : ds.map InoR.D = ds'.map InoR.D) : SetOut W nx ds'.length ds' e w' := by
  obtain ⟨a, c, js, h1, h2, h3⟩ := h
  have hl : js.length = ds'.length := by rw [h2.len]; have := congrArg List.length he; simpa using this
  rw [hl] at h1 h2
  exact ⟨a, c, js, h1, h2.cong he, hl, h3⟩
theorem setSQ {W : World} {B g n : Nat} {rs ts : List InoR} (nx : Int) (r : InoR) {b1 b2 b3 : Option Addr} {d1 d2 d3 : Nat} (hs : n ≤ 1048576) (hsm : ∀ r ∈ rs, InoSmall r.D) (hsx : InoSmall r.D) (h : TabQ W B g n rs ts) (hx : InoRd W r.D b1 b2 b3) :
    Calls Try.prog 31 #[.agg #[.slice (some ⟨g, 0, none⟩) n n, .int .i64 nx], .agg #[.int .i64 r.D.ino, .int .i64 r.D.kind, .int .i64 r.D.links, .slice b1 r.D.data.length d1, .slice b2 r.D.ents.length d2, .slice b3 r.D.attrs.length d3]] W fun e w' => SetOut W nx (setR rs r).length (setR rs r) e w' :=
  (setS (some ⟨g, 0, none⟩) n n nx ts r.D b1 b2 b3 d1 d2 d3 W h.tlen hs (h.cpd.small hsm) hsx h.rd hx).mono fun _ _ hp => set_out hp (setR_D rs ts r ⟨r.D, b1, d1, b2, d2, b3, d3⟩ h.cpd.1 rfl)
theorem setIQ {W : World} {B g n : Nat} {rs ts : List InoR} (nx : Int) (r : InoR) {b1 b2 b3 : Option Addr} {d1 d2 d3 : Nat} (hs : n ≤ 1048576) (hwx : (Lit.int .i64 r.D.ino).wf = true) (hwf : ∀ r ∈ rs, (Lit.int .i64 r.D.ino).wf = true) (hsm : ∀ r ∈ rs, InoSmall r.D) (hsx : InoSmall r.D) (h : TabQ W B g n rs ts) (hx : InoRd W r.D b1 b2 b3) :
    Calls Try.prog 27 #[.agg #[.slice (some ⟨g, 0, none⟩) n n, .int .i64 nx], .agg #[.int .i64 r.D.ino, .int .i64 r.D.kind, .int .i64 r.D.links, .slice b1 r.D.data.length d1, .slice b2 r.D.ents.length d2, .slice b3 r.D.attrs.length d3]] W fun e w' => SetOut W nx (setR rs r).length (setR rs r) e w' :=
  (setI (some ⟨g, 0, none⟩) n n nx ts r.D b1 b2 b3 d1 d2 d3 W h.tlen hs hwx (wf_cong h.cpd.1 hwf) (h.cpd.small hsm) hsx h.rd hx).mono fun _ _ hp => set_out hp (setR_D rs ts r ⟨r.D, b1, d1, b2, d2, b3, d3⟩ h.cpd.1 rfl)
theorem q_bound4 {rs : List InoR} {js : List InoJ} {n : Nat} (h : (js.map InoJ.r).map InoR.D = rs.map InoR.D) (hn : rs.length = n) (hc : n + cntI rs ≤ 1100000) : qAt 1 js n ≤ 4000000 := by
  have hl : js.length = n := by have := congrArg List.length h; simp at this; omega
  unfold qAt
  rw [List.take_of_length_le (by omega), show js.map InoJ.cost = ((js.map InoJ.r).map InoR.D).map costD by simp [InoJ.cost, costD, Function.comp_def], h]
  have := cost_sum rs
  omega

/-- The arguments' boxes. -/
structure ZB (w W : World) (tv xv : Array Value) : Prop where
  below : Below w.heap.size w W
  t : Blk W w.heap.size 57 tv
  x : Blk W (w.heap.size + 1) 66 xv
theorem ZB.keep {w W W' : World} {tv xv : Array Value} (h : ZB w W tv xv) (hb : Below W.heap.size W W') : ZB w W' tv xv := ⟨h.below.trans (hb.mono h.below.size), h.t.keep hb, h.x.keep hb⟩
theorem ZB.outs {w W W' : World} {tv xv : Array Value} {Lo Hi : Nat} (h : ZB w W tv xv) (k : Out Lo Hi W W') (hL : w.heap.size + 2 ≤ Lo) : ZB w W' tv xv := ⟨Below.outs h.below k (by omega) (Nat.le_refl _), h.t.outs k (by omega), h.x.outs k (by omega)⟩
/-- A table that was answered: its box, its parts; all of it below T. -/
structure QS (W : World) (TS BS T U : Nat) (a : Option Addr) (m c : Nat) (nx : Int) (ds : List InoR) (js : List InoJ) : Prop where
  box : Blk W TS 43 #[.slice a m c, .int .i64 nx]
  q : DQA BS W (.slice a m c) ds js
  len : js.length = m
  ap : ApV T (.slice a m c) js
  tT : TS < U ∧ T ≤ U ∧ U ≤ W.heap.size
theorem QS.keep {W W' : World} {TS BS T U : Nat} {a : Option Addr} {m c : Nat} {nx : Int} {ds : List InoR} {js : List InoJ} (h : QS W TS BS T U a m c nx ds js) (hb : Below W.heap.size W W') : QS W' TS BS T U a m c nx ds js :=
  ⟨h.box.keep hb, h.q.keep hb, h.len, h.ap, h.tT.1, h.tT.2.1, Nat.le_trans h.tT.2.2 hb.size⟩
theorem QS.outs {W W' : World} {TS BS T U Lo Hi : Nat} {a : Option Addr} {m c : Nat} {nx : Int} {ds : List InoR} {js : List InoJ} (h : QS W TS BS T U a m c nx ds js) (k : Out Lo Hi W W') (hd : U ≤ Lo) : QS W' TS BS T U a m c nx ds js :=
  ⟨h.box.outs k (by have := h.tT; omega), h.q.outsLow h.ap k (Nat.le_trans h.tT.2.1 hd), h.len, h.ap, h.tT.1, h.tT.2.1, Nat.le_trans h.tT.2.2 k.size⟩
theorem QS.outsHi {W W' : World} {TS BS T U Lo Hi : Nat} {a : Option Addr} {m c : Nat} {nx : Int} {ds : List InoR} {js : List InoJ} (h : QS W TS BS T U a m c nx ds js) (k : Out Lo Hi W W') (h1 : Hi ≤ BS) (h2 : Hi ≤ TS) : QS W' TS BS T U a m c nx ds js :=
  ⟨h.box.outs k (by omega), h.q.outs k h1, h.len, h.ap, h.tT.1, h.tT.2.1, Nat.le_trans h.tT.2.2 k.size⟩
theorem QS.two {W : World} {TS BS T U : Nat} {a : Option Addr} {m c : Nat} {nx : Int} {ds : List InoR} {js : List InoJ} (h : QS W TS BS T U a m c nx ds js) : W.cell? ⟨TS, 0, none⟩ = some (.slice a m c) ∧ W.cell? ⟨TS, 1, none⟩ = some (.int .i64 nx) := ⟨Blk.cell h.box 0, Blk.cell h.box 1⟩
/-- Of the first statement: the answer in a new box. -/
def CutS (W1 wx : World) (m : Nat) (nx : Int) (ds : List InoR) (s : Value) : Prop :=
  ∃ (TS BS : Nat) (a : Option Addr) (c : Nat) (js : List InoJ), s = .pointer (some ⟨TS, 0, none⟩) ∧ QS wx TS BS wx.heap.size wx.heap.size a m c nx ds js ∧ Below W1.heap.size W1 wx
theorem cutS_new {W1 A w3 : World} {m : Nat} {nx : Int} {ds : List InoR} {a : Option Addr} {c : Nat} {js : List InoJ} (hA : Below W1.heap.size W1 w3) (q : DQA A.heap.size w3 (.slice a m c) ds js) (hl : js.length = m) :
    CutS W1 (w3.alloc (.cells #[.slice a m c, .int .i64 nx] 43)) m nx ds (.pointer (some ⟨w3.heap.size, 0, none⟩)) := by
  have b : Below w3.heap.size w3 (w3.alloc (.cells #[.slice a m c, .int .i64 nx] 43)) := (Below.refl _ w3).alloc (Nat.le_refl _) _
  exact ⟨w3.heap.size, A.heap.size, a, c, js, rfl, ⟨Blk.new w3 _ _, q.keep b, hl, (q.keep b).apV, by simp, Nat.le_refl _, Nat.le_refl _⟩, below_tr hA b⟩
theorem cutS_set {W1 A w3 : World} {TS m : Nat} {nx : Int} {ds : List InoR} {a : Option Addr} {c : Nat} {js : List InoJ} (hA : Below W1.heap.size W1 w3) (q : DQA A.heap.size w3 (.slice a m c) ds js) (hl : js.length = m) (kT : Blk w3 TS 43 #[.slice none 0 0, .int .i64 0]) (h1 : W1.heap.size ≤ TS) (h2 : TS < A.heap.size) :
    CutS W1 ((w3.setCell ⟨TS, 0, none⟩ (.slice a m c)).setCell ⟨TS, 1, none⟩ (.int .i64 nx)) m nx ds (.pointer (some ⟨TS, 0, none⟩)) := by
  have q2 := (q.setX h2 0 (.slice a m c)).setX h2 1 (.int .i64 nx)
  refine ⟨TS, A.heap.size, a, c, js, rfl, ⟨(kT.set 0 _).set 1 _, q2, hl, q2.apV, ?_, Nat.le_refl _, Nat.le_refl _⟩, (hA.setCell (p := ⟨TS, 0, none⟩) (by simp only; omega) _).setCell (p := ⟨TS, 1, none⟩) (by simp only; omega) _⟩
  have := kT.lt
  simp [World.setCell]
  omega
/-- The first argument's copy: its box, its parts. -/
structure QT (W : World) (XB B g n Lo Hi : Nat) (nx : Int) (rs : List InoR) (js : List InoJ) : Prop where
  box : Blk W XB 43 #[.slice (some ⟨g, 0, none⟩) n n, .int .i64 nx]
  tq : TabQ W B g n rs (js.map InoJ.r)
  jq : JsQ W (g + 1) js
  ap : ApJ g Lo Hi js
  hH : Hi ≤ XB
theorem QT.keep {W W' : World} {XB B g n Lo Hi : Nat} {nx : Int} {rs : List InoR} {js : List InoJ} (h : QT W XB B g n Lo Hi nx rs js) (hb : Below W.heap.size W W') : QT W' XB B g n Lo Hi nx rs js := ⟨h.box.keep hb, h.tq.keep hb, h.jq.keep hb, h.ap, h.hH⟩
theorem QT.two {W : World} {XB B g n Lo Hi : Nat} {nx : Int} {rs : List InoR} {js : List InoJ} (h : QT W XB B g n Lo Hi nx rs js) : W.cell? ⟨XB, 0, none⟩ = some (.slice (some ⟨g, 0, none⟩) n n) ∧ W.cell? ⟨XB, 1, none⟩ = some (.int .i64 nx) := ⟨Blk.cell h.box 0, Blk.cell h.box 1⟩
/-- The second argument's copy: its box, its lists. -/
structure QX (W : World) (XX lo hi : Nat) (D : InoD) (g1 g2 g3 : Nat) : Prop where
  box : Blk W XX 27 #[.int .i64 D.ino, .int .i64 D.kind, .int .i64 D.links, .slice (some ⟨g1, 0, none⟩) D.data.length D.data.length, .slice (some ⟨g2, 0, none⟩) D.ents.length D.ents.length, .slice (some ⟨g3, 0, none⟩) D.attrs.length D.attrs.length]
  G : InoG W lo hi D (.slice (some ⟨g1, 0, none⟩) D.data.length D.data.length) (.slice (some ⟨g2, 0, none⟩) D.ents.length D.ents.length) (.slice (some ⟨g3, 0, none⟩) D.attrs.length D.attrs.length)
  hH : hi ≤ XX
theorem QX.keep {W W' : World} {XX lo hi : Nat} {D : InoD} {g1 g2 g3 : Nat} (h : QX W XX lo hi D g1 g2 g3) (hb : Below W.heap.size W W') : QX W' XX lo hi D g1 g2 g3 := ⟨h.box.keep hb, InoG.keep h.G (by have := h.hH; have := h.box.lt; omega) hb, h.hH⟩
theorem QX.outs {W W' : World} {XX lo hi Lo Hi : Nat} {D : InoD} {g1 g2 g3 : Nat} (h : QX W XX lo hi D g1 g2 g3) (k : Out Lo Hi W W') (hd : Hi ≤ lo) (hx : Hi ≤ XX) : QX W' XX lo hi D g1 g2 g3 := ⟨h.box.outs k (by omega), InoG.outs h.G (by have := h.hH; have := h.box.lt; omega) k (.inr hd), h.hH⟩
end Go.Proofs.Ytnllhpeddoaehaa
