/-
  Joined: DrCh, LdD, LdE.
-/
import Derived.Test.YtpejfkgbfdkdnaaJ34B
namespace Go.Proofs.Ytpejfkgbfdkdnaa
section
open Go.RowKit
/-- A drawn chip in its box X. -/
structure DC (w0 wr : World) (X : Nat) (ds : List BkD) (va : Option Addr) (vn vc : Nat) (qs : List BkR) : Prop where
  bs : NewBs wr w0.heap.size (.slice va vn vc) ds qs
  n : qs.length = vn
  ok : ChOk ds
  x : Blk wr X 26 #[.slice va vn vc]
  xf : X ∉ fpBs (.slice va vn vc) qs
  xn : w0.heap.size ≤ X
theorem DC.svs {w0 wr w' : World} {X g : Nat} {ds : List BkD} {va : Option Addr} {vn vc : Nat} {qs : List BkR} (h : DC w0 wr X ds va vn vc qs) (hs : Sv [g] wr w') (hg : g < w0.heap.size) : DC w0 w' X ds va vn vc qs :=
  ⟨h.bs.svs hs (fun j hj hf => by have := h.bs.new j hj; simp at hf; omega), h.n, h.ok, Blk.svs h.x hs (by have := h.xn; simp; omega), h.xf, h.xn⟩
theorem DC.keep {w0 wr w' : World} {X : Nat} {ds : List BkD} {va : Option Addr} {vn vc : Nat} {qs : List BkR} (h : DC w0 wr X ds va vn vc qs) (hb : Below wr.heap.size wr w') : DC w0 w' X ds va vn vc qs := ⟨h.bs.keep hb, h.n, h.ok, h.x.keep hb, h.xf, h.xn⟩
theorem DC.len {w0 wr : World} {X : Nat} {ds : List BkD} {va : Option Addr} {vn vc : Nat} {qs : List BkR} (h : DC w0 wr X ds va vn vc qs) : ds.length = vn := by rw [← h.bs.len, h.n]
theorem DC.cr {w0 wr : World} {X : Nat} {ds : List BkD} {va : Option Addr} {vn vc : Nat} {qs : List BkR} (h : DC w0 wr X ds va vn vc qs) : CR wr va vn qs := ⟨h.n, by rw [h.bs.D]; exact ok_tot h.ok, h.bs.rd⟩
theorem DC.some {w0 wr : World} {X : Nat} {ds : List BkD} {va : Option Addr} {vn vc : Nat} {qs : List BkR} (h : DC w0 wr X ds va vn vc qs) : ∃ g, va = .some ⟨g, 0, none⟩ := by
  rcases (show OwnE bkE 39 wr (.slice va vn vc) qs.length qs from h.bs.own.1).cases with ⟨_, _, h0⟩ | ⟨g, c, h0, _⟩
  · have := h.len
    have h1 := h.ok.1
    have h2 := h.n
    rw [h0] at h2
    simp at h2
    omega
  · simp only [Value.slice.injEq] at h0
    exact ⟨g, h0.1⟩
/-- The cells of the block k. -/
theorem DC.bk {w0 wr : World} {X g : Nat} {ds : List BkD} {vn vc : Nat} {qs : List BkR} (h : DC w0 wr X ds (Option.some ⟨g, 0, none⟩) vn vc qs) (k : Nat) (hk : k < vn) : ∃ b, qs[k]? = Option.some b ∧ wr.cell? ⟨g, k * 3 + 2, none⟩ = Option.some (.bool b.bad) ∧ wr.frozen? ⟨g, k * 3 + 2, none⟩ = false ∧ wr.cell? ⟨X, 0, none⟩ = Option.some (.slice (Option.some ⟨g, 0, none⟩) vn vc) := by
  have hOw : OwnE bkE 39 wr (.slice (Option.some ⟨g, 0, none⟩) vn vc) vn qs := by
    have := h.bs.own.1
    rw [h.n] at this
    exact this
  have x0 := h.x.cell 0
  simp at x0
  exact ⟨_, List.getElem?_eq_getElem (by have := h.n; omega), hOw.cell k 2 _ (List.getElem?_eq_getElem (by have := h.n; omega)) (by decide), hOw.frozen (k * 3 + 2), x0⟩
/-- Another chip was stored in its place. -/
theorem DC.put {w0 wr w' : World} {X : Nat} {ds ds' : List BkD} {va va' : Option Addr} {vn vc vn' vc' : Nat} {qs qs' : List BkR} (h : DC w0 wr X ds va vn vc qs) (hb : Below wr.heap.size wr w') (hq : NewBs w' wr.heap.size (.slice va' vn' vc') ds' qs') (hn : qs'.length = vn') (hok : ChOk ds') : DC w0 (w'.setCell ⟨X, 0, none⟩ (.slice va' vn' vc')) X ds' va' vn' vc' qs' := by
  have hX := h.x.lt
  have hnX : X ∉ fpBs (.slice va' vn' vc') qs' := fun hf => by have := hq.new X hf; omega
  have hw : w0.heap.size ≤ wr.heap.size := by have := h.xn; omega
  exact ⟨(hq.set_below hX).wider hw, hn, hok, by have := (h.x.keep hb).set 0 (.slice va' vn' vc'); simpa using this, hnX, h.xn⟩
theorem sv_new {F : List Nat} {w W : World} {X i : Nat} {v : Value} (h : Sv F w W) (hX : w.heap.size ≤ X) : Sv F w (W.setCell ⟨X, i, none⟩ v) :=
  ⟨h.os, h.tape, h.output, by rw [size_setC]; exact h.size, fun k hk hn => (Below.heap_setCell _ _ _ _ (by show k ≠ X; omega)).trans (h.block k hk hn)⟩
theorem Own.len2 {w : World} {g m c : Nat} {ys : List Int} (h : Own w g m c ys) : ys.length = m := OwnV.len h
theorem sv_grown {w w' : World} {gc : Nat} (h : w.grownBy w' (some gc)) : Sv [gc] w w' := Sv.gr h (fun g hg => by simp at hg; simp [hg])
theorem Src.set {w : World} {gc n cap X i : Nat} {a : Option Addr} {zs : List Int} {v : Value} (h : Src w gc n cap a zs) (hX : gc < X) : Src (w.setCell ⟨X, i, none⟩ v) gc n cap a zs := h.other (gr_setC w X i v) hX
end

section
open Go.RowKit
/-- A drawn device that is right, all its memory behind the base, its box (of a device, or of a log around it), and the answer's. -/
structure XL (w W : World) (gc n cap : Nat) (a : Option Addr) (zs : List Int) (X : Nat) (T : TypeId) (Zs xs : Array Value) (D : DvD) (va : Option Addr) (vn vc : Nat) (fa : Option Addr) (m fc : Nat) (qs : List BkR) : Prop where
  src : Src W gc n cap a zs
  sv : Sv [gc] w W
  nd : NewDv W (w.heap.size + 1) va vn vc fa m fc D.ds D.fs qs
  ql : qs.length = vn
  ok : devB D.ds D.ops D.fs = true
  res : Blk W w.heap.size T Zs
  hgc : gc < w.heap.size
  hX : w.heap.size < X
  x : Blk W X T xs
  xf : X ∉ fpDv va vn vc fa m fc qs
  bt : BytC D.ds
theorem XL.step {W' : World} {w W : World} {gc n cap : Nat} {a : Option Addr} {zs : List Int} {X : Nat} {T : TypeId} {Zs xs : Array Value} {D : DvD} {va : Option Addr} {vn vc : Nat} {fa : Option Addr} {m fc : Nat} {qs : List BkR} (h : XL w W gc n cap a zs X T Zs xs D va vn vc fa m fc qs) (hs : Src W' gc n cap a zs) (hg : W.grownBy W' (some gc)) : XL w W' gc n cap a zs X T Zs xs D va vn vc fa m fc qs :=
  have k := sv_grown hg
  ⟨hs, h.sv.trans k, h.nd.svs k (fun g hg hf => by have := h.nd.from g hg; have := h.hgc; simp at hf; omega), h.ql, h.ok, Blk.svs h.res k (by have := h.hgc; simp; omega), h.hgc, h.hX, Blk.svs h.x k (by have := h.hgc; have := h.hX; simp; omega), h.xf, h.bt⟩
theorem XL.keep {W' : World} {w W : World} {gc n cap : Nat} {a : Option Addr} {zs : List Int} {X : Nat} {T : TypeId} {Zs xs : Array Value} {D : DvD} {va : Option Addr} {vn vc : Nat} {fa : Option Addr} {m fc : Nat} {qs : List BkR} (h : XL w W gc n cap a zs X T Zs xs D va vn vc fa m fc qs) (hb : Below W.heap.size W W') : XL w W' gc n cap a zs X T Zs xs D va vn vc fa m fc qs :=
  ⟨h.src.keep hb, h.sv.trans (Below.sv hb _), h.nd.keep hb, h.ql, h.ok, h.res.keep hb, h.hgc, h.hX, h.x.keep hb, h.xf, h.bt⟩
theorem XL.drew {w W : World} {gc n cap : Nat} {a : Option Addr} {zs : List Int} {X : Nat} {T : TypeId} {Zs xs : Array Value} {D : DvD} {va : Option Addr} {vn vc : Nat} {fa : Option Addr} {m fc : Nat} {qs : List BkR} (h : XL w W gc n cap a zs X T Zs xs D va vn vc fa m fc qs) : XL w W.drew gc n cap a zs X T Zs xs D va vn vc fa m fc qs := h.keep (Below.refl W.heap.size W).drew
theorem XL.setX {w W : World} {gc n cap : Nat} {a : Option Addr} {zs : List Int} {X : Nat} {T : TypeId} {Zs xs : Array Value} {D : DvD} {va : Option Addr} {vn vc : Nat} {fa : Option Addr} {m fc : Nat} {qs : List BkR} (h : XL w W gc n cap a zs X T Zs xs D va vn vc fa m fc qs) (j : Nat) (v : Value) : XL w (W.setCell ⟨X, j, none⟩ v) gc n cap a zs X T Zs (xs.setIfInBounds j v) D va vn vc fa m fc qs := by
  have hg := gr_setC W X j v
  have h1 := h.hX
  have h2 := h.hgc
  have k : Sv [gc] w (W.setCell ⟨X, j, none⟩ v) := ⟨hg.os.trans h.sv.os, hg.tape.trans h.sv.tape, hg.output.trans h.sv.output, Nat.le_trans h.sv.size hg.size, fun b hb hf => (hg.block b (Nat.lt_of_lt_of_le hb h.sv.size) (by simp; omega)).trans (h.sv.block b hb hf)⟩
  exact ⟨h.src.other hg (by omega), k, h.nd.setN h.xf, h.ql, h.ok, h.res.other (by omega) j v, h.hgc, h.hX, h.x.set j v, h.xf, h.bt⟩
theorem XL.setR {w W : World} {gc n cap : Nat} {a : Option Addr} {zs : List Int} {X : Nat} {T : TypeId} {Zs xs : Array Value} {D : DvD} {va : Option Addr} {vn vc : Nat} {fa : Option Addr} {m fc : Nat} {qs : List BkR} (h : XL w W gc n cap a zs X T Zs xs D va vn vc fa m fc qs) (j : Nat) (v : Value) : XL w (W.setCell ⟨w.heap.size, j, none⟩ v) gc n cap a zs X T (Zs.setIfInBounds j v) xs D va vn vc fa m fc qs := by
  have hg := gr_setC W w.heap.size j v
  have h1 := h.hX
  have h2 := h.hgc
  have k : Sv [gc] w (W.setCell ⟨w.heap.size, j, none⟩ v) := ⟨hg.os.trans h.sv.os, hg.tape.trans h.sv.tape, hg.output.trans h.sv.output, Nat.le_trans h.sv.size hg.size, fun b hb hf => (hg.block b (Nat.lt_of_lt_of_le hb h.sv.size) (by simp; omega)).trans (h.sv.block b hb hf)⟩
  exact ⟨h.src.other hg (by omega), k, h.nd.set_below (by omega), h.ql, h.ok, h.res.set j v, h.hgc, h.hX, h.x.other (by omega) j v, h.xf, h.bt⟩
/-- Another device, in memory of its own. -/
theorem XL.new {W' : World} {D' : DvD} {va' : Option Addr} {vn' vc' : Nat} {fa' : Option Addr} {m' fc' : Nat} {qs' : List BkR} {w W : World} {gc n cap : Nat} {a : Option Addr} {zs : List Int} {X : Nat} {T : TypeId} {Zs xs : Array Value} {D : DvD} {va : Option Addr} {vn vc : Nat} {fa : Option Addr} {m fc : Nat} {qs : List BkR} (h : XL w W gc n cap a zs X T Zs xs D va vn vc fa m fc qs) (hb : Below W.heap.size W W') (hn : NewDv W' W.heap.size va' vn' vc' fa' m' fc' D'.ds D'.fs qs') (hl : qs'.length = vn') (hok : devB D'.ds D'.ops D'.fs = true) (hbt : BytC D'.ds) : XL w W' gc n cap a zs X T Zs xs D' va' vn' vc' fa' m' fc' qs' := by
  have h1 := h.hX
  have h2 := h.x.lt
  exact ⟨h.src.keep hb, h.sv.trans (Below.sv hb _), hn.wider (by omega), hl, hok, h.res.keep hb, h.hgc, h.hX, h.x.keep hb, fun hf => by have := hn.from X hf; omega, hbt⟩
theorem XL.down {w W : World} {gc n cap : Nat} {a : Option Addr} {zs : List Int} {X : Nat} {T : TypeId} {Zs xs : Array Value} {D : DvD} {va : Option Addr} {vn vc : Nat} {fa : Option Addr} {m fc : Nat} {qs : List BkR} (h : XL w W gc n cap a zs X T Zs xs D va vn vc fa m fc qs) (b : Bool) : XL w W gc n cap a zs X T Zs xs ⟨D.ds, D.ops, D.fs, b⟩ va vn vc fa m fc qs := ⟨h.src, h.sv, h.nd, h.ql, h.ok, h.res, h.hgc, h.hX, h.x, h.xf, h.bt⟩
theorem XL.cr {w W : World} {gc n cap : Nat} {a : Option Addr} {zs : List Int} {X : Nat} {T : TypeId} {Zs xs : Array Value} {D : DvD} {va : Option Addr} {vn vc : Nat} {fa : Option Addr} {m fc : Nat} {qs : List BkR} (h : XL w W gc n cap a zs X T Zs xs D va vn vc fa m fc qs) : CR W va vn qs := h.nd.cr h.ql (devB_tot h.ok)
theorem XL.fr {w W : World} {gc n cap : Nat} {a : Option Addr} {zs : List Int} {X : Nat} {T : TypeId} {Zs xs : Array Value} {D : DvD} {va : Option Addr} {vn vc : Nat} {fa : Option Addr} {m fc : Nat} {qs : List BkR} (h : XL w W gc n cap a zs X T Zs xs D va vn vc fa m fc qs) : FR W fa m D.fs := ⟨OwnE.len h.nd.fs, (by
  have h1 := (devB_parts.1 h.ok).2.2
  have h2 := OwnE.len h.nd.fs
  unfold faultsB at h1
  simp at h1
  omega), h.nd.fs.rd⟩
theorem XL.vn {w W : World} {gc n cap : Nat} {a : Option Addr} {zs : List Int} {X : Nat} {T : TypeId} {Zs xs : Array Value} {D : DvD} {va : Option Addr} {vn vc : Nat} {fa : Option Addr} {m fc : Nat} {qs : List BkR} (h : XL w W gc n cap a zs X T Zs xs D va vn vc fa m fc qs) : D.ds.length = vn ∧ 3 ≤ vn ∧ vn ≤ 24 := by
  have h1 := (devB_parts.1 h.ok).1
  have h2 := h.nd.bs.len
  have h3 := h.ql
  have := h1.1
  have := h1.2.1
  omega
/-- A log was drawn: its device is right, in memory of its own. -/
def P13 (w : World) (gc n cap : Nat) (a : Option Addr) (zs : List Int) (e : Ending) (w' : World) : Prop := ∃ (D : DvD) (seq : Int) (va : Option Addr) (vn vc : Nat) (fa : Option Addr) (m fc : Nat) (qs : List BkR), e = .returned (.agg #[.slice va vn vc, .int .i64 D.ops, .slice fa m fc, .bool D.down, .int .i64 seq]) ∧ NewDv w' w.heap.size va vn vc fa m fc D.ds D.fs qs ∧ qs.length = vn ∧ devB D.ds D.ops D.fs = true ∧ BytC D.ds ∧ SeqO 20 D.ds D.ops seq ∧ Src w' gc n cap a zs ∧ Sv [gc] w w'
def EX13 (w W : World) (gc n cap : Nat) (a : Option Addr) (zs : List Int) (X t : Nat) : Prop := ∃ (D : DvD) (seq : Int) (va : Option Addr) (vn vc : Nat) (fa : Option Addr) (m fc : Nat) (qs : List BkR), XL w W gc n cap a zs X 31 #[.slice none 0 0, .int .i64 0, .slice none 0 0, .bool false, .int .i64 0] #[.slice va vn vc, .int .i64 D.ops, .slice fa m fc, .bool D.down, .int .i64 seq] D va vn vc fa m fc qs ∧ SeqO t D.ds D.ops seq
set_option maxRecDepth 100000 in
set_option maxHeartbeats 16000000 in
theorem l13DrawS (gc n cap : Nat) (a : Option Addr) (zs : List Int) (w : World) (h : Src w gc n cap a zs) :
    Calls Try.prog 28 #[.pointer (some ⟨gc, 0, none⟩)] w (P13 w gc n cap a zs) := by
  have hgc := h.cur.lt
  have B0 : Below w.heap.size w (w.alloc (.cells #[.slice none 0 0, .int .i64 0, .slice none 0 0, .bool false, .int .i64 0] 31)) := (Below.refl _ w).alloc (Nat.le_refl _) _
  have z0 := Blk.new w 31 #[.slice none 0 0, .int .i64 0, .slice none 0 0, .bool false, .int .i64 0]
  have h0 := h.keep B0
  have hsz0 : (w.alloc (.cells #[.slice none 0 0, .int .i64 0, .slice none 0 0, .bool false, .int .i64 0] 31)).heap.size = w.heap.size + 1 := by simp
  generalize hGP : P13 w gc n cap a zs = P
  have HGP : Hid _ := hGP
  clear hGP h
  go_enter Try.func28, Try.ntmps28
  go_wp2_with fail
  obtain ⟨W0, hW0⟩ : ∃ W, w.alloc (.cells #[.slice none 0 0, .int .i64 0, .slice none 0 0, .bool false, .int .i64 0] 31) = W := ⟨_, rfl⟩
  rw [hW0] at B0 z0 h0 hsz0 ⊢
  clear hW0
  refine (below_step gc n cap a zs 3 W0 h0 (by omega) (by omega)).mono ?_
  rintro e w1 ⟨y, rfl, hy, h1, gr1⟩
  have sv1 := sv_grown gr1
  have z1 := Blk.svs z0 sv1 (by simp; omega)
  have hg1 := gr1.size
  have hwy : IntKind.i64.wrap (3 + (y : Int)) = 3 + (y : Int) := wrap_small _ (by omega) (by omega)
  have SV1 := (Below.sv B0 [gc]).trans sv1
  clear h0 z0 gr1 sv1
  go_wp2_with fail
  refine (l11FaultListS gc n cap a zs w1 h1).mono ?_
  rintro e w2 ⟨v, fs, rfl, hfl, hfb, hfo, h2, gr2⟩
  have sv2 := sv_grown gr2
  have z2 := Blk.svs z1 sv2 (by simp; omega)
  have hg2 := gr2.size
  have SV2 := SV1.trans sv2
  obtain ⟨fa, fc, rfl⟩ : ∃ fa fc, v = .slice fa fs.length fc := by
    rcases hfo.2 with ⟨rfl, h0⟩ | ⟨g, c, cur, rfl, _⟩
    · exact ⟨none, 0, by rw [h0]⟩
    · exact ⟨_, c, rfl⟩
  have hof : OwnFa w2 (.slice fa fs.length fc) fs.length fs := ⟨hfo.1, by
    rcases hfo.2 with h1 | ⟨g, c, cur, e, _, rest⟩
    · exact .inl h1
    · exact .inr ⟨g, c, cur, e, Nat.zero_le _, rest⟩⟩
  have hdv := devNewS (3 + (y : Int)) fa fs.length fc fs w2 (hof.fr (by omega))
  have hnew : devN (3 + (y : Int)) fs = ⟨newD (3 + (y : Int)), 0, fs, false⟩ := by
    unfold devN
    rw [if_pos (devB_parts.2 ⟨ok_new (by omega), by omega, hfb⟩)]
  have hok0 : devB (newD (3 + (y : Int))) 0 fs = true := devB_parts.2 ⟨ok_new (by omega), by omega, hfb⟩
  rw [hnew] at hdv
  have hbt0 : BytC (newD (3 + (y : Int))) := bytC_new _
  have hsq0 : SeqO 0 (newD (3 + (y : Int))) 0 0 := ⟨seqB_new _, by omega, by omega⟩
  generalize newD (3 + (y : Int)) = ds0 at hdv hok0 hbt0 hsq0
  clear hnew hfo hof h1 z1 SV1 sv2 gr2 hfb
  go_wp2_with fail
  refine hdv.mono ?_
  rintro e w3 ⟨va, vn, vc, fb, m, gc2, qs, rfl, hnd, hql, b3⟩
  have b4 : Below w3.heap.size w3 (w3.alloc (.cells #[.slice va vn vc, .int .i64 0, .slice fb m gc2, .bool false, .int .i64 0] 31)) := (Below.refl _ _).alloc (Nat.le_refl _) _
  have hg3 := b3.size
  have XR0 : XL w (w3.alloc (.cells #[.slice va vn vc, .int .i64 0, .slice fb m gc2, .bool false, .int .i64 0] 31)) gc n cap a zs w3.heap.size 31 #[.slice none 0 0, .int .i64 0, .slice none 0 0, .bool false, .int .i64 0] #[.slice va vn vc, .int .i64 0, .slice fb m gc2, .bool false, .int .i64 0] ⟨ds0, 0, fs, false⟩ va vn vc fb m gc2 qs :=
    ⟨(h2.keep b3).keep b4, (SV2.trans (Below.sv b3 _)).trans (Below.sv b4 _), (hnd.keep b4).wider (by omega), hql, hok0, (z2.keep b3).keep b4, hgc, by omega, Blk.new w3 _ _, fun hf => by have := hnd.lt _ hf; omega, hbt0⟩
  have HX0 : Hid (XL w (w3.alloc (.cells #[.slice va vn vc, .int .i64 0, .slice fb m gc2, .bool false, .int .i64 0] 31)) gc n cap a zs w3.heap.size 31 #[.slice none 0 0, .int .i64 0, .slice none 0 0, .bool false, .int .i64 0] #[.slice va vn vc, .int .i64 0, .slice fb m gc2, .bool false, .int .i64 0] ⟨ds0, 0, fs, false⟩ va vn vc fb m gc2 qs) := XR0
  clear XR0 b4 b3 hnd hql h2 z2 SV2 hdv hok0 hfl B0 hsz0
  go_wp2_with fail
  obtain ⟨W4, hW4⟩ : ∃ W, w3.alloc (.cells #[.slice va vn vc, .int .i64 0, .slice fb m gc2, .bool false, .int .i64 0] 31) = W := ⟨_, rfl⟩
  obtain ⟨X, hX⟩ : ∃ X, w3.heap.size = X := ⟨_, rfl⟩
  rw [hW4, hX] at HX0
  rw [hW4]
  try rw [hX]
  clear hW4 hX hg1 hg2 hg3
  refine (below_step gc n cap a zs 20 W4 HX0.out.src (by omega) (by omega)).mono ?_
  rintro e w5 ⟨y2, rfl, hy2, h5, gr5⟩
  have HST : Hid (EX13 w w5 gc n cap a zs X 0) := ⟨⟨ds0, 0, fs, false⟩, 0, _, _, _, _, _, _, _, HX0.out.step h5 gr5, hsq0⟩
  clear HX0 h5 gr5
  go_wp2
  go_loopw [4] (fun i wr => ∃ j : Nat, j ≤ 20 ∧ i = .int .i64 j ∧ Hid (EX13 w wr gc n cap a zs X (20 - j))) (fun i _ => (intOf i).toNat)
  case atStart => exact ⟨y2, by omega, rfl, by obtain ⟨D, seq, va, vn, vc, fa, m, fc, qs, xl, hs⟩ := HST.out; exact ⟨D, seq, va, vn, vc, fa, m, fc, qs, xl, hs.le (by omega)⟩⟩
  case round =>
    obtain ⟨j, hj, rfl, hst⟩ := hrel
    clear HST
    obtain ⟨D, seq, va, vn, vc, fa, m, fc, qs, xl, hsq⟩ := hst.out
    clear hst
    by_cases hj0 : 0 < j
    · have hji : (0 : Int) < (j : Int) := by omega
      obtain ⟨i, rfl⟩ : ∃ i, j = i + 1 := ⟨j - 1, by omega⟩
      have hwi : IntKind.i64.wrap (i : Int) = (i : Int) := wrap_small _ (by omega) (by omega)
      go_upto_region 5 with fail
      have xd := xl.drew
      obtain ⟨c0, c1, c2, c3, c4⟩ := xd.x.log
      have hb4 := below_step gc n cap a zs 4 wr.drew xd.src (by omega) (by omega)
      rw [show ((4 : Nat) : Int) = 4 from rfl] at hb4
      clear xl
      go_cut [18] (fun _ wx => EX13 w wx gc n cap a zs X (20 - i))
      case first =>
        go_region_with (first
          | (go_at_call 30; (first | ((with_reducible refine hb4.mono ?_); rintro e w6 ⟨k, rfl, hk, h6, g6⟩; have x6 := xd.step h6 g6; have hwk : IntKind.i64.wrap (1 + (k : Int)) = 1 + (k : Int) := wrap_small _ (by omega) (by omega); obtain ⟨d0, d1, d2, d3, d4⟩ := x6.x.log) | (have hb2 := below_step gc n cap a zs 2 w7 x7.src (by omega) (by omega); rw [show ((2 : Nat) : Int) = 2 from rfl] at hb2; (with_reducible refine hb2.mono ?_); rintro e w8 ⟨sp, rfl, hsp, h8, g8⟩; have x8 := x7.step h8 g8; have o8 := Own.kept oy g8 (by have := x7.hgc; have := x7.src.cur.lt; omega); obtain ⟨i0, i1, i2, i3, i4⟩ := x8.x.log)))
          | (go_at_call 29; (with_reducible refine (some_step gc n cap a zs w6 x6.src).mono ?_); rintro e w7 ⟨gy, my, cy, ys, rfl, hmy, hgy, hby, oy, h7, g7⟩; have x7 := x6.step h7 g7; have hgyc : gc < gy := (by have := x6.src.cur.lt; omega); obtain ⟨f0, f1, f2, f3, f4⟩ := x7.x.log)
          | (go_at_call 42; (with_reducible refine (writeS va vn vc qs D.ops fa m fc D.fs D.down seq (1 + (k : Int)) ys (some ⟨gy, 0, none⟩) my cy (sp : Int) w8 x8.cr x8.fr o8.len (by omega) o8.rd hby).mono ?_); rintro e w9 ⟨va', vn', vc', fa', m', fc', qs', rfl, hn9, hl9, b9⟩; obtain ⟨j0, j1, j2, j3, j4⟩ := (x8.keep b9).x.log; have l0 := (x8.keep b9).x.frozen 0; have l1 := (x8.keep b9).x.frozen 1; have l2 := (x8.keep b9).x.frozen 2; have l3 := (x8.keep b9).x.frozen 3; have l4 := (x8.keep b9).x.frozen 4))
        all_goals (
          have hD8 := x8.nd.bs.D
          have hk8 := wrOut_keep (down := D.down) (seq := seq) (kind := 1 + (k : Int)) (body := ys) (spare := (sp : Int)) x8.ok
          rw [← hD8] at hk8
          have hb8 := bytC_wrOut (ops := D.ops) (fs := D.fs) (down := D.down) (seq := seq) (kind := 1 + (k : Int)) (body := ys) (spare := (sp : Int)) x8.bt
          rw [← hD8] at hb8
          have hs8 := seqO_wrOut (fs := D.fs) (down := D.down) (kind := 1 + (k : Int)) (spare := (sp : Int)) hby (by have := xd.vn; omega) hsq
          rw [← hD8] at hs8
          have x9 := x8.new (D' := (wrOut (qs.map BkR.D) D.ops D.fs D.down seq (1 + (k : Int)) ys (sp : Int)).D D.fs) b9 hn9 hl9 hk8.1 hb8
          have xa := ((((x9.setX 0 (.slice va' vn' vc')).setX 1 (.int .i64 ((wrOut (qs.map BkR.D) D.ops D.fs D.down seq (1 + (k : Int)) ys (sp : Int)).D D.fs).ops)).setX 2 (.slice fa' m' fc')).setX 3 (.bool ((wrOut (qs.map BkR.D) D.ops D.fs D.down seq (1 + (k : Int)) ys (sp : Int)).D D.fs).down)).setX 4 (.int .i64 ((wrOut (qs.map BkR.D) D.ops D.fs D.down seq (1 + (k : Int)) ys (sp : Int)).sq seq))
          have he : EX13 w _ gc n cap a zs X (20 - i) := ⟨_, _, _, _, _, _, _, _, _, xa, hs8.le (by omega)⟩
          clear x9 xa hk8 hD8 hb8 hs8
          go_wp2_with fail
          go_meet
          exact he)
      case rest =>
        obtain ⟨D2, seq2, va2, vn2, vc2, fa2, m2, fc2, qs2, xl2, hsq2⟩ := hcut
        obtain ⟨e0, e1, e2, e3, e4⟩ := xl2.x.log
        clear xd c0 c1 c2 c3 c4 hb4
        have hsub : IntKind.i64.wrap ((i : Int) + 1 - 1) = (i : Int) := by rw [show (i : Int) + 1 - 1 = (i : Int) by omega]; exact wrap_small _ (by omega) (by omega)
        cases hdn : D2.down with
        | false =>
          rw [hdn] at e3
          go_wp2
          go_roundw
          case rel => exact ⟨i, by omega, (by try simp), ⟨D2, seq2, _, _, _, _, _, _, _, xl2, hsq2⟩⟩
          case measure => simp [intOf]
        | true =>
          rw [hdn] at e3
          have hc3 := once_step gc n cap a zs 3 wc xl2.src (by omega) (by omega)
          rw [show ((3 : Nat) : Int) = 3 from rfl] at hc3
          go_wp2_with fail
          refine hc3.mono ?_
          rintro e w10 ⟨B, rfl, h10, g10⟩
          have xl3 := xl2.step h10 g10
          have l3 := xl3.x.frozen 3
          have xl4 := (xl3.setX 3 (.bool false)).down false
          obtain ⟨g0, g1, g2, g3, g4⟩ := xl3.x.log
          cases B with
          | false =>
            go_wp2
            go_roundw
            case rel => exact ⟨i, by omega, (by try simp), ⟨D2, seq2, _, _, _, _, _, _, _, xl3, hsq2⟩⟩
            case measure => simp [intOf]
          | true =>
            go_wp2
            go_roundw
            case rel => exact ⟨i, by omega, (by try simp), ⟨⟨D2.ds, D2.ops, D2.fs, false⟩, seq2, _, _, _, _, _, _, _, xl4, hsq2⟩⟩
            case measure => simp [intOf]
    · obtain rfl : j = 0 := by omega
      obtain ⟨e0, e1, e2, e3, e4⟩ := xl.x.log
      obtain ⟨r0, r1, r2, r3, r4⟩ := xl.res.log
      have l0 := xl.res.frozen 0
      have l1 := xl.res.frozen 1
      have l2 := xl.res.frozen 2
      have l3 := xl.res.frozen 3
      have l4 := xl.res.frozen 4
      have xf := ((((xl.setR 0 (.slice va vn vc)).setR 1 (.int .i64 D.ops)).setR 2 (.slice fa m fc)).setR 3 (.bool D.down)).setR 4 (.int .i64 seq)
      have zf := xf.res
      simp at zf
      obtain ⟨s0, s1, s2, s3, s4⟩ := zf.log
      have HXF : Hid _ := xf
      clear xf zf xl
      go_wp2
      refine bodyPost_ret (v := .agg #[.slice va vn vc, .int .i64 D.ops, .slice fa m fc, .bool D.down, .int .i64 seq]) (by simp [results, Try.f28, go_sem, s0, s1, s2, s3, s4]) rfl ?_
      rw [← HGP.out]
      have xf := HXF.out
      exact ⟨D, seq, va, vn, vc, fa, m, fc, qs, rfl, xf.nd.wider (by omega), xf.ql, xf.ok, xf.bt, hsq.le (by omega), xf.src, xf.sv⟩
end

section
open Go.RowKit
/-- A device was drawn: it is right, in memory of its own. -/
def P11 (w : World) (gc n cap : Nat) (a : Option Addr) (zs : List Int) (e : Ending) (w' : World) : Prop := ∃ (D : DvD) (va : Option Addr) (vn vc : Nat) (fa : Option Addr) (m fc : Nat) (qs : List BkR), e = .returned (.agg #[.slice va vn vc, .int .i64 D.ops, .slice fa m fc, .bool D.down]) ∧ NewDv w' w.heap.size va vn vc fa m fc D.ds D.fs qs ∧ qs.length = vn ∧ devB D.ds D.ops D.fs = true ∧ BytC D.ds ∧ Src w' gc n cap a zs ∧ Sv [gc] w w'
def EX11 (w W : World) (gc n cap : Nat) (a : Option Addr) (zs : List Int) (X : Nat) : Prop := ∃ (D : DvD) (va : Option Addr) (vn vc : Nat) (fa : Option Addr) (m fc : Nat) (qs : List BkR), XL w W gc n cap a zs X 29 #[.slice none 0 0, .int .i64 0, .slice none 0 0, .bool false] #[.slice va vn vc, .int .i64 D.ops, .slice fa m fc, .bool D.down] D va vn vc fa m fc qs
theorem Blk.dev {W : World} {B : Nat} {t : TypeId} {v0 v1 v2 v3 : Value} (h : Blk W B t #[v0, v1, v2, v3]) : W.cell? ⟨B, 0, none⟩ = some v0 ∧ W.cell? ⟨B, 1, none⟩ = some v1 ∧ W.cell? ⟨B, 2, none⟩ = some v2 ∧ W.cell? ⟨B, 3, none⟩ = some v3 := ⟨h.cell 0, h.cell 1, h.cell 2, h.cell 3⟩
theorem Own.capE {w : World} {g n c : Nat} {zs : List Int} (h : Own w g n c zs) : n ≤ c := by
  rcases h.2 with ⟨h', _⟩ | ⟨g', cap', cur, h', _, _, hc, _⟩
  · simp at h'
  · simp only [Value.slice.injEq, Option.some.injEq, Addr.mk.injEq, and_true, true_and] at h'
    omega
/-- An operation of the device was done: the box holds what it answered. -/
theorem XL.did {W' : World} {w W : World} {gc n cap : Nat} {a : Option Addr} {zs : List Int} {X : Nat} {Zs : Array Value} {D D' : DvD} {va va' : Option Addr} {vn vc vn' vc' : Nat} {fa fa' : Option Addr} {m fc m' fc' : Nat} {qs qs' : List BkR} {v0 v1 v2 v3 : Value} (h : XL w W gc n cap a zs X 29 Zs #[v0, v1, v2, v3] D va vn vc fa m fc qs) (hb : Below W.heap.size W W') (hn : NewDv W' W.heap.size va' vn' vc' fa' m' fc' D'.ds D'.fs qs') (hl : qs'.length = vn') (hok : devB D'.ds D'.ops D'.fs = true) (hbt : BytC D'.ds) :
    XL w ((((W'.setCell ⟨X, 0, none⟩ (.slice va' vn' vc')).setCell ⟨X, 1, none⟩ (.int .i64 D'.ops)).setCell ⟨X, 2, none⟩ (.slice fa' m' fc')).setCell ⟨X, 3, none⟩ (.bool D'.down)) gc n cap a zs X 29 Zs #[.slice va' vn' vc', .int .i64 D'.ops, .slice fa' m' fc', .bool D'.down] D' va' vn' vc' fa' m' fc' qs' :=
  ((((h.new hb hn hl hok hbt).setX 0 (.slice va' vn' vc')).setX 1 (.int .i64 D'.ops)).setX 2 (.slice fa' m' fc')).setX 3 (.bool D'.down)
set_option maxRecDepth 100000 in
set_option maxHeartbeats 16000000 in
theorem l11DrawS (gc n cap : Nat) (a : Option Addr) (zs : List Int) (w : World) (h : Src w gc n cap a zs) :
    Calls Try.prog 57 #[.pointer (some ⟨gc, 0, none⟩)] w (P11 w gc n cap a zs) := by
  have hgc := h.cur.lt
  have B0 : Below w.heap.size w (w.alloc (.cells #[.slice none 0 0, .int .i64 0, .slice none 0 0, .bool false] 29)) := (Below.refl _ w).alloc (Nat.le_refl _) _
  have z0 := Blk.new w 29 #[.slice none 0 0, .int .i64 0, .slice none 0 0, .bool false]
  have h0 := h.keep B0
  have hsz0 : (w.alloc (.cells #[.slice none 0 0, .int .i64 0, .slice none 0 0, .bool false] 29)).heap.size = w.heap.size + 1 := by simp
  generalize hGP : P11 w gc n cap a zs = P
  have HGP : Hid _ := hGP
  clear hGP h
  go_enter Try.func57, Try.ntmps57
  go_wp2_with fail
  obtain ⟨W0, hW0⟩ : ∃ W, w.alloc (.cells #[.slice none 0 0, .int .i64 0, .slice none 0 0, .bool false] 29) = W := ⟨_, rfl⟩
  rw [hW0] at B0 z0 h0 hsz0 ⊢
  clear hW0
  refine (below_step gc n cap a zs 3 W0 h0 (by omega) (by omega)).mono ?_
  rintro e w1 ⟨y, rfl, hy, h1, gr1⟩
  have sv1 := sv_grown gr1
  have z1 := Blk.svs z0 sv1 (by simp; omega)
  have hg1 := gr1.size
  have hwy : IntKind.i64.wrap (3 + (y : Int)) = 3 + (y : Int) := wrap_small _ (by omega) (by omega)
  have SV1 := (Below.sv B0 [gc]).trans sv1
  clear h0 z0 gr1 sv1
  go_wp2_with fail
  refine (l11FaultListS gc n cap a zs w1 h1).mono ?_
  rintro e w2 ⟨v, fs, rfl, hfl, hfb, hfo, h2, gr2⟩
  have sv2 := sv_grown gr2
  have z2 := Blk.svs z1 sv2 (by simp; omega)
  have hg2 := gr2.size
  have SV2 := SV1.trans sv2
  obtain ⟨fa, fc, rfl⟩ : ∃ fa fc, v = .slice fa fs.length fc := by
    rcases hfo.2 with ⟨rfl, h0⟩ | ⟨g, c, cur, rfl, _⟩
    · exact ⟨none, 0, by rw [h0]⟩
    · exact ⟨_, c, rfl⟩
  have hof : OwnFa w2 (.slice fa fs.length fc) fs.length fs := ⟨hfo.1, by
    rcases hfo.2 with h1 | ⟨g, c, cur, e, _, rest⟩
    · exact .inl h1
    · exact .inr ⟨g, c, cur, e, Nat.zero_le _, rest⟩⟩
  have hdv := devNewS (3 + (y : Int)) fa fs.length fc fs w2 (hof.fr (by omega))
  have hnew : devN (3 + (y : Int)) fs = ⟨newD (3 + (y : Int)), 0, fs, false⟩ := by
    unfold devN
    rw [if_pos (devB_parts.2 ⟨ok_new (by omega), by omega, hfb⟩)]
  have hok0 : devB (newD (3 + (y : Int))) 0 fs = true := devB_parts.2 ⟨ok_new (by omega), by omega, hfb⟩
  rw [hnew] at hdv
  have hbt0 : BytC (newD (3 + (y : Int))) := bytC_new _
  generalize newD (3 + (y : Int)) = ds0 at hdv hok0 hbt0
  clear hnew hfo hof h1 z1 SV1 sv2 gr2 hfb
  go_wp2_with fail
  refine hdv.mono ?_
  rintro e w3 ⟨va, vn, vc, fb, m, gc2, qs, rfl, hnd, hql, b3⟩
  have b4 : Below w3.heap.size w3 (w3.alloc (.cells #[.slice va vn vc, .int .i64 0, .slice fb m gc2, .bool false] 29)) := (Below.refl _ _).alloc (Nat.le_refl _) _
  have hg3 := b3.size
  have XR0 : XL w (w3.alloc (.cells #[.slice va vn vc, .int .i64 0, .slice fb m gc2, .bool false] 29)) gc n cap a zs w3.heap.size 29 #[.slice none 0 0, .int .i64 0, .slice none 0 0, .bool false] #[.slice va vn vc, .int .i64 0, .slice fb m gc2, .bool false] ⟨ds0, 0, fs, false⟩ va vn vc fb m gc2 qs :=
    ⟨(h2.keep b3).keep b4, (SV2.trans (Below.sv b3 _)).trans (Below.sv b4 _), (hnd.keep b4).wider (by omega), hql, hok0, (z2.keep b3).keep b4, hgc, by omega, Blk.new w3 _ _, fun hf => by have := hnd.lt _ hf; omega, hbt0⟩
  have HX0 : Hid (XL w (w3.alloc (.cells #[.slice va vn vc, .int .i64 0, .slice fb m gc2, .bool false] 29)) gc n cap a zs w3.heap.size 29 #[.slice none 0 0, .int .i64 0, .slice none 0 0, .bool false] #[.slice va vn vc, .int .i64 0, .slice fb m gc2, .bool false] ⟨ds0, 0, fs, false⟩ va vn vc fb m gc2 qs) := XR0
  clear XR0 b4 b3 hnd hql h2 z2 SV2 hdv hok0 hfl B0 hsz0
  go_wp2_with fail
  obtain ⟨W4, hW4⟩ : ∃ W, w3.alloc (.cells #[.slice va vn vc, .int .i64 0, .slice fb m gc2, .bool false] 29) = W := ⟨_, rfl⟩
  obtain ⟨X, hX⟩ : ∃ X, w3.heap.size = X := ⟨_, rfl⟩
  rw [hW4, hX] at HX0
  rw [hW4]
  try rw [hX]
  clear hW4 hX hg1 hg2 hg3
  refine (below_step gc n cap a zs 16 W4 HX0.out.src (by omega) (by omega)).mono ?_
  rintro e w5 ⟨y2, rfl, hy2, h5, gr5⟩
  have HST : Hid (EX11 w w5 gc n cap a zs X) := ⟨⟨ds0, 0, fs, false⟩, _, _, _, _, _, _, _, HX0.out.step h5 gr5⟩
  clear HX0 h5 gr5
  go_wp2
  go_loopw [4] (fun i wr => ∃ j : Nat, j ≤ 16 ∧ i = .int .i64 j ∧ Hid (EX11 w wr gc n cap a zs X)) (fun i _ => (intOf i).toNat)
  case atStart => exact ⟨y2, by omega, rfl, HST⟩
  case round =>
    obtain ⟨j, hj, rfl, hst⟩ := hrel
    clear HST
    obtain ⟨D, va, vn, vc, fa, m, fc, qs, xl⟩ := hst.out
    clear hst
    by_cases hj0 : 0 < j
    · have hji : (0 : Int) < (j : Int) := by omega
      obtain ⟨i, rfl⟩ : ∃ i, j = i + 1 := ⟨j - 1, by omega⟩
      have hwi : IntKind.i64.wrap (i : Int) = (i : Int) := wrap_small _ (by omega) (by omega)
      have hsub : IntKind.i64.wrap ((i : Int) + 1 - 1) = (i : Int) := by rw [show (i : Int) + 1 - 1 = (i : Int) by omega]; exact wrap_small _ (by omega) (by omega)
      have hv := xl.vn
      obtain ⟨c0, c1, c2, c3⟩ := xl.x.dev
      go_wp2_with fail
      refine (below_step gc n cap a zs vn wr xl.src (by omega) (by omega)).mono ?_
      rintro e w6 ⟨k, rfl, hk, h6, g6⟩
      have x6 := xl.step h6 g6
      clear xl c0 c1 c2 c3 h6 g6
      go_wp2_with fail
      refine (below_step gc n cap a zs 8 w6 x6.src (by omega) (by omega)).mono ?_
      rintro e w7 ⟨y3, rfl, hy3, h7, g7⟩
      have x7 := x6.step h7 g7
      clear x6 h7 g7
      obtain ⟨d0, d1, d2, d3⟩ := x7.x.dev
      have HD7 : Hid (qs.map BkR.D = D.ds) := x7.nd.bs.D
      by_cases q0 : y3 = 0
      · subst q0
        go_wp2_with fail
        refine (devErS va vn vc qs D.ops fa m fc D.fs D.down (k : Int) w7 x7.cr x7.fr).mono ?_
        rintro e w9 ⟨va', vn', vc', fa', m', fc', qs', rfl, hn9, hl9, b9⟩
        obtain ⟨f0, f1, f2, f3⟩ := (x7.keep b9).x.dev
        have l0 := (x7.keep b9).x.frozen 0
        have l1 := (x7.keep b9).x.frozen 1
        have l2 := (x7.keep b9).x.frozen 2
        have l3 := (x7.keep b9).x.frozen 3
        have hk8 := erase_keep (down := D.down) (x := (k : Int)) x7.ok
        rw [← HD7.out] at hk8
        have hbq : BytC (qs.map BkR.D) := by rw [HD7.out]; exact x7.bt
        have hb8 := bytC_out (cd := evCode (qs.map BkR.D) D.ops D.fs D.down (codeE true (qs.map BkR.D) (k : Int))) (o := faD D.ops D.fs) hbq (bytC_erase hbq (k : Int).toNat) (bytC_bad hbq (k : Int).toNat) (fun t => bytC_torn hbq (k : Int).toNat t)
        have he : EX11 w _ gc n cap a zs X := ⟨_, _, _, _, _, _, _, _, x7.did (D' := ⟨outDs (evCode (qs.map BkR.D) D.ops D.fs D.down (codeE true (qs.map BkR.D) (k : Int))) (faD D.ops D.fs) (qs.map BkR.D) (eraseAt (qs.map BkR.D) ((k : Int)).toNat) (badD (qs.map BkR.D) ((k : Int)).toNat) (tornD (qs.map BkR.D) ((k : Int)).toNat), outOps (evCode (qs.map BkR.D) D.ops D.fs D.down (codeE true (qs.map BkR.D) (k : Int))) D.ops, D.fs, outDown (evCode (qs.map BkR.D) D.ops D.fs D.down (codeE true (qs.map BkR.D) (k : Int))) (faD D.ops D.fs) D.down⟩) b9 hn9 hl9 hk8 hb8⟩
        clear x7 hk8 hb8 hbq d0 d1 d2 d3 hn9 b9
        go_wp2
        go_roundw
        case rel => exact ⟨i, by omega, (by try simp), he⟩
        case measure => simp [intOf]
      · have n0 : ((y3 : Int) == 0) = false := by simp; omega
        have n0' : ¬ (y3 : Int) = 0 := by omega
        by_cases q1 : y3 = 1
        · subst q1
          have l3 := x7.x.frozen 3
          have he : EX11 w _ gc n cap a zs X := ⟨⟨D.ds, D.ops, D.fs, false⟩, _, _, _, _, _, _, _, (x7.setX 3 (.bool false)).down false⟩
          clear x7
          go_wp2
          go_roundw
          case rel => exact ⟨i, by omega, (by try simp), he⟩
          case measure => simp [intOf]
        · have n1 : ((y3 : Int) == 1) = false := by simp; omega
          have n1' : ¬ (y3 : Int) = 1 := by omega
          go_upto_region 7 with fail
          have xd := x7.drew
          obtain ⟨c0, c1, c2, c3⟩ := xd.x.dev
          clear x7 d0 d1 d2 d3
          go_region_with (first
            | (go_at_call 29; (with_reducible refine (some_step gc n cap a zs w7.drew xd.src).mono ?_); rintro e w8 ⟨gy, my, cy, ys, rfl, hmy, hgy, hby, oy, h8, g8⟩; have x8 := xd.step h8 g8; have hgyc : gc < gy := (by have := xd.src.cur.lt; omega); obtain ⟨f0, f1, f2, f3⟩ := x8.x.dev)
            | (go_at_call 75; (with_reducible refine (devPrS va vn vc qs D.ops fa m fc D.fs D.down (k : Int) gy my cy ys w8 x8.cr x8.fr oy.len ⟨Own.capE oy, by omega⟩ oy.rd).mono ?_); rintro e w9 ⟨va', vn', vc', fa', m', fc', qs', rfl, hn9, hl9, b9⟩; obtain ⟨j0, j1, j2, j3⟩ := (x8.keep b9).x.dev; have l0 := (x8.keep b9).x.frozen 0; have l1 := (x8.keep b9).x.frozen 1; have l2 := (x8.keep b9).x.frozen 2; have l3 := (x8.keep b9).x.frozen 3))
          all_goals (
            have hk8 := prog_keep (down := D.down) (x := (k : Int)) oy.len x8.ok
            rw [← HD7.out] at hk8
            have hbq : BytC (qs.map BkR.D) := by rw [HD7.out]; exact x8.bt
            have hb8 := bytC_out (cd := evCode (qs.map BkR.D) D.ops D.fs D.down (codeP true (qs.map BkR.D) (k : Int) my)) (o := faD D.ops D.fs) (t := fun t => progAt (qs.map BkR.D) (k : Int).toNat (ys.take t.toNat)) hbq (bytC_prog hbq (k : Int).toNat hby) (bytC_bad hbq (k : Int).toNat) (fun t => bytC_prog hbq (k : Int).toNat (byt_take hby t.toNat))
            have he : EX11 w _ gc n cap a zs X := ⟨_, _, _, _, _, _, _, _, x8.did (D' := ⟨outDs (evCode (qs.map BkR.D) D.ops D.fs D.down (codeP true (qs.map BkR.D) (k : Int) my)) (faD D.ops D.fs) (qs.map BkR.D) (progAt (qs.map BkR.D) ((k : Int)).toNat ys) (badD (qs.map BkR.D) ((k : Int)).toNat) (fun t => progAt (qs.map BkR.D) ((k : Int)).toNat ((ys).take t.toNat)), outOps (evCode (qs.map BkR.D) D.ops D.fs D.down (codeP true (qs.map BkR.D) (k : Int) my)) D.ops, D.fs, outDown (evCode (qs.map BkR.D) D.ops D.fs D.down (codeP true (qs.map BkR.D) (k : Int) my)) (faD D.ops D.fs) D.down⟩) b9 hn9 hl9 hk8 hb8⟩
            clear xd c0 c1 c2 c3 x8 hk8 hb8 hbq hn9 b9
            go_wp2
            go_roundw
            case rel => exact ⟨i, by omega, (by try simp), he⟩
            case measure => simp [intOf])
    · obtain rfl : j = 0 := by omega
      obtain ⟨e0, e1, e2, e3⟩ := xl.x.dev
      obtain ⟨r0, r1, r2, r3⟩ := xl.res.dev
      have l0 := xl.res.frozen 0
      have l1 := xl.res.frozen 1
      have l2 := xl.res.frozen 2
      have l3 := xl.res.frozen 3
      have xf := (((xl.setR 0 (.slice va vn vc)).setR 1 (.int .i64 D.ops)).setR 2 (.slice fa m fc)).setR 3 (.bool D.down)
      have zf := xf.res
      simp at zf
      obtain ⟨s0, s1, s2, s3⟩ := zf.dev
      have HXF : Hid _ := xf
      clear xf zf xl
      go_wp2
      refine bodyPost_ret (v := .agg #[.slice va vn vc, .int .i64 D.ops, .slice fa m fc, .bool D.down]) (by simp [results, Try.f57, go_sem, s0, s1, s2, s3]) rfl ?_
      rw [← HGP.out]
      have xf := HXF.out
      exact ⟨D, va, vn, vc, fa, m, fc, qs, rfl, xf.nd.wider (by omega), xf.ql, xf.ok, xf.bt, xf.src, xf.sv⟩
end
end Go.Proofs.Ytpejfkgbfdkdnaa
