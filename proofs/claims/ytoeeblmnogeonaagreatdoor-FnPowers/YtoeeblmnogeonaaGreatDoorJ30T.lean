/-
  Joined: DvFl, DrCh, LdD, Draws.
-/
import Derived.Test.YtoeeblmnogeonaaGreatDoorJ29T
import Derived.Deep.DrawnRows
namespace Go.Proofs.YtoeeblmnogeonaaGreatDoor
section
open Go.RowKit
/-- Faults that are right, before a time. -/
structure FtG (t : Nat) (fs : List FtD) : Prop where
  each : ∀ p ∈ fs, 0 ≤ p.tm ∧ p.tm < (t : Int) ∧ 1 ≤ p.kd ∧ p.kd ≤ 2 ∧ 0 ≤ p.kp ∧ p.kp ≤ 400
  asc : ∀ (k : Nat) (r r' : FtD), fs[k]? = some r → fs[k + 1]? = some r' → r.tm < r'.tm
theorem ftG_nil : FtG 0 [] := ⟨fun p hp => by simp at hp, fun k r r' h => by simp at h⟩
theorem FtG.put {t x : Nat} {fs : List FtD} {kd kp : Int} (h : FtG t fs) (hk : 1 ≤ kd ∧ kd ≤ 2) (hp : 0 ≤ kp ∧ kp ≤ 400) : FtG (t + x + 1) (fs ++ [⟨((t + x : Nat) : Int), kd, kp⟩]) := by
  refine ⟨fun p hp' => ?_, fun k r r' h1 h2 => ?_⟩
  · rcases List.mem_append.1 hp' with h1 | h1
    · have := h.each p h1; omega
    · simp at h1; subst h1; dsimp only; omega
  · by_cases hl : k + 1 < fs.length
    · rw [List.getElem?_append_left hl] at h2
      rw [List.getElem?_append_left (by omega)] at h1
      exact h.asc k r r' h1 h2
    · by_cases he : k + 1 = fs.length
      · rw [List.getElem?_append_right (by omega)] at h2
        rw [List.getElem?_append_left (by omega)] at h1
        rw [he, Nat.sub_self] at h2
        simp at h2
        subst h2
        have := h.each r (List.mem_of_getElem? h1)
        dsimp only
        omega
      · have : (fs ++ [(⟨((t + x : Nat) : Int), kd, kp⟩ : FtD)]).length ≤ k + 1 := by simp; omega
        rw [List.getElem?_eq_none this] at h2
        simp at h2
theorem FtG.ok {t : Nat} {fs : List FtD} (h : FtG t fs) (ht : t ≤ 100001) (hl : fs.length ≤ 20) : faultsB fs = true := by
  unfold faultsB
  simp only [Bool.and_eq_true, decide_eq_true_eq, List.all_eq_true, List.mem_range]
  refine ⟨fun i hi => ?_, hl⟩
  obtain ⟨r, hr⟩ : ∃ r, fs[i]? = some r := ⟨_, List.getElem?_eq_getElem hi⟩
  rw [ftAt_at hr]
  have h1 := h.each r (List.mem_of_getElem? hr)
  have h2 : ftOk r = true := by unfold ftOk; simp only [Bool.and_eq_true, decide_eq_true_eq]; omega
  rw [h2]
  by_cases h0 : i = 0
  · simp [h0]
  · obtain ⟨m, rfl⟩ : ∃ m, i = m + 1 := ⟨i - 1, by omega⟩
    obtain ⟨q, hq⟩ : ∃ r, fs[m]? = some r := ⟨_, List.getElem?_eq_getElem (by omega)⟩
    have h3 := h.asc m q r hq hr
    have h4 : fs.getD (m + 1 - 1) ftZ = q := by simp [List.getD_eq_getElem?_getD, hq]
    rw [h4]
    simp [h3]
theorem ftE_snoc (fs : List FtD) (p : FtD) : ftE.xv (fs ++ [p]) = ftE.xv fs ++ [.int .i64 p.tm, .int .i64 p.kd, .int .i64 p.kp] := by rw [El.xv_append]; rfl
theorem gr_non {W W' : World} (h : W.grownBy W' none) (g : Nat) : W.grownBy W' (some g) := ⟨h.os, h.tape, h.output, h.size, fun k hk _ => h.block k hk (by simp)⟩
/-- What is known while faults are drawn. -/
structure XF (w W : World) (gc n cap : Nat) (a : Option Addr) (zs : List Int) (v : Value) (fs : List FtD) : Prop where
  src : Src W gc n cap a zs
  gr : w.grownBy W (some gc)
  own : W.ownsRow w.heap.size 51 3 v fs.length (ftE.xv fs)
  hgc : gc < w.heap.size
theorem XF.step {w W W' : World} {gc n cap : Nat} {a : Option Addr} {zs : List Int} {v : Value} {fs : List FtD} (h : XF w W gc n cap a zs v fs) (hs : Src W' gc n cap a zs) (hg : W.grownBy W' (some gc)) : XF w W' gc n cap a zs v fs :=
  ⟨hs, h.gr.trans hg, row_kept h.own hg (fun g hv e => by have := (row_at h.own hv).1; have := h.hgc; simp at e; omega), h.hgc⟩
theorem XF.alloc {w W : World} {gc n cap : Nat} {a : Option Addr} {zs : List Int} {v : Value} {fs : List FtD} (h : XF w W gc n cap a zs v fs) (o : Obj) : XF w (W.alloc o) gc n cap a zs v fs :=
  ⟨h.src.alloc o, h.gr.trans (World.grownBy_alloc W o _), World.ownsRow.alloc h.own o, h.hgc⟩
/-- One fault more. -/
theorem XF.app {w W W' : World} {gc n cap : Nat} {a : Option Addr} {zs : List Int} {v v' : Value} {fs : List FtD} {p : FtD} (h : XF w W gc n cap a zs v fs) (hg : W.grownBy W' v.ownBlock) (ho : W'.ownsRow w.heap.size 51 3 v' (fs.length + 1) (ftE.xv (fs ++ [p]))) : XF w W' gc n cap a zs v' (fs ++ [p]) := by
  have h2 := h.hgc
  have hne : ∀ g, v.ownBlock = some g → g ≠ gc ∧ w.heap.size ≤ g := fun g hv => by have := (row_at h.own hv).1; omega
  have s1 : Src W' gc n cap a zs := by
    cases hv : v.ownBlock with
    | none => rw [hv] at hg; exact h.src.keep ((Below.refl _ _).grown hg (Nat.le_refl _) (by simp))
    | some g => rw [hv] at hg; exact h.src.other hg (by have := hne g hv; omega)
  have g1 : w.grownBy W' (some gc) := by
    cases hv : v.ownBlock with
    | none => rw [hv] at hg; exact h.gr.trans (gr_non hg gc)
    | some g => rw [hv] at hg; exact gr_mono h.gr (.inr (hne g hv).2) hg
  exact ⟨s1, g1, by rw [List.length_append]; exact ho, h2⟩
/-- Faults were drawn, in memory of their own. -/
def FaDr (w : World) (gc n cap : Nat) (a : Option Addr) (zs : List Int) (e : Ending) (w' : World) : Prop := ∃ (v : Value) (fs : List FtD), e = .returned v ∧ fs.length ≤ 3 ∧ faultsB fs = true ∧ w'.ownsRow w.heap.size 51 3 v fs.length (ftE.xv fs) ∧ Src w' gc n cap a zs ∧ w.grownBy w' (some gc)
theorem f5_in (k : Nat) (h : k < 5) : 0 ≤ ([0, 1, 5, 8, 400] : List Int).getD k 0 ∧ ([0, 1, 5, 8, 400] : List Int).getD k 0 ≤ 400 := by
  rcases (show k = 0 ∨ k = 1 ∨ k = 2 ∨ k = 3 ∨ k = 4 by omega) with rfl | rfl | rfl | rfl | rfl <;> simp
set_option maxRecDepth 100000 in
set_option maxHeartbeats 4000000 in
theorem l11FaultListS (gc n cap : Nat) (a : Option Addr) (zs : List Int) (w : World) (h : Src w gc n cap a zs) :
    Calls Tryz.prog 64 #[.pointer (some ⟨gc, 0, none⟩)] w (FaDr w gc n cap a zs) := by
  have hgc := h.cur.lt
  have x0 : XF w (w.alloc (.cells #[] 51)) gc n cap a zs (.slice (some ⟨w.heap.size, 0, none⟩) 0 0) [] :=
    ⟨h.alloc _, World.grownBy_alloc w _ _, empty_row w w.heap.size 51 3 (Nat.le_refl _), hgc⟩
  obtain ⟨ie, hie, ze0, ze1, ze2⟩ := info_parts Tryz.infoFault
  obtain ⟨P, hP⟩ : ∃ P, FaDr w gc n cap a zs = P := ⟨_, rfl⟩
  have HP : Hid _ := hP
  rw [hP]
  clear hP h
  go_enter Tryz.func64, Tryz.ntmps64
  go_wp2_with fail
  obtain ⟨W0, hW0⟩ : ∃ W, w.alloc (.cells #[] 51) = W := ⟨_, rfl⟩
  rw [hW0] at x0 ⊢
  clear hW0
  refine (below_step gc n cap a zs 4 W0 x0.src (by omega) (by omega)).mono ?_
  rintro e w1 ⟨x, rfl, hx, s1, g1⟩
  have d1 := x0.step s1 g1
  clear x0 s1 g1
  go_wp2
  go_loopw [3, 4, 5] (fun o t i wr => ∃ (k q : Nat) (v : Value) (fs : List FtD), o = v ∧ t = .int .i64 q ∧ i = .int .i64 k ∧ fs.length + k ≤ 3 ∧ q ≤ 12 * fs.length ∧ Hid (FtG q fs) ∧ XF w wr gc n cap a zs v fs) (fun _ _ i _ => (intOf i).toNat)
  case atStart => exact ⟨x, 0, _, [], rfl, rfl, rfl, by simp; omega, by simp, ftG_nil, d1⟩
  case round =>
    obtain ⟨k, q, v, fs, hov, rfl, rfl, hl, hq, hfg, xk⟩ := hrel
    have hov2 := hov.symm
    subst hov2
    clear d1
    by_cases hk0 : 0 < k
    · have hki : (0 : Int) < (k : Int) := by omega
      have hkd : decide (0 < k) = true := by simp; omega
      go_wp2_with fail
      refine (below_step gc n cap a zs 12 wr xk.src (by omega) (by omega)).mono ?_
      rintro e w2 ⟨y, rfl, hy, s2, g2⟩
      have d2 := xk.step s2 g2
      obtain ⟨T, hT⟩ : ∃ T, q + y = T := ⟨_, rfl⟩
      have HT : Hid (q + y = T) := hT
      have hwa : IntKind.i64.wrap ((q : Int) + (y : Int)) = (T : Int) := by rw [IntKind.wrap_i64]; omega
      clear hT
      clear xk s2 g2
      go_wp2_with fail
      refine (below_step gc n cap a zs 2 w2 d2.src (by omega) (by omega)).mono ?_
      rintro e w3 ⟨z, rfl, hz, s3, g3⟩
      have d3 := d2.step s3 g3
      have hwz : IntKind.i64.wrap (1 + (z : Int)) = 1 + (z : Int) := by rw [IntKind.wrap_i64]; omega
      have dS := d3.alloc (.cells #[.int .i64 0, .int .i64 1, .int .i64 5, .int .i64 8, .int .i64 400] 3)
      have hcI := int_step gc n cap a zs w3.heap.size 5 [0, 1, 5, 8, 400] _ dS.src rfl (by omega) (by omega) (by have := d3.src.cur.lt; omega) (fun j hj => ints_cells w3 [0, 1, 5, 8, 400] 3 j hj)
      clear d2 s3 g3
      go_wp2_with fail
      (with_reducible refine hcI.mono ?_)
      rintro e u4 ⟨k5, rfl, hk5, s5, g5'⟩
      have d4 := dS.step s5 g5'
      have hkp := f5_in k5 hk5
      obtain ⟨iq, hiq⟩ : ∃ z, ([0, 1, 5, 8, 400] : List Int).getD k5 0 = z := ⟨_, rfl⟩
      rw [hiq] at hkp ⊢
      have hpn : Hid (FtG (T + 1) (fs ++ [⟨(T : Int), 1 + (z : Int), iq⟩])) := by rw [← HT.out]; exact hfg.out.put (by omega) hkp
      have hrow := World.ownsRow.alloc d4.own (.cells #[.int .i64 (T : Int), .int .i64 (1 + (z : Int)), .int .i64 iq] 51)
      have hbw : w.heap.size ≤ (u4.alloc (.cells #[.int .i64 (T : Int), .int .i64 (1 + (z : Int)), .int .i64 iq] 51)).heap.size := by simp; have := d4.gr.size; omega
      clear hiq hcI d3 dS s5 g5' hfg
      go_wp2_with (at_builtin; refine wpList_append_lies (u4.alloc (.cells #[.int .i64 (T : Int), .int .i64 (1 + (z : Int)), .int .i64 iq] 51)) rfl (.tmp 17) (.tmp 26) 27 rfl w.heap.size 51 ie _ 3 24 Tryz.underlying27 hie ze0 ze1 ze2 rfl (by omega) v fs.length (ftE.xv fs) rfl hrow ⟨u4.heap.size, 0, none⟩ 1 1 [.int .i64 (T : Int), .int .i64 (1 + (z : Int)), .int .i64 iq] rfl rfl (three_news u4 _ _ _ _) (by intro u hu; simp at hu; rcases hu with rfl | rfl | rfl <;> rfl) (by omega) (by unfold maxLen; omega) (by omega) hbw (u4.heap.size + 1) (by simp) ?_; intro g5 c5 u5 ho5 hg5 hat5 hlt5; have d6 := (d4.alloc (.cells #[.int .i64 (T : Int), .int .i64 (1 + (z : Int)), .int .i64 iq] 51)).app (v' := .slice (some ⟨g5, 0, none⟩) (fs.length + 1) c5) (p := ⟨(T : Int), 1 + (z : Int), iq⟩) hg5 (by rw [ftE_snoc]; exact ho5); clear hrow hbw hwa hwz)
      have hT := HT.out
      have hwt : IntKind.i64.wrap ((T : Int) + 1) = ((T + 1 : Nat) : Int) := by rw [IntKind.wrap_i64]; omega
      obtain ⟨m, hm⟩ : ∃ m, k = m + 1 := ⟨k - 1, by omega⟩
      subst hm
      have hwk : IntKind.i64.wrap (((m + 1 : Nat) : Int) - 1) = (m : Int) := by rw [IntKind.wrap_i64]; omega
      clear hT
      go_wp2
      go_roundw
      case rel => exact ⟨m, T + 1, _, _, rfl, by have := HT.out; rw [show wrap64 ((T : Int) + 1) = ((T + 1 : Nat) : Int) by unfold wrap64; omega], by congr 1; omega, by rw [List.length_append, List.length_singleton]; omega, by have := HT.out; rw [List.length_append, List.length_singleton]; omega, hpn, d6⟩
      case measure => simp [intOf]
    · have hki : ¬ (0 : Int) < (k : Int) := by omega
      have hkd : decide (0 < k) = false := by simp; omega
      have hok : faultsB fs = true := hfg.out.ok (by omega) (by omega)
      go_wp2
      rw [← HP.out]
      exact ⟨_, _, rfl, by omega, hok, xk.own, xk.src, xk.gr⟩
end

section
open Go.RowKit
theorem sv_new {F : List Nat} {w W : World} {X i : Nat} {v : Value} (h : Sv F w W) (hX : w.heap.size ≤ X) : Sv F w (W.setCell ⟨X, i, none⟩ v) :=
  ⟨h.os, h.tape, h.output, by rw [size_setC]; exact h.size, fun k hk hn => (Below.heap_setCell _ _ _ _ (by show k ≠ X; omega)).trans (h.block k hk hn)⟩
theorem Own.len2 {w : World} {g m c : Nat} {ys : List Int} (h : Own w g m c ys) : ys.length = m := OwnV.len h
theorem sv_grown {w w' : World} {gc : Nat} (h : w.grownBy w' (some gc)) : Sv [gc] w w' := Sv.gr h (fun g hg => by simp at hg; simp [hg])
theorem Src.set {w : World} {gc n cap X i : Nat} {a : Option Addr} {zs : List Int} {v : Value} (h : Src w gc n cap a zs) (hX : gc < X) : Src (w.setCell ⟨X, i, none⟩ v) gc n cap a zs := h.other (gr_setC w X i v) hX
end

section
open Go.RowKit
/-- A drawn device that is right, all its memory behind the base, its box (of a device, or of a log around it), and the answer's. -/
structure XL (w W : World) (gc n cap : Nat) (a : Option Addr) (zs : List Int) (X : Nat) (T : TypeId) (Zs xs : Array Value) (D : DvD) (va : Option Addr) (vn vc : Nat) (fa : Option Addr) (m fc : Nat) (qs : List BkR) : Prop where
  src : Src W gc n cap a zs
  sv : Sv [gc] w W
  nd : NewDv W (w.heap.size + 1) va vn vc fa m fc D.ds D.fs qs
  ql : qs.length = vn
  ok : devB D.ds D.ops D.fs = true
  res : Blk W w.heap.size T Zs
  hgc : gc < w.heap.size
  hX : w.heap.size < X
  x : Blk W X T xs
  xf : X ∉ fpDv va vn vc fa m fc qs
  bt : BytC D.ds
theorem XL.step {W' : World} {w W : World} {gc n cap : Nat} {a : Option Addr} {zs : List Int} {X : Nat} {T : TypeId} {Zs xs : Array Value} {D : DvD} {va : Option Addr} {vn vc : Nat} {fa : Option Addr} {m fc : Nat} {qs : List BkR} (h : XL w W gc n cap a zs X T Zs xs D va vn vc fa m fc qs) (hs : Src W' gc n cap a zs) (hg : W.grownBy W' (some gc)) : XL w W' gc n cap a zs X T Zs xs D va vn vc fa m fc qs :=
  have k := sv_grown hg
  ⟨hs, h.sv.trans k, h.nd.svs k (fun g hg hf => by have := h.nd.from g hg; have := h.hgc; simp at hf; omega), h.ql, h.ok, Blk.svs h.res k (by have := h.hgc; simp; omega), h.hgc, h.hX, Blk.svs h.x k (by have := h.hgc; have := h.hX; simp; omega), h.xf, h.bt⟩
theorem XL.keep {W' : World} {w W : World} {gc n cap : Nat} {a : Option Addr} {zs : List Int} {X : Nat} {T : TypeId} {Zs xs : Array Value} {D : DvD} {va : Option Addr} {vn vc : Nat} {fa : Option Addr} {m fc : Nat} {qs : List BkR} (h : XL w W gc n cap a zs X T Zs xs D va vn vc fa m fc qs) (hb : Below W.heap.size W W') : XL w W' gc n cap a zs X T Zs xs D va vn vc fa m fc qs :=
  ⟨h.src.keep hb, h.sv.trans (Below.sv hb _), h.nd.keep hb, h.ql, h.ok, h.res.keep hb, h.hgc, h.hX, h.x.keep hb, h.xf, h.bt⟩
theorem XL.drew {w W : World} {gc n cap : Nat} {a : Option Addr} {zs : List Int} {X : Nat} {T : TypeId} {Zs xs : Array Value} {D : DvD} {va : Option Addr} {vn vc : Nat} {fa : Option Addr} {m fc : Nat} {qs : List BkR} (h : XL w W gc n cap a zs X T Zs xs D va vn vc fa m fc qs) : XL w W.drew gc n cap a zs X T Zs xs D va vn vc fa m fc qs := h.keep (Below.refl W.heap.size W).drew
theorem XL.setX {w W : World} {gc n cap : Nat} {a : Option Addr} {zs : List Int} {X : Nat} {T : TypeId} {Zs xs : Array Value} {D : DvD} {va : Option Addr} {vn vc : Nat} {fa : Option Addr} {m fc : Nat} {qs : List BkR} (h : XL w W gc n cap a zs X T Zs xs D va vn vc fa m fc qs) (j : Nat) (v : Value) : XL w (W.setCell ⟨X, j, none⟩ v) gc n cap a zs X T Zs (xs.setIfInBounds j v) D va vn vc fa m fc qs := by
  have hg := gr_setC W X j v
  have h1 := h.hX
  have h2 := h.hgc
  have k : Sv [gc] w (W.setCell ⟨X, j, none⟩ v) := ⟨hg.os.trans h.sv.os, hg.tape.trans h.sv.tape, hg.output.trans h.sv.output, Nat.le_trans h.sv.size hg.size, fun b hb hf => (hg.block b (Nat.lt_of_lt_of_le hb h.sv.size) (by simp; omega)).trans (h.sv.block b hb hf)⟩
  exact ⟨h.src.other hg (by omega), k, h.nd.setN h.xf, h.ql, h.ok, h.res.other (by omega) j v, h.hgc, h.hX, h.x.set j v, h.xf, h.bt⟩
theorem XL.setR {w W : World} {gc n cap : Nat} {a : Option Addr} {zs : List Int} {X : Nat} {T : TypeId} {Zs xs : Array Value} {D : DvD} {va : Option Addr} {vn vc : Nat} {fa : Option Addr} {m fc : Nat} {qs : List BkR} (h : XL w W gc n cap a zs X T Zs xs D va vn vc fa m fc qs) (j : Nat) (v : Value) : XL w (W.setCell ⟨w.heap.size, j, none⟩ v) gc n cap a zs X T (Zs.setIfInBounds j v) xs D va vn vc fa m fc qs := by
  have hg := gr_setC W w.heap.size j v
  have h1 := h.hX
  have h2 := h.hgc
  have k : Sv [gc] w (W.setCell ⟨w.heap.size, j, none⟩ v) := ⟨hg.os.trans h.sv.os, hg.tape.trans h.sv.tape, hg.output.trans h.sv.output, Nat.le_trans h.sv.size hg.size, fun b hb hf => (hg.block b (Nat.lt_of_lt_of_le hb h.sv.size) (by simp; omega)).trans (h.sv.block b hb hf)⟩
  exact ⟨h.src.other hg (by omega), k, h.nd.set_below (by omega), h.ql, h.ok, h.res.set j v, h.hgc, h.hX, h.x.other (by omega) j v, h.xf, h.bt⟩
/-- Another device, in memory of its own. -/
theorem XL.new {W' : World} {D' : DvD} {va' : Option Addr} {vn' vc' : Nat} {fa' : Option Addr} {m' fc' : Nat} {qs' : List BkR} {w W : World} {gc n cap : Nat} {a : Option Addr} {zs : List Int} {X : Nat} {T : TypeId} {Zs xs : Array Value} {D : DvD} {va : Option Addr} {vn vc : Nat} {fa : Option Addr} {m fc : Nat} {qs : List BkR} (h : XL w W gc n cap a zs X T Zs xs D va vn vc fa m fc qs) (hb : Below W.heap.size W W') (hn : NewDv W' W.heap.size va' vn' vc' fa' m' fc' D'.ds D'.fs qs') (hl : qs'.length = vn') (hok : devB D'.ds D'.ops D'.fs = true) (hbt : BytC D'.ds) : XL w W' gc n cap a zs X T Zs xs D' va' vn' vc' fa' m' fc' qs' := by
  have h1 := h.hX
  have h2 := h.x.lt
  exact ⟨h.src.keep hb, h.sv.trans (Below.sv hb _), hn.wider (by omega), hl, hok, h.res.keep hb, h.hgc, h.hX, h.x.keep hb, fun hf => by have := hn.from X hf; omega, hbt⟩
theorem XL.down {w W : World} {gc n cap : Nat} {a : Option Addr} {zs : List Int} {X : Nat} {T : TypeId} {Zs xs : Array Value} {D : DvD} {va : Option Addr} {vn vc : Nat} {fa : Option Addr} {m fc : Nat} {qs : List BkR} (h : XL w W gc n cap a zs X T Zs xs D va vn vc fa m fc qs) (b : Bool) : XL w W gc n cap a zs X T Zs xs ⟨D.ds, D.ops, D.fs, b⟩ va vn vc fa m fc qs := ⟨h.src, h.sv, h.nd, h.ql, h.ok, h.res, h.hgc, h.hX, h.x, h.xf, h.bt⟩
theorem XL.cr {w W : World} {gc n cap : Nat} {a : Option Addr} {zs : List Int} {X : Nat} {T : TypeId} {Zs xs : Array Value} {D : DvD} {va : Option Addr} {vn vc : Nat} {fa : Option Addr} {m fc : Nat} {qs : List BkR} (h : XL w W gc n cap a zs X T Zs xs D va vn vc fa m fc qs) : CR W va vn qs := h.nd.cr h.ql (devB_tot h.ok)
theorem XL.fr {w W : World} {gc n cap : Nat} {a : Option Addr} {zs : List Int} {X : Nat} {T : TypeId} {Zs xs : Array Value} {D : DvD} {va : Option Addr} {vn vc : Nat} {fa : Option Addr} {m fc : Nat} {qs : List BkR} (h : XL w W gc n cap a zs X T Zs xs D va vn vc fa m fc qs) : FR W fa m D.fs := ⟨OwnE.len h.nd.fs, (by
  have h1 := (devB_parts.1 h.ok).2.2
  have h2 := OwnE.len h.nd.fs
  unfold faultsB at h1
  simp at h1
  omega), h.nd.fs.rd⟩
theorem XL.vn {w W : World} {gc n cap : Nat} {a : Option Addr} {zs : List Int} {X : Nat} {T : TypeId} {Zs xs : Array Value} {D : DvD} {va : Option Addr} {vn vc : Nat} {fa : Option Addr} {m fc : Nat} {qs : List BkR} (h : XL w W gc n cap a zs X T Zs xs D va vn vc fa m fc qs) : D.ds.length = vn ∧ 3 ≤ vn ∧ vn ≤ 24 := by
  have h1 := (devB_parts.1 h.ok).1
  have h2 := h.nd.bs.len
  have h3 := h.ql
  have := h1.1
  have := h1.2.1
  omega
/-- A log was drawn: its device is right, in memory of its own. -/
def P13 (w : World) (gc n cap : Nat) (a : Option Addr) (zs : List Int) (e : Ending) (w' : World) : Prop := ∃ (D : DvD) (seq : Int) (va : Option Addr) (vn vc : Nat) (fa : Option Addr) (m fc : Nat) (qs : List BkR), e = .returned (.agg #[.slice va vn vc, .int .i64 D.ops, .slice fa m fc, .bool D.down, .int .i64 seq]) ∧ NewDv w' w.heap.size va vn vc fa m fc D.ds D.fs qs ∧ qs.length = vn ∧ devB D.ds D.ops D.fs = true ∧ BytC D.ds ∧ SeqO 20 D.ds D.ops seq ∧ Src w' gc n cap a zs ∧ Sv [gc] w w'
def EX13 (w W : World) (gc n cap : Nat) (a : Option Addr) (zs : List Int) (X t : Nat) : Prop := ∃ (D : DvD) (seq : Int) (va : Option Addr) (vn vc : Nat) (fa : Option Addr) (m fc : Nat) (qs : List BkR), XL w W gc n cap a zs X 55 #[.slice none 0 0, .int .i64 0, .slice none 0 0, .bool false, .int .i64 0] #[.slice va vn vc, .int .i64 D.ops, .slice fa m fc, .bool D.down, .int .i64 seq] D va vn vc fa m fc qs ∧ SeqO t D.ds D.ops seq
set_option maxRecDepth 100000 in
set_option maxHeartbeats 16000000 in
theorem l13DrawS (gc n cap : Nat) (a : Option Addr) (zs : List Int) (w : World) (h : Src w gc n cap a zs) :
    Calls Tryz.prog 83 #[.pointer (some ⟨gc, 0, none⟩)] w (P13 w gc n cap a zs) := by
  have hgc := h.cur.lt
  have B0 : Below w.heap.size w (w.alloc (.cells #[.slice none 0 0, .int .i64 0, .slice none 0 0, .bool false, .int .i64 0] 55)) := (Below.refl _ w).alloc (Nat.le_refl _) _
  have z0 := Blk.new w 55 #[.slice none 0 0, .int .i64 0, .slice none 0 0, .bool false, .int .i64 0]
  have h0 := h.keep B0
  have hsz0 : (w.alloc (.cells #[.slice none 0 0, .int .i64 0, .slice none 0 0, .bool false, .int .i64 0] 55)).heap.size = w.heap.size + 1 := by simp
  generalize hGP : P13 w gc n cap a zs = P
  have HGP : Hid _ := hGP
  clear hGP h
  go_enter Tryz.func83, Tryz.ntmps83
  go_wp2_with fail
  obtain ⟨W0, hW0⟩ : ∃ W, w.alloc (.cells #[.slice none 0 0, .int .i64 0, .slice none 0 0, .bool false, .int .i64 0] 55) = W := ⟨_, rfl⟩
  rw [hW0] at B0 z0 h0 hsz0 ⊢
  clear hW0
  refine (below_step gc n cap a zs 3 W0 h0 (by omega) (by omega)).mono ?_
  rintro e w1 ⟨y, rfl, hy, h1, gr1⟩
  have sv1 := sv_grown gr1
  have z1 := Blk.svs z0 sv1 (by simp; omega)
  have hg1 := gr1.size
  have hwy : IntKind.i64.wrap (3 + (y : Int)) = 3 + (y : Int) := wrap_small _ (by omega) (by omega)
  have SV1 := (Below.sv B0 [gc]).trans sv1
  clear h0 z0 gr1 sv1
  go_wp2_with fail
  refine (l11FaultListS gc n cap a zs w1 h1).mono ?_
  rintro e w2 ⟨v, fs, rfl, hfl, hfb, hfo, h2, gr2⟩
  have sv2 := sv_grown gr2
  have z2 := Blk.svs z1 sv2 (by simp; omega)
  have hg2 := gr2.size
  have SV2 := SV1.trans sv2
  obtain ⟨fa, fc, rfl⟩ : ∃ fa fc, v = .slice fa fs.length fc := by
    rcases hfo.2 with ⟨rfl, h0⟩ | ⟨g, c, cur, rfl, _⟩
    · exact ⟨none, 0, by rw [h0]⟩
    · exact ⟨_, c, rfl⟩
  have hof : OwnFa w2 (.slice fa fs.length fc) fs.length fs := ⟨hfo.1, by
    rcases hfo.2 with h1 | ⟨g, c, cur, e, _, rest⟩
    · exact .inl h1
    · exact .inr ⟨g, c, cur, e, Nat.zero_le _, rest⟩⟩
  have hdv := devNewS (3 + (y : Int)) fa fs.length fc fs w2 (hof.fr (by omega))
  have hnew : devN (3 + (y : Int)) fs = ⟨newD (3 + (y : Int)), 0, fs, false⟩ := by
    unfold devN
    rw [if_pos (devB_parts.2 ⟨ok_new (by omega), by omega, hfb⟩)]
  have hok0 : devB (newD (3 + (y : Int))) 0 fs = true := devB_parts.2 ⟨ok_new (by omega), by omega, hfb⟩
  rw [hnew] at hdv
  have hbt0 : BytC (newD (3 + (y : Int))) := bytC_new _
  have hsq0 : SeqO 0 (newD (3 + (y : Int))) 0 0 := ⟨seqB_new _, by omega, by omega⟩
  generalize newD (3 + (y : Int)) = ds0 at hdv hok0 hbt0 hsq0
  clear hnew hfo hof h1 z1 SV1 sv2 gr2 hfb
  go_wp2_with fail
  refine hdv.mono ?_
  rintro e w3 ⟨va, vn, vc, fb, m, gc2, qs, rfl, hnd, hql, b3⟩
  have b4 : Below w3.heap.size w3 (w3.alloc (.cells #[.slice va vn vc, .int .i64 0, .slice fb m gc2, .bool false, .int .i64 0] 55)) := (Below.refl _ _).alloc (Nat.le_refl _) _
  have hg3 := b3.size
  have XR0 : XL w (w3.alloc (.cells #[.slice va vn vc, .int .i64 0, .slice fb m gc2, .bool false, .int .i64 0] 55)) gc n cap a zs w3.heap.size 55 #[.slice none 0 0, .int .i64 0, .slice none 0 0, .bool false, .int .i64 0] #[.slice va vn vc, .int .i64 0, .slice fb m gc2, .bool false, .int .i64 0] ⟨ds0, 0, fs, false⟩ va vn vc fb m gc2 qs :=
    ⟨(h2.keep b3).keep b4, (SV2.trans (Below.sv b3 _)).trans (Below.sv b4 _), (hnd.keep b4).wider (by omega), hql, hok0, (z2.keep b3).keep b4, hgc, by omega, Blk.new w3 _ _, fun hf => by have := hnd.lt _ hf; omega, hbt0⟩
  have HX0 : Hid (XL w (w3.alloc (.cells #[.slice va vn vc, .int .i64 0, .slice fb m gc2, .bool false, .int .i64 0] 55)) gc n cap a zs w3.heap.size 55 #[.slice none 0 0, .int .i64 0, .slice none 0 0, .bool false, .int .i64 0] #[.slice va vn vc, .int .i64 0, .slice fb m gc2, .bool false, .int .i64 0] ⟨ds0, 0, fs, false⟩ va vn vc fb m gc2 qs) := XR0
  clear XR0 b4 b3 hnd hql h2 z2 SV2 hdv hok0 hfl B0 hsz0
  go_wp2_with fail
  obtain ⟨W4, hW4⟩ : ∃ W, w3.alloc (.cells #[.slice va vn vc, .int .i64 0, .slice fb m gc2, .bool false, .int .i64 0] 55) = W := ⟨_, rfl⟩
  obtain ⟨X, hX⟩ : ∃ X, w3.heap.size = X := ⟨_, rfl⟩
  rw [hW4, hX] at HX0
  rw [hW4]
  try rw [hX]
  clear hW4 hX hg1 hg2 hg3
  refine (below_step gc n cap a zs 20 W4 HX0.out.src (by omega) (by omega)).mono ?_
  rintro e w5 ⟨y2, rfl, hy2, h5, gr5⟩
  have HST : Hid (EX13 w w5 gc n cap a zs X 0) := ⟨⟨ds0, 0, fs, false⟩, 0, _, _, _, _, _, _, _, HX0.out.step h5 gr5, hsq0⟩
  clear HX0 h5 gr5
  go_wp2
  go_loopw [4] (fun i wr => ∃ j : Nat, j ≤ 20 ∧ i = .int .i64 j ∧ Hid (EX13 w wr gc n cap a zs X (20 - j))) (fun i _ => (intOf i).toNat)
  case atStart => exact ⟨y2, by omega, rfl, by obtain ⟨D, seq, va, vn, vc, fa, m, fc, qs, xl, hs⟩ := HST.out; exact ⟨D, seq, va, vn, vc, fa, m, fc, qs, xl, hs.le (by omega)⟩⟩
  case round =>
    obtain ⟨j, hj, rfl, hst⟩ := hrel
    clear HST
    obtain ⟨D, seq, va, vn, vc, fa, m, fc, qs, xl, hsq⟩ := hst.out
    clear hst
    by_cases hj0 : 0 < j
    · have hji : (0 : Int) < (j : Int) := by omega
      obtain ⟨i, rfl⟩ : ∃ i, j = i + 1 := ⟨j - 1, by omega⟩
      have hwi : IntKind.i64.wrap (i : Int) = (i : Int) := wrap_small _ (by omega) (by omega)
      go_upto_region 5 with fail
      have xd := xl.drew
      obtain ⟨c0, c1, c2, c3, c4⟩ := xd.x.log
      have hb4 := below_step gc n cap a zs 4 wr.drew xd.src (by omega) (by omega)
      rw [show ((4 : Nat) : Int) = 4 from rfl] at hb4
      clear xl
      go_cut [18] (fun _ wx => EX13 w wx gc n cap a zs X (20 - i))
      case first =>
        go_region_with (first
          | (go_at_call 43; (first | ((with_reducible refine hb4.mono ?_); rintro e w6 ⟨k, rfl, hk, h6, g6⟩; have x6 := xd.step h6 g6; have hwk : IntKind.i64.wrap (1 + (k : Int)) = 1 + (k : Int) := wrap_small _ (by omega) (by omega); obtain ⟨d0, d1, d2, d3, d4⟩ := x6.x.log) | (have hb2 := below_step gc n cap a zs 2 w7 x7.src (by omega) (by omega); rw [show ((2 : Nat) : Int) = 2 from rfl] at hb2; (with_reducible refine hb2.mono ?_); rintro e w8 ⟨sp, rfl, hsp, h8, g8⟩; have x8 := x7.step h8 g8; have o8 := Own.kept oy g8 (by have := x7.hgc; have := x7.src.cur.lt; omega); obtain ⟨i0, i1, i2, i3, i4⟩ := x8.x.log)))
          | (go_at_call 45; (with_reducible refine (some_step gc n cap a zs w6 x6.src).mono ?_); rintro e w7 ⟨gy, my, cy, ys, rfl, hmy, hgy, hby, oy, h7, g7⟩; have x7 := x6.step h7 g7; have hgyc : gc < gy := (by have := x6.src.cur.lt; omega); obtain ⟨f0, f1, f2, f3, f4⟩ := x7.x.log)
          | (go_at_call 31; (with_reducible refine (writeS va vn vc qs D.ops fa m fc D.fs D.down seq (1 + (k : Int)) ys (some ⟨gy, 0, none⟩) my cy (sp : Int) w8 x8.cr x8.fr o8.len (by omega) o8.rd hby).mono ?_); rintro e w9 ⟨va', vn', vc', fa', m', fc', qs', rfl, hn9, hl9, b9⟩; obtain ⟨j0, j1, j2, j3, j4⟩ := (x8.keep b9).x.log; have l0 := (x8.keep b9).x.frozen 0; have l1 := (x8.keep b9).x.frozen 1; have l2 := (x8.keep b9).x.frozen 2; have l3 := (x8.keep b9).x.frozen 3; have l4 := (x8.keep b9).x.frozen 4))
        all_goals (
          have hD8 := x8.nd.bs.D
          have hk8 := wrOut_keep (down := D.down) (seq := seq) (kind := 1 + (k : Int)) (body := ys) (spare := (sp : Int)) x8.ok
          rw [← hD8] at hk8
          have hb8 := bytC_wrOut (ops := D.ops) (fs := D.fs) (down := D.down) (seq := seq) (kind := 1 + (k : Int)) (body := ys) (spare := (sp : Int)) x8.bt
          rw [← hD8] at hb8
          have hs8 := seqO_wrOut (fs := D.fs) (down := D.down) (kind := 1 + (k : Int)) (spare := (sp : Int)) hby (by have := xd.vn; omega) hsq
          rw [← hD8] at hs8
          have x9 := x8.new (D' := (wrOut (qs.map BkR.D) D.ops D.fs D.down seq (1 + (k : Int)) ys (sp : Int)).D D.fs) b9 hn9 hl9 hk8.1 hb8
          have xa := ((((x9.setX 0 (.slice va' vn' vc')).setX 1 (.int .i64 ((wrOut (qs.map BkR.D) D.ops D.fs D.down seq (1 + (k : Int)) ys (sp : Int)).D D.fs).ops)).setX 2 (.slice fa' m' fc')).setX 3 (.bool ((wrOut (qs.map BkR.D) D.ops D.fs D.down seq (1 + (k : Int)) ys (sp : Int)).D D.fs).down)).setX 4 (.int .i64 ((wrOut (qs.map BkR.D) D.ops D.fs D.down seq (1 + (k : Int)) ys (sp : Int)).sq seq))
          have he : EX13 w _ gc n cap a zs X (20 - i) := ⟨_, _, _, _, _, _, _, _, _, xa, hs8.le (by omega)⟩
          clear x9 xa hk8 hD8 hb8 hs8
          go_wp2_with fail
          go_meet
          exact he)
      case rest =>
        obtain ⟨D2, seq2, va2, vn2, vc2, fa2, m2, fc2, qs2, xl2, hsq2⟩ := hcut
        obtain ⟨e0, e1, e2, e3, e4⟩ := xl2.x.log
        clear xd c0 c1 c2 c3 c4 hb4
        have hsub : IntKind.i64.wrap ((i : Int) + 1 - 1) = (i : Int) := by rw [show (i : Int) + 1 - 1 = (i : Int) by omega]; exact wrap_small _ (by omega) (by omega)
        cases hdn : D2.down with
        | false =>
          rw [hdn] at e3
          go_wp2
          go_roundw
          case rel => exact ⟨i, by omega, (by try simp), ⟨D2, seq2, _, _, _, _, _, _, _, xl2, hsq2⟩⟩
          case measure => simp [intOf]
        | true =>
          rw [hdn] at e3
          have hc3 := once_step gc n cap a zs 3 wc xl2.src (by omega) (by omega)
          rw [show ((3 : Nat) : Int) = 3 from rfl] at hc3
          go_wp2_with fail
          refine hc3.mono ?_
          rintro e w10 ⟨B, rfl, h10, g10⟩
          have xl3 := xl2.step h10 g10
          have l3 := xl3.x.frozen 3
          have xl4 := (xl3.setX 3 (.bool false)).down false
          obtain ⟨g0, g1, g2, g3, g4⟩ := xl3.x.log
          cases B with
          | false =>
            go_wp2
            go_roundw
            case rel => exact ⟨i, by omega, (by try simp), ⟨D2, seq2, _, _, _, _, _, _, _, xl3, hsq2⟩⟩
            case measure => simp [intOf]
          | true =>
            go_wp2
            go_roundw
            case rel => exact ⟨i, by omega, (by try simp), ⟨⟨D2.ds, D2.ops, D2.fs, false⟩, seq2, _, _, _, _, _, _, _, xl4, hsq2⟩⟩
            case measure => simp [intOf]
    · obtain rfl : j = 0 := by omega
      obtain ⟨e0, e1, e2, e3, e4⟩ := xl.x.log
      obtain ⟨r0, r1, r2, r3, r4⟩ := xl.res.log
      have l0 := xl.res.frozen 0
      have l1 := xl.res.frozen 1
      have l2 := xl.res.frozen 2
      have l3 := xl.res.frozen 3
      have l4 := xl.res.frozen 4
      have xf := ((((xl.setR 0 (.slice va vn vc)).setR 1 (.int .i64 D.ops)).setR 2 (.slice fa m fc)).setR 3 (.bool D.down)).setR 4 (.int .i64 seq)
      have zf := xf.res
      simp at zf
      obtain ⟨s0, s1, s2, s3, s4⟩ := zf.log
      have HXF : Hid _ := xf
      clear xf zf xl
      go_wp2
      refine bodyPost_ret (v := .agg #[.slice va vn vc, .int .i64 D.ops, .slice fa m fc, .bool D.down, .int .i64 seq]) (by simp [results, Tryz.f83, go_sem, s0, s1, s2, s3, s4]) rfl ?_
      rw [← HGP.out]
      have xf := HXF.out
      exact ⟨D, seq, va, vn, vc, fa, m, fc, qs, rfl, xf.nd.wider (by omega), xf.ql, xf.ok, xf.bt, hsq.le (by omega), xf.src, xf.sv⟩
end

section
open Go.RowKit
set_option maxHeartbeats 400000 in
theorem big_any (a : Option Addr) (n cap : Nat) (w : World) : Calls Tryz.prog 9 #[.slice a n cap] w fun e w' => e = .returned (.bool (decide ((1048576 : Int) < (n : Int)))) ∧ w' = w := by
  go_enter Tryz.func9, Tryz.ntmps9
  go_wp2
  go_ret
  exact ⟨rfl, rfl⟩
theorem Own.cap {w : World} {g n c : Nat} {zs : List Int} (h : Own w g n c zs) : n ≤ c := by
  rcases h.2 with ⟨h', _⟩ | ⟨g', cap', cur, h', _, _, hc, _⟩
  · simp at h'
  · simp only [Value.slice.injEq, Option.some.injEq, Addr.mk.injEq, and_true, true_and] at h'
    omega
theorem Byt.append {a b : List Int} (ha : Byt a) (hb : Byt b) : Byt (a ++ b) := by
  intro z hz
  rcases List.mem_append.1 hz with h | h
  · exact ha z h
  · exact hb z h
theorem Rd.take {w : World} {a : Option Addr} {zs : List Int} (h : Rd w a zs) (q : Nat) : Rd w a (zs.take q) := by
  rcases h with h | ⟨b, off, e, hc⟩
  · exact .inl (by rw [h]; simp)
  · refine .inr ⟨b, off, e, fun j hj => ?_⟩
    rw [List.length_take] at hj
    rw [hc j (by omega)]
    have hq : j < q := by omega
    simp [List.getD_eq_getElem?_getD, hq]
end
end Go.Proofs.YtoeeblmnogeonaaGreatDoor
