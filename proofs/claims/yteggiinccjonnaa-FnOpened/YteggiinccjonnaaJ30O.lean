/-
  Joined: LdK, LdE, RegV.
-/
import Derived.Test.YteggiinccjonnaaJ29O
namespace Go.Proofs.Yteggiinccjonnaa
section
open Go.RowKit
theorem ok_bad {ds : List BkD} (h : ChOk ds) (k : Nat) : ChOk (badD ds k) := by
  unfold badD
  split
  · rename_i b hb
    have hok := h.2.2 b (List.mem_of_getElem? hb)
    exact ok_set h ⟨hok.1, hok.2.1, hok.2.2.1, hok.2.2.2⟩
  · exact h
theorem next_range (n m : Nat) : nextP ((List.range n).map fun i => (⟨decide (i < m), []⟩ : PgD)) = min m n := by
  induction n with
  | zero => simp [nextP]
  | succ n ih =>
    unfold nextP at ih ⊢
    rw [List.range_succ, List.map_append, List.filter_append, List.length_append, ih]
    by_cases h : n < m
    · simp [h]; omega
    · simp [h]; omega
theorem ok_torn {ds : List BkD} (h : ChOk ds) (x : Int) (kp : Int) (hc : codeE true ds x = 0) : ChOk (tornD ds x.toNat kp) := by
  unfold codeE mayD at hc
  split at hc
  · omega
  · rename_i hx
    obtain ⟨k, rfl⟩ : ∃ k : Nat, x = (k : Int) := ⟨x.toNat, by omega⟩
    split at hc
    · omega
    · split at hc
      · omega
      · rename_i hw
        unfold tornD
        split
        · rename_i b hb
          rw [Int.toNat_natCast] at hb ⊢
          have hok := h.2.2 b (List.mem_of_getElem? hb)
          have hww : b.wear < 100000 := by
            unfold wornAt at hw
            simp [hb] at hw
            exact hw
          refine ok_set h ⟨by simp, by have := hok.2.1; dsimp only; omega, by dsimp only; omega, fun i p hp => ?_⟩
          have hp' : ((List.range 8).map fun i => (⟨decide (i < min kp.toNat 8), []⟩ : PgD))[i]? = some p := hp
          have hn : nextP ((List.range 8).map fun i => (⟨decide (i < min kp.toNat 8), []⟩ : PgD)) = min (min kp.toNat 8) 8 := next_range 8 _
          rw [List.getElem?_map] at hp'
          by_cases h8 : i < 8
          · rw [List.getElem?_range h8] at hp'
            simp only [Option.map_some, Option.some.injEq] at hp'
            subst hp'
            refine ⟨by simp [pgOk], ?_⟩
            show decide (i < min kp.toNat 8) = decide (i < nextP _)
            rw [hn]
            congr 1
            simp
          · rw [List.getElem?_eq_none (by simp; omega)] at hp'
            simp at hp'
        · exact h
theorem ok_progAt {ds : List BkD} (h : ChOk ds) {x : Int} {nb : Nat} (hc : codeP true ds x nb = 0) {zs : List Int} (hz : zs.length ≤ nb) : ChOk (progAt ds x.toNat zs) := by
  have h1 : codeP true ds x zs.length = 0 := by
    unfold codeP at hc ⊢
    split at hc
    · omega
    · rw [if_neg (by omega)]; exact hc
  have := ok_prog h x zs
  unfold programD at this
  rw [if_pos h1] at this
  exact this
theorem ok_eraseAt {ds : List BkD} (h : ChOk ds) {x : Int} (hc : codeE true ds x = 0) : ChOk (eraseAt ds x.toNat) := by
  have := ok_erase h x
  unfold eraseD at this
  rw [if_pos hc] at this
  exact this
/-- What an operation of a device leaves is right where each of its answers is. -/
theorem out_keep {ds a b : List BkD} {t : Int → List BkD} {ops : Int} {fs : List FtD} {down : Bool} {c : Int} {o : Option FtD} (h : devB ds ops fs = true) (ha : c = 0 → ChOk a) (hb : c = 0 → ChOk b) (ht : c = 0 → ∀ k, ChOk (t k)) : devB (outDs (evCode ds ops fs down c) o ds a b t) (outOps (evCode ds ops fs down c) ops) fs = true := by
  obtain ⟨h1, h2, h3⟩ := devB_parts.1 h
  by_cases hc : evCode ds ops fs down c = 0
  · have h4 : c = 0 ∧ ops < 100000 := by
      unfold evCode at hc
      rw [if_neg (by rw [h]; simp)] at hc
      split at hc
      · omega
      · rename_i h5
        exact ⟨hc, by omega⟩
    unfold outDs outOps
    rw [if_pos hc, if_pos hc]
    refine devB_parts.2 ⟨?_, by omega, h3⟩
    split
    · exact ha h4.1
    · split
      · exact hb h4.1
      · exact ht h4.1 _
  · unfold outDs outOps
    rw [if_neg hc, if_neg hc]
    exact h
theorem prog_keep {ds : List BkD} {ops : Int} {fs : List FtD} {down : Bool} {x : Int} {nb : Nat} {zs : List Int} (hz : zs.length = nb) (h : devB ds ops fs = true) : devB (outDs (evCode ds ops fs down (codeP true ds x nb)) (faD ops fs) ds (progAt ds x.toNat zs) (badD ds x.toNat) (fun t => progAt ds x.toNat (zs.take t.toNat))) (outOps (evCode ds ops fs down (codeP true ds x nb)) ops) fs = true :=
  have h1 := (devB_parts.1 h).1
  out_keep h (fun hc => ok_progAt h1 hc (by omega)) (fun _ => ok_bad h1 _) (fun hc k => ok_progAt h1 hc (by rw [List.length_take]; omega))
theorem erase_keep {ds : List BkD} {ops : Int} {fs : List FtD} {down : Bool} {x : Int} (h : devB ds ops fs = true) : devB (outDs (evCode ds ops fs down (codeE true ds x)) (faD ops fs) ds (eraseAt ds x.toNat) (badD ds x.toNat) (tornD ds x.toNat)) (outOps (evCode ds ops fs down (codeE true ds x)) ops) fs = true :=
  have h1 := (devB_parts.1 h).1
  out_keep h (fun hc => ok_eraseAt h1 hc) (fun _ => ok_bad h1 _) (fun hc k => ok_torn h1 x k hc)
end

section
open Go.RowKit
/-- A device was drawn: it is right, in memory of its own. -/
def P11 (w : World) (gc n cap : Nat) (a : Option Addr) (zs : List Int) (e : Ending) (w' : World) : Prop := ∃ (D : DvD) (va : Option Addr) (vn vc : Nat) (fa : Option Addr) (m fc : Nat) (qs : List BkR), e = .returned (.agg #[.slice va vn vc, .int .i64 D.ops, .slice fa m fc, .bool D.down]) ∧ NewDv w' w.heap.size va vn vc fa m fc D.ds D.fs qs ∧ qs.length = vn ∧ devB D.ds D.ops D.fs = true ∧ Src w' gc n cap a zs ∧ Sv [gc] w w'
def EX11 (w W : World) (gc n cap : Nat) (a : Option Addr) (zs : List Int) (X : Nat) : Prop := ∃ (D : DvD) (va : Option Addr) (vn vc : Nat) (fa : Option Addr) (m fc : Nat) (qs : List BkR), XL w W gc n cap a zs X 29 #[.slice none 0 0, .int .i64 0, .slice none 0 0, .bool false] #[.slice va vn vc, .int .i64 D.ops, .slice fa m fc, .bool D.down] D va vn vc fa m fc qs
theorem Blk.dev {W : World} {B : Nat} {t : TypeId} {v0 v1 v2 v3 : Value} (h : Blk W B t #[v0, v1, v2, v3]) : W.cell? ⟨B, 0, none⟩ = some v0 ∧ W.cell? ⟨B, 1, none⟩ = some v1 ∧ W.cell? ⟨B, 2, none⟩ = some v2 ∧ W.cell? ⟨B, 3, none⟩ = some v3 := ⟨h.cell 0, h.cell 1, h.cell 2, h.cell 3⟩
theorem Own.capE {w : World} {g n c : Nat} {zs : List Int} (h : Own w g n c zs) : n ≤ c := by
  rcases h.2 with ⟨h', _⟩ | ⟨g', cap', cur, h', _, _, hc, _⟩
  · simp at h'
  · simp only [Value.slice.injEq, Option.some.injEq, Addr.mk.injEq, and_true, true_and] at h'
    omega
/-- An operation of the device was done: the box holds what it answered. -/
theorem XL.did {W' : World} {w W : World} {gc n cap : Nat} {a : Option Addr} {zs : List Int} {X : Nat} {Zs : Array Value} {D D' : DvD} {va va' : Option Addr} {vn vc vn' vc' : Nat} {fa fa' : Option Addr} {m fc m' fc' : Nat} {qs qs' : List BkR} {v0 v1 v2 v3 : Value} (h : XL w W gc n cap a zs X 29 Zs #[v0, v1, v2, v3] D va vn vc fa m fc qs) (hb : Below W.heap.size W W') (hn : NewDv W' W.heap.size va' vn' vc' fa' m' fc' D'.ds D'.fs qs') (hl : qs'.length = vn') (hok : devB D'.ds D'.ops D'.fs = true) :
    XL w ((((W'.setCell ⟨X, 0, none⟩ (.slice va' vn' vc')).setCell ⟨X, 1, none⟩ (.int .i64 D'.ops)).setCell ⟨X, 2, none⟩ (.slice fa' m' fc')).setCell ⟨X, 3, none⟩ (.bool D'.down)) gc n cap a zs X 29 Zs #[.slice va' vn' vc', .int .i64 D'.ops, .slice fa' m' fc', .bool D'.down] D' va' vn' vc' fa' m' fc' qs' :=
  ((((h.new hb hn hl hok).setX 0 (.slice va' vn' vc')).setX 1 (.int .i64 D'.ops)).setX 2 (.slice fa' m' fc')).setX 3 (.bool D'.down)
set_option maxRecDepth 100000 in
set_option maxHeartbeats 16000000 in
theorem l11DrawS (gc n cap : Nat) (a : Option Addr) (zs : List Int) (w : World) (h : Src w gc n cap a zs) :
    Calls Try.prog 57 #[.pointer (some ⟨gc, 0, none⟩)] w (P11 w gc n cap a zs) := by
  have hgc := h.cur.lt
  have B0 : Below w.heap.size w (w.alloc (.cells #[.slice none 0 0, .int .i64 0, .slice none 0 0, .bool false] 29)) := (Below.refl _ w).alloc (Nat.le_refl _) _
  have z0 := Blk.new w 29 #[.slice none 0 0, .int .i64 0, .slice none 0 0, .bool false]
  have h0 := h.keep B0
  have hsz0 : (w.alloc (.cells #[.slice none 0 0, .int .i64 0, .slice none 0 0, .bool false] 29)).heap.size = w.heap.size + 1 := by simp
  generalize hGP : P11 w gc n cap a zs = P
  have HGP : Hid _ := hGP
  clear hGP h
  go_enter Try.func57, Try.ntmps57
  go_wp2_with fail
  obtain ⟨W0, hW0⟩ : ∃ W, w.alloc (.cells #[.slice none 0 0, .int .i64 0, .slice none 0 0, .bool false] 29) = W := ⟨_, rfl⟩
  rw [hW0] at B0 z0 h0 hsz0 ⊢
  clear hW0
  refine (below_step gc n cap a zs 3 W0 h0 (by omega) (by omega)).mono ?_
  rintro e w1 ⟨y, rfl, hy, h1, gr1⟩
  have sv1 := sv_grown gr1
  have z1 := Blk.svs z0 sv1 (by simp; omega)
  have hg1 := gr1.size
  have hwy : IntKind.i64.wrap (3 + (y : Int)) = 3 + (y : Int) := wrap_small _ (by omega) (by omega)
  have SV1 := (Below.sv B0 [gc]).trans sv1
  clear h0 z0 gr1 sv1
  go_wp2_with fail
  refine (l11FaultListS gc n cap a zs w1 h1).mono ?_
  rintro e w2 ⟨v, fs, rfl, hfl, hfb, hfo, h2, gr2⟩
  have sv2 := sv_grown gr2
  have z2 := Blk.svs z1 sv2 (by simp; omega)
  have hg2 := gr2.size
  have SV2 := SV1.trans sv2
  obtain ⟨fa, fc, rfl⟩ : ∃ fa fc, v = .slice fa fs.length fc := by
    rcases hfo.2 with ⟨rfl, h0⟩ | ⟨g, c, cur, rfl, _⟩
    · exact ⟨none, 0, by rw [h0]⟩
    · exact ⟨_, c, rfl⟩
  have hof : OwnFa w2 (.slice fa fs.length fc) fs.length fs := ⟨hfo.1, by
    rcases hfo.2 with h1 | ⟨g, c, cur, e, _, rest⟩
    · exact .inl h1
    · exact .inr ⟨g, c, cur, e, Nat.zero_le _, rest⟩⟩
  have hdv := devNewS (3 + (y : Int)) fa fs.length fc fs w2 (hof.fr (by omega))
  have hnew : devN (3 + (y : Int)) fs = ⟨newD (3 + (y : Int)), 0, fs, false⟩ := by
    unfold devN
    rw [if_pos (devB_parts.2 ⟨ok_new (by omega), by omega, hfb⟩)]
  have hok0 : devB (newD (3 + (y : Int))) 0 fs = true := devB_parts.2 ⟨ok_new (by omega), by omega, hfb⟩
  rw [hnew] at hdv
  generalize newD (3 + (y : Int)) = ds0 at hdv hok0
  clear hnew hfo hof h1 z1 SV1 sv2 gr2 hfb
  go_wp2_with fail
  refine hdv.mono ?_
  rintro e w3 ⟨va, vn, vc, fb, m, gc2, qs, rfl, hnd, hql, b3⟩
  have b4 : Below w3.heap.size w3 (w3.alloc (.cells #[.slice va vn vc, .int .i64 0, .slice fb m gc2, .bool false] 29)) := (Below.refl _ _).alloc (Nat.le_refl _) _
  have hg3 := b3.size
  have XR0 : XL w (w3.alloc (.cells #[.slice va vn vc, .int .i64 0, .slice fb m gc2, .bool false] 29)) gc n cap a zs w3.heap.size 29 #[.slice none 0 0, .int .i64 0, .slice none 0 0, .bool false] #[.slice va vn vc, .int .i64 0, .slice fb m gc2, .bool false] ⟨ds0, 0, fs, false⟩ va vn vc fb m gc2 qs :=
    ⟨(h2.keep b3).keep b4, (SV2.trans (Below.sv b3 _)).trans (Below.sv b4 _), (hnd.keep b4).wider (by omega), hql, hok0, (z2.keep b3).keep b4, hgc, by omega, Blk.new w3 _ _, fun hf => by have := hnd.lt _ hf; omega⟩
  have HX0 : Hid (XL w (w3.alloc (.cells #[.slice va vn vc, .int .i64 0, .slice fb m gc2, .bool false] 29)) gc n cap a zs w3.heap.size 29 #[.slice none 0 0, .int .i64 0, .slice none 0 0, .bool false] #[.slice va vn vc, .int .i64 0, .slice fb m gc2, .bool false] ⟨ds0, 0, fs, false⟩ va vn vc fb m gc2 qs) := XR0
  clear XR0 b4 b3 hnd hql h2 z2 SV2 hdv hok0 hfl B0 hsz0
  go_wp2_with fail
  obtain ⟨W4, hW4⟩ : ∃ W, w3.alloc (.cells #[.slice va vn vc, .int .i64 0, .slice fb m gc2, .bool false] 29) = W := ⟨_, rfl⟩
  obtain ⟨X, hX⟩ : ∃ X, w3.heap.size = X := ⟨_, rfl⟩
  rw [hW4, hX] at HX0
  rw [hW4]
  try rw [hX]
  clear hW4 hX hg1 hg2 hg3
  refine (below_step gc n cap a zs 16 W4 HX0.out.src (by omega) (by omega)).mono ?_
  rintro e w5 ⟨y2, rfl, hy2, h5, gr5⟩
  have HST : Hid (EX11 w w5 gc n cap a zs X) := ⟨⟨ds0, 0, fs, false⟩, _, _, _, _, _, _, _, HX0.out.step h5 gr5⟩
  clear HX0 h5 gr5
  go_wp2
  go_loopw [4] (fun i wr => ∃ j : Nat, j ≤ 16 ∧ i = .int .i64 j ∧ Hid (EX11 w wr gc n cap a zs X)) (fun i _ => (intOf i).toNat)
  case atStart => exact ⟨y2, by omega, rfl, HST⟩
  case round =>
    obtain ⟨j, hj, rfl, hst⟩ := hrel
    clear HST
    obtain ⟨D, va, vn, vc, fa, m, fc, qs, xl⟩ := hst.out
    clear hst
    by_cases hj0 : 0 < j
    · have hji : (0 : Int) < (j : Int) := by omega
      obtain ⟨i, rfl⟩ : ∃ i, j = i + 1 := ⟨j - 1, by omega⟩
      have hwi : IntKind.i64.wrap (i : Int) = (i : Int) := wrap_small _ (by omega) (by omega)
      have hsub : IntKind.i64.wrap ((i : Int) + 1 - 1) = (i : Int) := by rw [show (i : Int) + 1 - 1 = (i : Int) by omega]; exact wrap_small _ (by omega) (by omega)
      have hv := xl.vn
      obtain ⟨c0, c1, c2, c3⟩ := xl.x.dev
      go_wp2_with fail
      refine (below_step gc n cap a zs vn wr xl.src (by omega) (by omega)).mono ?_
      rintro e w6 ⟨k, rfl, hk, h6, g6⟩
      have x6 := xl.step h6 g6
      clear xl c0 c1 c2 c3 h6 g6
      go_wp2_with fail
      refine (below_step gc n cap a zs 8 w6 x6.src (by omega) (by omega)).mono ?_
      rintro e w7 ⟨y3, rfl, hy3, h7, g7⟩
      have x7 := x6.step h7 g7
      clear x6 h7 g7
      obtain ⟨d0, d1, d2, d3⟩ := x7.x.dev
      have HD7 : Hid (qs.map BkR.D = D.ds) := x7.nd.bs.D
      by_cases q0 : y3 = 0
      · subst q0
        go_wp2_with fail
        refine (devErS va vn vc qs D.ops fa m fc D.fs D.down (k : Int) w7 x7.cr x7.fr).mono ?_
        rintro e w9 ⟨va', vn', vc', fa', m', fc', qs', rfl, hn9, hl9, b9⟩
        obtain ⟨f0, f1, f2, f3⟩ := (x7.keep b9).x.dev
        have l0 := (x7.keep b9).x.frozen 0
        have l1 := (x7.keep b9).x.frozen 1
        have l2 := (x7.keep b9).x.frozen 2
        have l3 := (x7.keep b9).x.frozen 3
        have hk8 := erase_keep (down := D.down) (x := (k : Int)) x7.ok
        rw [← HD7.out] at hk8
        have he : EX11 w _ gc n cap a zs X := ⟨_, _, _, _, _, _, _, _, x7.did (D' := ⟨outDs (evCode (qs.map BkR.D) D.ops D.fs D.down (codeE true (qs.map BkR.D) (k : Int))) (faD D.ops D.fs) (qs.map BkR.D) (eraseAt (qs.map BkR.D) ((k : Int)).toNat) (badD (qs.map BkR.D) ((k : Int)).toNat) (tornD (qs.map BkR.D) ((k : Int)).toNat), outOps (evCode (qs.map BkR.D) D.ops D.fs D.down (codeE true (qs.map BkR.D) (k : Int))) D.ops, D.fs, outDown (evCode (qs.map BkR.D) D.ops D.fs D.down (codeE true (qs.map BkR.D) (k : Int))) (faD D.ops D.fs) D.down⟩) b9 hn9 hl9 hk8⟩
        clear x7 hk8 d0 d1 d2 d3 hn9 b9
        go_wp2
        go_roundw
        case rel => exact ⟨i, by omega, (by try simp), he⟩
        case measure => simp [intOf]
      · have n0 : ((y3 : Int) == 0) = false := by simp; omega
        have n0' : ¬ (y3 : Int) = 0 := by omega
        by_cases q1 : y3 = 1
        · subst q1
          have l3 := x7.x.frozen 3
          have he : EX11 w _ gc n cap a zs X := ⟨⟨D.ds, D.ops, D.fs, false⟩, _, _, _, _, _, _, _, (x7.setX 3 (.bool false)).down false⟩
          clear x7
          go_wp2
          go_roundw
          case rel => exact ⟨i, by omega, (by try simp), he⟩
          case measure => simp [intOf]
        · have n1 : ((y3 : Int) == 1) = false := by simp; omega
          have n1' : ¬ (y3 : Int) = 1 := by omega
          go_upto_region 7 with fail
          have xd := x7.drew
          obtain ⟨c0, c1, c2, c3⟩ := xd.x.dev
          clear x7 d0 d1 d2 d3
          go_region_with (first
            | (go_at_call 29; (with_reducible refine (some_step gc n cap a zs w7.drew xd.src).mono ?_); rintro e w8 ⟨gy, my, cy, ys, rfl, hmy, hgy, hby, oy, h8, g8⟩; have x8 := xd.step h8 g8; have hgyc : gc < gy := (by have := xd.src.cur.lt; omega); obtain ⟨f0, f1, f2, f3⟩ := x8.x.dev)
            | (go_at_call 75; (with_reducible refine (devPrS va vn vc qs D.ops fa m fc D.fs D.down (k : Int) gy my cy ys w8 x8.cr x8.fr oy.len ⟨Own.capE oy, by omega⟩ oy.rd).mono ?_); rintro e w9 ⟨va', vn', vc', fa', m', fc', qs', rfl, hn9, hl9, b9⟩; obtain ⟨j0, j1, j2, j3⟩ := (x8.keep b9).x.dev; have l0 := (x8.keep b9).x.frozen 0; have l1 := (x8.keep b9).x.frozen 1; have l2 := (x8.keep b9).x.frozen 2; have l3 := (x8.keep b9).x.frozen 3))
          all_goals (
            have hk8 := prog_keep (down := D.down) (x := (k : Int)) oy.len x8.ok
            rw [← HD7.out] at hk8
            have he : EX11 w _ gc n cap a zs X := ⟨_, _, _, _, _, _, _, _, x8.did (D' := ⟨outDs (evCode (qs.map BkR.D) D.ops D.fs D.down (codeP true (qs.map BkR.D) (k : Int) my)) (faD D.ops D.fs) (qs.map BkR.D) (progAt (qs.map BkR.D) ((k : Int)).toNat ys) (badD (qs.map BkR.D) ((k : Int)).toNat) (fun t => progAt (qs.map BkR.D) ((k : Int)).toNat ((ys).take t.toNat)), outOps (evCode (qs.map BkR.D) D.ops D.fs D.down (codeP true (qs.map BkR.D) (k : Int) my)) D.ops, D.fs, outDown (evCode (qs.map BkR.D) D.ops D.fs D.down (codeP true (qs.map BkR.D) (k : Int) my)) (faD D.ops D.fs) D.down⟩) b9 hn9 hl9 hk8⟩
            clear xd c0 c1 c2 c3 x8 hk8 hn9 b9
            go_wp2
            go_roundw
            case rel => exact ⟨i, by omega, (by try simp), he⟩
            case measure => simp [intOf])
    · obtain rfl : j = 0 := by omega
      obtain ⟨e0, e1, e2, e3⟩ := xl.x.dev
      obtain ⟨r0, r1, r2, r3⟩ := xl.res.dev
      have l0 := xl.res.frozen 0
      have l1 := xl.res.frozen 1
      have l2 := xl.res.frozen 2
      have l3 := xl.res.frozen 3
      have xf := (((xl.setR 0 (.slice va vn vc)).setR 1 (.int .i64 D.ops)).setR 2 (.slice fa m fc)).setR 3 (.bool D.down)
      have zf := xf.res
      simp at zf
      obtain ⟨s0, s1, s2, s3⟩ := zf.dev
      have HXF : Hid _ := xf
      clear xf zf xl
      go_wp2
      refine bodyPost_ret (v := .agg #[.slice va vn vc, .int .i64 D.ops, .slice fa m fc, .bool D.down]) (by simp [results, Try.f57, go_sem, s0, s1, s2, s3]) rfl ?_
      rw [← HGP.out]
      have xf := HXF.out
      exact ⟨D, va, vn, vc, fa, m, fc, qs, rfl, xf.nd.wider (by omega), xf.ql, xf.ok, xf.src, xf.sv⟩
end

section
section
variable {P : Program} {ops : Array Oper} {Q : Exit → Act → World → Prop} {md : Region.Mode}
def dstOf (ops : Array Oper) (i : Nat) : Option Tmp := (ops[i]?).bind (·.dst)
/-- The operation i waits for the operation j. -/
def depB (md : Region.Mode) (ops : Array Oper) (i j : Nat) : Bool := ((ops[i]?).map fun o => o.after.any fun e => Region.binds md e && e.on == j).getD false
/-- No operation but L writes to t. -/
def noDst (ops : Array Oper) (L t : Nat) : Bool := (List.range ops.size).all fun i => i == L || dstOf ops i != some t
/-- Each waits for earlier ones alone, none for L; no two write to one place; all places are there. -/
def fitB (md : Region.Mode) (ops : Array Oper) (L sz : Nat) : Bool :=
  ((List.range ops.size).all fun i => ((ops[i]?).map fun o => o.after.all fun e => !Region.binds md e || (decide (e.on < i) && e.on != L)).getD false) &&
  ((List.range ops.size).all fun i => (List.range ops.size).all fun j => i == j || i == L || j == L || dstOf ops i == none || dstOf ops i != dstOf ops j) &&
  ((List.range ops.size).all fun i => i == L || ((dstOf ops i).map fun d => decide (d < sz)).getD true)
/-- j waits for i, whether straight or by others. -/
def preL (md : Region.Mode) (ops : Array Oper) : Nat → Nat → Nat → Bool
  | 0, j, i => j == i
  | f + 1, j, i => j == i || (List.range ops.size).any fun m => depB md ops j m && preL md ops f m i
/-- Each operation but L comes ahead of M or waits for it. -/
def sideB (md : Region.Mode) (ops : Array Oper) (L M f : Nat) : Bool := (List.range ops.size).all fun i => i == L || i == M || depB md ops i M || preL md ops f M i
/-- The operation j has come up, and this is what it yielded. -/
def HasV (ops : Array Oper) (J : Nat → Value → World → Prop) (a : Act) (W : World) (j : Nat) : Prop := ∃ v, (∀ d, dstOf ops j = some d → a.tmps[d]? = some v) ∧ J j v W
structure InvV (md : Region.Mode) (ops : Array Oper) (L M : Nat) (a0 : Act) (S : Bool → World → Prop) (J : Bool → Nat → Value → World → Prop) (listed : Array Bool) (a : Act) (W : World) : Prop where
  s : S (listed.getD M false) W
  df : a.defers = a0.defers
  sz : a.tmps.size = a0.tmps.size
  old : ∀ t, noDst ops L t = true → a.tmps[t]? = a0.tmps[t]?
  shut : ∀ j i, j ≠ L → depB md ops j i = true → listed.getD j false = true → listed.getD i false = true
  got : ∀ i, i ≠ L → i < ops.size → listed.getD i false = true → HasV ops (J (listed.getD M false)) a W i
/-- What is asked of an operation. -/
def StepV (P : Program) (md : Region.Mode) (ops : Array Oper) (Q : Exit → Act → World → Prop) (L M : Nat) (a0 : Act) (S : Bool → World → Prop) (J : Bool → Nat → Value → World → Prop) (i : Nat) : Prop :=
  ∀ o, ops[i]? = some o → ∀ b a W, (i = M → b = false) → (depB md ops i M = true → b = true) → (depB md ops i M = false → b = false) → S b W → (∀ t, noDst ops L t = true → a.tmps[t]? = a0.tmps[t]?) → (∀ j, depB md ops i j = true → HasV ops (J b) a W j) → ∀ K : Act → World → Prop, (∀ v W', S (b || i == M) W' → J (b || i == M) i v W' → (∀ j u, j ≠ i → (depB md ops j M = true → b = true) → J b j u W → J (b || i == M) j u W') → K (a.put o.dst v) W') →
    if Region.wanted o (yielded ops a.tmps) = true then Oper.wp P o a W K Q else K (a.put o.dst undef) W
theorem HasV.eval {J : Nat → Value → World → Prop} {a : Act} {W : World} {j d : Nat} (h : HasV ops J a W j) (hd : dstOf ops j = some d) : ∃ v, a.eval (.tmp d) = v ∧ J j v W := by
  obtain ⟨v, h1, h2⟩ := h
  refine ⟨v, ?_, h2⟩
  have := h1 d hd
  simp only [Act.eval, Array.getD_eq_getD_getElem?, this, Option.getD_some]
theorem eval_of {a : Act} {t : Nat} {v : Value} (h : a.tmps[t]? = some v) : a.eval (.tmp t) = v := by simp only [Act.eval, Array.getD_eq_getD_getElem?, h, Option.getD_some]
theorem count_less (p : Nat → Bool) (i : Nat) : ∀ n, List.countP (fun k => p k && k != i) (List.range n) ≤ List.countP p (List.range n) ∧ (i < n → p i = true → List.countP (fun k => p k && k != i) (List.range n) < List.countP p (List.range n)) := by
  intro n
  induction n with
  | zero => simp
  | succ n ih =>
    rw [List.range_succ, List.countP_append, List.countP_append]
    obtain ⟨h1, h2⟩ := ih
    have e1 : List.countP (fun k => p k && k != i) [n] ≤ List.countP p [n] := by
      cases hp : p n <;> simp [hp]
      split <;> omega
    constructor
    · omega
    · intro hi hp
      by_cases hn : n = i
      · subst hn
        have e2 : List.countP (fun k => p k && k != n) [n] = 0 := by simp
        have e3 : List.countP p [n] = 1 := by simp [hp]
        omega
      · have := h2 (by omega) hp
        omega
def unl (ops : Array Oper) (listed : Array Bool) : Nat := List.countP (fun k => !listed.getD k true) (List.range ops.size)
theorem unl_set {listed : Array Bool} {i : Nat} (hs : listed.size = ops.size) (hi : i < ops.size) (h : listed.getD i true = false) : unl ops (listed.setIfInBounds i true) < unl ops listed := by
  unfold unl
  have := (count_less (fun k => !listed.getD k true) i ops.size).2 hi (by simp [h])
  refine Nat.lt_of_le_of_lt (Nat.le_of_eq ?_) this
  refine List.countP_congr fun k hk => ?_
  by_cases hki : k = i
  · subst hki
    rw [set_getD_eq (by omega)]
    simp
  · rw [set_getD_ne (fun e => hki e.symm)]
    simp [hki]
theorem fit_order {L sz : Nat} (h : fitB md ops L sz = true) {i : Nat} {o : Oper} (ho : ops[i]? = some o) : ∀ e ∈ o.after, Region.binds md e = true → e.on < i ∧ e.on ≠ L := by
  unfold fitB at h
  simp only [Bool.and_eq_true, List.all_eq_true, List.mem_range] at h
  have h1 := h.1.1 i (Array.getElem?_eq_some_iff.1 ho).1
  rw [ho] at h1
  simp only [Option.map_some, Option.getD_some, Array.all_eq_true_iff_forall_mem] at h1
  intro e he hb
  have h2 := h1 e he
  rw [hb] at h2
  simpa using h2
theorem fit_one {L sz : Nat} (h : fitB md ops L sz = true) {i j d : Nat} (hi : i < ops.size) (hj : j < ops.size) (hiL : i ≠ L) (hjL : j ≠ L) (h1 : dstOf ops i = some d) (h2 : dstOf ops j = some d) : i = j := by
  unfold fitB at h
  simp only [Bool.and_eq_true, List.all_eq_true, List.mem_range] at h
  have h3 := h.1.2 i hi j hj
  rw [h1, h2] at h3
  simp [hiL, hjL] at h3
  exact h3
theorem fit_in {L sz : Nat} (h : fitB md ops L sz = true) {i d : Nat} (hi : i < ops.size) (hiL : i ≠ L) (h1 : dstOf ops i = some d) : d < sz := by
  unfold fitB at h
  simp only [Bool.and_eq_true, List.all_eq_true, List.mem_range] at h
  have h3 := h.2 i hi
  rw [h1] at h3
  simpa [hiL] using h3
theorem all_listedV {L sz : Nat} (h : fitB md ops L sz = true) {listed : Array Bool} (hs : listed.size = ops.size) (hr : Region.ready md ops listed = []) : ∀ i, i < ops.size → listed.getD i true = true := by
  intro i
  induction i using Nat.strongRecOn with
  | ind i ih =>
    intro hi
    cases hl : listed.getD i true with
    | true => rfl
    | false =>
      have ho : ops[i]? = some ops[i] := Array.getElem?_eq_getElem hi
      have : i ∈ Region.ready md ops listed := mem_ready.2 ⟨hl, _, ho, fun e he hb => by
        have h1 := (fit_order h ho e he hb).1
        rw [← getD_both (by omega)]
        exact ih e.on h1 (by omega)⟩
      rw [hr] at this
      cases this
theorem noDst_ne {L t i : Nat} (h : noDst ops L t = true) (hi : i < ops.size) (hiL : i ≠ L) : dstOf ops i ≠ some t := by
  unfold noDst at h
  simp only [List.all_eq_true, List.mem_range] at h
  have := h i hi
  simpa [hiL] using this
theorem put_at (a : Act) (dst : Option Tmp) (v : Value) (t : Nat) : (a.put dst v).tmps[t]? = if dst = some t ∧ t < a.tmps.size then some v else a.tmps[t]? := by
  cases dst with
  | none => simp [Act.put]
  | some d =>
    simp only [Act.put, Option.some.injEq, Array.getElem?_setIfInBounds]
    by_cases h : d = t
    · subst h
      by_cases h2 : d < a.tmps.size
      · simp [h2]
      · simp [h2]
    · simp [h]
theorem put_size (a : Act) (dst : Option Tmp) (v : Value) : (a.put dst v).tmps.size = a.tmps.size := by cases dst <;> simp [Act.put]
theorem put_defers (a : Act) (dst : Option Tmp) (v : Value) : (a.put dst v).defers = a.defers := by cases dst <;> rfl
theorem dep_in {i j L sz : Nat} (hfit : fitB md ops L sz = true) (h : depB md ops i j = true) : i < ops.size ∧ j < i ∧ j ≠ L := by
  unfold depB at h
  cases ho : ops[i]? with
  | none => rw [ho] at h; simp at h
  | some o =>
    rw [ho] at h
    simp only [Option.map_some, Option.getD_some, Array.any_eq_true, Bool.and_eq_true, beq_iff_eq] at h
    obtain ⟨x, hx, hb, rfl⟩ := h
    have hlt := fit_order hfit ho _ (Array.getElem_mem hx) hb
    exact ⟨(Array.getElem?_eq_some_iff.1 ho).1, hlt⟩
theorem pre_listed {L sz : Nat} (hfit : fitB md ops L sz = true) {listed : Array Bool} (hsh : ∀ j i, j ≠ L → depB md ops j i = true → listed.getD j false = true → listed.getD i false = true) : ∀ (f j i : Nat), j ≠ L → preL md ops f j i = true → listed.getD j false = true → listed.getD i false = true := by
  intro f
  induction f with
  | zero => intro j i _ h hl; simp only [preL, beq_iff_eq] at h; subst h; exact hl
  | succ f ih =>
    intro j i hj h hl
    simp only [preL, Bool.or_eq_true, beq_iff_eq, List.any_eq_true, Bool.and_eq_true] at h
    rcases h with rfl | ⟨m, _, hd, hp⟩
    · exact hl
    · exact ih m i (dep_in hfit hd).2.2 hp (hsh j m hj hd hl)
theorem wpAny_inv {L M : Nat} {a0 : Act} (S : Bool → World → Prop) (J : Bool → Nat → Value → World → Prop) (hfit : fitB md ops L a0.tmps.size = true) (hML : M ≠ L) (f : Nat) (hside : sideB md ops L M f = true)
    (step : ∀ i, i < ops.size → i ≠ L → StepV P md ops Q L M a0 S J i)
    (fin : ∀ a W, S (decide (M < ops.size)) W → a.defers = a0.defers → a.tmps.size = a0.tmps.size → (∀ t, noDst ops L t = true → a.tmps[t]? = a0.tmps[t]?) → (∀ i, i < ops.size → i ≠ L → HasV ops (J (decide (M < ops.size))) a W i) → Q .normal a W) :
    ∀ (fuel : Nat) (listed : Array Bool) (a : Act) (W : World), listed.size = ops.size → unl ops listed ≤ fuel → (L < ops.size → listed.getD L true = true) → InvV md ops L M a0 S J listed a W → wpAny P md ops Q fuel listed a W := by
  have hend : ∀ (listed : Array Bool) (a : Act) (W : World), listed.size = ops.size → Region.ready md ops listed = [] → InvV md ops L M a0 S J listed a W → Q .normal a W := fun listed a W hs hr h => by
    have hb : listed.getD M false = decide (M < ops.size) := by
      by_cases hM : M < ops.size
      · rw [decide_eq_true hM, ← getD_both (by omega)]
        exact all_listedV hfit hs hr M hM
      · rw [decide_eq_false hM]
        simp [Array.getD, show ¬ M < listed.size by omega]
    have hS := h.s
    rw [hb] at hS
    refine fin a W hS h.df h.sz h.old (fun i hi hiL => ?_)
    have := h.got i hiL hi (by rw [← getD_both (by omega)]; exact all_listedV hfit hs hr i hi)
    rw [hb] at this
    exact this
  intro fuel
  induction fuel with
  | zero =>
    intro listed a W hs hu _ h
    have hr : Region.ready md ops listed = [] := by
      refine List.eq_nil_iff_forall_not_mem.2 fun i hi => ?_
      obtain ⟨h1, o, ho, _⟩ := mem_ready.1 hi
      have := unl_set hs (Array.getElem?_eq_some_iff.1 ho).1 h1
      omega
    exact ⟨hr, hend listed a W hs hr h⟩
  | succ fuel ih =>
    intro listed a W hs hu hL h
    refine ⟨fun hr => hend listed a W hs hr h, fun i hi => ?_⟩
    obtain ⟨h1, o, ho, hall⟩ := mem_ready.1 hi
    have hiz : i < ops.size := (Array.getElem?_eq_some_iff.1 ho).1
    have hiL : i ≠ L := fun e => by subst e; rw [hL hiz] at h1; cases h1
    have hfl : (listed.setIfInBounds i true).getD M false = (listed.getD M false || i == M) := by
      by_cases hiM : i = M
      · subst hiM
        rw [set_getD_eq (by omega)]
        simp
      · rw [set_getD_ne hiM]
        simp [hiM]
    have hall' : ∀ j, depB md ops i j = true → listed.getD j false = true ∧ j < ops.size ∧ j ≠ L := fun j hj => by
      unfold depB at hj
      rw [ho] at hj
      simp only [Option.map_some, Option.getD_some, Array.any_eq_true, Bool.and_eq_true, beq_iff_eq] at hj
      obtain ⟨x, hx, hb, rfl⟩ := hj
      have hm := Array.getElem_mem hx
      have hlt := fit_order hfit ho _ hm hb
      exact ⟨hall _ hm hb, by omega, hlt.2⟩
    refine wpOp_step ho fun K hK => ?_
    refine step i hiz hiL o ho (listed.getD M false) a W (fun e => by subst e; rw [← getD_both (by omega)]; exact h1) (fun hd => (hall' M hd).1) (fun hd => ?_) h.s h.old (fun j hj => h.got _ (hall' j hj).2.2 (hall' j hj).2.1 (hall' j hj).1) K (fun v W' hS' hJ hst => hK _ _ (ih _ _ _ (by simp [hs]) (by have := unl_set hs hiz h1; omega) (fun hLs => by rw [set_getD_ne hiL]; exact hL hLs) ⟨by rw [hfl]; exact hS', ?_, ?_, ?_, ?_, ?_⟩))
    · by_cases hiM : i = M
      · subst hiM; rw [← getD_both (by omega)]; exact h1
      · unfold sideB at hside
        simp only [List.all_eq_true, List.mem_range, Bool.or_eq_true, beq_iff_eq] at hside
        have h2 := hside i hiz
        cases hl : listed.getD M false with
        | false => rfl
        | true =>
          rcases h2 with ((h2 | h2) | h2) | h2
          · exact absurd h2 hiL
          · exact absurd h2 hiM
          · rw [hd] at h2; cases h2
          · have := pre_listed hfit h.shut f M i hML h2 hl
            rw [← getD_both (by omega), h1] at this
            cases this
    · rw [put_defers]; exact h.df
    · rw [put_size]; exact h.sz
    · intro t ht
      rw [put_at]
      have hne := noDst_ne ht hiz hiL
      have hd : dstOf ops i = o.dst := by simp [dstOf, ho]
      rw [hd] at hne
      rw [if_neg (fun h => hne h.1)]
      exact h.old t ht
    · intro j m hjL hd hl
      by_cases hji : j = i
      · subst hji
        exact getD_set_true (hall' m hd).1
      · rw [set_getD_ne (fun e => hji e.symm)] at hl
        exact getD_set_true (h.shut j m hjL hd hl)
    · intro k hkL hkz hk
      have hd : dstOf ops i = o.dst := by simp [dstOf, ho]
      rw [hfl]
      by_cases hki : k = i
      · subst hki
        refine ⟨v, fun d hd' => ?_, hJ⟩
        rw [put_at]
        rw [hd] at hd'
        have := fit_in hfit hiz hiL (hd.trans hd')
        rw [if_pos ⟨hd', by rw [h.sz]; exact this⟩]
      · rw [set_getD_ne (fun e => hki e.symm)] at hk
        obtain ⟨v', hv1, hv2⟩ := h.got k hkL hkz hk
        refine ⟨v', fun d hd' => ?_, hst k v' hki (fun hd2 => h.shut k M hkL hd2 hk) hv2⟩
        rw [put_at, if_neg (fun h => hki (fit_one hfit hkz hiz hkL hiL hd' (hd.trans h.1)))]
        exact hv1 d hd'
/-- The beginning, where the operation L waits for all others (the store at the end), and M is one of them. -/
theorem wp_region_inv (L M n : Nat) (S : Bool → World → Prop) (J : Bool → Nat → Value → World → Prop) {id : Nat} {a : Act} {w : World} (hm : P.follows .mixedOrders = true) (hL : lastOne .any ops L = true) (hn : ops.size = n + 1) (hfit : fitB .any ops L a.tmps.size = true) (hML : M ≠ L) (hMn : M ≤ n) (f : Nat) (hside : sideB .any ops L M f = true) (hS : S false w.drew)
    (step : ∀ i, i < n + 1 → i ≠ L → StepV P .any ops (ThenL P ops Q L) L M a S J i)
    (fin : ∀ a' W, S true W → a'.defers = a.defers → a'.tmps.size = a.tmps.size → (∀ t, noDst ops L t = true → a'.tmps[t]? = a.tmps[t]?) → (∀ i, i < n + 1 → i ≠ L → HasV ops (J true) a' W i) → ThenL P ops Q L .normal a' W) : (Code.region id ops true).wp P Q a w := by
  refine wp_region_any hm ?_
  have hlt := last_lt hL
  have hg : ∀ i, i ≠ L → ((Array.replicate ops.size false).setIfInBounds L true).getD i false = false := fun i hne => by
    rw [set_getD_ne (fun e => hne e.symm)]
    by_cases hi : i < ops.size
    · simp [Array.getD, hi]
    · simp [Array.getD, hi]
  have hu : unl ops ((Array.replicate ops.size false).setIfInBounds L true) ≤ n := by
    have h1 := unl_set (ops := ops) (listed := Array.replicate ops.size false) (i := L) (by simp) hlt (by simp [Array.getD, hlt])
    have h2 : unl ops (Array.replicate ops.size false) ≤ ops.size := by
      unfold unl
      refine Nat.le_trans List.countP_le_length ?_
      simp
    omega
  have hdM : decide (M < ops.size) = true := decide_eq_true (by omega)
  have key := wpAny_inv (P := P) (md := .any) (Q := ThenL P ops Q L) (a0 := a) S J hfit hML f hside (fun i hi hne => step i (by omega) hne) (fun a W h1 h2 h3 h4 h5 => fin a W (by rw [hdM] at h1; exact h1) h2 h3 h4 (fun i hi hne => by have := h5 i (by omega) hne; rw [hdM] at this; exact this)) n ((Array.replicate ops.size false).setIfInBounds L true) a w.drew (by simp) hu (fun _ => set_getD_eq (by simpa using hlt)) ⟨by rw [hg M hML]; exact hS, rfl, rfl, fun _ _ => rfl, fun j i hj hd h => (by rw [hg j hj] at h; cases h), fun i hne hi h => (by rw [hg i hne] at h; cases h)⟩
  have := wpAny_thenL (Q := Q) (P := P) hL n (Array.replicate ops.size false) a w.drew (by simp) (by simp [Array.getD, hlt]) (fun j o ho hl => by have := (Array.getElem?_eq_some_iff.1 ho).1; simp [Array.getD, this] at hl) key
  rw [← hn] at this
  exact this
/-- The places behind such a region, written out. -/
theorem puts_eq : ∀ (l : List (Nat × Value)) (ts ts0 : Array Value), ts.size = ts0.size → (∀ p ∈ l, ts[p.1]? = some p.2) → (∀ t, (∃ p ∈ l, p.1 = t) ∨ ts[t]? = ts0[t]?) → ts = l.foldl (fun x p => x.setIfInBounds p.1 p.2) ts0 := by
  intro l
  induction l with
  | nil =>
    intro ts ts0 hs _ h
    refine Array.ext_getElem? fun t => ?_
    rcases h t with ⟨p, hp, _⟩ | h1
    · simp at hp
    · exact h1
  | cons p l ih =>
    intro ts ts0 hs h1 h2
    refine ih ts (ts0.setIfInBounds p.1 p.2) (by simp [hs]) (fun q hq => h1 q (List.mem_cons_of_mem _ hq)) (fun t => ?_)
    by_cases ht : p.1 = t
    · right
      have h3 := h1 p (by simp)
      have h4 := (Array.getElem?_eq_some_iff.1 h3).1
      rw [← ht, h3, Array.getElem?_setIfInBounds]
      simp [← hs, h4]
    · rcases h2 t with ⟨q, hq, hqt⟩ | h3
      · rcases List.mem_cons.1 hq with rfl | hq'
        · exact absurd hqt ht
        · exact .inl ⟨q, hq', hqt⟩
      · right
        rw [h3, Array.getElem?_setIfInBounds]
        simp [ht]
/-- Where the operations but L write to. -/
def dstsL (ops : Array Oper) (L : Nat) : List Nat := (List.range ops.size).filterMap fun i => if i == L then none else dstOf ops i
theorem noDst_of {L t : Nat} (h : t ∉ dstsL ops L) : noDst ops L t = true := by
  unfold noDst
  simp only [List.all_eq_true, List.mem_range]
  intro i hi
  cases hiL : i == L with
  | true => rfl
  | false =>
    simp only [Bool.false_or]
    cases hd : dstOf ops i with
    | none => simp
    | some d =>
      have : d ∈ dstsL ops L := List.mem_filterMap.2 ⟨i, List.mem_range.2 hi, by rw [hiL]; exact hd⟩
      simp
      intro e
      subst e
      exact h this
theorem puts_act {L : Nat} {a' a : Act} (l : List (Nat × Value)) (hd : l.map Prod.fst = dstsL ops L) (hdf : a'.defers = a.defers) (hsz : a'.tmps.size = a.tmps.size) (hold : ∀ t, noDst ops L t = true → a'.tmps[t]? = a.tmps[t]?) (h1 : ∀ p ∈ l, a'.tmps[p.1]? = some p.2) : a' = ⟨l.foldl (fun x p => x.setIfInBounds p.1 p.2) a.tmps, a.defers⟩ := by
  obtain ⟨ts, ds⟩ := a'
  simp only at hdf
  subst hdf
  congr 1
  refine puts_eq l ts a.tmps hsz h1 fun t => ?_
  by_cases ht : t ∈ dstsL ops L
  · rw [← hd] at ht
    obtain ⟨p, hp, e⟩ := List.mem_map.1 ht
    exact .inl ⟨p, hp, e⟩
  · exact .inr (hold t (noDst_of ht))
end
end
end Go.Proofs.Yteggiinccjonnaa
