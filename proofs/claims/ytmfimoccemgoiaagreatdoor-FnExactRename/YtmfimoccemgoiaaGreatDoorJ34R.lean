/-
  Joined: FileI, PutE, Make6, Unlink6, Draw.
-/
import Derived.Test.YtmfimoccemgoiaaGreatDoorJ33B
import Derived.Laws.BitsLemmas
namespace Go.Proofs.YtmfimoccemgoiaaGreatDoor
section
open Go.RowKit
/-- The inode of a path, but one of this kind. -/
def badK (k : Int) (ds : List InoD) (s : ByteArray) : InoD × Int := if (statD ds s).2 = 0 ∧ (statD ds s).1.kind = k then (inoZ.D, 3) else statD ds s
set_option maxRecDepth 100000 in
set_option maxHeartbeats 4000000 in
theorem dirI (a : Option Addr) (n cap : Nat) (nx : Int) (rs : List InoR) (s : ByteArray) (w : World) (ht : TR w a n rs) (hK : ∀ r ∈ rs, r.D.kind = 1 ∨ r.D.kind = 2) (hwf : ∀ r ∈ rs, (Lit.int .i64 r.D.ino).wf = true) (hwe : ∀ r ∈ rs, ∀ e ∈ r.D.ents, (Lit.int .i64 e.2).wf = true) (hs : s.size ≤ 4000000) :
    Calls Tryz.prog 224 #[.agg #[.slice a n cap, .int .i64 nx], .string s] w fun e w' => EStat w (badK 1 (rs.map InoR.D) s).1 (badK 1 (rs.map InoR.D) s).2 e w' := by
  have B0 : Below w.heap.size w ((w.alloc (.cells #[.slice a n cap, .int .i64 nx] 28)).alloc (.cells #[.int .i64 0, .int .i64 0, .int .i64 0, .slice none 0 0, .slice none 0 0, .slice none 0 0] 68)) := ((Below.refl _ w).alloc (Nat.le_refl _) _).alloc (by simp) _
  have zT : Blk ((w.alloc (.cells #[.slice a n cap, .int .i64 nx] 28)).alloc (.cells #[.int .i64 0, .int .i64 0, .int .i64 0, .slice none 0 0, .slice none 0 0, .slice none 0 0] 68)) w.heap.size 28 #[.slice a n cap, .int .i64 nx] := (Blk.new w _ _).alloc _
  have zR := Blk.new (w.alloc (.cells #[.slice a n cap, .int .i64 nx] 28)) 68 #[.int .i64 0, .int .i64 0, .int .i64 0, .slice none 0 0, .slice none 0 0, .slice none 0 0]
  simp only [World.size_alloc] at zR
  obtain ⟨D, c, hDc⟩ : ∃ D c, statD (rs.map InoR.D) s = (D, c) := ⟨_, _, rfl⟩
  have hp : Hid (∀ (e : Ending) (w' : World) (E : InoD) (q : Int), (if c = 0 ∧ D.kind = 1 then (inoZ.D, (3 : Int)) else (D, c)) = (E, q) → EStat w E q e w' → EStat w (badK 1 (rs.map InoR.D) s).1 (badK 1 (rs.map InoR.D) s).2 e w') := fun e w' E q h hh => by
    unfold badK
    rw [hDc]
    dsimp only
    rw [h]
    exact hh
  generalize EStat w (badK 1 (rs.map InoR.D) s).1 (badK 1 (rs.map InoR.D) s).2 = P at hp ⊢
  go_enter Tryz.func224, Tryz.ntmps224
  go_wp2_with fail
  obtain ⟨W0, hW0⟩ : ∃ W, ((w.alloc (.cells #[.slice a n cap, .int .i64 nx] 28)).alloc (.cells #[.int .i64 0, .int .i64 0, .int .i64 0, .slice none 0 0, .slice none 0 0, .slice none 0 0] 68)) = W := ⟨_, rfl⟩
  rw [hW0] at B0 zT zR ⊢
  clear hW0
  have hcS := statI a n cap nx rs s W0 (ht.keep B0) hK hwf hwe hs
  rw [hDc] at hcS
  dsimp only at hcS
  clear hDc zT ht
  (with_reducible refine hcS.mono ?_)
  rintro e w2 ⟨b1, d1, b2, d2, b3, d3, rfl, g2, bb2⟩
  clear hcS
  have zr := zR.keep bb2
  have hb2 := B0.trans (bb2.mono B0.size)
  have hs1 : w.heap.size + 1 < W0.heap.size := zR.lt
  have z3 := zr.alloc (.cells #[.int .i64 D.ino, .int .i64 D.kind, .int .i64 D.links, .slice b1 D.data.length d1, .slice b2 D.ents.length d2, .slice b3 D.attrs.length d3] 68)
  have hb3 := hb2.alloc hb2.size (.cells #[.int .i64 D.ino, .int .i64 D.kind, .int .i64 D.links, .slice b1 D.data.length d1, .slice b2 D.ents.length d2, .slice b3 D.attrs.length d3] 68)
  have zX := Blk.new w2 68 #[.int .i64 D.ino, .int .i64 D.kind, .int .i64 D.links, .slice b1 D.data.length d1, .slice b2 D.ents.length d2, .slice b3 D.attrs.length d3]
  have g3 := (g2.keep (Nat.le_refl _) ((Below.refl _ w2).alloc (Nat.le_refl _) (.cells #[.int .i64 D.ino, .int .i64 D.kind, .int .i64 D.links, .slice b1 D.data.length d1, .slice b2 D.ents.length d2, .slice b3 D.attrs.length d3] 68))).wider (T' := (w2.alloc (.cells #[.int .i64 D.ino, .int .i64 D.kind, .int .i64 D.links, .slice b1 D.data.length d1, .slice b2 D.ents.length d2, .slice b3 D.attrs.length d3] 68)).heap.size) (Nat.le_refl _) (by simp)
  obtain ⟨t0, t1, t2, t3, t4, t5⟩ := z3.six
  have fz0 := z3.frozen 0
  have fz1 := z3.frozen 1
  have fz2 := z3.frozen 2
  have fz3 := z3.frozen 3
  have fz4 := z3.frozen 4
  have fz5 := z3.frozen 5
  obtain ⟨x0, x1, x2, x3, x4, x5⟩ := zX.six
  obtain ⟨W3, hW3⟩ : ∃ W, w2.alloc (.cells #[.int .i64 D.ino, .int .i64 D.kind, .int .i64 D.links, .slice b1 D.data.length d1, .slice b2 D.ents.length d2, .slice b3 D.attrs.length d3] 68) = W := ⟨_, rfl⟩
  have HZ3 : Hid _ := z3
  have HB3 : Hid _ := hb3
  have HG3 : Hid _ := g3
  rw [hW3] at HZ3 HB3 HG3 t0 t1 t2 t3 t4 t5 fz0 fz1 fz2 fz3 fz4 fz5 x0 x1 x2 x3 x4 x5
  have hfin : Hid ((if c = 0 ∧ D.kind = 1 then (inoZ.D, (3 : Int)) else (D, c)) = (D, c) → P (.returned (.tuple #[.agg #[.int .i64 D.ino, .int .i64 D.kind, .int .i64 D.links, .slice b1 D.data.length d1, .slice b2 D.ents.length d2, .slice b3 D.attrs.length d3], errV c])) ((((((W3.setCell ⟨w.heap.size + 1, 0, none⟩ (.int .i64 D.ino)).setCell ⟨w.heap.size + 1, 1, none⟩ (.int .i64 D.kind)).setCell ⟨w.heap.size + 1, 2, none⟩ (.int .i64 D.links)).setCell ⟨w.heap.size + 1, 3, none⟩ (.slice b1 D.data.length d1)).setCell ⟨w.heap.size + 1, 4, none⟩ (.slice b2 D.ents.length d2)).setCell ⟨w.heap.size + 1, 5, none⟩ (.slice b3 D.attrs.length d3))) := fun h => by
    have hf := at_stored HB3.out HG3.out HZ3.out hs1 (.int .i64 D.ino) (.int .i64 D.kind) (.int .i64 D.links) (.slice b1 D.data.length d1) (.slice b2 D.ents.length d2) (.slice b3 D.attrs.length d3)
    exact hp.out _ _ _ _ h ⟨b1, d1, b2, d2, b3, d3, rfl, hf.1, hf.2⟩
  have HF : Hid _ := blk6 HZ3.out (.int .i64 D.ino) (.int .i64 D.kind) (.int .i64 D.links) (.slice b1 D.data.length d1) (.slice b2 D.ents.length d2) (.slice b3 D.attrs.length d3)
  clear z3 hb3 g3 zr hb2 g2 bb2 zX zR B0
  by_cases hc0 : c = 0
  · subst hc0
    rw [errV_zero]
    by_cases hk : D.kind = 1
    · have hkb : (D.kind == 1) = true := by simp [hk]
      have HE : Hid ((if (0 : Int) = 0 ∧ D.kind = 1 then (inoZ.D, (3 : Int)) else (D, 0)) = (inoZ.D, 3)) := if_pos ⟨rfl, hk⟩
      have HEE : Hid _ := HE
      clear hk
      go_wp2
      have zf := blk6 HZ3.out (.int .i64 0) (.int .i64 0) (.int .i64 0) (.slice none 0 0) (.slice none 0 0) (.slice none 0 0)
      obtain ⟨dd0, dd1, dd2, dd3, dd4, dd5⟩ := zf.six
      refine bodyPost_ret (v := .tuple #[.agg #[.int .i64 0, .int .i64 0, .int .i64 0, .slice none 0 0, .slice none 0 0, .slice none 0 0], .iface 155 (.int .i64 3)]) (by simp [results, Tryz.f224, go_sem, dd0, dd1, dd2, dd3, dd4, dd5]) rfl ?_
      exact hp.out _ _ _ _ HEE.out (eStat_zero rfl (at_stored HB3.out (inoG_zero W3 (w.heap.size + 1 + 1) W3.heap.size) HZ3.out (Nat.lt_succ_self _) _ _ _ _ _ _).2)
    · have hkb : (D.kind == 1) = false := by simpa using hk
      have HE : Hid _ := hfin.out (if_neg (by simp [hk]))
      clear hk
      go_wp2
      obtain ⟨dd0, dd1, dd2, dd3, dd4, dd5⟩ := Blk.six HF.out
      refine bodyPost_ret (v := .tuple #[.agg #[.int .i64 D.ino, .int .i64 D.kind, .int .i64 D.links, .slice b1 D.data.length d1, .slice b2 D.ents.length d2, .slice b3 D.attrs.length d3], .nilIface]) (by simp [results, Tryz.f224, go_sem, dd0, dd1, dd2, dd3, dd4, dd5]) rfl ?_
      exact HE.out
  · have HE : Hid _ := hfin.out (if_neg (by simp [hc0]))
    rw [errV_some hc0] at HE ⊢
    clear hc0
    go_wp2
    obtain ⟨dd0, dd1, dd2, dd3, dd4, dd5⟩ := Blk.six HF.out
    refine bodyPost_ret (v := .tuple #[.agg #[.int .i64 D.ino, .int .i64 D.kind, .int .i64 D.links, .slice b1 D.data.length d1, .slice b2 D.ents.length d2, .slice b3 D.attrs.length d3], .iface 155 (.int .i64 c)]) (by simp [results, Tryz.f224, go_sem, dd0, dd1, dd2, dd3, dd4, dd5]) rfl ?_
    exact HE.out
end

section
open Go.RowKit
set_option maxRecDepth 100000 in
set_option maxHeartbeats 4000000 in
theorem l6PutS (a : Option Addr) (n cap : Nat) (es : List (ByteArray × Int)) (nm : ByteArray) (y : Int) (w : World) (hn : es.length = n) (hs : n ≤ 100000) (hr : RdP w a (eP es)) :
    Calls Tryz.prog 70 #[.slice a n cap, .agg #[.string nm, .int .i64 y]] w fun e w' => ∃ g c, e = .returned (.slice (some ⟨g, 0, none⟩) (n + 1) c) ∧ w'.ownsRow w.heap.size 89 2 (.slice (some ⟨g, 0, none⟩) (n + 1) c) (n + 1) (pv (eP (insBy (fun q => gtS nm q.1) es (nm, y)))) ∧ Below w.heap.size w w' := by
  have hn' : Hid (es.length = n) := hn
  obtain ⟨i0, hi, hz0, hz1, hz2⟩ := info_parts Tryz.infoEnt
  have B0 : Below w.heap.size w (w.alloc (.cells #[.string nm, .int .i64 y] 89)) := (Below.refl _ w).alloc (Nat.le_refl _) _
  have z0 := Blk.new w 89 #[.string nm, .int .i64 y]
  have hr0 := hr.keep B0
  go_enter Tryz.func70, Tryz.ntmps70
  go_upto_region 1 with fail
  obtain ⟨W0, hW0⟩ : ∃ W, w.alloc (.cells #[.string nm, .int .i64 y] 89) = W := ⟨_, rfl⟩
  have hs0 : W0.heap.size = w.heap.size + 1 := by rw [← hW0]; simp
  rw [hW0] at B0 z0 hr0 ⊢
  clear hW0 hr hn
  have t0 := z0.cell 0
  have t1 := z0.cell 1
  simp at t0 t1
  have hwb : w.heap.size ≤ W0.heap.size := by omega
  have hwl : w.heap.size < W0.heap.size := by omega
  clear hs0
  have bE := (Below.refl W0.heap.size W0).alloc (Nat.le_refl _) (.cells #[] 89)
  have bP := (Below.refl W0.heap.size W0).alloc (Nat.le_refl _) (.cells #[.string nm, .int .i64 y] 89)
  have bEP := bE.alloc bE.size (.cells #[.string nm, .int .i64 y] 89)
  have bPE := bP.alloc bP.size (.cells #[] 89)
  have oE := empty_row W0 W0.heap.size 89 2 (Nat.le_refl _)
  have oEP := World.ownsRow.alloc oE (.cells #[.string nm, .int .i64 y] 89)
  have oPE := empty_row (W0.alloc (.cells #[.string nm, .int .i64 y] 89)) W0.heap.size 89 2 (by simp)
  simp only [World.size_alloc] at oPE
  have zEP := Blk.new (W0.alloc (.cells #[] 89)) 89 #[.string nm, .int .i64 y]
  have zPE := (Blk.new W0 89 #[.string nm, .int .i64 y]).alloc (.cells #[] 89)
  simp only [World.size_alloc] at zEP
  have f1 := fresh_pairs (W0.alloc (.cells #[] 89)).drew W0.heap.size W0.heap.size 65 89 i0 (.agg #[.string ⟨#[]⟩, .int .i64 0]) 24 Tryz.underlying65 hi hz0 hz1 hz2 rfl (by omega) a n cap (eP es) (by rw [eP_length, hn'.out]) (by omega) (eP_one es) (Nat.le_refl _) oE (hr0.keep bE.drew)
  have f2 := fresh_pairs ((W0.alloc (.cells #[] 89)).alloc (.cells #[.string nm, .int .i64 y] 89)).drew W0.heap.size W0.heap.size 65 89 i0 (.agg #[.string ⟨#[]⟩, .int .i64 0]) 24 Tryz.underlying65 hi hz0 hz1 hz2 rfl (by omega) a n cap (eP es) (by rw [eP_length, hn'.out]) (by omega) (eP_one es) (Nat.le_refl _) oEP (hr0.keep bEP.drew)
  have f3 := fresh_pairs ((W0.alloc (.cells #[.string nm, .int .i64 y] 89)).alloc (.cells #[] 89)).drew W0.heap.size (W0.heap.size + 1) 65 89 i0 (.agg #[.string ⟨#[]⟩, .int .i64 0]) 24 Tryz.underlying65 hi hz0 hz1 hz2 rfl (by omega) a n cap (eP es) (by rw [eP_length, hn'.out]) (by omega) (eP_one es) (by omega) oPE (hr0.keep bPE.drew)
  have hap := fun (W : World) (hB : W0.heap.size ≤ W.heap.size) (g c : Nat) (ho : W.ownsRow W0.heap.size 89 2 (.slice (some ⟨g, 0, none⟩) n c) n (pv (eP es))) (ad : Nat) (zz : Blk W ad 89 #[.string nm, .int .i64 y]) => app_pair W W0.heap.size 65 89 i0 (.agg #[.string ⟨#[]⟩, .int .i64 0]) 24 Tryz.underlying65 hi hz0 hz1 hz2 rfl (by omega) g n c (eP es) ho (by omega) ad (.string nm, .int .i64 y) (zz.cell 0) (zz.cell 1) rfl rfl hB
  have HAP : Hid _ := hap
  clear hap oE oEP oPE hr0
  go_cut [5] (fun s wx => ∃ g c, s = .slice (some ⟨g, 0, none⟩) (n + 1) c ∧ wx.ownsRow W0.heap.size 89 2 (.slice (some ⟨g, 0, none⟩) (n + 1) c) (n + 1) (pv (eP (es ++ [(nm, y)]))) ∧ Below W0.heap.size W0 wx)
  case first =>
    go_region_held3 (fun W : World => W.cell? ⟨w.heap.size, 0, none⟩ = some (.string nm) ∧ W.cell? ⟨w.heap.size, 1, none⟩ = some (.int .i64 y)) (go_keep) (first
      | (refine step_fresh (W0.alloc (.cells #[] 89)).drew rfl (.tmp 7) (.tmp 8) 65 rfl W0.heap.size W0.heap.size a n cap 89 2 (pv (eP es)) rfl rfl f1 ?_; intro g1 c1 V1 o1 hg1 hl1 bF1; have bV : Below W0.heap.size W0 V1 := bE.drew.trans (bF1.mono bE.size); have q0 := (z0.keep bV).cell 0; have q1 := (z0.keep bV).cell 1; simp at q0 q1; have oN := World.ownsRow.alloc o1 (.cells #[.string nm, .int .i64 y] 89); have zN := Blk.new V1 89 #[.string nm, .int .i64 y]; have bN := bV.alloc bV.size (.cells #[.string nm, .int .i64 y] 89); have rN := (z0.keep bN).cell 0; have rN1 := (z0.keep bN).cell 1; simp at rN rN1)
      | (refine step_fresh ((W0.alloc (.cells #[] 89)).alloc (.cells #[.string nm, .int .i64 y] 89)).drew rfl (.tmp 7) (.tmp 8) 65 rfl W0.heap.size W0.heap.size a n cap 89 2 (pv (eP es)) rfl rfl f2 ?_; intro g1 c1 V2 o1 hg1 hl1 bF2; have bN : Below W0.heap.size W0 V2 := bEP.drew.trans (bF2.mono bEP.size); have q0 := (z0.keep bN).cell 0; have q1 := (z0.keep bN).cell 1; simp at q0 q1; have oN := o1; have zN := Blk.keep (Blk.drew zEP) bF2)
      | (refine step_fresh ((W0.alloc (.cells #[.string nm, .int .i64 y] 89)).alloc (.cells #[] 89)).drew rfl (.tmp 7) (.tmp 8) 65 rfl W0.heap.size (W0.heap.size + 1) a n cap 89 2 (pv (eP es)) rfl rfl f3 ?_; intro g1 c1 V3 o1 hg1 hl1 bF3; have bN : Below W0.heap.size W0 V3 := bPE.drew.trans (bF3.mono bPE.size); have q0 := (z0.keep bN).cell 0; have q1 := (z0.keep bN).cell 1; simp at q0 q1; have oN := o1; have zN := Blk.keep (Blk.drew zPE) bF3)
      | (refine step_run (V1.alloc (.cells #[.string nm, .int .i64 y] 89)) (by rfl) (.tmp 9) (.tmp 11) 65 (by rfl) (.slice (some ⟨g1, 0, none⟩) n c1) (.slice (some ⟨V1.heap.size, 0, none⟩) 1 1) (by first | rfl | simp [Act.eval, Act.put]) (by first | rfl | simp [Act.eval, Act.put]) _ (HAP.out _ bN.size g1 c1 oN V1.heap.size zN) ?_; rintro v5 V5 ⟨g5, c5, rfl, o5, hg5, hat5⟩; have hb5 := bN.grown hg5 bN.size (fun m hm => by simp at hm; have := (World.ownsRow.lt oN g1 rfl).1; omega); have q5 := (z0.keep hb5).cell 0; have q6 := (z0.keep hb5).cell 1; simp at q5 q6)
      | (refine step_run V2 (by rfl) (.tmp 9) (.tmp 11) 65 (by rfl) (.slice (some ⟨g1, 0, none⟩) n c1) (.slice (some ⟨W0.heap.size + 1, 0, none⟩) 1 1) (by first | rfl | simp [Act.eval, Act.put]) (by first | rfl | simp [Act.eval, Act.put]) _ (HAP.out _ bN.size g1 c1 oN (W0.heap.size + 1) zN) ?_; rintro v5 V5 ⟨g5, c5, rfl, o5, hg5, hat5⟩; have hb5 := bN.grown hg5 bN.size (fun m hm => by simp at hm; have := (World.ownsRow.lt oN g1 rfl).1; omega); have q5 := (z0.keep hb5).cell 0; have q6 := (z0.keep hb5).cell 1; simp at q5 q6)
      | (refine step_run V3 (by rfl) (.tmp 9) (.tmp 11) 65 (by rfl) (.slice (some ⟨g1, 0, none⟩) n c1) (.slice (some ⟨W0.heap.size, 0, none⟩) 1 1) (by first | rfl | simp [Act.eval, Act.put]) (by first | rfl | simp [Act.eval, Act.put]) _ (HAP.out _ bN.size g1 c1 oN W0.heap.size zN) ?_; rintro v5 V5 ⟨g5, c5, rfl, o5, hg5, hat5⟩; have hb5 := bN.grown hg5 bN.size (fun m hm => by simp at hm; have := (World.ownsRow.lt oN g1 rfl).1; omega); have q5 := (z0.keep hb5).cell 0; have q6 := (z0.keep hb5).cell 1; simp at q5 q6)
      | fail)
    all_goals (go_wp2_with fail; go_meet)
    all_goals exact ⟨g5, c5, rfl, by rw [eP_snoc]; exact o5, hb5⟩
  case rest =>
    obtain ⟨g, c, rfl, oc, bc⟩ := hcut
    obtain ⟨Wc, hwc⟩ : ∃ W, W = wc := ⟨_, rfl⟩
    subst hwc
    have hgl : W0.heap.size ≤ g := (World.ownsRow.lt oc g rfl).1
    have oc' : Wc.ownsRow W0.heap.size 89 2 (.slice (some ⟨g, 0, none⟩) (n + 1) c) (n + 1) (pv (eP (es.take n ++ (nm, y) :: es.drop n))) := by
      rw [List.take_of_length_le (by rw [hn'.out]; omega), List.drop_of_length_le (by rw [hn'.out]; omega)]
      exact oc
    have HZ : Hid _ := z0
    have HB0 : Hid _ := B0
    clear oc f1 f2 f3 HAP bE bP bEP bPE zEP zPE hi hz0 hz1 hz2 t0 t1 z0 B0
    go_wp2
    go_loopw [6] (fun k wr => ∃ (p : Nat) (u : ByteArray × Int), p ≤ n ∧ k = .int .i64 p ∧ wr.ownsRow W0.heap.size 89 2 (.slice (some ⟨g, 0, none⟩) (n + 1) c) (n + 1) (pv (eP (es.take p ++ u :: es.drop p))) ∧ Below W0.heap.size W0 wr ∧ Hid (∀ q ∈ es.drop p, gtS nm q.1 = true)) (fun k _ => (intOf k).toNat)
    case atStart => exact ⟨n, (nm, y), Nat.le_refl _, by go_num, oc', bc, fun q hq => by rw [List.drop_of_length_le (by rw [hn'.out]; omega)] at hq; simp at hq⟩
    case round =>
      obtain ⟨p, u, hp, rfl, ho, hb, hgt⟩ := hrel
      clear oc' bc
      have hpS : p ≤ es.length := by rw [hn'.out]; exact hp
      have hlen := hole_len u hpS
      have z1 := Blk.keep HZ.out hb
      have t0 := z1.cell 0
      have t1 := z1.cell 1
      simp at t0 t1
      have fin : Hid (∀ W : World, W = (wr.setCell ⟨g, p * 2, none⟩ (.string nm)).setCell ⟨g, p * 2 + 1, none⟩ (.int .i64 y) → (p = 0 ∨ ∃ q, es[p - 1]? = some q ∧ gtS nm q.1 = false) → W.ownsRow w.heap.size 89 2 (.slice (some ⟨g, 0, none⟩) (n + 1) c) (n + 1) (pv (eP (insBy (fun q => gtS nm q.1) es (nm, y)))) ∧ Below w.heap.size w W) := by
        intro W hW hc
        subst hW
        have h1 := (World.ownsRow.stored (World.ownsRow.stored ho (p * 2) (.string nm)).1 (p * 2 + 1) (.int .i64 y)).1
        have e : ((pv (eP (es.take p ++ u :: es.drop p))).set (p * 2) (.string nm)).set (p * 2 + 1) (.int .i64 y) = pv (eP (insBy (fun q => gtS nm q.1) es (nm, y))) := by
          rw [pv_set _ p (.string nm, .int .i64 y) (by rw [eP_length, hlen]; omega), insBy_at hpS hgt.out hc, ← hole_end u (nm, y) hpS]
          unfold eP
          rw [List.map_set]
        rw [e] at h1
        have hBw := (hb.setCell (p := ⟨g, p * 2, none⟩) hgl (.string nm)).setCell (p := ⟨g, p * 2 + 1, none⟩) hgl (.int .i64 y)
        exact ⟨row_lower h1 hwb, HB0.out.trans (hBw.mono hwb)⟩
      have hpl : p < (eP (es.take p ++ u :: es.drop p)).length := by rw [eP_length, hlen]; omega
      obtain ⟨cv0, cv1⟩ := pv_at (eP (es.take p ++ u :: es.drop p)) p hpl
      have hc0 := World.ownsRow.cellAt ho (p * 2) (by omega)
      have hc1 := World.ownsRow.cellAt ho (p * 2 + 1) (by omega)
      have hf0 := World.ownsRow.frozenAt ho (p * 2)
      have hf1 := World.ownsRow.frozenAt ho (p * 2 + 1)
      rw [cv0] at hc0
      rw [cv1] at hc1
      generalize ((eP (es.take p ++ u :: es.drop p)).getD p (undef, undef)).1 = V0 at hc0
      generalize ((eP (es.take p ++ u :: es.drop p)).getD p (undef, undef)).2 = V1 at hc1
      have hpn1 : (p : Int) < ((n + 1 : Nat) : Int) := by omega
      have hp0' : (0 : Int) ≤ (p : Int) := by omega
      have HLEN : Hid _ := hlen
      have HZ1 : Hid _ := z1
      clear hlen cv0 cv1 hpl z1
      rcases Nat.eq_zero_or_pos p with rfl | hpos
      · have HD : Hid _ := fin.out _ rfl (.inl rfl)
        clear fin ho hb hgt
        go_upto_region 3 with fail
        refine wp_region_noPanic ?_
        refine wp_region_held_drew (S := fun W : World => W.cell? ⟨w.heap.size, 0, none⟩ = some (.string nm) ∧ W.cell? ⟨w.heap.size, 1, none⟩ = some (.int .i64 y)) (by kernel_rfl) (by go_keep) (fun hS => ?_)
        refine wpAnyH_take (i := 0) (v := ?gv1) rfl (by kernel_rfl) (by kernel_rfl) (by kernel_rfl) (fun _ _ _ h => h) (Or.inl ⟨by kernel_rfl, ?gy1⟩) (by assumption) ?gr1
        case gy1 => (intro w' hSw; (try dsimp only at hSw); go_simp; (try with_reducible rfl))
        try simp only [Act.put, List.setIfInBounds_toArray, List.set_cons_zero, List.set_cons_succ, List.getElem_toArray, List.getElem_cons_zero]
        refine wpAnyH_take (i := 1) (v := ?gv2) rfl (by kernel_rfl) (by kernel_rfl) (by kernel_rfl) (fun _ _ _ h => h) (Or.inl ⟨by kernel_rfl, ?gy2⟩) (by assumption) ?gr2
        case gy2 => (intro w' hSw; (try dsimp only at hSw); go_simp; (try with_reducible rfl))
        try simp only [Act.put, List.setIfInBounds_toArray, List.set_cons_zero, List.set_cons_succ, List.getElem_toArray, List.getElem_cons_succ, List.getElem_cons_zero]
        refine wpAnyH_take (i := 2) (v := ?gv3) rfl (by kernel_rfl) (by kernel_rfl) (by kernel_rfl) (fun _ _ _ h => h) (Or.inl ⟨by kernel_rfl, ?gy3⟩) (by assumption) ?gr3
        case gy3 => (intro w' hSw; (try dsimp only at hSw); go_simp; (try with_reducible rfl))
        try simp only [Act.put, List.setIfInBounds_toArray, List.set_cons_zero, List.set_cons_succ, List.getElem_toArray, List.getElem_cons_succ, List.getElem_cons_zero]
        refine wpAnyH_take (i := 3) (v := undef) rfl (by kernel_rfl) (by kernel_rfl) (by kernel_rfl) (fun _ _ _ h => h) (Or.inr ⟨by kernel_rfl, rfl⟩) (by assumption) ?_
        try simp only [Act.put, List.setIfInBounds_toArray, List.set_cons_zero, List.set_cons_succ, List.getElem_toArray, List.getElem_cons_succ, List.getElem_cons_zero]
        refine wpAnyH_take (i := 4) (v := undef) rfl (by kernel_rfl) (by kernel_rfl) (by kernel_rfl) (fun _ _ _ h => h) (Or.inr ⟨by kernel_rfl, rfl⟩) (by assumption) ?_
        try simp only [Act.put, List.setIfInBounds_toArray, List.set_cons_zero, List.set_cons_succ, List.getElem_toArray, List.getElem_cons_succ, List.getElem_cons_zero]
        refine wpAnyH_take (i := 5) (v := undef) rfl (by kernel_rfl) (by kernel_rfl) (by kernel_rfl) (fun _ _ _ h => h) (Or.inr ⟨by kernel_rfl, rfl⟩) (by assumption) ?_
        try simp only [Act.put, List.setIfInBounds_toArray, List.set_cons_zero, List.set_cons_succ, List.getElem_toArray, List.getElem_cons_succ, List.getElem_cons_zero]
        refine wpAnyH_take (i := 6) (v := undef) rfl (by kernel_rfl) (by kernel_rfl) (by kernel_rfl) (fun _ _ _ h => h) (Or.inr ⟨by kernel_rfl, rfl⟩) (by assumption) ?_
        try simp only [Act.put, List.setIfInBounds_toArray, List.set_cons_zero, List.set_cons_succ, List.getElem_toArray, List.getElem_cons_succ, List.getElem_cons_zero]
        refine wpAnyH_take (i := 7) (v := undef) rfl (by kernel_rfl) (by kernel_rfl) (by kernel_rfl) (fun _ _ _ h => h) (Or.inr ⟨by kernel_rfl, rfl⟩) (by assumption) ?_
        try simp only [Act.put, List.setIfInBounds_toArray, List.set_cons_zero, List.set_cons_succ, List.getElem_toArray, List.getElem_cons_succ, List.getElem_cons_zero]
        refine wpAnyH_take (i := 8) (v := undef) rfl (by kernel_rfl) (by kernel_rfl) (by kernel_rfl) (fun _ _ _ h => h) (Or.inr ⟨by kernel_rfl, rfl⟩) (by assumption) ?_
        try simp only [Act.put, List.setIfInBounds_toArray, List.set_cons_zero, List.set_cons_succ, List.getElem_toArray, List.getElem_cons_succ, List.getElem_cons_zero]
        refine wpAnyH_take (i := 9) (v := undef) rfl (by kernel_rfl) (by kernel_rfl) (by kernel_rfl) (fun _ _ _ h => h) (Or.inr ⟨by kernel_rfl, rfl⟩) (by assumption) ?_
        try simp only [Act.put, List.setIfInBounds_toArray, List.set_cons_zero, List.set_cons_succ, List.getElem_toArray, List.getElem_cons_succ, List.getElem_cons_zero]
        refine wpAnyH_take (i := 10) (v := undef) rfl (by kernel_rfl) (by kernel_rfl) (by kernel_rfl) (fun _ _ _ h => h) (Or.inr ⟨by kernel_rfl, rfl⟩) (by assumption) ?_
        try simp only [Act.put, List.setIfInBounds_toArray, List.set_cons_zero, List.set_cons_succ, List.getElem_toArray, List.getElem_cons_succ, List.getElem_cons_zero]
        refine wpAnyH_take (i := 11) (v := undef) rfl (by kernel_rfl) (by kernel_rfl) (by kernel_rfl) (fun _ _ _ h => h) (Or.inr ⟨by kernel_rfl, rfl⟩) (by assumption) ?_
        try simp only [Act.put, List.setIfInBounds_toArray, List.set_cons_zero, List.set_cons_succ, List.getElem_toArray, List.getElem_cons_succ, List.getElem_cons_zero]
        refine wpAnyH_take (i := 12) (v := ?gv4) rfl (by kernel_rfl) (by kernel_rfl) (by kernel_rfl) (fun _ _ _ h => h) (Or.inl ⟨by kernel_rfl, ?gy4⟩) (by assumption) ?gr4
        case gy4 => (intro w' hSw; (try dsimp only at hSw); go_simp; (try with_reducible rfl))
        try simp only [Act.put, List.setIfInBounds_toArray, List.set_cons_zero, List.set_cons_succ, List.getElem_toArray, List.getElem_cons_succ, List.getElem_cons_zero]
        refine wpAnyH_done (by kernel_rfl) (NoPanic.normal ?_) _
        go_wp2
        go_ret
        first | exact ⟨_, _, rfl, HD.out.1, HD.out.2.drew⟩ | exact ⟨_, ⟨_, rfl⟩, HD.out.1, HD.out.2.drew⟩
      · obtain ⟨q, rfl⟩ : ∃ q, p = q + 1 := ⟨p - 1, by omega⟩
        have hql : q < es.length := by omega
        obtain ⟨⟨zm, zy⟩, hy⟩ : ∃ z, es[q]? = some z := ⟨_, List.getElem?_eq_getElem hql⟩
        have hcq := hole_left u (Nat.lt_succ_self q) hpS hy
        have hqp : q < (eP (es.take (q + 1) ++ u :: es.drop (q + 1))).length := by rw [eP_length, HLEN.out]; omega
        obtain ⟨dv0, dv1⟩ := pv_at (eP (es.take (q + 1) ++ u :: es.drop (q + 1))) q hqp
        have hge : (eP (es.take (q + 1) ++ u :: es.drop (q + 1))).getD q (undef, undef) = (.string zm, .int .i64 zy) := by
          unfold eP
          rw [List.getD_eq_getElem?_getD, List.getElem?_map, hcq]
          rfl
        rw [hge] at dv0 dv1
        have hd0 := World.ownsRow.cellAt ho (q * 2) (by omega)
        have hd1 := World.ownsRow.cellAt ho (q * 2 + 1) (by omega)
        rw [dv0] at hd0
        rw [dv1] at hd1
        dsimp only at hd0 hd1
        have hgt0 : (0 : Int) < ((q + 1 : Nat) : Int) := by omega
        have hqn : (q : Int) < ((n + 1 : Nat) : Int) := by omega
        have hq0 : (0 : Int) ≤ (q : Int) := by omega
        have hsub : (((q + 1 : Nat) : Int) - 1) = (q : Int) := by omega
        have hwk : IntKind.i64.wrap (q : Int) = (q : Int) := wrap_small _ hq0 (by omega)
        have hqn' : (q : Int) < (n : Int) + 1 := by omega
        clear hge dv0 dv1 hcq hqp
        cases hxy : gtS nm zm with
        | true =>
          have hst := (World.ownsRow.stored (World.ownsRow.stored ho ((q + 1) * 2) (.string zm)).1 ((q + 1) * 2 + 1) (.int .i64 zy)).1
          have e : ((pv (eP (es.take (q + 1) ++ u :: es.drop (q + 1)))).set ((q + 1) * 2) (.string zm)).set ((q + 1) * 2 + 1) (.int .i64 zy) = pv (eP (es.take q ++ (zm, zy) :: es.drop q)) := by
            rw [pv_set _ (q + 1) (.string zm, .int .i64 zy) (by rw [eP_length, HLEN.out]; omega), ← hole_step u hy]
            unfold eP
            rw [List.map_set]
          rw [e] at hst
          have hb' := (hb.setCell (p := ⟨g, (q + 1) * 2, none⟩) hgl (.string zm)).setCell (p := ⟨g, (q + 1) * 2 + 1, none⟩) hgl (.int .i64 zy)
          have hgt' : Hid (∀ z ∈ es.drop q, gtS nm z.1 = true) := fun z hz => by
            rcases drop_mem hy hz with rfl | hz
            · exact hxy
            · exact hgt.out z hz
          obtain ⟨hA, hB⟩ : Op.bytesLess zm.toList nm.toList = false ∧ (zm.toList == nm.toList) = false := by unfold gtS at hxy; simpa using hxy
          have HST : Hid _ := And.intro hst hb'
          clear fin ho hb hgt e hy hxy hst hb'
          go_upto_region 3 with fail
          refine wp_region_noPanic ?_
          refine wp_region_held_drew (S := fun W : World => W.cell? ⟨w.heap.size, 0, none⟩ = some (.string nm) ∧ W.cell? ⟨w.heap.size, 1, none⟩ = some (.int .i64 y) ∧ W.cell? ⟨g, q * 2, none⟩ = some (.string zm)) (by kernel_rfl) (by go_keep) (fun hS => ?_)
          refine wpAnyH_take (i := 0) (v := ?gv5) rfl (by kernel_rfl) (by kernel_rfl) (by kernel_rfl) (fun _ _ _ h => h) (Or.inl ⟨by kernel_rfl, ?gy5⟩) (by assumption) ?gr5
          case gy5 => (intro w' hSw; (try dsimp only at hSw); go_simp; (try with_reducible rfl))
          try simp only [Act.put, List.setIfInBounds_toArray, List.set_cons_zero, List.set_cons_succ, List.getElem_toArray, List.getElem_cons_zero]
          refine wpAnyH_take (i := 1) (v := ?gv6) rfl (by kernel_rfl) (by kernel_rfl) (by kernel_rfl) (fun _ _ _ h => h) (Or.inl ⟨by kernel_rfl, ?gy6⟩) (by assumption) ?gr6
          case gy6 => (intro w' hSw; (try dsimp only at hSw); go_simp; (try with_reducible rfl))
          try simp only [Act.put, List.setIfInBounds_toArray, List.set_cons_zero, List.set_cons_succ, List.getElem_toArray, List.getElem_cons_succ, List.getElem_cons_zero]
          refine wpAnyH_take (i := 2) (v := ?gv7) rfl (by kernel_rfl) (by kernel_rfl) (by kernel_rfl) (fun _ _ _ h => h) (Or.inl ⟨by kernel_rfl, ?gy7⟩) (by assumption) ?gr7
          case gy7 => (intro w' hSw; (try dsimp only at hSw); go_simp; (try with_reducible rfl))
          try simp only [Act.put, List.setIfInBounds_toArray, List.set_cons_zero, List.set_cons_succ, List.getElem_toArray, List.getElem_cons_succ, List.getElem_cons_zero]
          refine wpAnyH_take (i := 3) (v := ?gv8) rfl (by kernel_rfl) (by kernel_rfl) (by kernel_rfl) (fun _ _ _ h => h) (Or.inl ⟨by kernel_rfl, ?gy8⟩) (by assumption) ?gr8
          case gy8 => (intro w' hSw; (try dsimp only at hSw); go_simp; (try with_reducible rfl))
          try simp only [Act.put, List.setIfInBounds_toArray, List.set_cons_zero, List.set_cons_succ, List.getElem_toArray, List.getElem_cons_succ, List.getElem_cons_zero]
          refine wpAnyH_take (i := 4) (v := ?gv9) rfl (by kernel_rfl) (by kernel_rfl) (by kernel_rfl) (fun _ _ _ h => h) (Or.inl ⟨by kernel_rfl, ?gy9⟩) (by assumption) ?gr9
          case gy9 => (intro w' hSw; (try dsimp only at hSw); go_simp; (try with_reducible rfl))
          try simp only [Act.put, List.setIfInBounds_toArray, List.set_cons_zero, List.set_cons_succ, List.getElem_toArray, List.getElem_cons_succ, List.getElem_cons_zero]
          refine wpAnyH_take (i := 5) (v := ?gv10) rfl (by kernel_rfl) (by kernel_rfl) (by kernel_rfl) (fun _ _ _ h => h) (Or.inl ⟨by kernel_rfl, ?gy10⟩) (by assumption) ?gr10
          case gy10 => (intro w' hSw; (try dsimp only at hSw); go_simp; (try with_reducible rfl))
          try simp only [Act.put, List.setIfInBounds_toArray, List.set_cons_zero, List.set_cons_succ, List.getElem_toArray, List.getElem_cons_succ, List.getElem_cons_zero]
          refine wpAnyH_take (i := 6) (v := ?gv11) rfl (by kernel_rfl) (by kernel_rfl) (by kernel_rfl) (fun _ _ _ h => h) (Or.inl ⟨by kernel_rfl, ?gy11⟩) (by assumption) ?gr11
          case gy11 => (intro w' hSw; (try dsimp only at hSw); go_simp; (try with_reducible rfl))
          try simp only [Act.put, List.setIfInBounds_toArray, List.set_cons_zero, List.set_cons_succ, List.getElem_toArray, List.getElem_cons_succ, List.getElem_cons_zero]
          refine wpAnyH_take (i := 7) (v := ?gv12) rfl (by kernel_rfl) (by kernel_rfl) (by kernel_rfl) (fun _ _ _ h => h) (Or.inl ⟨by kernel_rfl, ?gy12⟩) (by assumption) ?gr12
          case gy12 => (intro w' hSw; (try dsimp only at hSw); go_simp; (try with_reducible rfl))
          try simp only [Act.put, List.setIfInBounds_toArray, List.set_cons_zero, List.set_cons_succ, List.getElem_toArray, List.getElem_cons_succ, List.getElem_cons_zero]
          refine wpAnyH_take (i := 8) (v := ?gv13) rfl (by kernel_rfl) (by kernel_rfl) (by kernel_rfl) (fun _ _ _ h => h) (Or.inl ⟨by kernel_rfl, ?gy13⟩) (by assumption) ?gr13
          case gy13 => (intro w' hSw; (try dsimp only at hSw); go_simp; (try with_reducible rfl))
          try simp only [Act.put, List.setIfInBounds_toArray, List.set_cons_zero, List.set_cons_succ, List.getElem_toArray, List.getElem_cons_succ, List.getElem_cons_zero]
          refine wpAnyH_take (i := 9) (v := ?gv14) rfl (by kernel_rfl) (by kernel_rfl) (by kernel_rfl) (fun _ _ _ h => h) (Or.inl ⟨by kernel_rfl, ?gy14⟩) (by assumption) ?gr14
          case gy14 => (intro w' hSw; (try dsimp only at hSw); go_simp; (try with_reducible rfl))
          try simp only [Act.put, List.setIfInBounds_toArray, List.set_cons_zero, List.set_cons_succ, List.getElem_toArray, List.getElem_cons_succ, List.getElem_cons_zero]
          refine wpAnyH_take (i := 10) (v := ?gv15) rfl (by kernel_rfl) (by kernel_rfl) (by kernel_rfl) (fun _ _ _ h => h) (Or.inl ⟨by kernel_rfl, ?gy15⟩) (by assumption) ?gr15
          case gy15 => (intro w' hSw; (try dsimp only at hSw); go_simp; (try with_reducible rfl))
          try simp only [Act.put, List.setIfInBounds_toArray, List.set_cons_zero, List.set_cons_succ, List.getElem_toArray, List.getElem_cons_succ, List.getElem_cons_zero]
          refine wpAnyH_take (i := 11) (v := ?gv16) rfl (by kernel_rfl) (by kernel_rfl) (by kernel_rfl) (fun _ _ _ h => h) (Or.inl ⟨by kernel_rfl, ?gy16⟩) (by assumption) ?gr16
          case gy16 => (intro w' hSw; (try dsimp only at hSw); go_simp; (try with_reducible rfl))
          try simp only [Act.put, List.setIfInBounds_toArray, List.set_cons_zero, List.set_cons_succ, List.getElem_toArray, List.getElem_cons_succ, List.getElem_cons_zero]
          refine wpAnyH_take (i := 12) (v := ?gv17) rfl (by kernel_rfl) (by kernel_rfl) (by kernel_rfl) (fun _ _ _ h => h) (Or.inl ⟨by kernel_rfl, ?gy17⟩) (by assumption) ?gr17
          case gy17 => (intro w' hSw; (try dsimp only at hSw); go_simp; (try with_reducible rfl))
          try simp only [Act.put, List.setIfInBounds_toArray, List.set_cons_zero, List.set_cons_succ, List.getElem_toArray, List.getElem_cons_succ, List.getElem_cons_zero]
          refine wpAnyH_done (by kernel_rfl) (NoPanic.normal ?_) _
          go_wp2
          go_roundw
          all_goals first
            | (case rel => (repeat apply Exists.intro); exact ⟨⟨q, (zm, zy), by omega, by go_num, HST.out.1, HST.out.2.drew, hgt'⟩, rfl⟩)
            | (case rel => exact ⟨q, (zm, zy), by omega, by go_num, HST.out.1, HST.out.2.drew, hgt'⟩)
            | (case measure => simp [intOf])
            | fail
        | false =>
          have HD : Hid _ := fin.out _ rfl (.inr ⟨(zm, zy), by rw [Nat.add_sub_cancel]; exact hy, hxy⟩)
          have hAB : Op.bytesLess zm.toList nm.toList = true ∨ (Op.bytesLess zm.toList nm.toList = false ∧ (zm.toList == nm.toList) = true) := by
            unfold gtS at hxy
            cases h1 : Op.bytesLess zm.toList nm.toList with
            | true => exact .inl rfl
            | false => rw [h1] at hxy; exact .inr ⟨rfl, by simpa using hxy⟩
          clear fin ho hb hgt hy hxy
          rcases hAB with hA | ⟨hA, hB⟩
          · go_upto_region 3 with fail
            refine wp_region_noPanic ?_
            refine wp_region_held_drew (S := fun W : World => W.cell? ⟨w.heap.size, 0, none⟩ = some (.string nm) ∧ W.cell? ⟨w.heap.size, 1, none⟩ = some (.int .i64 y) ∧ W.cell? ⟨g, q * 2, none⟩ = some (.string zm)) (by kernel_rfl) (by go_keep) (fun hS => ?_)
            refine wpAnyH_take (i := 0) (v := ?gv18) rfl (by kernel_rfl) (by kernel_rfl) (by kernel_rfl) (fun _ _ _ h => h) (Or.inl ⟨by kernel_rfl, ?gy18⟩) (by assumption) ?gr18
            case gy18 => (intro w' hSw; (try dsimp only at hSw); go_simp; (try with_reducible rfl))
            try simp only [Act.put, List.setIfInBounds_toArray, List.set_cons_zero, List.set_cons_succ, List.getElem_toArray, List.getElem_cons_zero]
            refine wpAnyH_take (i := 1) (v := ?gv19) rfl (by kernel_rfl) (by kernel_rfl) (by kernel_rfl) (fun _ _ _ h => h) (Or.inl ⟨by kernel_rfl, ?gy19⟩) (by assumption) ?gr19
            case gy19 => (intro w' hSw; (try dsimp only at hSw); go_simp; (try with_reducible rfl))
            try simp only [Act.put, List.setIfInBounds_toArray, List.set_cons_zero, List.set_cons_succ, List.getElem_toArray, List.getElem_cons_succ, List.getElem_cons_zero]
            refine wpAnyH_take (i := 2) (v := ?gv20) rfl (by kernel_rfl) (by kernel_rfl) (by kernel_rfl) (fun _ _ _ h => h) (Or.inl ⟨by kernel_rfl, ?gy20⟩) (by assumption) ?gr20
            case gy20 => (intro w' hSw; (try dsimp only at hSw); go_simp; (try with_reducible rfl))
            try simp only [Act.put, List.setIfInBounds_toArray, List.set_cons_zero, List.set_cons_succ, List.getElem_toArray, List.getElem_cons_succ, List.getElem_cons_zero]
            refine wpAnyH_take (i := 3) (v := ?gv21) rfl (by kernel_rfl) (by kernel_rfl) (by kernel_rfl) (fun _ _ _ h => h) (Or.inl ⟨by kernel_rfl, ?gy21⟩) (by assumption) ?gr21
            case gy21 => (intro w' hSw; (try dsimp only at hSw); go_simp; (try with_reducible rfl))
            try simp only [Act.put, List.setIfInBounds_toArray, List.set_cons_zero, List.set_cons_succ, List.getElem_toArray, List.getElem_cons_succ, List.getElem_cons_zero]
            refine wpAnyH_take (i := 4) (v := ?gv22) rfl (by kernel_rfl) (by kernel_rfl) (by kernel_rfl) (fun _ _ _ h => h) (Or.inl ⟨by kernel_rfl, ?gy22⟩) (by assumption) ?gr22
            case gy22 => (intro w' hSw; (try dsimp only at hSw); go_simp; (try with_reducible rfl))
            try simp only [Act.put, List.setIfInBounds_toArray, List.set_cons_zero, List.set_cons_succ, List.getElem_toArray, List.getElem_cons_succ, List.getElem_cons_zero]
            refine wpAnyH_take (i := 5) (v := ?gv23) rfl (by kernel_rfl) (by kernel_rfl) (by kernel_rfl) (fun _ _ _ h => h) (Or.inl ⟨by kernel_rfl, ?gy23⟩) (by assumption) ?gr23
            case gy23 => (intro w' hSw; (try dsimp only at hSw); go_simp; (try with_reducible rfl))
            try simp only [Act.put, List.setIfInBounds_toArray, List.set_cons_zero, List.set_cons_succ, List.getElem_toArray, List.getElem_cons_succ, List.getElem_cons_zero]
            refine wpAnyH_take (i := 6) (v := ?gv24) rfl (by kernel_rfl) (by kernel_rfl) (by kernel_rfl) (fun _ _ _ h => h) (Or.inl ⟨by kernel_rfl, ?gy24⟩) (by assumption) ?gr24
            case gy24 => (intro w' hSw; (try dsimp only at hSw); go_simp; (try with_reducible rfl))
            try simp only [Act.put, List.setIfInBounds_toArray, List.set_cons_zero, List.set_cons_succ, List.getElem_toArray, List.getElem_cons_succ, List.getElem_cons_zero]
            refine wpAnyH_take (i := 7) (v := ?gv25) rfl (by kernel_rfl) (by kernel_rfl) (by kernel_rfl) (fun _ _ _ h => h) (Or.inl ⟨by kernel_rfl, ?gy25⟩) (by assumption) ?gr25
            case gy25 => (intro w' hSw; (try dsimp only at hSw); go_simp; (try with_reducible rfl))
            try simp only [Act.put, List.setIfInBounds_toArray, List.set_cons_zero, List.set_cons_succ, List.getElem_toArray, List.getElem_cons_succ, List.getElem_cons_zero]
            refine wpAnyH_take (i := 8) (v := ?gv26) rfl (by kernel_rfl) (by kernel_rfl) (by kernel_rfl) (fun _ _ _ h => h) (Or.inl ⟨by kernel_rfl, ?gy26⟩) (by assumption) ?gr26
            case gy26 => (intro w' hSw; (try dsimp only at hSw); go_simp; (try with_reducible rfl))
            try simp only [Act.put, List.setIfInBounds_toArray, List.set_cons_zero, List.set_cons_succ, List.getElem_toArray, List.getElem_cons_succ, List.getElem_cons_zero]
            refine wpAnyH_take (i := 9) (v := ?gv27) rfl (by kernel_rfl) (by kernel_rfl) (by kernel_rfl) (fun _ _ _ h => h) (Or.inl ⟨by kernel_rfl, ?gy27⟩) (by assumption) ?gr27
            case gy27 => (intro w' hSw; (try dsimp only at hSw); go_simp; (try with_reducible rfl))
            try simp only [Act.put, List.setIfInBounds_toArray, List.set_cons_zero, List.set_cons_succ, List.getElem_toArray, List.getElem_cons_succ, List.getElem_cons_zero]
            refine wpAnyH_take (i := 10) (v := ?gv28) rfl (by kernel_rfl) (by kernel_rfl) (by kernel_rfl) (fun _ _ _ h => h) (Or.inl ⟨by kernel_rfl, ?gy28⟩) (by assumption) ?gr28
            case gy28 => (intro w' hSw; (try dsimp only at hSw); go_simp; (try with_reducible rfl))
            try simp only [Act.put, List.setIfInBounds_toArray, List.set_cons_zero, List.set_cons_succ, List.getElem_toArray, List.getElem_cons_succ, List.getElem_cons_zero]
            refine wpAnyH_take (i := 11) (v := ?gv29) rfl (by kernel_rfl) (by kernel_rfl) (by kernel_rfl) (fun _ _ _ h => h) (Or.inl ⟨by kernel_rfl, ?gy29⟩) (by assumption) ?gr29
            case gy29 => (intro w' hSw; (try dsimp only at hSw); go_simp; (try with_reducible rfl))
            try simp only [Act.put, List.setIfInBounds_toArray, List.set_cons_zero, List.set_cons_succ, List.getElem_toArray, List.getElem_cons_succ, List.getElem_cons_zero]
            refine wpAnyH_take (i := 12) (v := ?gv30) rfl (by kernel_rfl) (by kernel_rfl) (by kernel_rfl) (fun _ _ _ h => h) (Or.inl ⟨by kernel_rfl, ?gy30⟩) (by assumption) ?gr30
            case gy30 => (intro w' hSw; (try dsimp only at hSw); go_simp; (try with_reducible rfl))
            try simp only [Act.put, List.setIfInBounds_toArray, List.set_cons_zero, List.set_cons_succ, List.getElem_toArray, List.getElem_cons_succ, List.getElem_cons_zero]
            refine wpAnyH_done (by kernel_rfl) (NoPanic.normal ?_) _
            go_wp2
            go_ret
            first | exact ⟨_, _, rfl, HD.out.1, HD.out.2.drew⟩ | exact ⟨_, ⟨_, rfl⟩, HD.out.1, HD.out.2.drew⟩
          · go_upto_region 3 with fail
            refine wp_region_noPanic ?_
            refine wp_region_held_drew (S := fun W : World => W.cell? ⟨w.heap.size, 0, none⟩ = some (.string nm) ∧ W.cell? ⟨w.heap.size, 1, none⟩ = some (.int .i64 y) ∧ W.cell? ⟨g, q * 2, none⟩ = some (.string zm)) (by kernel_rfl) (by go_keep) (fun hS => ?_)
            refine wpAnyH_take (i := 0) (v := ?gv31) rfl (by kernel_rfl) (by kernel_rfl) (by kernel_rfl) (fun _ _ _ h => h) (Or.inl ⟨by kernel_rfl, ?gy31⟩) (by assumption) ?gr31
            case gy31 => (intro w' hSw; (try dsimp only at hSw); go_simp; (try with_reducible rfl))
            try simp only [Act.put, List.setIfInBounds_toArray, List.set_cons_zero, List.set_cons_succ, List.getElem_toArray, List.getElem_cons_zero]
            refine wpAnyH_take (i := 1) (v := ?gv32) rfl (by kernel_rfl) (by kernel_rfl) (by kernel_rfl) (fun _ _ _ h => h) (Or.inl ⟨by kernel_rfl, ?gy32⟩) (by assumption) ?gr32
            case gy32 => (intro w' hSw; (try dsimp only at hSw); go_simp; (try with_reducible rfl))
            try simp only [Act.put, List.setIfInBounds_toArray, List.set_cons_zero, List.set_cons_succ, List.getElem_toArray, List.getElem_cons_succ, List.getElem_cons_zero]
            refine wpAnyH_take (i := 2) (v := ?gv33) rfl (by kernel_rfl) (by kernel_rfl) (by kernel_rfl) (fun _ _ _ h => h) (Or.inl ⟨by kernel_rfl, ?gy33⟩) (by assumption) ?gr33
            case gy33 => (intro w' hSw; (try dsimp only at hSw); go_simp; (try with_reducible rfl))
            try simp only [Act.put, List.setIfInBounds_toArray, List.set_cons_zero, List.set_cons_succ, List.getElem_toArray, List.getElem_cons_succ, List.getElem_cons_zero]
            refine wpAnyH_take (i := 3) (v := ?gv34) rfl (by kernel_rfl) (by kernel_rfl) (by kernel_rfl) (fun _ _ _ h => h) (Or.inl ⟨by kernel_rfl, ?gy34⟩) (by assumption) ?gr34
            case gy34 => (intro w' hSw; (try dsimp only at hSw); go_simp; (try with_reducible rfl))
            try simp only [Act.put, List.setIfInBounds_toArray, List.set_cons_zero, List.set_cons_succ, List.getElem_toArray, List.getElem_cons_succ, List.getElem_cons_zero]
            refine wpAnyH_take (i := 4) (v := ?gv35) rfl (by kernel_rfl) (by kernel_rfl) (by kernel_rfl) (fun _ _ _ h => h) (Or.inl ⟨by kernel_rfl, ?gy35⟩) (by assumption) ?gr35
            case gy35 => (intro w' hSw; (try dsimp only at hSw); go_simp; (try with_reducible rfl))
            try simp only [Act.put, List.setIfInBounds_toArray, List.set_cons_zero, List.set_cons_succ, List.getElem_toArray, List.getElem_cons_succ, List.getElem_cons_zero]
            refine wpAnyH_take (i := 5) (v := ?gv36) rfl (by kernel_rfl) (by kernel_rfl) (by kernel_rfl) (fun _ _ _ h => h) (Or.inl ⟨by kernel_rfl, ?gy36⟩) (by assumption) ?gr36
            case gy36 => (intro w' hSw; (try dsimp only at hSw); go_simp; (try with_reducible rfl))
            try simp only [Act.put, List.setIfInBounds_toArray, List.set_cons_zero, List.set_cons_succ, List.getElem_toArray, List.getElem_cons_succ, List.getElem_cons_zero]
            refine wpAnyH_take (i := 6) (v := ?gv37) rfl (by kernel_rfl) (by kernel_rfl) (by kernel_rfl) (fun _ _ _ h => h) (Or.inl ⟨by kernel_rfl, ?gy37⟩) (by assumption) ?gr37
            case gy37 => (intro w' hSw; (try dsimp only at hSw); go_simp; (try with_reducible rfl))
            try simp only [Act.put, List.setIfInBounds_toArray, List.set_cons_zero, List.set_cons_succ, List.getElem_toArray, List.getElem_cons_succ, List.getElem_cons_zero]
            refine wpAnyH_take (i := 7) (v := ?gv38) rfl (by kernel_rfl) (by kernel_rfl) (by kernel_rfl) (fun _ _ _ h => h) (Or.inl ⟨by kernel_rfl, ?gy38⟩) (by assumption) ?gr38
            case gy38 => (intro w' hSw; (try dsimp only at hSw); go_simp; (try with_reducible rfl))
            try simp only [Act.put, List.setIfInBounds_toArray, List.set_cons_zero, List.set_cons_succ, List.getElem_toArray, List.getElem_cons_succ, List.getElem_cons_zero]
            refine wpAnyH_take (i := 8) (v := ?gv39) rfl (by kernel_rfl) (by kernel_rfl) (by kernel_rfl) (fun _ _ _ h => h) (Or.inl ⟨by kernel_rfl, ?gy39⟩) (by assumption) ?gr39
            case gy39 => (intro w' hSw; (try dsimp only at hSw); go_simp; (try with_reducible rfl))
            try simp only [Act.put, List.setIfInBounds_toArray, List.set_cons_zero, List.set_cons_succ, List.getElem_toArray, List.getElem_cons_succ, List.getElem_cons_zero]
            refine wpAnyH_take (i := 9) (v := ?gv40) rfl (by kernel_rfl) (by kernel_rfl) (by kernel_rfl) (fun _ _ _ h => h) (Or.inl ⟨by kernel_rfl, ?gy40⟩) (by assumption) ?gr40
            case gy40 => (intro w' hSw; (try dsimp only at hSw); go_simp; (try with_reducible rfl))
            try simp only [Act.put, List.setIfInBounds_toArray, List.set_cons_zero, List.set_cons_succ, List.getElem_toArray, List.getElem_cons_succ, List.getElem_cons_zero]
            refine wpAnyH_take (i := 10) (v := ?gv41) rfl (by kernel_rfl) (by kernel_rfl) (by kernel_rfl) (fun _ _ _ h => h) (Or.inl ⟨by kernel_rfl, ?gy41⟩) (by assumption) ?gr41
            case gy41 => (intro w' hSw; (try dsimp only at hSw); go_simp; (try with_reducible rfl))
            try simp only [Act.put, List.setIfInBounds_toArray, List.set_cons_zero, List.set_cons_succ, List.getElem_toArray, List.getElem_cons_succ, List.getElem_cons_zero]
            refine wpAnyH_take (i := 11) (v := ?gv42) rfl (by kernel_rfl) (by kernel_rfl) (by kernel_rfl) (fun _ _ _ h => h) (Or.inl ⟨by kernel_rfl, ?gy42⟩) (by assumption) ?gr42
            case gy42 => (intro w' hSw; (try dsimp only at hSw); go_simp; (try with_reducible rfl))
            try simp only [Act.put, List.setIfInBounds_toArray, List.set_cons_zero, List.set_cons_succ, List.getElem_toArray, List.getElem_cons_succ, List.getElem_cons_zero]
            refine wpAnyH_take (i := 12) (v := ?gv43) rfl (by kernel_rfl) (by kernel_rfl) (by kernel_rfl) (fun _ _ _ h => h) (Or.inl ⟨by kernel_rfl, ?gy43⟩) (by assumption) ?gr43
            case gy43 => (intro w' hSw; (try dsimp only at hSw); go_simp; (try with_reducible rfl))
            try simp only [Act.put, List.setIfInBounds_toArray, List.set_cons_zero, List.set_cons_succ, List.getElem_toArray, List.getElem_cons_succ, List.getElem_cons_zero]
            refine wpAnyH_done (by kernel_rfl) (NoPanic.normal ?_) _
            go_wp2
            go_ret
            first | exact ⟨_, _, rfl, HD.out.1, HD.out.2.drew⟩ | exact ⟨_, ⟨_, rfl⟩, HD.out.1, HD.out.2.drew⟩
end

section
open Go.RowKit
theorem statD_mem {ds : List InoD} {s : ByteArray} {D : InoD} (h : statD ds s = (D, 0)) : D ∈ ds := by
  unfold statD at h
  split at h
  · split at h
    · simp at h
    · rename_i E hE
      simp at h
      exact h ▸ (look_mem hE).1
  · rename_i hn
    simp at h
    exact absurd h.2 hn
theorem spot_mem {ds : List InoD} {s : ByteArray} {fr : Int} {D : InoD} {nm : ByteArray} (h : spotD ds s fr = (D, nm, 0)) : D ∈ ds ∧ nm.size ≤ 14 := by
  unfold spotD at h
  split at h
  · simp at h
  · split at h
    · rename_i hn
      simp at h
      exact absurd h.2.2 hn
    · rename_i hn
      split at h
      · simp at h
      · split at h
        · simp at h
        · split at h
          · simp at h
          · simp only [Prod.mk.injEq, and_true] at h
            have h0 : (statD ds (strB (parentOf s.data.toList).1)).2 = 0 := by simpa using hn
            refine ⟨statD_mem (s := strB (parentOf s.data.toList).1) (Prod.ext h.1 h0), ?_⟩
            rw [← h.2, strB_size]
            exact (parent_small _).2
/-- SetInode, with what is told of tables here. -/
theorem setT (a : Option Addr) (n cap : Nat) (nx : Int) (rs : List InoR) (D : InoD) (a1 a2 a3 : Option Addr) (c1 c2 c3 : Nat) (w : World) (ht : TR w a n rs) (hsx : InoSmall D) (hx : InoRd w D a1 a2 a3) :
    Calls Tryz.prog 71 #[.agg #[.slice a n cap, .int .i64 nx], .agg #[.int .i64 D.ino, .int .i64 D.kind, .int .i64 D.links, .slice a1 D.data.length c1, .slice a2 D.ents.length c2, .slice a3 D.attrs.length c3]] w fun e w' => ∃ v, e = .returned v ∧ TabAt w nx (setD (rs.map InoR.D) D) v w' :=
  (setS a n cap nx rs D a1 a2 a3 c1 c2 c3 w ht.len ht.n ht.small hsx ht.rd hx).mono fun e w' h => by
    have := SetPost.tab h
    rw [setD_eq] at this
    exact this
theorem setD_len (ds : List InoD) (D : InoD) : (setD ds D).length ≤ ds.length + 1 := by
  unfold setD
  rw [List.length_map]
  unfold setR
  split
  · simp
  · rw [putAt_len _ _ _ (placeOf_le _ _)]
    simp
theorem setD_small {ds : List InoD} {D : InoD} (h : ∀ E ∈ ds, InoSmall E) (hD : InoSmall D) : ∀ E ∈ setD ds D, InoSmall E := fun E hE => by
  unfold setD at hE
  obtain ⟨r, hr, rfl⟩ := List.mem_map.1 hE
  rcases setR_mem hr with h' | rfl
  · obtain ⟨F, hF, rfl⟩ := List.mem_map.1 h'
    exact h F hF
  · exact hD
theorem TR.smallD {w : World} {a : Option Addr} {n : Nat} {rs : List InoR} (h : TR w a n rs) : ∀ D ∈ rs.map InoR.D, InoSmall D := fun D hD => by
  obtain ⟨r, hr, rfl⟩ := List.mem_map.1 hD
  exact h.small r hr
end

section
open Go.RowKit
theorem TabAt.below {w V : World} {nx : Int} {ds : List InoD} {v : Value} (h : TabAt w nx ds v V) : Below w.heap.size w V := by
  obtain ⟨_, _, _, _, _, hb⟩ := h
  exact hb
end

section
open Go.RowKit
/-- The cursor gc over the slice (a, n, cap). -/
def Cur (w : World) (gc : Nat) (a : Option Addr) (n cap : Nat) : Prop :=
  ∃ (i : Nat) (h : Int), i ≤ n ∧ w.heap[gc]? = some (.cells #[.slice a n cap, .int .i64 i, .int .i64 h] 151 (0, 0))
theorem Cur.kept {w w' : World} {gc n cap g : Nat} {a : Option Addr} (h : Cur w gc a n cap) (hg : w.grownBy w' (some g)) (hne : gc ≠ g) : Cur w' gc a n cap := by
  obtain ⟨i, hh, hi, hb⟩ := h
  exact ⟨i, hh, hi, by rw [hg.block gc (Array.getElem?_eq_some_iff.1 hb).1 (by simpa using hne)]; exact hb⟩
theorem Cur.keep {w w' : World} {gc n cap B : Nat} {a : Option Addr} (h : Cur w gc a n cap) (hb : Below B w w') (hg : gc < B) : Cur w' gc a n cap := by
  obtain ⟨i, hh, hi, hbk⟩ := h
  exact ⟨i, hh, hi, by rw [hb.block gc hg]; exact hbk⟩
theorem Cur.lt {w : World} {gc n cap : Nat} {a : Option Addr} (h : Cur w gc a n cap) : gc < w.heap.size := by
  obtain ⟨i, hh, hi, hb⟩ := h
  exact (Array.getElem?_eq_some_iff.1 hb).1
theorem Rd.kept {w w' : World} {a : Option Addr} {zs : List Int} {g : Nat} (h : Rd w a zs) (hg : w.grownBy w' (some g)) (hne : zs ≠ [] → ∀ b off, a = some ⟨b, off, none⟩ → b ≠ g) : Rd w' a zs := by
  by_cases hz : zs = []
  · exact .inl hz
  · obtain ⟨b, off, rfl, hlt, hc⟩ := h.lt hz
    refine .inr ⟨b, off, rfl, fun i hi => ?_⟩
    have := hne hz b off rfl
    exact hg.cell (hc i hi) (by simpa using this)
/-- What a step of the cursor needs: the cursor, and the bytes that it reads, apart from it. -/
structure Src (w : World) (gc n cap : Nat) (a : Option Addr) (zs : List Int) : Prop where
  len : zs.length = n
  small : n ≤ 1048576
  cur : Cur w gc a n cap
  rd : Rd w a zs
  byt : Byt zs
  ne : zs ≠ [] → ∀ b off, a = some ⟨b, off, none⟩ → b < gc
theorem Src.step {w w' : World} {gc n cap : Nat} {a : Option Addr} {zs : List Int} (h : Src w gc n cap a zs) (hc : Cur w' gc a n cap) (hg : w.grownBy w' (some gc)) : Src w' gc n cap a zs :=
  ⟨h.len, h.small, hc, h.rd.kept hg (fun hz b off e => Nat.ne_of_lt (h.ne hz b off e)), h.byt, h.ne⟩
theorem Src.keep {w w' : World} {gc n cap : Nat} {a : Option Addr} {zs : List Int} (h : Src w gc n cap a zs) (hb : Below w.heap.size w w') : Src w' gc n cap a zs :=
  ⟨h.len, h.small, h.cur.keep hb h.cur.lt, h.rd.keep hb, h.byt, h.ne⟩
theorem Byt.snoc {ys : List Int} {x : Nat} (h : Byt ys) (hx : x ≤ 255) : Byt (ys ++ [(x : Int)]) := by
  intro z hz
  simp only [List.mem_append, List.mem_cons, List.not_mem_nil, or_false] at hz
  rcases hz with hz | hz
  · exact h z hz
  · omega
theorem Src.alloc {w : World} {gc n cap : Nat} {a : Option Addr} {zs : List Int} (h : Src w gc n cap a zs) (o : Obj) : Src (w.alloc o) gc n cap a zs := h.keep ((Below.refl _ _).alloc (Nat.le_refl _) o)
theorem Src.other {w w' : World} {gc n cap g : Nat} {a : Option Addr} {zs : List Int} (h : Src w gc n cap a zs) (hg : w.grownBy w' (some g)) (h1 : gc < g) : Src w' gc n cap a zs :=
  ⟨h.len, h.small, h.cur.kept hg (Nat.ne_of_lt h1), h.rd.kept hg (fun hz b off e => Nat.ne_of_lt (Nat.lt_trans (h.ne hz b off e) h1)), h.byt, h.ne⟩
theorem Src.drew {w : World} {gc n cap : Nat} {a : Option Addr} {zs : List Int} (h : Src w gc n cap a zs) : Src w.drew gc n cap a zs := h.keep (Below.refl _ _).drew
theorem Rd.at {w : World} {a : Option Addr} {zs : List Int} (h : Rd w a zs) : zs ≠ [] → ∀ b off, a = some ⟨b, off, none⟩ → b < w.heap.size := by
  intro hz b off e
  obtain ⟨b', off', e', hlt, _⟩ := h.lt hz
  rw [e] at e'
  simp at e'
  omega
end
end Go.Proofs.YtmfimoccemgoiaaGreatDoor
