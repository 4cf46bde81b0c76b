/-
  Joined: MakeI, MakeMe, ChgMakeDir, ChgMakeFile, NotRootI.
-/
import Derived.Test.YtmfimoccemgoiaaGreatDoorJ34D
import Derived.Test.YtmfimoccemgoiaaGreatDoorJ37D
namespace Go.Proofs.YtmfimoccemgoiaaGreatDoor
section
open Go.RowKit
theorem ents_ascM {es : List (ByteArray × Int)} (h : entsOk es = true) (j : Nat) : ∀ i, i < j → j < es.length → Op.bytesLess (es.getD i entD).1.toList (es.getD j entD).1.toList = true := by
  unfold entsOk at h
  simp only [Bool.and_eq_true, List.all_eq_true, List.mem_range] at h
  induction j with
  | zero => intro i hi; omega
  | succ j ih =>
    intro i hi hj
    have h1 := h.1 (j + 1) hj
    unfold entAt at h1
    simp only [Bool.and_eq_true, Bool.or_eq_true, decide_eq_true_eq, Nat.add_sub_cancel] at h1
    have h2 : Op.bytesLess (es.getD j entD).1.toList (es.getD (j + 1) entD).1.toList = true := by
      rcases h1.2 with h0 | h2
      · omega
      · exact h2
    rcases (show i < j ∨ i = j by omega) with h3 | rfl
    · exact less_trans (ih i h3 (by omega)) h2
    · exact h2
theorem wf_numM {x : Int} (h : 0 ≤ x ∧ x ≤ 1001) : (Lit.int .i64 x).wf = true := by
  obtain ⟨k, rfl⟩ : ∃ k : Nat, x = (k : Int) := ⟨x.toNat, by omega⟩
  exact WalkArith.wf_i64 (by omega)
theorem dirFor_ok {ds : List InoD} {s : ByteArray} {D : InoD} (h : dirFor ds s = (D, 0)) : badK 1 ds (strB (parentOf s.data.toList).1) = (D, 0) ∧ entOf (strB (parentOf s.data.toList).2.1) D.ents = 0 := by
  unfold dirFor at h
  split at h
  · cases h
  · split at h
    · rename_i h1
      exact absurd (congrArg Prod.snd h) h1
    · rename_i h1
      split at h
      · cases h
      · rename_i h2
        have e := congrArg Prod.fst h
        dsimp only at e
        have h1' : (badK 1 ds (strB (parentOf s.data.toList).1)).2 = 0 := Classical.byContradiction fun c => h1 c
        have h2' : entOf (strB (parentOf s.data.toList).2.1) (badK 1 ds (strB (parentOf s.data.toList).1)).1.ents = 0 := Classical.byContradiction fun c => h2 c
        rw [e] at h2'
        exact ⟨Prod.ext e h1', h2'⟩
theorem entOf_zero {nm : ByteArray} : ∀ {es : List (ByteArray × Int)}, entOf nm es = 0 → (∀ e ∈ es, e.2 ≠ 0) → ∀ e ∈ es, e.1 ≠ nm
  | [], _, _, e, he => by cases he
  | q :: es, h, hz, e, he => by
    unfold entOf at h
    by_cases hq : q.1 = nm
    · rw [if_pos hq] at h
      exact absurd h (hz q (List.mem_cons_self ..))
    · rw [if_neg hq] at h
      rcases List.mem_cons.1 he with rfl | he
      · exact hq
      · exact entOf_zero h (fun x hx => hz x (List.mem_cons_of_mem _ hx)) e he
theorem ents_mono {es : List (ByteArray × Int)} (h : entsOk es = true) (z : ByteArray) : ∀ (i j : Nat) (hi : i < es.length) (hj : j < es.length), i ≤ j → Op.bytesLess es[j].1.toList z.toList = true → Op.bytesLess es[i].1.toList z.toList = true := fun i j hi hj hij hz => by
  rcases Nat.lt_or_eq_of_le hij with h1 | rfl
  · have := ents_ascM h j i h1 hj
    simp [hi, hj] at this
    exact less_trans this hz
  · exact hz
/-- What makeInode answers. -/
def makeC (nx : Int) (ds : List InoD) (p : ByteArray) : Int := if (dirFor ds p).2 ≠ 0 then (dirFor ds p).2 else if 10 ≤ (dirFor ds p).1.ents.length ∨ 30 ≤ ds.length ∨ 1000 ≤ nx then 5 else 0
def makeT (nx : Int) (ds : List InoD) (p : ByteArray) (kd : Int) : List InoD := setD (setD ds { (dirFor ds p).1 with ents := insBy (fun q => gtS (strB (parentOf p.data.toList).2.1) q.1) (dirFor ds p).1.ents (strB (parentOf p.data.toList).2.1, nx) }) ⟨nx, kd, 1, [], [], []⟩
set_option maxRecDepth 100000 in
set_option maxHeartbeats 4000000 in
theorem makeInodeI (a : Option Addr) (n cap : Nat) (nx : Int) (rs : List InoR) (p : ByteArray) (kd : Int) (w : World) (ht : TR w a n rs) (htr : treeD nx (rs.map InoR.D) = true) (hkd : kd = 1 ∨ kd = 2) (hs : p.size ≤ 1048576) (hps : (strB (parentOf p.data.toList).1).size ≤ 1048576) (hnz : (strB (parentOf p.data.toList).2.1).size ≤ 1048576) :
    Calls Tryz.prog 217 #[.agg #[.slice a n cap, .int .i64 nx], .string p, .int .i64 kd] w fun e w' => EMeth w (nx + 1) (makeT nx (rs.map InoR.D) p kd) (makeC nx (rs.map InoR.D) p) e w' := by
  have B0 : Below w.heap.size w ((w.alloc (.cells #[.slice a n cap, .int .i64 nx] 28)).alloc (.cells #[.slice none 0 0, .int .i64 0] 28)) := ((Below.refl _ w).alloc (Nat.le_refl _) _).alloc (by simp) _
  have zT := (Blk.new w 28 #[.slice a n cap, .int .i64 nx]).alloc (.cells #[.slice none 0 0, .int .i64 0] 28)
  have zR := Blk.new (w.alloc (.cells #[.slice a n cap, .int .i64 nx] 28)) 28 #[.slice none 0 0, .int .i64 0]
  simp only [World.size_alloc] at zR
  obtain ⟨hK, hwf, hwe⟩ := tree_facts htr
  have HTR : Hid _ := htr
  have hlen : (rs.map InoR.D).length = n := by rw [List.length_map, ht.len]
  obtain ⟨ds, hds⟩ : ∃ ds, rs.map InoR.D = ds := ⟨_, rfl⟩
  have hcF := fun (W : World) (hW : Below w.heap.size w W) => dirForI a n cap nx rs p W (ht.keep hW) hK hwf hwe (by omega)
  rw [hds] at hlen hcF HTR ⊢
  have HDS : Hid _ := hds
  obtain ⟨CO, hCO⟩ : ∃ c, makeC nx ds p = c := ⟨_, rfl⟩
  obtain ⟨TT, hTT⟩ : ∃ c, makeT nx ds p kd = c := ⟨_, rfl⟩
  rw [hCO, hTT]
  unfold makeC at hCO
  unfold makeT at hTT
  rw [hlen] at hCO
  have HT : Hid _ := ht
  have HKK : Hid (∀ D ∈ ds, D.kind = 1 ∨ D.kind = 2) := fun D hD => by rw [← hds] at hD; obtain ⟨r, hr, rfl⟩ := List.mem_map.1 hD; exact hK r hr
  have HWF : Hid (∀ D ∈ ds, (Lit.int .i64 D.ino).wf = true) := fun D hD => by rw [← hds] at hD; obtain ⟨r, hr, rfl⟩ := List.mem_map.1 hD; exact hwf r hr
  have HWE : Hid (∀ D ∈ ds, ∀ e ∈ D.ents, (Lit.int .i64 e.2).wf = true) := fun D hD => by rw [← hds] at hD; obtain ⟨r, hr, rfl⟩ := List.mem_map.1 hD; exact hwe r hr
  have HSM : Hid (∀ D ∈ ds, InoSmall D) := fun D hD => by rw [← hds] at hD; obtain ⟨r, hr, rfl⟩ := List.mem_map.1 hD; exact ht.small r hr
  have HOK : Hid (dirFor ds p = dirFor ds p) := rfl
  obtain ⟨D, c, hDc⟩ : ∃ D c, dirFor ds p = (D, c) := ⟨_, _, rfl⟩
  have HDC : Hid _ := hDc
  rw [hDc] at hcF hCO hTT
  dsimp only at hcF hCO hTT
  have HTT : Hid _ := hTT
  have HLL : Hid _ := hlen
  have t0 := zT.cell 0
  have t1 := zT.cell 1
  simp at t0 t1
  clear hDc hTT ht hK hwf hwe hds htr HOK hlen
  go_enter Tryz.func217, Tryz.ntmps217
  go_wp2_with fail
  obtain ⟨Wz, hWz⟩ : ∃ W, ((w.alloc (.cells #[.slice a n cap, .int .i64 nx] 28)).alloc (.cells #[.slice none 0 0, .int .i64 0] 28)) = W := ⟨_, rfl⟩
  rw [hWz] at B0 zT zR ⊢
  clear hWz t0 t1
  (with_reducible refine (hcF Wz B0).mono ?_)
  rintro e w2 ⟨b1, d1, b2, d2, b3, d3, rfl, g2, bb2⟩
  have zt := (zT.keep bb2).alloc (.cells #[.int .i64 D.ino, .int .i64 D.kind, .int .i64 D.links, .slice b1 D.data.length d1, .slice b2 D.ents.length d2, .slice b3 D.attrs.length d3] 68)
  have zr := (zR.keep bb2).alloc (.cells #[.int .i64 D.ino, .int .i64 D.kind, .int .i64 D.links, .slice b1 D.data.length d1, .slice b2 D.ents.length d2, .slice b3 D.attrs.length d3] 68)
  have hb2 := B0.trans (bb2.mono B0.size)
  have hb3 := hb2.alloc hb2.size (.cells #[.int .i64 D.ino, .int .i64 D.kind, .int .i64 D.links, .slice b1 D.data.length d1, .slice b2 D.ents.length d2, .slice b3 D.attrs.length d3] 68)
  have zX := Blk.new w2 68 #[.int .i64 D.ino, .int .i64 D.kind, .int .i64 D.links, .slice b1 D.data.length d1, .slice b2 D.ents.length d2, .slice b3 D.attrs.length d3]
  have hsR : w.heap.size + 1 < w2.heap.size := (zR.keep bb2).lt
  obtain ⟨X, hX⟩ : ∃ X, w2.heap.size = X := ⟨_, rfl⟩
  obtain ⟨W3, hW3⟩ : ∃ W, w2.alloc (.cells #[.int .i64 D.ino, .int .i64 D.kind, .int .i64 D.links, .slice b1 D.data.length d1, .slice b2 D.ents.length d2, .slice b3 D.attrs.length d3] 68) = W := ⟨_, rfl⟩
  rw [hW3] at zt zr hb3 zX
  rw [hX] at zX
  have HZT : Hid _ := zt
  have HZR : Hid _ := zr
  have HB3 : Hid _ := hb3
  have t0 := zt.cell 0
  have t1 := zt.cell 1
  have r0 := zr.cell 0
  have r1 := zr.cell 1
  have f0 := zr.frozen 0
  have f1 := zr.frozen 1
  obtain ⟨x0, x1, x2, x3, x4, x5⟩ := zX.six
  simp at t0 t1 r0 r1
  clear hcF zT zR g2 bb2 hb2 B0 zt zr hb3 zX
  by_cases hc0 : c = 0
  · subst hc0
    rw [if_neg (by simp)] at hCO
    rw [errV_zero]
    obtain ⟨hbk, hen⟩ := dirFor_ok HDC.out
    obtain ⟨m, hm⟩ : ∃ m, D.ents.length = m := ⟨_, rfl⟩
    have HBK : Hid _ := hbk
    have HEN : Hid _ := hen
    have HM : Hid _ := hm
    rw [hm] at hCO x4 hW3 ⊢
    clear hbk hen hm
    by_cases hfull : 10 ≤ m ∨ 30 ≤ n ∨ 1000 ≤ nx
    · rw [if_pos hfull] at hCO
      subst hCO
      have hc0 : (5 : Int) ≠ 0 := by decide
      rcases Nat.lt_or_ge m 10 with h10 | h10
      · have h10i : ¬ (10 : Int) ≤ (m : Int) := by omega
        have h10k : (m : Int) < 10 := by omega
        have h10j : ¬ (m : Int) ≥ 10 := by omega
        rcases Nat.lt_or_ge n 30 with h30 | h30
        · have h30i : ¬ (30 : Int) ≤ (n : Int) := by omega
          have h30k : (n : Int) < 30 := by omega
          have h30j : ¬ (n : Int) ≥ 30 := by omega
          have hnx : (1000 : Int) ≤ nx := by omega
          have hnxk : ¬ nx < 1000 := by omega
          have hnxj : nx ≥ 1000 := hnx
          have hend : Hid (EMeth w (nx + 1) TT 5 (.returned (.tuple #[.agg #[.slice none 0 0, .int .i64 0], .iface 155 (.int .i64 5)])) ((W3.setCell ⟨w.heap.size + 1, 0, none⟩ (.slice none 0 0)).setCell ⟨w.heap.size + 1, 1, none⟩ (.int .i64 0))) := eMeth_no (by first | decide | exact hc0) ((HB3.out.setCell (p := ⟨w.heap.size + 1, 0, none⟩) (by show _ ≤ w.heap.size + 1; omega) _).setCell (p := ⟨w.heap.size + 1, 1, none⟩) (by show _ ≤ w.heap.size + 1; omega) _)
          have zf := blk2 HZR.out (.slice none 0 0) (.int .i64 0)
          have dd0 := zf.cell 0
          have dd1 := zf.cell 1
          simp at dd0 dd1
          clear zf
          go_wp2
          refine bodyPost_ret (v := .tuple #[.agg #[.slice none 0 0, .int .i64 0], .iface 155 (.int .i64 5)]) (by simp [results, Tryz.f217, go_sem, dd0, dd1]) rfl ?_
          exact hend.out
        · have h30i : (30 : Int) ≤ (n : Int) := by omega
          have h30k : ¬ (n : Int) < 30 := by omega
          have h30j : (n : Int) ≥ 30 := by omega
          have hend : Hid (EMeth w (nx + 1) TT 5 (.returned (.tuple #[.agg #[.slice none 0 0, .int .i64 0], .iface 155 (.int .i64 5)])) ((W3.setCell ⟨w.heap.size + 1, 0, none⟩ (.slice none 0 0)).setCell ⟨w.heap.size + 1, 1, none⟩ (.int .i64 0))) := eMeth_no (by first | decide | exact hc0) ((HB3.out.setCell (p := ⟨w.heap.size + 1, 0, none⟩) (by show _ ≤ w.heap.size + 1; omega) _).setCell (p := ⟨w.heap.size + 1, 1, none⟩) (by show _ ≤ w.heap.size + 1; omega) _)
          have zf := blk2 HZR.out (.slice none 0 0) (.int .i64 0)
          have dd0 := zf.cell 0
          have dd1 := zf.cell 1
          simp at dd0 dd1
          clear zf
          go_wp2
          refine bodyPost_ret (v := .tuple #[.agg #[.slice none 0 0, .int .i64 0], .iface 155 (.int .i64 5)]) (by simp [results, Tryz.f217, go_sem, dd0, dd1]) rfl ?_
          exact hend.out
      · have h10i : (10 : Int) ≤ (m : Int) := by omega
        have h10k : ¬ (m : Int) < 10 := by omega
        have h10j : (m : Int) ≥ 10 := by omega
        have hend : Hid (EMeth w (nx + 1) TT 5 (.returned (.tuple #[.agg #[.slice none 0 0, .int .i64 0], .iface 155 (.int .i64 5)])) ((W3.setCell ⟨w.heap.size + 1, 0, none⟩ (.slice none 0 0)).setCell ⟨w.heap.size + 1, 1, none⟩ (.int .i64 0))) := eMeth_no (by first | decide | exact hc0) ((HB3.out.setCell (p := ⟨w.heap.size + 1, 0, none⟩) (by show _ ≤ w.heap.size + 1; omega) _).setCell (p := ⟨w.heap.size + 1, 1, none⟩) (by show _ ≤ w.heap.size + 1; omega) _)
        have zf := blk2 HZR.out (.slice none 0 0) (.int .i64 0)
        have dd0 := zf.cell 0
        have dd1 := zf.cell 1
        simp at dd0 dd1
        clear zf
        go_wp2
        refine bodyPost_ret (v := .tuple #[.agg #[.slice none 0 0, .int .i64 0], .iface 155 (.int .i64 5)]) (by simp [results, Tryz.f217, go_sem, dd0, dd1]) rfl ?_
        exact hend.out
    rw [if_neg hfull] at hCO
    subst hCO
    have h10i : ¬ (10 : Int) ≤ (m : Int) := by omega
    have h10k : (m : Int) < 10 := by omega
    have h10j : ¬ (m : Int) ≥ 10 := by omega
    have h30i : ¬ (30 : Int) ≤ (n : Int) := by omega
    have h30k : (n : Int) < 30 := by omega
    have h30j : ¬ (n : Int) ≥ 30 := by omega
    have hnxi : ¬ (1000 : Int) ≤ nx := by omega
    have hnxk : nx < 1000 := by omega
    have hnxj : ¬ nx ≥ 1000 := by omega
    have htab := tabD_ok (treeD_parts HTR.out).1
    have hnx2 := htab.2.2.1
    have HNEW : Hid (∀ E ∈ ds, E.ino < nx) := fun E hE => (htab.2.2.2.2.1 E hE).2
    have hwfn : (Lit.int .i64 nx).wf = true := wf_numM ⟨by omega, by omega⟩
    have hsN : InoSmall (⟨nx, kd, 1, [], [], []⟩ : InoD) := ⟨Nat.zero_le _, Nat.zero_le _, Nat.zero_le _, fun _ h => (List.not_mem_nil h).elim, fun _ h => (List.not_mem_nil h).elim⟩
    have hrN : InoRd W3 (⟨nx, kd, 1, [], [], []⟩ : InoD) none none none := ⟨.inl rfl, fun _ h => (List.not_mem_nil h).elim, .inl rfl, .inl rfl⟩
    have hcS := setI a n cap nx rs ⟨nx, kd, 1, [], [], []⟩ none none none 0 0 0 W3 HT.out.len HT.out.n hwfn (fun r hr => HWF.out r.D (by rw [← HDS.out]; exact List.mem_map_of_mem hr)) HT.out.small hsN (RdI.keep HT.out.rd HB3.out) hrN
    dsimp only [List.length_nil] at hcS
    have HSN : Hid _ := hsN
    clear hwfn hsN hrN htab
    go_wp2_with fail
    (with_reducible refine hcS.mono ?_)
    intro e w6 hp6
    obtain ⟨v6, rfl, ht6⟩ := hp6.tab
    rw [setD_eq, HDS.out] at ht6
    dsimp only at ht6
    have hsm' : ∀ E ∈ setD ds ⟨nx, kd, 1, [], [], []⟩, InoSmall E := fun E hE => by
      rcases setD_memC hE with rfl | hE
      · exact HSN.out
      · exact HSM.out E hE
    obtain ⟨ra, rn, rc, rs', rfl, hT6, hrs', b6⟩ := ht6.tr hsm' (by have := setD_lenC ds ⟨nx, kd, 1, [], [], []⟩; have := HLL.out; omega)
    have hbA : Below w6.heap.size w6 (w6.alloc (.cells #[.slice ra rn rc, .int .i64 nx] 28)) := (Below.refl _ w6).alloc (Nat.le_refl _) _
    have hbM := hbA.setCell (p := ⟨w6.heap.size, 1, none⟩) (Nat.le_refl _) (.int .i64 (nx + 1))
    have zM := Blk.new w6 28 #[.slice ra rn rc, .int .i64 nx]
    have zt6 := Blk.keep HZT.out b6
    have zr6 := Blk.keep HZR.out b6
    have hb6 : Below w.heap.size w w6 := HB3.out.trans (b6.mono HB3.out.size)
    have hltT := zt6.lt
    have hltR := zr6.lt
    have zt8 := (zt6.alloc (.cells #[.slice ra rn rc, .int .i64 nx] 28)).other (B' := w6.heap.size) (by omega) 1 (.int .i64 (nx + 1))
    have zr8 := (zr6.alloc (.cells #[.slice ra rn rc, .int .i64 nx] 28)).other (B' := w6.heap.size) (by omega) 1 (.int .i64 (nx + 1))
    have zM8 := zM.set 1 (.int .i64 (nx + 1))
    have m0 := zM.cell 0
    have m1 := zM.cell 1
    have mf := zM.frozen 1
    simp at m0 m1
    have hwn : IntKind.i64.wrap (nx + 1) = nx + 1 := by rw [IntKind.wrap_i64]; omega
    have hb8 : Below w.heap.size w ((w6.alloc (.cells #[.slice ra rn rc, .int .i64 nx] 28)).setCell ⟨w6.heap.size, 1, none⟩ (.int .i64 (nx + 1))) := hb6.trans (hbM.mono hb6.size)
    obtain ⟨nm, hnm⟩ : ∃ z, strB (parentOf p.data.toList).2.1 = z := ⟨_, rfl⟩
    have hDm : D ∈ ds := by
      have := @badK_mem 1 ds (strB (parentOf p.data.toList).1)
      rw [HBK.out] at this
      exact this rfl
    have hok := ok_parts ((tabD_ok (treeD_parts HTR.out).1).2.2.2.2.1 D hDm).1
    have hlk : look ds nx = none := by
      cases hl : look ds nx with
      | none => rfl
      | some E => have h1 := look_mem hl; have h2 := HNEW.out E h1.1; omega
    have hbk' : badK 1 (rs'.map InoR.D) (strB (parentOf p.data.toList).1) = (D, 0) := by
      rw [hrs', badK_new (N := ⟨nx, kd, 1, [], [], []⟩) hlk (fun E hE => ((treeD_parts HTR.out).2.2 E hE).2) (by show nx ≠ 1; omega) (by show nx ≠ 0; omega)]
      exact HBK.out
    have hall : ∀ r ∈ rs', r.D = ⟨nx, kd, 1, [], [], []⟩ ∨ r.D ∈ ds := fun r hr => by
      have h1 : r.D ∈ rs'.map InoR.D := List.mem_map_of_mem hr
      rw [hrs'] at h1
      exact setD_memC h1
    have hK' : ∀ r ∈ rs', r.D.kind = 1 ∨ r.D.kind = 2 := fun r hr => (hall r hr).elim (fun h => by rw [h]; exact hkd) (fun h => HKK.out _ h)
    have hwf' : ∀ r ∈ rs', (Lit.int .i64 r.D.ino).wf = true := fun r hr => (hall r hr).elim (fun h => by rw [h]; show (Lit.int .i64 nx).wf = true; exact wf_numM ⟨by omega, by omega⟩) (fun h => HWF.out _ h)
    have hwe' : ∀ r ∈ rs', ∀ e ∈ r.D.ents, (Lit.int .i64 e.2).wf = true := fun r hr => (hall r hr).elim (fun h => by rw [h]; exact fun _ h => (List.not_mem_nil h).elim) (fun h => HWE.out _ h)
    have hE' : ∀ r ∈ rs', r.D.ents.length ≤ 100 := fun r hr => (hall r hr).elim (fun h => by rw [h]; exact Nat.zero_le _) (fun h => by have := (entsOk_at (ok_parts ((tabD_ok (treeD_parts HTR.out).1).2.2.2.2.1 _ h).1).2.2.1).1; omega)
    have hno' : ∀ e ∈ D.ents, (e.1.toList == (strB (parentOf p.data.toList).2.1).toList) = false := fun e he => str_ne (entOf_zero HEN.out (fun q hq => by
      have h1 := ((treeD_parts HTR.out).2.2 D hDm).2 q hq
      cases hl : look ds q.2 with
      | none => rw [hl] at h1; cases h1
      | some E =>
        have h2 := look_mem hl
        have h3 := ((tabD_ok (treeD_parts HTR.out).1).2.2.2.2.1 E h2.1).1
        unfold inoOk at h3
        simp only [Bool.and_eq_true, decide_eq_true_eq] at h3
        omega) e he)
    have hcE := withI ra rn rc (nx + 1) rs' p nx _ (hT6.keep hbM) hK' hwf' hwe' hE' (by omega) (by omega) D hbk' hnz hno' (ents_mono hok.2.2.1 _)
    rw [hrs', set_two (N := ⟨nx, kd, 1, [], [], []⟩) (D' := { D with ents := insBy (fun q => gtS (strB (parentOf p.data.toList).2.1) q.1) D.ents (strB (parentOf p.data.toList).2.1, nx) }) (fun E hE => HNEW.out E hE) ⟨D, hDm, rfl⟩, HTT.out] at hcE
    clear hK' hwf' hwe' hE' hno'
    obtain ⟨W8, hW8⟩ : ∃ W, ((w6.alloc (.cells #[.slice ra rn rc, .int .i64 nx] 28)).setCell ⟨w6.heap.size, 1, none⟩ (.int .i64 (nx + 1))) = W := ⟨_, rfl⟩
    rw [hW8] at hcE hb8 zt8 zr8 zM8
    have HB8 : Hid _ := hb8
    have HZR8 : Hid _ := zr8
    have t0 := zt8.cell 0
    have t1 := zt8.cell 1
    have m2 := zM8.cell 0
    have m3 := zM8.cell 1
    simp at t0 t1 m2 m3
    clear hcS hp6 ht6 hsm' hT6 hrs' b6 hbA hbM zM zt6 zr6 hb6 zt8 zr8 zM8 hb8 hDm hok hlk hbk' hall x0 x1 x2 x3 x4 x5 r0 r1 f0 f1 hnm
    go_wp2_with fail
    (with_reducible refine hcE.mono ?_)
    rintro e w9 ⟨v9, rfl, ht9⟩
    have ht9' := ht9
    obtain ⟨ra9, rc9, js9, rfl, _, b9⟩ := ht9'
    obtain ⟨rn9, hrn⟩ : ∃ k, js9.length = k := ⟨_, rfl⟩
    rw [hrn] at ht9 ⊢
    have HFIN : Hid (EMeth w (nx + 1) TT 0 (.returned (.tuple #[.agg #[.slice ra9 rn9 rc9, .int .i64 (nx + 1)], .nilIface])) ((w9.setCell ⟨w.heap.size + 1, 0, none⟩ (.slice ra9 rn9 rc9)).setCell ⟨w.heap.size + 1, 1, none⟩ (.int .i64 (nx + 1)))) := eMeth_yes ht9 HB8.out (by omega) HZR8.out
    have zr9 := Blk.keep HZR8.out b9
    have r0 := zr9.cell 0
    have r1 := zr9.cell 1
    have f0 := zr9.frozen 0
    have f1 := zr9.frozen 1
    simp at r0 r1
    have zf := blk2 zr9 (.slice ra9 rn9 rc9) (.int .i64 (nx + 1))
    have dd0 := zf.cell 0
    have dd1 := zf.cell 1
    simp at dd0 dd1
    clear hcE ht9 zf zr9 b9 t0 t1 m0 m1 m2 m3 mf hrn
    go_wp2
    refine bodyPost_ret (v := .tuple #[.agg #[.slice ra9 rn9 rc9, .int .i64 (nx + 1)], .nilIface]) (by simp [results, Tryz.f217, go_sem, dd0, dd1]) rfl ?_
    exact HFIN.out
  · rw [if_pos hc0] at hCO
    subst hCO
    rw [errV_some hc0]
    have hend : Hid (EMeth w (nx + 1) TT c (.returned (.tuple #[.agg #[.slice none 0 0, .int .i64 0], .iface 155 (.int .i64 c)])) ((W3.setCell ⟨w.heap.size + 1, 0, none⟩ (.slice none 0 0)).setCell ⟨w.heap.size + 1, 1, none⟩ (.int .i64 0))) := eMeth_no (by first | decide | exact hc0) ((HB3.out.setCell (p := ⟨w.heap.size + 1, 0, none⟩) (by show _ ≤ w.heap.size + 1; omega) _).setCell (p := ⟨w.heap.size + 1, 1, none⟩) (by show _ ≤ w.heap.size + 1; omega) _)
    have zf := blk2 HZR.out (.slice none 0 0) (.int .i64 0)
    have dd0 := zf.cell 0
    have dd1 := zf.cell 1
    simp at dd0 dd1
    clear zf
    go_wp2
    refine bodyPost_ret (v := .tuple #[.agg #[.slice none 0 0, .int .i64 0], .iface 155 (.int .i64 c)]) (by simp [results, Tryz.f217, go_sem, dd0, dd1]) rfl ?_
    exact hend.out
end

section
open Go.RowKit
theorem eMeth_box {w W V : World} {nx : Int} {ds : List InoD} {c : Int} {e : Ending} {R : Nat} {u0 u1 : Value} (h : EMeth W nx ds c e V) (hb : Below w.heap.size w W) (hR : w.heap.size ≤ R) (hz : Blk W R 28 #[u0, u1]) : ∃ (a : Option Addr) (m cc : Nat) (rx : Int), e = .returned (.tuple #[.agg #[.slice a m cc, .int .i64 rx], errV c]) ∧ Blk V R 28 #[u0, u1] ∧ EMeth w nx ds c (.returned (.tuple #[.agg #[.slice a m cc, .int .i64 rx], errV c])) ((V.setCell ⟨R, 0, none⟩ (.slice a m cc)).setCell ⟨R, 1, none⟩ (.int .i64 rx)) := by
  obtain ⟨a, m, cc, rx, rfl, hB, ht⟩ := h
  refine ⟨a, m, cc, rx, rfl, hz.keep hB, a, m, cc, rx, rfl, ((hb.trans (hB.mono hb.size)).setCell (p := ⟨R, 0, none⟩) hR _).setCell (p := ⟨R, 1, none⟩) hR _, fun h0 => ?_⟩
  obtain ⟨a', c', js, hv, hq, hbV⟩ := ht h0
  have h1 := hq.boxed (hb.trans (hbV.mono hb.size)) hR hz.lt (.slice a m cc) (.int .i64 rx)
  exact ⟨a', c', js, hv, h1.1, h1.2⟩
set_option maxRecDepth 100000 in
set_option maxHeartbeats 4000000 in
theorem makeDirM (a : Option Addr) (n cap : Nat) (nx : Int) (rs : List InoR) (p q : ByteArray) (k : Int) (da : Option Addr) (dn dc : Nat) (an av : ByteArray) (w : World) (ht : TR w a n rs) (htr : treeD nx (rs.map InoR.D) = true) (hs : p.size ≤ 1048576) (hps : (strB (parentOf p.data.toList).1).size ≤ 1048576) (hnz : (strB (parentOf p.data.toList).2.1).size ≤ 1048576) :
    Calls Tryz.prog 167 #[.agg #[.slice a n cap, .int .i64 nx], .agg #[.string p, .string q, .int .i64 k, .slice da dn dc, .string an, .string av]] w fun e w' => EMeth w (nx + 1) (makeT nx (rs.map InoR.D) p 2) (makeC nx (rs.map InoR.D) p) e w' := by
  have B0 : Below w.heap.size w (((w.alloc (.cells #[.slice a n cap, .int .i64 nx] 28)).alloc (.cells #[.string p, .string q, .int .i64 k, .slice da dn dc, .string an, .string av] 77)).alloc (.cells #[.slice none 0 0, .int .i64 0] 28)) := (((Below.refl _ w).alloc (Nat.le_refl _) _).alloc (by simp) _).alloc (by simp; omega) _
  have zT := ((Blk.new w 28 #[.slice a n cap, .int .i64 nx]).alloc (.cells #[.string p, .string q, .int .i64 k, .slice da dn dc, .string an, .string av] 77)).alloc (.cells #[.slice none 0 0, .int .i64 0] 28)
  have zC := (Blk.new (w.alloc (.cells #[.slice a n cap, .int .i64 nx] 28)) 77 #[.string p, .string q, .int .i64 k, .slice da dn dc, .string an, .string av]).alloc (.cells #[.slice none 0 0, .int .i64 0] 28)
  have zR := Blk.new ((w.alloc (.cells #[.slice a n cap, .int .i64 nx] 28)).alloc (.cells #[.string p, .string q, .int .i64 k, .slice da dn dc, .string an, .string av] 77)) 28 #[.slice none 0 0, .int .i64 0]
  simp only [World.size_alloc] at zC zR
  have hcM := makeInodeI a n cap nx rs p 2 _ (ht.keep B0) htr (by simp) hs hps hnz
  generalize makeT nx (rs.map InoR.D) p 2 = TT at hcM ⊢
  generalize makeC nx (rs.map InoR.D) p = CO at hcM ⊢
  have t0 := zT.cell 0
  have t1 := zT.cell 1
  have c0 := zC.cell 0
  simp at t0 t1 c0
  clear ht htr
  go_enter Tryz.func167, Tryz.ntmps167
  go_wp2_with fail
  obtain ⟨Wz, hWz⟩ : ∃ W, (((w.alloc (.cells #[.slice a n cap, .int .i64 nx] 28)).alloc (.cells #[.string p, .string q, .int .i64 k, .slice da dn dc, .string an, .string av] 77)).alloc (.cells #[.slice none 0 0, .int .i64 0] 28)) = W := ⟨_, rfl⟩
  rw [hWz] at hcM B0 zR ⊢
  clear hWz zT zC t0 t1 c0
  (with_reducible refine hcM.mono ?_)
  intro e w2 hp
  obtain ⟨ra, rn, rc, rx, rfl, zz, hfin⟩ := eMeth_box hp B0 (show w.heap.size ≤ w.heap.size + 1 + 1 by omega) zR
  have HFIN : Hid (EMeth w (nx + 1) TT CO (.returned (.tuple #[.agg #[.slice ra rn rc, .int .i64 rx], errV CO])) ((w2.setCell ⟨w.heap.size + 1 + 1, 0, none⟩ (.slice ra rn rc)).setCell ⟨w.heap.size + 1 + 1, 1, none⟩ (.int .i64 rx))) := hfin
  have r0 := zz.cell 0
  have r1 := zz.cell 1
  have f0 := zz.frozen 0
  have f1 := zz.frozen 1
  simp at r0 r1
  have zf := blk2 zz (.slice ra rn rc) (.int .i64 rx)
  have dd0 := zf.cell 0
  have dd1 := zf.cell 1
  simp at dd0 dd1
  obtain ⟨ev, hev⟩ : ∃ v, errV CO = v := ⟨_, rfl⟩
  rw [hev] at HFIN ⊢
  clear hp hfin zf zz zR B0 hcM hev
  go_wp2
  refine bodyPost_ret (v := .tuple #[.agg #[.slice ra rn rc, .int .i64 rx], ev]) (by simp [results, Tryz.f167, go_sem, dd0, dd1]) rfl ?_
  exact HFIN.out
set_option maxRecDepth 100000 in
set_option maxHeartbeats 4000000 in
theorem makeFileM (a : Option Addr) (n cap : Nat) (nx : Int) (rs : List InoR) (p q : ByteArray) (k : Int) (da : Option Addr) (dn dc : Nat) (an av : ByteArray) (w : World) (ht : TR w a n rs) (htr : treeD nx (rs.map InoR.D) = true) (hs : p.size ≤ 1048576) (hps : (strB (parentOf p.data.toList).1).size ≤ 1048576) (hnz : (strB (parentOf p.data.toList).2.1).size ≤ 1048576) :
    Calls Tryz.prog 168 #[.agg #[.slice a n cap, .int .i64 nx], .agg #[.string p, .string q, .int .i64 k, .slice da dn dc, .string an, .string av]] w fun e w' => EMeth w (nx + 1) (makeT nx (rs.map InoR.D) p 1) (makeC nx (rs.map InoR.D) p) e w' := by
  have B0 : Below w.heap.size w (((w.alloc (.cells #[.slice a n cap, .int .i64 nx] 28)).alloc (.cells #[.string p, .string q, .int .i64 k, .slice da dn dc, .string an, .string av] 77)).alloc (.cells #[.slice none 0 0, .int .i64 0] 28)) := (((Below.refl _ w).alloc (Nat.le_refl _) _).alloc (by simp) _).alloc (by simp; omega) _
  have zT := ((Blk.new w 28 #[.slice a n cap, .int .i64 nx]).alloc (.cells #[.string p, .string q, .int .i64 k, .slice da dn dc, .string an, .string av] 77)).alloc (.cells #[.slice none 0 0, .int .i64 0] 28)
  have zC := (Blk.new (w.alloc (.cells #[.slice a n cap, .int .i64 nx] 28)) 77 #[.string p, .string q, .int .i64 k, .slice da dn dc, .string an, .string av]).alloc (.cells #[.slice none 0 0, .int .i64 0] 28)
  have zR := Blk.new ((w.alloc (.cells #[.slice a n cap, .int .i64 nx] 28)).alloc (.cells #[.string p, .string q, .int .i64 k, .slice da dn dc, .string an, .string av] 77)) 28 #[.slice none 0 0, .int .i64 0]
  simp only [World.size_alloc] at zC zR
  have hcM := makeInodeI a n cap nx rs p 1 _ (ht.keep B0) htr (by simp) hs hps hnz
  generalize makeT nx (rs.map InoR.D) p 1 = TT at hcM ⊢
  generalize makeC nx (rs.map InoR.D) p = CO at hcM ⊢
  have t0 := zT.cell 0
  have t1 := zT.cell 1
  have c0 := zC.cell 0
  simp at t0 t1 c0
  clear ht htr
  go_enter Tryz.func168, Tryz.ntmps168
  go_wp2_with fail
  obtain ⟨Wz, hWz⟩ : ∃ W, (((w.alloc (.cells #[.slice a n cap, .int .i64 nx] 28)).alloc (.cells #[.string p, .string q, .int .i64 k, .slice da dn dc, .string an, .string av] 77)).alloc (.cells #[.slice none 0 0, .int .i64 0] 28)) = W := ⟨_, rfl⟩
  rw [hWz] at hcM B0 zR ⊢
  clear hWz zT zC t0 t1 c0
  (with_reducible refine hcM.mono ?_)
  intro e w2 hp
  obtain ⟨ra, rn, rc, rx, rfl, zz, hfin⟩ := eMeth_box hp B0 (show w.heap.size ≤ w.heap.size + 1 + 1 by omega) zR
  have HFIN : Hid (EMeth w (nx + 1) TT CO (.returned (.tuple #[.agg #[.slice ra rn rc, .int .i64 rx], errV CO])) ((w2.setCell ⟨w.heap.size + 1 + 1, 0, none⟩ (.slice ra rn rc)).setCell ⟨w.heap.size + 1 + 1, 1, none⟩ (.int .i64 rx))) := hfin
  have r0 := zz.cell 0
  have r1 := zz.cell 1
  have f0 := zz.frozen 0
  have f1 := zz.frozen 1
  simp at r0 r1
  have zf := blk2 zz (.slice ra rn rc) (.int .i64 rx)
  have dd0 := zf.cell 0
  have dd1 := zf.cell 1
  simp at dd0 dd1
  obtain ⟨ev, hev⟩ : ∃ v, errV CO = v := ⟨_, rfl⟩
  rw [hev] at HFIN ⊢
  clear hp hfin zf zz zR B0 hcM hev
  go_wp2
  refine bodyPost_ret (v := .tuple #[.agg #[.slice ra rn rc, .int .i64 rx], ev]) (by simp [results, Tryz.f168, go_sem, dd0, dd1]) rfl ?_
  exact HFIN.out
end

section
open Go.RowKit
theorem idx_makeDir (w : World) : (Instr.index 138 (.agg #[.func (.func 167) #[] #[], .func (.func 168) #[] #[], .func (.func 169) #[] #[], .func (.func 170) #[] #[], .func (.func 171) #[] #[], .func (.func 172) #[] #[], .func (.func 173) #[] #[], .func (.func 174) #[] #[], .func (.func 175) #[] #[]]) (.int .i64 0)).run Tryz.prog w = .ok (.func (.func 167) #[] #[]) w := by kernel_rfl
set_option maxRecDepth 100000 in
set_option maxHeartbeats 4000000 in
theorem changed_makeDir (a : Option Addr) (n cap : Nat) (nx : Int) (rs : List InoR) (p q : ByteArray) (k : Int) (da : Option Addr) (dn dc : Nat) (an av : ByteArray) (w : World) (ht : TR w a n rs) (hwf : ∀ r ∈ rs, (Lit.int .i64 r.D.ino).wf = true) (het : EtCell w) (nx' : Int) (ds' : List InoD) (c : Int) (N : Int) (D : List InoD) (C : Int)
    (h1 : treeD nx (rs.map InoR.D) = false → N = nx ∧ D = rs.map InoR.D ∧ C = 1) (h2 : treeD nx (rs.map InoR.D) = true → c ≠ 0 → N = nx ∧ D = rs.map InoR.D ∧ C = c) (h3 : treeD nx (rs.map InoR.D) = true → c = 0 → N = nx' ∧ D = ds' ∧ C = 0)
    (hm : treeD nx (rs.map InoR.D) = true → ∀ W : World, Below w.heap.size w W → Calls Tryz.prog 167 #[.agg #[.slice a n cap, .int .i64 nx], .agg #[.string p, .string q, .int .i64 k, .slice da dn dc, .string an, .string av]] W fun e w' => EMeth W nx' ds' c e w') :
    Calls Tryz.prog 61 #[.agg #[.slice a n cap, .int .i64 nx], .int .i64 0, .agg #[.string p, .string q, .int .i64 k, .slice da dn dc, .string an, .string av]] w fun e w' => TabC w N D C e w' := by
  have B0 : Below w.heap.size w (((w.alloc (.cells #[.slice a n cap, .int .i64 nx] 28)).alloc (.cells #[.string p, .string q, .int .i64 k, .slice da dn dc, .string an, .string av] 77)).alloc (.cells #[.slice none 0 0, .int .i64 0] 28)) := (((Below.refl _ w).alloc (Nat.le_refl _) _).alloc (by simp) _).alloc (by simp; omega) _
  have zT := ((Blk.new w 28 #[.slice a n cap, .int .i64 nx]).alloc (.cells #[.string p, .string q, .int .i64 k, .slice da dn dc, .string an, .string av] 77)).alloc (.cells #[.slice none 0 0, .int .i64 0] 28)
  have zC := (Blk.new (w.alloc (.cells #[.slice a n cap, .int .i64 nx] 28)) 77 #[.string p, .string q, .int .i64 k, .slice da dn dc, .string an, .string av]).alloc (.cells #[.slice none 0 0, .int .i64 0] 28)
  have zR := Blk.new ((w.alloc (.cells #[.slice a n cap, .int .i64 nx] 28)).alloc (.cells #[.string p, .string q, .int .i64 k, .slice da dn dc, .string an, .string av] 77)) 28 #[.slice none 0 0, .int .i64 0]
  simp only [World.size_alloc] at zC zR
  have hcT := treeI a n cap nx rs _ (ht.keep B0) hwf
  go_enter Tryz.func61, Tryz.ntmps61
  go_wp2_with fail
  obtain ⟨W0, hW0⟩ : ∃ W, (((w.alloc (.cells #[.slice a n cap, .int .i64 nx] 28)).alloc (.cells #[.string p, .string q, .int .i64 k, .slice da dn dc, .string an, .string av] 77)).alloc (.cells #[.slice none 0 0, .int .i64 0] 28)) = W := ⟨_, rfl⟩
  rw [hW0] at B0 zT zC zR hcT ⊢
  clear hW0
  (with_reducible refine hcT.mono ?_)
  rintro e w1 ⟨rfl, b1⟩
  clear hcT
  have hb1 := B0.trans (b1.mono B0.size)
  have zt := zT.keep b1
  have zc := zC.keep b1
  have zr := zR.keep b1
  have HT1 : Hid _ := ht.keep hb1
  have HE1 : Hid _ := het.keep hb1
  clear zT zC zR b1 ht het B0
  have t0 := zt.cell 0
  have t1 := zt.cell 1
  simp at t0 t1
  cases htr : treeD nx (rs.map InoR.D) with
  | false =>
    obtain ⟨rfl, rfl, rfl⟩ := h1 htr
    have hcC := copyTab_any a n cap N rs w1 HT1.out.len HT1.out.n HT1.out.small HT1.out.rd
    have HB1 : Hid _ := hb1
    have HZR : Hid _ := zr
    clear h1 h2 h3 hm htr hb1
    go_wp2_with fail
    (with_reducible refine hcC.mono ?_)
    intro e w2 hp2
    obtain ⟨g, rfl, b2, hfin⟩ := copyT hp2 HB1.out (by omega) HZR.out
    have zr2 := Blk.keep HZR.out b2
    have r0 := zr2.cell 0
    have r1 := zr2.cell 1
    have f0 := zr2.frozen 0
    have f1 := zr2.frozen 1
    simp at r0 r1
    have HFIN : Hid _ := hfin w2 (Below.refl _ _) 1
    have zf := blk2 zr2 (.slice (some ⟨g, 0, none⟩) n n) (.int .i64 N)
    have dd0 := zf.cell 0
    have dd1 := zf.cell 1
    simp at dd0 dd1
    clear hcC hp2 hfin zr2 zt zc zr t0 t1 zf
    go_wp2
    refine bodyPost_ret (v := .tuple #[.agg #[.slice (some ⟨g, 0, none⟩) n n, .int .i64 N], .int .i64 1]) (by simp [results, Tryz.f61, go_sem, dd0, dd1]) rfl ?_
    exact HFIN.out
  | true =>
    have hmm := hm htr
    have c0 := zc.cell 0
    have c1 := zc.cell 1
    have c2 := zc.cell 2
    have c3 := zc.cell 3
    have c4 := zc.cell 4
    have c5 := zc.cell 5
    simp at c0 c1 c2 c3 c4 c5
    have HB1 : Hid _ := hb1
    have HZR : Hid _ := zr
    have HZT : Hid _ := zt
    have HZC : Hid _ := zc
    have HMM : Hid _ := hmm
    have HH2 : Hid _ := h2 htr
    have HH3 : Hid _ := h3 htr
    have cC := changesI w1.drew
    have hsz : w.heap.size + 1 + 1 < w1.heap.size := zr.lt
    have hK : Hid (∀ W : World, Below w1.heap.size w1 W → W.cell? ⟨w.heap.size, 0, none⟩ = some (.slice a n cap) ∧ W.cell? ⟨w.heap.size, 1, none⟩ = some (.int .i64 nx) ∧ W.cell? ⟨w.heap.size + 1, 0, none⟩ = some (.string p) ∧ W.cell? ⟨w.heap.size + 1, 1, none⟩ = some (.string q) ∧ W.cell? ⟨w.heap.size + 1, 2, none⟩ = some (.int .i64 k) ∧ W.cell? ⟨w.heap.size + 1, 3, none⟩ = some (.slice da dn dc) ∧ W.cell? ⟨w.heap.size + 1, 4, none⟩ = some (.string an) ∧ W.cell? ⟨w.heap.size + 1, 5, none⟩ = some (.string av)) := fun W hW => by
      have z1 := Blk.keep HZT.out hW
      have z2 := Blk.keep HZC.out hW
      exact ⟨z1.cell 0, z1.cell 1, z2.cell 0, z2.cell 1, z2.cell 2, z2.cell 3, z2.cell 4, z2.cell 5⟩
    clear h1 h2 h3 hm htr hmm zt zc zr hb1
    go_upto_region 3 with fail
    have n0 : w1.heap.size ≠ w.heap.size := by omega
    have n1 : w1.heap.size ≠ w.heap.size + 1 := by omega
    have cC2 := changesI (w1.alloc (.cells #[.slice none 0 0, .int .i64 0] 28)).drew
    have zW1 := Blk.new w1 28 #[.slice none 0 0, .int .i64 0]
    have hix := idx_makeDir
    go_cut [8, 9] from 8 to 31 (fun bx er wx => ∃ (A : Nat) (ra : Option Addr) (rn rc : Nat) (rx : Int), bx = .pointer (some ⟨A, 0, none⟩) ∧ er = errV c ∧ Hid (CHR w1 nx' ds' c A (.slice ra rn rc) (.int .i64 rx) wx))
    case first =>
      go_region_held3 (fun W : World => W.cell? ⟨w.heap.size, 0, none⟩ = some (.slice a n cap) ∧ W.cell? ⟨w.heap.size, 1, none⟩ = some (.int .i64 nx) ∧ W.cell? ⟨w.heap.size + 1, 0, none⟩ = some (.string p) ∧ W.cell? ⟨w.heap.size + 1, 1, none⟩ = some (.string q) ∧ W.cell? ⟨w.heap.size + 1, 2, none⟩ = some (.int .i64 k) ∧ W.cell? ⟨w.heap.size + 1, 3, none⟩ = some (.slice da dn dc) ∧ W.cell? ⟨w.heap.size + 1, 4, none⟩ = some (.string an) ∧ W.cell? ⟨w.heap.size + 1, 5, none⟩ = some (.string av)) (go_keep) (first
        | (go_at_call 111; (with_reducible refine cC.mono ?_); rintro e w10 ⟨rfl, b10⟩; have B10 : Below w1.heap.size w1 w10 := (Below.refl _ w1).drew.trans b10; have K10 := hK.out w10 B10; obtain ⟨p0, p1, p2, p3, p4, p5, p6, p7⟩ := K10; have n2 : w10.heap.size ≠ w.heap.size := (by have := B10.size; omega); have n3 : w10.heap.size ≠ w.heap.size + 1 := (by have := B10.size; omega); have hm10 := HMM.out w10 (HB1.out.trans (B10.mono HB1.out.size)); have hm10a := HMM.out (w10.alloc (.cells #[.slice none 0 0, .int .i64 0] 28)) ((HB1.out.trans (B10.mono HB1.out.size)).alloc (by have := HB1.out.size; have := B10.size; omega) _))
        | (go_at_call 111; (with_reducible refine cC2.mono ?_); rintro e w11 ⟨rfl, b11⟩; have B11 : Below w1.heap.size w1 w11 := ((Below.refl _ w1).alloc (Nat.le_refl _) _).drew.trans (b11.mono (by show _ ≤ (w1.alloc _).heap.size; simp)); have K11 := hK.out w11 B11; obtain ⟨p0, p1, p2, p3, p4, p5, p6, p7⟩ := K11; have z11 : Blk w11 w1.heap.size 28 #[.slice none 0 0, .int .i64 0] := Blk.keep (Blk.drew zW1) b11; have hm11 := HMM.out w11 (HB1.out.trans (B11.mono HB1.out.size)))
        | (go_at_call 167; (with_reducible refine hm10.mono ?_); rintro e w12 ⟨ra, rn, rc, rx, rfl, b12, t12⟩; have B12 : Below w1.heap.size w1 w12 := B10.trans (b12.mono B10.size); have K12 := hK.out w12 B12; obtain ⟨q0, q1, q2, q3, q4, q5, q6, q7⟩ := K12)
        | (go_at_call 167; (with_reducible refine hm10a.mono ?_); rintro e w13 ⟨ra, rn, rc, rx, rfl, b13, t13⟩; have B13 : Below w1.heap.size w1 w13 := (B10.alloc B10.size _).trans (b13.mono (by have := B10.size; simp; omega)); have z13 := (Blk.new w10 28 #[.slice none 0 0, .int .i64 0]).keep b13; have u0 := z13.cell 0; have u1 := z13.cell 1; have x0 := z13.frozen 0; have x1 := z13.frozen 1; simp at u0 u1; have K13 := hK.out w13 B13; obtain ⟨q0, q1, q2, q3, q4, q5, q6, q7⟩ := K13)
        | (go_at_call 167; (with_reducible refine hm11.mono ?_); rintro e w14 ⟨ra, rn, rc, rx, rfl, b14, t14⟩; have B14 : Below w1.heap.size w1 w14 := B11.trans (b14.mono B11.size); have z14 := z11.keep b14; have u0 := z14.cell 0; have u1 := z14.cell 1; have x0 := z14.frozen 0; have x1 := z14.frozen 1; simp at u0 u1; have K14 := hK.out w14 B14; obtain ⟨q0, q1, q2, q3, q4, q5, q6, q7⟩ := K14))
      all_goals (go_wp2_with fail; go_meet)
      all_goals first
        | (have h := chr_new B12 b12 B10.size t12; exact ⟨_, _, _, _, _, rfl, rfl, h⟩)
        | (have h := chr_old B13 B10.size z13 (by simp) t13; exact ⟨_, _, _, _, _, rfl, rfl, h⟩)
        | (have h := chr_old B14 (Nat.le_refl _) z14 (Blk.lt z11) t14; exact ⟨_, _, _, _, _, rfl, rfl, h⟩)
        | fail
    case rest =>
      obtain ⟨A, ra, rn, rc, rx, rfl, rfl, hR⟩ := hcut
      obtain ⟨Wc, hwc⟩ : ∃ W, W = wc := ⟨_, rfl⟩
      subst hwc
      clear t0 t1 c0 c1 c2 c3 c4 c5 cC cC2 zW1 hK HMM n0 n1
      have zt := Blk.keep HZT.out hR.out.b
      have zr := Blk.keep HZR.out hR.out.b
      have hbc := HB1.out.trans (hR.out.b.mono HB1.out.size)
      have t0 := zt.cell 0
      have t1 := zt.cell 1
      simp at t0 t1
      by_cases hc0 : c = 0
      · obtain ⟨rfl, rfl, rfl⟩ := HH3.out hc0
        subst hc0
        rw [errV_zero]
        have HFIN : Hid _ := methT (hR.out.tab rfl) HB1.out (by omega) HZR.out Wc (Below.refl _ _)
        have a0 := hR.out.z.cell 0
        have a1 := hR.out.z.cell 1
        have r0 := zr.cell 0
        have r1 := zr.cell 1
        have f0 := zr.frozen 0
        have f1 := zr.frozen 1
        simp at a0 a1 r0 r1
        have zf := blk2 zr (.slice ra rn rc) (.int .i64 rx)
        have dd0 := zf.cell 0
        have dd1 := zf.cell 1
        simp at dd0 dd1
        clear zt zr zf hbc HH2 HH3 HT1 HE1 t0 t1
        go_wp2
        refine bodyPost_ret (v := .tuple #[.agg #[.slice ra rn rc, .int .i64 rx], .int .i64 0]) (by simp [results, Tryz.f61, go_sem, dd0, dd1]) rfl ?_
        exact HFIN.out
      · obtain ⟨rfl, rfl, rfl⟩ := HH2.out hc0
        rw [errV_some hc0]
        have hTc := HT1.out.keep hR.out.b
        have hEc := EtCell.keep HE1.out hR.out.b
        have hcC := copyTab_any a n cap N rs Wc hTc.len hTc.n hTc.small hTc.rd
        have HZ : Hid _ := zr
        have HBC : Hid _ := hbc
        have HEC : Hid _ := hEc
        have HC0 : Hid _ := hc0
        clear zt zr hbc HH2 HH3 HT1 HE1 hTc hEc hc0
        go_wp2_with fail
        (with_reducible refine hcC.mono ?_)
        intro e w2 hp2
        obtain ⟨g, rfl, b2, hfin⟩ := copyT hp2 HBC.out (by omega) HZ.out
        have hcO := codeOfI C w2 (EtCell.keep HEC.out b2)
        rw [errV_some HC0.out] at hcO
        clear hcC hp2 t0 t1
        go_wp2_with fail
        (with_reducible refine hcO.mono ?_)
        rintro e w3 ⟨rfl, b3⟩
        have zr3 := (Blk.keep HZ.out b2).keep b3
        have r0 := zr3.cell 0
        have r1 := zr3.cell 1
        have f0 := zr3.frozen 0
        have f1 := zr3.frozen 1
        simp at r0 r1
        have HFIN : Hid _ := hfin w3 b3 C
        have zf := blk2 zr3 (.slice (some ⟨g, 0, none⟩) n n) (.int .i64 N)
        have dd0 := zf.cell 0
        have dd1 := zf.cell 1
        simp at dd0 dd1
        clear hcO hfin zr3 zf
        go_wp2
        refine bodyPost_ret (v := .tuple #[.agg #[.slice (some ⟨g, 0, none⟩) n n, .int .i64 N], .int .i64 C]) (by simp [results, Tryz.f61, go_sem, dd0, dd1]) rfl ?_
        exact HFIN.out
end

section
open Go.RowKit
theorem idx_makeFile (w : World) : (Instr.index 138 (.agg #[.func (.func 167) #[] #[], .func (.func 168) #[] #[], .func (.func 169) #[] #[], .func (.func 170) #[] #[], .func (.func 171) #[] #[], .func (.func 172) #[] #[], .func (.func 173) #[] #[], .func (.func 174) #[] #[], .func (.func 175) #[] #[]]) (.int .i64 1)).run Tryz.prog w = .ok (.func (.func 168) #[] #[]) w := by kernel_rfl
set_option maxRecDepth 100000 in
set_option maxHeartbeats 4000000 in
theorem changed_makeFile (a : Option Addr) (n cap : Nat) (nx : Int) (rs : List InoR) (p q : ByteArray) (k : Int) (da : Option Addr) (dn dc : Nat) (an av : ByteArray) (w : World) (ht : TR w a n rs) (hwf : ∀ r ∈ rs, (Lit.int .i64 r.D.ino).wf = true) (het : EtCell w) (nx' : Int) (ds' : List InoD) (c : Int) (N : Int) (D : List InoD) (C : Int)
    (h1 : treeD nx (rs.map InoR.D) = false → N = nx ∧ D = rs.map InoR.D ∧ C = 1) (h2 : treeD nx (rs.map InoR.D) = true → c ≠ 0 → N = nx ∧ D = rs.map InoR.D ∧ C = c) (h3 : treeD nx (rs.map InoR.D) = true → c = 0 → N = nx' ∧ D = ds' ∧ C = 0)
    (hm : treeD nx (rs.map InoR.D) = true → ∀ W : World, Below w.heap.size w W → Calls Tryz.prog 168 #[.agg #[.slice a n cap, .int .i64 nx], .agg #[.string p, .string q, .int .i64 k, .slice da dn dc, .string an, .string av]] W fun e w' => EMeth W nx' ds' c e w') :
    Calls Tryz.prog 61 #[.agg #[.slice a n cap, .int .i64 nx], .int .i64 1, .agg #[.string p, .string q, .int .i64 k, .slice da dn dc, .string an, .string av]] w fun e w' => TabC w N D C e w' := by
  have B0 : Below w.heap.size w (((w.alloc (.cells #[.slice a n cap, .int .i64 nx] 28)).alloc (.cells #[.string p, .string q, .int .i64 k, .slice da dn dc, .string an, .string av] 77)).alloc (.cells #[.slice none 0 0, .int .i64 0] 28)) := (((Below.refl _ w).alloc (Nat.le_refl _) _).alloc (by simp) _).alloc (by simp; omega) _
  have zT := ((Blk.new w 28 #[.slice a n cap, .int .i64 nx]).alloc (.cells #[.string p, .string q, .int .i64 k, .slice da dn dc, .string an, .string av] 77)).alloc (.cells #[.slice none 0 0, .int .i64 0] 28)
  have zC := (Blk.new (w.alloc (.cells #[.slice a n cap, .int .i64 nx] 28)) 77 #[.string p, .string q, .int .i64 k, .slice da dn dc, .string an, .string av]).alloc (.cells #[.slice none 0 0, .int .i64 0] 28)
  have zR := Blk.new ((w.alloc (.cells #[.slice a n cap, .int .i64 nx] 28)).alloc (.cells #[.string p, .string q, .int .i64 k, .slice da dn dc, .string an, .string av] 77)) 28 #[.slice none 0 0, .int .i64 0]
  simp only [World.size_alloc] at zC zR
  have hcT := treeI a n cap nx rs _ (ht.keep B0) hwf
  go_enter Tryz.func61, Tryz.ntmps61
  go_wp2_with fail
  obtain ⟨W0, hW0⟩ : ∃ W, (((w.alloc (.cells #[.slice a n cap, .int .i64 nx] 28)).alloc (.cells #[.string p, .string q, .int .i64 k, .slice da dn dc, .string an, .string av] 77)).alloc (.cells #[.slice none 0 0, .int .i64 0] 28)) = W := ⟨_, rfl⟩
  rw [hW0] at B0 zT zC zR hcT ⊢
  clear hW0
  (with_reducible refine hcT.mono ?_)
  rintro e w1 ⟨rfl, b1⟩
  clear hcT
  have hb1 := B0.trans (b1.mono B0.size)
  have zt := zT.keep b1
  have zc := zC.keep b1
  have zr := zR.keep b1
  have HT1 : Hid _ := ht.keep hb1
  have HE1 : Hid _ := het.keep hb1
  clear zT zC zR b1 ht het B0
  have t0 := zt.cell 0
  have t1 := zt.cell 1
  simp at t0 t1
  cases htr : treeD nx (rs.map InoR.D) with
  | false =>
    obtain ⟨rfl, rfl, rfl⟩ := h1 htr
    have hcC := copyTab_any a n cap N rs w1 HT1.out.len HT1.out.n HT1.out.small HT1.out.rd
    have HB1 : Hid _ := hb1
    have HZR : Hid _ := zr
    clear h1 h2 h3 hm htr hb1
    go_wp2_with fail
    (with_reducible refine hcC.mono ?_)
    intro e w2 hp2
    obtain ⟨g, rfl, b2, hfin⟩ := copyT hp2 HB1.out (by omega) HZR.out
    have zr2 := Blk.keep HZR.out b2
    have r0 := zr2.cell 0
    have r1 := zr2.cell 1
    have f0 := zr2.frozen 0
    have f1 := zr2.frozen 1
    simp at r0 r1
    have HFIN : Hid _ := hfin w2 (Below.refl _ _) 1
    have zf := blk2 zr2 (.slice (some ⟨g, 0, none⟩) n n) (.int .i64 N)
    have dd0 := zf.cell 0
    have dd1 := zf.cell 1
    simp at dd0 dd1
    clear hcC hp2 hfin zr2 zt zc zr t0 t1 zf
    go_wp2
    refine bodyPost_ret (v := .tuple #[.agg #[.slice (some ⟨g, 0, none⟩) n n, .int .i64 N], .int .i64 1]) (by simp [results, Tryz.f61, go_sem, dd0, dd1]) rfl ?_
    exact HFIN.out
  | true =>
    have hmm := hm htr
    have c0 := zc.cell 0
    have c1 := zc.cell 1
    have c2 := zc.cell 2
    have c3 := zc.cell 3
    have c4 := zc.cell 4
    have c5 := zc.cell 5
    simp at c0 c1 c2 c3 c4 c5
    have HB1 : Hid _ := hb1
    have HZR : Hid _ := zr
    have HZT : Hid _ := zt
    have HZC : Hid _ := zc
    have HMM : Hid _ := hmm
    have HH2 : Hid _ := h2 htr
    have HH3 : Hid _ := h3 htr
    have cC := changesI w1.drew
    have hsz : w.heap.size + 1 + 1 < w1.heap.size := zr.lt
    have hK : Hid (∀ W : World, Below w1.heap.size w1 W → W.cell? ⟨w.heap.size, 0, none⟩ = some (.slice a n cap) ∧ W.cell? ⟨w.heap.size, 1, none⟩ = some (.int .i64 nx) ∧ W.cell? ⟨w.heap.size + 1, 0, none⟩ = some (.string p) ∧ W.cell? ⟨w.heap.size + 1, 1, none⟩ = some (.string q) ∧ W.cell? ⟨w.heap.size + 1, 2, none⟩ = some (.int .i64 k) ∧ W.cell? ⟨w.heap.size + 1, 3, none⟩ = some (.slice da dn dc) ∧ W.cell? ⟨w.heap.size + 1, 4, none⟩ = some (.string an) ∧ W.cell? ⟨w.heap.size + 1, 5, none⟩ = some (.string av)) := fun W hW => by
      have z1 := Blk.keep HZT.out hW
      have z2 := Blk.keep HZC.out hW
      exact ⟨z1.cell 0, z1.cell 1, z2.cell 0, z2.cell 1, z2.cell 2, z2.cell 3, z2.cell 4, z2.cell 5⟩
    clear h1 h2 h3 hm htr hmm zt zc zr hb1
    go_upto_region 3 with fail
    have n0 : w1.heap.size ≠ w.heap.size := by omega
    have n1 : w1.heap.size ≠ w.heap.size + 1 := by omega
    have cC2 := changesI (w1.alloc (.cells #[.slice none 0 0, .int .i64 0] 28)).drew
    have zW1 := Blk.new w1 28 #[.slice none 0 0, .int .i64 0]
    have hix := idx_makeFile
    go_cut [8, 9] from 8 to 31 (fun bx er wx => ∃ (A : Nat) (ra : Option Addr) (rn rc : Nat) (rx : Int), bx = .pointer (some ⟨A, 0, none⟩) ∧ er = errV c ∧ Hid (CHR w1 nx' ds' c A (.slice ra rn rc) (.int .i64 rx) wx))
    case first =>
      go_region_held3 (fun W : World => W.cell? ⟨w.heap.size, 0, none⟩ = some (.slice a n cap) ∧ W.cell? ⟨w.heap.size, 1, none⟩ = some (.int .i64 nx) ∧ W.cell? ⟨w.heap.size + 1, 0, none⟩ = some (.string p) ∧ W.cell? ⟨w.heap.size + 1, 1, none⟩ = some (.string q) ∧ W.cell? ⟨w.heap.size + 1, 2, none⟩ = some (.int .i64 k) ∧ W.cell? ⟨w.heap.size + 1, 3, none⟩ = some (.slice da dn dc) ∧ W.cell? ⟨w.heap.size + 1, 4, none⟩ = some (.string an) ∧ W.cell? ⟨w.heap.size + 1, 5, none⟩ = some (.string av)) (go_keep) (first
        | (go_at_call 111; (with_reducible refine cC.mono ?_); rintro e w10 ⟨rfl, b10⟩; have B10 : Below w1.heap.size w1 w10 := (Below.refl _ w1).drew.trans b10; have K10 := hK.out w10 B10; obtain ⟨p0, p1, p2, p3, p4, p5, p6, p7⟩ := K10; have n2 : w10.heap.size ≠ w.heap.size := (by have := B10.size; omega); have n3 : w10.heap.size ≠ w.heap.size + 1 := (by have := B10.size; omega); have hm10 := HMM.out w10 (HB1.out.trans (B10.mono HB1.out.size)); have hm10a := HMM.out (w10.alloc (.cells #[.slice none 0 0, .int .i64 0] 28)) ((HB1.out.trans (B10.mono HB1.out.size)).alloc (by have := HB1.out.size; have := B10.size; omega) _))
        | (go_at_call 111; (with_reducible refine cC2.mono ?_); rintro e w11 ⟨rfl, b11⟩; have B11 : Below w1.heap.size w1 w11 := ((Below.refl _ w1).alloc (Nat.le_refl _) _).drew.trans (b11.mono (by show _ ≤ (w1.alloc _).heap.size; simp)); have K11 := hK.out w11 B11; obtain ⟨p0, p1, p2, p3, p4, p5, p6, p7⟩ := K11; have z11 : Blk w11 w1.heap.size 28 #[.slice none 0 0, .int .i64 0] := Blk.keep (Blk.drew zW1) b11; have hm11 := HMM.out w11 (HB1.out.trans (B11.mono HB1.out.size)))
        | (go_at_call 168; (with_reducible refine hm10.mono ?_); rintro e w12 ⟨ra, rn, rc, rx, rfl, b12, t12⟩; have B12 : Below w1.heap.size w1 w12 := B10.trans (b12.mono B10.size); have K12 := hK.out w12 B12; obtain ⟨q0, q1, q2, q3, q4, q5, q6, q7⟩ := K12)
        | (go_at_call 168; (with_reducible refine hm10a.mono ?_); rintro e w13 ⟨ra, rn, rc, rx, rfl, b13, t13⟩; have B13 : Below w1.heap.size w1 w13 := (B10.alloc B10.size _).trans (b13.mono (by have := B10.size; simp; omega)); have z13 := (Blk.new w10 28 #[.slice none 0 0, .int .i64 0]).keep b13; have u0 := z13.cell 0; have u1 := z13.cell 1; have x0 := z13.frozen 0; have x1 := z13.frozen 1; simp at u0 u1; have K13 := hK.out w13 B13; obtain ⟨q0, q1, q2, q3, q4, q5, q6, q7⟩ := K13)
        | (go_at_call 168; (with_reducible refine hm11.mono ?_); rintro e w14 ⟨ra, rn, rc, rx, rfl, b14, t14⟩; have B14 : Below w1.heap.size w1 w14 := B11.trans (b14.mono B11.size); have z14 := z11.keep b14; have u0 := z14.cell 0; have u1 := z14.cell 1; have x0 := z14.frozen 0; have x1 := z14.frozen 1; simp at u0 u1; have K14 := hK.out w14 B14; obtain ⟨q0, q1, q2, q3, q4, q5, q6, q7⟩ := K14))
      all_goals (go_wp2_with fail; go_meet)
      all_goals first
        | (have h := chr_new B12 b12 B10.size t12; exact ⟨_, _, _, _, _, rfl, rfl, h⟩)
        | (have h := chr_old B13 B10.size z13 (by simp) t13; exact ⟨_, _, _, _, _, rfl, rfl, h⟩)
        | (have h := chr_old B14 (Nat.le_refl _) z14 (Blk.lt z11) t14; exact ⟨_, _, _, _, _, rfl, rfl, h⟩)
        | fail
    case rest =>
      obtain ⟨A, ra, rn, rc, rx, rfl, rfl, hR⟩ := hcut
      obtain ⟨Wc, hwc⟩ : ∃ W, W = wc := ⟨_, rfl⟩
      subst hwc
      clear t0 t1 c0 c1 c2 c3 c4 c5 cC cC2 zW1 hK HMM n0 n1
      have zt := Blk.keep HZT.out hR.out.b
      have zr := Blk.keep HZR.out hR.out.b
      have hbc := HB1.out.trans (hR.out.b.mono HB1.out.size)
      have t0 := zt.cell 0
      have t1 := zt.cell 1
      simp at t0 t1
      by_cases hc0 : c = 0
      · obtain ⟨rfl, rfl, rfl⟩ := HH3.out hc0
        subst hc0
        rw [errV_zero]
        have HFIN : Hid _ := methT (hR.out.tab rfl) HB1.out (by omega) HZR.out Wc (Below.refl _ _)
        have a0 := hR.out.z.cell 0
        have a1 := hR.out.z.cell 1
        have r0 := zr.cell 0
        have r1 := zr.cell 1
        have f0 := zr.frozen 0
        have f1 := zr.frozen 1
        simp at a0 a1 r0 r1
        have zf := blk2 zr (.slice ra rn rc) (.int .i64 rx)
        have dd0 := zf.cell 0
        have dd1 := zf.cell 1
        simp at dd0 dd1
        clear zt zr zf hbc HH2 HH3 HT1 HE1 t0 t1
        go_wp2
        refine bodyPost_ret (v := .tuple #[.agg #[.slice ra rn rc, .int .i64 rx], .int .i64 0]) (by simp [results, Tryz.f61, go_sem, dd0, dd1]) rfl ?_
        exact HFIN.out
      · obtain ⟨rfl, rfl, rfl⟩ := HH2.out hc0
        rw [errV_some hc0]
        have hTc := HT1.out.keep hR.out.b
        have hEc := EtCell.keep HE1.out hR.out.b
        have hcC := copyTab_any a n cap N rs Wc hTc.len hTc.n hTc.small hTc.rd
        have HZ : Hid _ := zr
        have HBC : Hid _ := hbc
        have HEC : Hid _ := hEc
        have HC0 : Hid _ := hc0
        clear zt zr hbc HH2 HH3 HT1 HE1 hTc hEc hc0
        go_wp2_with fail
        (with_reducible refine hcC.mono ?_)
        intro e w2 hp2
        obtain ⟨g, rfl, b2, hfin⟩ := copyT hp2 HBC.out (by omega) HZ.out
        have hcO := codeOfI C w2 (EtCell.keep HEC.out b2)
        rw [errV_some HC0.out] at hcO
        clear hcC hp2 t0 t1
        go_wp2_with fail
        (with_reducible refine hcO.mono ?_)
        rintro e w3 ⟨rfl, b3⟩
        have zr3 := (Blk.keep HZ.out b2).keep b3
        have r0 := zr3.cell 0
        have r1 := zr3.cell 1
        have f0 := zr3.frozen 0
        have f1 := zr3.frozen 1
        simp at r0 r1
        have HFIN : Hid _ := hfin w3 b3 C
        have zf := blk2 zr3 (.slice (some ⟨g, 0, none⟩) n n) (.int .i64 N)
        have dd0 := zf.cell 0
        have dd1 := zf.cell 1
        simp at dd0 dd1
        clear hcO hfin zr3 zf
        go_wp2
        refine bodyPost_ret (v := .tuple #[.agg #[.slice (some ⟨g, 0, none⟩) n n, .int .i64 N], .int .i64 C]) (by simp [results, Tryz.f61, go_sem, dd0, dd1]) rfl ?_
        exact HFIN.out
end

section
open Go.RowKit
def notR (z : ByteArray) : Bool := (parentOf z.data.toList).2.2
theorem all_drop_s {l : List ByteArray} {k : Nat} (h : k < l.length) : (l.drop k).all notR = (notR l[k] && (l.drop (k + 1)).all notR) := by
  rw [List.drop_eq_getElem_cons h, List.all_cons]
set_option maxRecDepth 100000 in
set_option maxHeartbeats 1000000 in
theorem notRootI (a : Option Addr) (n cap : Nat) (zs : List ByteArray) (w : World) (hn : zs.length = n) (hs : n ≤ 100) (hz : ∀ z ∈ zs, z.size ≤ 4000000) (hr : RdS w a zs) :
    Calls Tryz.prog 221 #[.slice a n cap] w fun e w' => e = .returned (errV (if zs.all notR = true then 0 else 1)) ∧ Below w.heap.size w w' := by
  obtain ⟨R, hR⟩ : ∃ R, zs.all notR = R := ⟨_, rfl⟩
  rw [hR]
  obtain ⟨V, hV⟩ : ∃ V, errV (if R = true then 0 else 1) = V := ⟨_, rfl⟩
  rw [hV]
  have HV : Hid _ := hV
  clear hV
  have HR : Hid ((zs.drop 0).all notR = R) := hR
  have HN : Hid _ := hn
  have HZ : Hid _ := hz
  have HRS : Hid _ := hr
  clear hR hn hz hr
  go_enter Tryz.func221, Tryz.ntmps221
  go_wp2
  go_loopw [10] (fun i wr => ∃ k : Nat, k ≤ n ∧ i = .int .i64 k ∧ Hid ((zs.drop k).all notR = R) ∧ Hid (Below w.heap.size w wr)) (fun i _ => n - (intOf i).toNat)
  case atStart => exact ⟨0, Nat.zero_le _, rfl, HR, Below.refl _ _⟩
  case round =>
    obtain ⟨k, hk, rfl, hall, hB⟩ := hrel
    clear HR
    by_cases hkn : k < n
    · have hki : (k : Int) < (n : Int) := by omega
      have hk0 : (0 : Int) ≤ (k : Int) := by omega
      have hkl : k < zs.length := by rw [HN.out]; exact hkn
      obtain ⟨b, off, rfl, hlt, hc⟩ := RdS.lt (RdS.keep HRS.out hB.out) (by intro h; rw [h] at hkl; simp at hkl)
      have n0 := hc k hkl
      rw [List.getD_eq_getElem?_getD, List.getElem?_eq_getElem hkl, Option.getD_some] at n0
      have hall' := hall.out
      rw [all_drop_s hkl] at hall'
      have hsz := HZ.out zs[k] (List.getElem_mem hkl)
      obtain ⟨z, hzz⟩ : ∃ z, zs[k] = z := ⟨_, rfl⟩
      rw [hzz] at n0 hall' hsz
      have hcP := parentI z wr hsz
      have hnz : notR z = (parentOf z.data.toList).2.2 := rfl
      rw [hnz] at hall'
      unfold PaPost at hcP
      obtain ⟨p1, hp1⟩ : ∃ p, strB (parentOf z.data.toList).1 = p := ⟨_, rfl⟩
      obtain ⟨p2, hp2⟩ : ∃ p, strB (parentOf z.data.toList).2.1 = p := ⟨_, rfl⟩
      rw [hp1, hp2] at hcP
      clear hc hzz hkl hall hnz hp1 hp2 hlt
      cases hb : (parentOf z.data.toList).2.2 with
      | false =>
        rw [hb] at hcP hall'
        rw [Bool.false_and] at hall'
        have hend : Hid (.iface 155 (.int .i64 1) = V) := by show _ = _; rw [← HV.out, ← hall']; rfl
        clear hall' hb
        go_wp2_with fail
        (with_reducible refine hcP.mono ?_)
        rintro e w1 ⟨b1, rfl⟩
        have hB1 : Hid _ := hB.out.trans (b1.mono hB.out.size)
        clear hcP n0 b1
        go_wp2
        go_ret
        exact ⟨congrArg Ending.returned hend.out, hB1.out⟩
      | true =>
        rw [hb] at hcP hall'
        rw [Bool.true_and] at hall'
        have hnx : Hid _ := hall'
        clear hall' hb
        go_wp2_with fail
        (with_reducible refine hcP.mono ?_)
        rintro e w1 ⟨b1, rfl⟩
        have hB1 : Hid _ := hB.out.trans (b1.mono hB.out.size)
        clear hcP n0 b1
        go_wp2
        go_roundw
        case rel => exact ⟨k + 1, by omega, by go_num, hnx, hB1⟩
        case measure => simp [intOf]; omega
    · have hki : ¬ (k : Int) < (n : Int) := by omega
      have hend : Hid (.nilIface = V) := by
        have h1 := hall.out
        rw [List.drop_of_length_le (by rw [HN.out]; omega)] at h1
        show _ = _
        rw [← HV.out, ← h1]
        rfl
      go_wp2
      go_ret
      exact ⟨congrArg Ending.returned hend.out, hB.out⟩
end
end Go.Proofs.YtmfimoccemgoiaaGreatDoor
