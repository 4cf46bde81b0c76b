/-
  Joined: Reader, GetM, EncDec, SpecGet, FnI, MakeI.
-/
import Derived.Test.YtbjfihabkpianaaGreatDoorJ31E
import Derived.Test.YtbjfihabkpianaaGreatDoorJ32E
import Derived.Deep.OwnRows
namespace Go.Proofs.YtbjfihabkpianaaGreatDoor
section
open Go.RowKit
/-- A number read on; the place is none once something was not there whole. -/
def rdN (zs : List Int) : Option Nat → Nat × Option Nat
  | none => (0, none)
  | some p => if (gn zs (p : Int)).2.2 = true then ((gn zs (p : Int)).1, some (gn zs (p : Int)).2.1) else (0, none)
/-- A text read on. -/
def rdT (zs : List Int) : Option Nat → ByteArray × Option Nat
  | none => (ByteArray.empty, none)
  | some p => if (gtOf zs (gn zs (p : Int))).2.2 = true then ((gtOf zs (gn zs (p : Int))).1, some (gtOf zs (gn zs (p : Int))).2.1) else (ByteArray.empty, none)
end

section
open Go.RowKit
/-- k entries read on. -/
def rdE (zs : List Int) (st : Option Nat) : Nat → List (ByteArray × Int) × Option Nat
  | 0 => ([], st)
  | k + 1 => ((rdE zs st k).1 ++ [((rdT zs (rdE zs st k).2).1, ((rdN zs (rdT zs (rdE zs st k).2).2).1 : Int))], (rdN zs (rdT zs (rdE zs st k).2).2).2)
/-- k attributes read on. -/
def rdA (zs : List Int) (st : Option Nat) : Nat → List (ByteArray × ByteArray) × Option Nat
  | 0 => ([], st)
  | k + 1 => ((rdA zs st k).1 ++ [((rdT zs (rdA zs st k).2).1, (rdT zs (rdT zs (rdA zs st k).2).2).1)], (rdT zs (rdT zs (rdA zs st k).2).2).2)
def g1 (zs : List Int) := rdN zs (some 0)
def g2 (zs : List Int) := rdN zs (g1 zs).2
def g3 (zs : List Int) := rdN zs (g2 zs).2
def g4 (zs : List Int) := rdT zs (g3 zs).2
def g5 (zs : List Int) := rdN zs (g4 zs).2
def gE (zs : List Int) := rdE zs (g5 zs).2 (min (g5 zs).1 11)
def g6 (zs : List Int) := rdN zs (gE zs).2
def gA (zs : List Int) := rdA zs (g6 zs).2 (min (g6 zs).1 5)
/-- The inode that the bytes tell. -/
def gD (zs : List Int) : InoD := ⟨((g1 zs).1 : Int), ((g2 zs).1 : Int), ((g3 zs).1 : Int), strZ (g4 zs).1, (gE zs).1, (gA zs).1⟩
end

section
open Go.RowKit
theorem Byt.drop {zs : List Int} (h : Byt zs) (k : Nat) : Byt (zs.drop k) := fun z hz => h z (List.mem_of_mem_drop hz)
end

section
open Go.RowKit
theorem KpT.trans {W W1 W' : World} {ts : List TypeId} (h : KpT W W1 ts) (k : KpT W1 W' ts) : KpT W W' ts := fun B cur t fr hB ht => by
  have e := h B cur t fr hB ht
  rw [k B cur t fr (e.trans hB) ht, e]
end

section
open Go.RowKit
theorem less_trans : ∀ {x y z : List UInt8}, Op.bytesLess x y = true → Op.bytesLess y z = true → Op.bytesLess x z = true
  | _, _, [], _, h2 => by simp [Op.bytesLess] at h2
  | [], _, _ :: _, _, _ => rfl
  | a :: x, [], c :: z, h1, _ => by simp [Op.bytesLess] at h1
  | a :: x, b :: y, c :: z, h1, h2 => by
    simp only [Op.bytesLess, Bool.or_eq_true, Bool.and_eq_true, decide_eq_true_eq, beq_iff_eq] at h1 h2 ⊢
    rcases h1 with h1 | ⟨rfl, h1⟩
    · rcases h2 with h2 | ⟨rfl, h2⟩
      · exact .inl (UInt8.lt_trans h1 h2)
      · exact .inl h1
    · rcases h2 with h2 | ⟨rfl, h2⟩
      · exact .inl h2
      · exact .inr ⟨rfl, less_trans h1 h2⟩
theorem Own.cap' {w : World} {g n c : Nat} {zs : List Int} (h : Own w g n c zs) : n ≤ c := by
  rcases h.2 with ⟨h', _⟩ | ⟨g', c', cur, h', _, _, h5, _⟩
  · simp at h'
  · simp at h'
    omega
end

section
open Go.RowKit
theorem ents_ascM {es : List (ByteArray × Int)} (h : entsOk es = true) (j : Nat) : ∀ i, i < j → j < es.length → Op.bytesLess (es.getD i entD).1.toList (es.getD j entD).1.toList = true := by
  unfold entsOk at h
  simp only [Bool.and_eq_true, List.all_eq_true, List.mem_range] at h
  induction j with
  | zero => intro i hi; omega
  | succ j ih =>
    intro i hi hj
    have h1 := h.1 (j + 1) hj
    unfold entAt at h1
    simp only [Bool.and_eq_true, Bool.or_eq_true, decide_eq_true_eq, Nat.add_sub_cancel] at h1
    have h2 : Op.bytesLess (es.getD j entD).1.toList (es.getD (j + 1) entD).1.toList = true := by
      rcases h1.2 with h0 | h2
      · omega
      · exact h2
    rcases (show i < j ∨ i = j by omega) with h3 | rfl
    · exact less_trans (ih i h3 (by omega)) h2
    · exact h2
theorem wf_numM {x : Int} (h : 0 ≤ x ∧ x ≤ 1001) : (Lit.int .i64 x).wf = true := by
  obtain ⟨k, rfl⟩ : ∃ k : Nat, x = (k : Int) := ⟨x.toNat, by omega⟩
  exact WalkArith.wf_i64 (by omega)
theorem dirFor_ok {ds : List InoD} {s : ByteArray} {D : InoD} (h : dirFor ds s = (D, 0)) : badK 1 ds (strB (parentOf s.data.toList).1) = (D, 0) ∧ entOf (strB (parentOf s.data.toList).2.1) D.ents = 0 := by
  unfold dirFor at h
  split at h
  · cases h
  · split at h
    · rename_i h1
      exact absurd (congrArg Prod.snd h) h1
    · rename_i h1
      split at h
      · cases h
      · rename_i h2
        have e := congrArg Prod.fst h
        dsimp only at e
        have h1' : (badK 1 ds (strB (parentOf s.data.toList).1)).2 = 0 := Classical.byContradiction fun c => h1 c
        have h2' : entOf (strB (parentOf s.data.toList).2.1) (badK 1 ds (strB (parentOf s.data.toList).1)).1.ents = 0 := Classical.byContradiction fun c => h2 c
        rw [e] at h2'
        exact ⟨Prod.ext e h1', h2'⟩
theorem entOf_zero {nm : ByteArray} : ∀ {es : List (ByteArray × Int)}, entOf nm es = 0 → (∀ e ∈ es, e.2 ≠ 0) → ∀ e ∈ es, e.1 ≠ nm
  | [], _, _, e, he => by cases he
  | q :: es, h, hz, e, he => by
    unfold entOf at h
    by_cases hq : q.1 = nm
    · rw [if_pos hq] at h
      exact absurd h (hz q (List.mem_cons_self ..))
    · rw [if_neg hq] at h
      rcases List.mem_cons.1 he with rfl | he
      · exact hq
      · exact entOf_zero h (fun x hx => hz x (List.mem_cons_of_mem _ hx)) e he
theorem ents_mono {es : List (ByteArray × Int)} (h : entsOk es = true) (z : ByteArray) : ∀ (i j : Nat) (hi : i < es.length) (hj : j < es.length), i ≤ j → Op.bytesLess es[j].1.toList z.toList = true → Op.bytesLess es[i].1.toList z.toList = true := fun i j hi hj hij hz => by
  rcases Nat.lt_or_eq_of_le hij with h1 | rfl
  · have := ents_ascM h j i h1 hj
    simp [hi, hj] at this
    exact less_trans this hz
  · exact hz
/-- What makeInode answers. -/
def makeC (nx : Int) (ds : List InoD) (p : ByteArray) : Int := if (dirFor ds p).2 ≠ 0 then (dirFor ds p).2 else if 10 ≤ (dirFor ds p).1.ents.length ∨ 30 ≤ ds.length ∨ 1000 ≤ nx then 5 else 0
def makeT (nx : Int) (ds : List InoD) (p : ByteArray) (kd : Int) : List InoD := setD (setD ds { (dirFor ds p).1 with ents := insBy (fun q => gtS (strB (parentOf p.data.toList).2.1) q.1) (dirFor ds p).1.ents (strB (parentOf p.data.toList).2.1, nx) }) ⟨nx, kd, 1, [], [], []⟩
set_option maxRecDepth 100000 in
set_option maxHeartbeats 4000000 in
theorem makeInodeI (a : Option Addr) (n cap : Nat) (nx : Int) (rs : List InoR) (p : ByteArray) (kd : Int) (w : World) (ht : TR w a n rs) (htr : treeD nx (rs.map InoR.D) = true) (hkd : kd = 1 ∨ kd = 2) (hs : p.size ≤ 1048576) (hps : (strB (parentOf p.data.toList).1).size ≤ 1048576) (hnz : (strB (parentOf p.data.toList).2.1).size ≤ 1048576) :
    Calls Tryz.prog 204 #[.agg #[.slice a n cap, .int .i64 nx], .string p, .int .i64 kd] w fun e w' => EMeth w (nx + 1) (makeT nx (rs.map InoR.D) p kd) (makeC nx (rs.map InoR.D) p) e w' := by
  have B0 : Below w.heap.size w ((w.alloc (.cells #[.slice a n cap, .int .i64 nx] 47)).alloc (.cells #[.slice none 0 0, .int .i64 0] 47)) := ((Below.refl _ w).alloc (Nat.le_refl _) _).alloc (by simp) _
  have zT := (Blk.new w 47 #[.slice a n cap, .int .i64 nx]).alloc (.cells #[.slice none 0 0, .int .i64 0] 47)
  have zR := Blk.new (w.alloc (.cells #[.slice a n cap, .int .i64 nx] 47)) 47 #[.slice none 0 0, .int .i64 0]
  simp only [World.size_alloc] at zR
  obtain ⟨hK, hwf, hwe⟩ := tree_facts htr
  have HTR : Hid _ := htr
  have hlen : (rs.map InoR.D).length = n := by rw [List.length_map, ht.len]
  obtain ⟨ds, hds⟩ : ∃ ds, rs.map InoR.D = ds := ⟨_, rfl⟩
  have hcF := fun (W : World) (hW : Below w.heap.size w W) => dirForI a n cap nx rs p W (ht.keep hW) hK hwf hwe (by omega)
  rw [hds] at hlen hcF HTR ⊢
  have HDS : Hid _ := hds
  obtain ⟨CO, hCO⟩ : ∃ c, makeC nx ds p = c := ⟨_, rfl⟩
  obtain ⟨TT, hTT⟩ : ∃ c, makeT nx ds p kd = c := ⟨_, rfl⟩
  rw [hCO, hTT]
  unfold makeC at hCO
  unfold makeT at hTT
  rw [hlen] at hCO
  have HT : Hid _ := ht
  have HKK : Hid (∀ D ∈ ds, D.kind = 1 ∨ D.kind = 2) := fun D hD => by rw [← hds] at hD; obtain ⟨r, hr, rfl⟩ := List.mem_map.1 hD; exact hK r hr
  have HWF : Hid (∀ D ∈ ds, (Lit.int .i64 D.ino).wf = true) := fun D hD => by rw [← hds] at hD; obtain ⟨r, hr, rfl⟩ := List.mem_map.1 hD; exact hwf r hr
  have HWE : Hid (∀ D ∈ ds, ∀ e ∈ D.ents, (Lit.int .i64 e.2).wf = true) := fun D hD => by rw [← hds] at hD; obtain ⟨r, hr, rfl⟩ := List.mem_map.1 hD; exact hwe r hr
  have HSM : Hid (∀ D ∈ ds, InoSmall D) := fun D hD => by rw [← hds] at hD; obtain ⟨r, hr, rfl⟩ := List.mem_map.1 hD; exact ht.small r hr
  have HOK : Hid (dirFor ds p = dirFor ds p) := rfl
  obtain ⟨D, c, hDc⟩ : ∃ D c, dirFor ds p = (D, c) := ⟨_, _, rfl⟩
  have HDC : Hid _ := hDc
  rw [hDc] at hcF hCO hTT
  dsimp only at hcF hCO hTT
  have HTT : Hid _ := hTT
  have HLL : Hid _ := hlen
  have t0 := zT.cell 0
  have t1 := zT.cell 1
  simp at t0 t1
  clear hDc hTT ht hK hwf hwe hds htr HOK hlen
  go_enter Tryz.func204, Tryz.ntmps204
  go_wp2_with fail
  obtain ⟨Wz, hWz⟩ : ∃ W, ((w.alloc (.cells #[.slice a n cap, .int .i64 nx] 47)).alloc (.cells #[.slice none 0 0, .int .i64 0] 47)) = W := ⟨_, rfl⟩
  rw [hWz] at B0 zT zR ⊢
  clear hWz t0 t1
  (with_reducible refine (hcF Wz B0).mono ?_)
  rintro e w2 ⟨b1, d1, b2, d2, b3, d3, rfl, g2, bb2⟩
  have zt := (zT.keep bb2).alloc (.cells #[.int .i64 D.ino, .int .i64 D.kind, .int .i64 D.links, .slice b1 D.data.length d1, .slice b2 D.ents.length d2, .slice b3 D.attrs.length d3] 68)
  have zr := (zR.keep bb2).alloc (.cells #[.int .i64 D.ino, .int .i64 D.kind, .int .i64 D.links, .slice b1 D.data.length d1, .slice b2 D.ents.length d2, .slice b3 D.attrs.length d3] 68)
  have hb2 := B0.trans (bb2.mono B0.size)
  have hb3 := hb2.alloc hb2.size (.cells #[.int .i64 D.ino, .int .i64 D.kind, .int .i64 D.links, .slice b1 D.data.length d1, .slice b2 D.ents.length d2, .slice b3 D.attrs.length d3] 68)
  have zX := Blk.new w2 68 #[.int .i64 D.ino, .int .i64 D.kind, .int .i64 D.links, .slice b1 D.data.length d1, .slice b2 D.ents.length d2, .slice b3 D.attrs.length d3]
  have hsR : w.heap.size + 1 < w2.heap.size := (zR.keep bb2).lt
  obtain ⟨X, hX⟩ : ∃ X, w2.heap.size = X := ⟨_, rfl⟩
  obtain ⟨W3, hW3⟩ : ∃ W, w2.alloc (.cells #[.int .i64 D.ino, .int .i64 D.kind, .int .i64 D.links, .slice b1 D.data.length d1, .slice b2 D.ents.length d2, .slice b3 D.attrs.length d3] 68) = W := ⟨_, rfl⟩
  rw [hW3] at zt zr hb3 zX
  rw [hX] at zX
  have HZT : Hid _ := zt
  have HZR : Hid _ := zr
  have HB3 : Hid _ := hb3
  have t0 := zt.cell 0
  have t1 := zt.cell 1
  have r0 := zr.cell 0
  have r1 := zr.cell 1
  have f0 := zr.frozen 0
  have f1 := zr.frozen 1
  obtain ⟨x0, x1, x2, x3, x4, x5⟩ := zX.six
  simp at t0 t1 r0 r1
  clear hcF zT zR g2 bb2 hb2 B0 zt zr hb3 zX
  by_cases hc0 : c = 0
  · subst hc0
    rw [if_neg (by simp)] at hCO
    rw [errV_zero]
    obtain ⟨hbk, hen⟩ := dirFor_ok HDC.out
    obtain ⟨m, hm⟩ : ∃ m, D.ents.length = m := ⟨_, rfl⟩
    have HBK : Hid _ := hbk
    have HEN : Hid _ := hen
    have HM : Hid _ := hm
    rw [hm] at hCO x4 hW3 ⊢
    clear hbk hen hm
    by_cases hfull : 10 ≤ m ∨ 30 ≤ n ∨ 1000 ≤ nx
    · rw [if_pos hfull] at hCO
      subst hCO
      have hc0 : (5 : Int) ≠ 0 := by decide
      rcases Nat.lt_or_ge m 10 with h10 | h10
      · have h10i : ¬ (10 : Int) ≤ (m : Int) := by omega
        have h10k : (m : Int) < 10 := by omega
        have h10j : ¬ (m : Int) ≥ 10 := by omega
        rcases Nat.lt_or_ge n 30 with h30 | h30
        · have h30i : ¬ (30 : Int) ≤ (n : Int) := by omega
          have h30k : (n : Int) < 30 := by omega
          have h30j : ¬ (n : Int) ≥ 30 := by omega
          have hnx : (1000 : Int) ≤ nx := by omega
          have hnxk : ¬ nx < 1000 := by omega
          have hnxj : nx ≥ 1000 := hnx
          have hend : Hid (EMeth w (nx + 1) TT 5 (.returned (.tuple #[.agg #[.slice none 0 0, .int .i64 0], .iface 139 (.int .i64 5)])) ((W3.setCell ⟨w.heap.size + 1, 0, none⟩ (.slice none 0 0)).setCell ⟨w.heap.size + 1, 1, none⟩ (.int .i64 0))) := eMeth_no (by first | decide | exact hc0) ((HB3.out.setCell (p := ⟨w.heap.size + 1, 0, none⟩) (by show _ ≤ w.heap.size + 1; omega) _).setCell (p := ⟨w.heap.size + 1, 1, none⟩) (by show _ ≤ w.heap.size + 1; omega) _)
          have zf := blk2 HZR.out (.slice none 0 0) (.int .i64 0)
          have dd0 := zf.cell 0
          have dd1 := zf.cell 1
          simp at dd0 dd1
          clear zf
          go_wp2
          refine bodyPost_ret (v := .tuple #[.agg #[.slice none 0 0, .int .i64 0], .iface 139 (.int .i64 5)]) (by simp [results, Tryz.f204, go_sem, dd0, dd1]) rfl ?_
          exact hend.out
        · have h30i : (30 : Int) ≤ (n : Int) := by omega
          have h30k : ¬ (n : Int) < 30 := by omega
          have h30j : (n : Int) ≥ 30 := by omega
          have hend : Hid (EMeth w (nx + 1) TT 5 (.returned (.tuple #[.agg #[.slice none 0 0, .int .i64 0], .iface 139 (.int .i64 5)])) ((W3.setCell ⟨w.heap.size + 1, 0, none⟩ (.slice none 0 0)).setCell ⟨w.heap.size + 1, 1, none⟩ (.int .i64 0))) := eMeth_no (by first | decide | exact hc0) ((HB3.out.setCell (p := ⟨w.heap.size + 1, 0, none⟩) (by show _ ≤ w.heap.size + 1; omega) _).setCell (p := ⟨w.heap.size + 1, 1, none⟩) (by show _ ≤ w.heap.size + 1; omega) _)
          have zf := blk2 HZR.out (.slice none 0 0) (.int .i64 0)
          have dd0 := zf.cell 0
          have dd1 := zf.cell 1
          simp at dd0 dd1
          clear zf
          go_wp2
          refine bodyPost_ret (v := .tuple #[.agg #[.slice none 0 0, .int .i64 0], .iface 139 (.int .i64 5)]) (by simp [results, Tryz.f204, go_sem, dd0, dd1]) rfl ?_
          exact hend.out
      · have h10i : (10 : Int) ≤ (m : Int) := by omega
        have h10k : ¬ (m : Int) < 10 := by omega
        have h10j : (m : Int) ≥ 10 := by omega
        have hend : Hid (EMeth w (nx + 1) TT 5 (.returned (.tuple #[.agg #[.slice none 0 0, .int .i64 0], .iface 139 (.int .i64 5)])) ((W3.setCell ⟨w.heap.size + 1, 0, none⟩ (.slice none 0 0)).setCell ⟨w.heap.size + 1, 1, none⟩ (.int .i64 0))) := eMeth_no (by first | decide | exact hc0) ((HB3.out.setCell (p := ⟨w.heap.size + 1, 0, none⟩) (by show _ ≤ w.heap.size + 1; omega) _).setCell (p := ⟨w.heap.size + 1, 1, none⟩) (by show _ ≤ w.heap.size + 1; omega) _)
        have zf := blk2 HZR.out (.slice none 0 0) (.int .i64 0)
        have dd0 := zf.cell 0
        have dd1 := zf.cell 1
        simp at dd0 dd1
        clear zf
        go_wp2
        refine bodyPost_ret (v := .tuple #[.agg #[.slice none 0 0, .int .i64 0], .iface 139 (.int .i64 5)]) (by simp [results, Tryz.f204, go_sem, dd0, dd1]) rfl ?_
        exact hend.out
    rw [if_neg hfull] at hCO
    subst hCO
    have h10i : ¬ (10 : Int) ≤ (m : Int) := by omega
    have h10k : (m : Int) < 10 := by omega
    have h10j : ¬ (m : Int) ≥ 10 := by omega
    have h30i : ¬ (30 : Int) ≤ (n : Int) := by omega
    have h30k : (n : Int) < 30 := by omega
    have h30j : ¬ (n : Int) ≥ 30 := by omega
    have hnxi : ¬ (1000 : Int) ≤ nx := by omega
    have hnxk : nx < 1000 := by omega
    have hnxj : ¬ nx ≥ 1000 := by omega
    have htab := tabD_ok (treeD_parts HTR.out).1
    have hnx2 := htab.2.2.1
    have HNEW : Hid (∀ E ∈ ds, E.ino < nx) := fun E hE => (htab.2.2.2.2.1 E hE).2
    have hwfn : (Lit.int .i64 nx).wf = true := wf_numM ⟨by omega, by omega⟩
    have hsN : InoSmall (⟨nx, kd, 1, [], [], []⟩ : InoD) := ⟨Nat.zero_le _, Nat.zero_le _, Nat.zero_le _, fun _ h => (List.not_mem_nil h).elim, fun _ h => (List.not_mem_nil h).elim⟩
    have hrN : InoRd W3 (⟨nx, kd, 1, [], [], []⟩ : InoD) none none none := ⟨.inl rfl, fun _ h => (List.not_mem_nil h).elim, .inl rfl, .inl rfl⟩
    have hcS := setI a n cap nx rs ⟨nx, kd, 1, [], [], []⟩ none none none 0 0 0 W3 HT.out.len HT.out.n hwfn (fun r hr => HWF.out r.D (by rw [← HDS.out]; exact List.mem_map_of_mem hr)) HT.out.small hsN (RdI.keep HT.out.rd HB3.out) hrN
    dsimp only [List.length_nil] at hcS
    have HSN : Hid _ := hsN
    clear hwfn hsN hrN htab
    go_wp2_with fail
    (with_reducible refine hcS.mono ?_)
    intro e w6 hp6
    obtain ⟨v6, rfl, ht6⟩ := hp6.tab
    rw [setD_eq, HDS.out] at ht6
    dsimp only at ht6
    have hsm' : ∀ E ∈ setD ds ⟨nx, kd, 1, [], [], []⟩, InoSmall E := fun E hE => by
      rcases setD_memC hE with rfl | hE
      · exact HSN.out
      · exact HSM.out E hE
    obtain ⟨ra, rn, rc, rs', rfl, hT6, hrs', b6⟩ := ht6.tr hsm' (by have := setD_lenC ds ⟨nx, kd, 1, [], [], []⟩; have := HLL.out; omega)
    have hbA : Below w6.heap.size w6 (w6.alloc (.cells #[.slice ra rn rc, .int .i64 nx] 47)) := (Below.refl _ w6).alloc (Nat.le_refl _) _
    have hbM := hbA.setCell (p := ⟨w6.heap.size, 1, none⟩) (Nat.le_refl _) (.int .i64 (nx + 1))
    have zM := Blk.new w6 47 #[.slice ra rn rc, .int .i64 nx]
    have zt6 := Blk.keep HZT.out b6
    have zr6 := Blk.keep HZR.out b6
    have hb6 : Below w.heap.size w w6 := HB3.out.trans (b6.mono HB3.out.size)
    have hltT := zt6.lt
    have hltR := zr6.lt
    have zt8 := (zt6.alloc (.cells #[.slice ra rn rc, .int .i64 nx] 47)).other (B' := w6.heap.size) (by omega) 1 (.int .i64 (nx + 1))
    have zr8 := (zr6.alloc (.cells #[.slice ra rn rc, .int .i64 nx] 47)).other (B' := w6.heap.size) (by omega) 1 (.int .i64 (nx + 1))
    have zM8 := zM.set 1 (.int .i64 (nx + 1))
    have m0 := zM.cell 0
    have m1 := zM.cell 1
    have mf := zM.frozen 1
    simp at m0 m1
    have hwn : IntKind.i64.wrap (nx + 1) = nx + 1 := by rw [IntKind.wrap_i64]; omega
    have hb8 : Below w.heap.size w ((w6.alloc (.cells #[.slice ra rn rc, .int .i64 nx] 47)).setCell ⟨w6.heap.size, 1, none⟩ (.int .i64 (nx + 1))) := hb6.trans (hbM.mono hb6.size)
    obtain ⟨nm, hnm⟩ : ∃ z, strB (parentOf p.data.toList).2.1 = z := ⟨_, rfl⟩
    have hDm : D ∈ ds := by
      have := @badK_mem 1 ds (strB (parentOf p.data.toList).1)
      rw [HBK.out] at this
      exact this rfl
    have hok := ok_parts ((tabD_ok (treeD_parts HTR.out).1).2.2.2.2.1 D hDm).1
    have hlk : look ds nx = none := by
      cases hl : look ds nx with
      | none => rfl
      | some E => have h1 := look_mem hl; have h2 := HNEW.out E h1.1; omega
    have hbk' : badK 1 (rs'.map InoR.D) (strB (parentOf p.data.toList).1) = (D, 0) := by
      rw [hrs', badK_new (N := ⟨nx, kd, 1, [], [], []⟩) hlk (fun E hE => ((treeD_parts HTR.out).2.2 E hE).2) (by show nx ≠ 1; omega) (by show nx ≠ 0; omega)]
      exact HBK.out
    have hall : ∀ r ∈ rs', r.D = ⟨nx, kd, 1, [], [], []⟩ ∨ r.D ∈ ds := fun r hr => by
      have h1 : r.D ∈ rs'.map InoR.D := List.mem_map_of_mem hr
      rw [hrs'] at h1
      exact setD_memC h1
    have hK' : ∀ r ∈ rs', r.D.kind = 1 ∨ r.D.kind = 2 := fun r hr => (hall r hr).elim (fun h => by rw [h]; exact hkd) (fun h => HKK.out _ h)
    have hwf' : ∀ r ∈ rs', (Lit.int .i64 r.D.ino).wf = true := fun r hr => (hall r hr).elim (fun h => by rw [h]; show (Lit.int .i64 nx).wf = true; exact wf_numM ⟨by omega, by omega⟩) (fun h => HWF.out _ h)
    have hwe' : ∀ r ∈ rs', ∀ e ∈ r.D.ents, (Lit.int .i64 e.2).wf = true := fun r hr => (hall r hr).elim (fun h => by rw [h]; exact fun _ h => (List.not_mem_nil h).elim) (fun h => HWE.out _ h)
    have hE' : ∀ r ∈ rs', r.D.ents.length ≤ 100 := fun r hr => (hall r hr).elim (fun h => by rw [h]; exact Nat.zero_le _) (fun h => by have := (entsOk_at (ok_parts ((tabD_ok (treeD_parts HTR.out).1).2.2.2.2.1 _ h).1).2.2.1).1; omega)
    have hno' : ∀ e ∈ D.ents, (e.1.toList == (strB (parentOf p.data.toList).2.1).toList) = false := fun e he => str_ne (entOf_zero HEN.out (fun q hq => by
      have h1 := ((treeD_parts HTR.out).2.2 D hDm).2 q hq
      cases hl : look ds q.2 with
      | none => rw [hl] at h1; cases h1
      | some E =>
        have h2 := look_mem hl
        have h3 := ((tabD_ok (treeD_parts HTR.out).1).2.2.2.2.1 E h2.1).1
        unfold inoOk at h3
        simp only [Bool.and_eq_true, decide_eq_true_eq] at h3
        omega) e he)
    have hcE := withI ra rn rc (nx + 1) rs' p nx _ (hT6.keep hbM) hK' hwf' hwe' hE' (by omega) (by omega) D hbk' hnz hno' (ents_mono hok.2.2.1 _)
    rw [hrs', set_two (N := ⟨nx, kd, 1, [], [], []⟩) (D' := { D with ents := insBy (fun q => gtS (strB (parentOf p.data.toList).2.1) q.1) D.ents (strB (parentOf p.data.toList).2.1, nx) }) (fun E hE => HNEW.out E hE) ⟨D, hDm, rfl⟩, HTT.out] at hcE
    clear hK' hwf' hwe' hE' hno'
    obtain ⟨W8, hW8⟩ : ∃ W, ((w6.alloc (.cells #[.slice ra rn rc, .int .i64 nx] 47)).setCell ⟨w6.heap.size, 1, none⟩ (.int .i64 (nx + 1))) = W := ⟨_, rfl⟩
    rw [hW8] at hcE hb8 zt8 zr8 zM8
    have HB8 : Hid _ := hb8
    have HZR8 : Hid _ := zr8
    have t0 := zt8.cell 0
    have t1 := zt8.cell 1
    have m2 := zM8.cell 0
    have m3 := zM8.cell 1
    simp at t0 t1 m2 m3
    clear hcS hp6 ht6 hsm' hT6 hrs' b6 hbA hbM zM zt6 zr6 hb6 zt8 zr8 zM8 hb8 hDm hok hlk hbk' hall x0 x1 x2 x3 x4 x5 r0 r1 f0 f1 hnm
    go_wp2_with fail
    (with_reducible refine hcE.mono ?_)
    rintro e w9 ⟨v9, rfl, ht9⟩
    have ht9' := ht9
    obtain ⟨ra9, rc9, js9, rfl, _, b9⟩ := ht9'
    obtain ⟨rn9, hrn⟩ : ∃ k, js9.length = k := ⟨_, rfl⟩
    rw [hrn] at ht9 ⊢
    have HFIN : Hid (EMeth w (nx + 1) TT 0 (.returned (.tuple #[.agg #[.slice ra9 rn9 rc9, .int .i64 (nx + 1)], .nilIface])) ((w9.setCell ⟨w.heap.size + 1, 0, none⟩ (.slice ra9 rn9 rc9)).setCell ⟨w.heap.size + 1, 1, none⟩ (.int .i64 (nx + 1)))) := eMeth_yes ht9 HB8.out (by omega) HZR8.out
    have zr9 := Blk.keep HZR8.out b9
    have r0 := zr9.cell 0
    have r1 := zr9.cell 1
    have f0 := zr9.frozen 0
    have f1 := zr9.frozen 1
    simp at r0 r1
    have zf := blk2 zr9 (.slice ra9 rn9 rc9) (.int .i64 (nx + 1))
    have dd0 := zf.cell 0
    have dd1 := zf.cell 1
    simp at dd0 dd1
    clear hcE ht9 zf zr9 b9 t0 t1 m0 m1 m2 m3 mf hrn
    go_wp2
    refine bodyPost_ret (v := .tuple #[.agg #[.slice ra9 rn9 rc9, .int .i64 (nx + 1)], .nilIface]) (by simp [results, Tryz.f204, go_sem, dd0, dd1]) rfl ?_
    exact HFIN.out
  · rw [if_pos hc0] at hCO
    subst hCO
    rw [errV_some hc0]
    have hend : Hid (EMeth w (nx + 1) TT c (.returned (.tuple #[.agg #[.slice none 0 0, .int .i64 0], .iface 139 (.int .i64 c)])) ((W3.setCell ⟨w.heap.size + 1, 0, none⟩ (.slice none 0 0)).setCell ⟨w.heap.size + 1, 1, none⟩ (.int .i64 0))) := eMeth_no (by first | decide | exact hc0) ((HB3.out.setCell (p := ⟨w.heap.size + 1, 0, none⟩) (by show _ ≤ w.heap.size + 1; omega) _).setCell (p := ⟨w.heap.size + 1, 1, none⟩) (by show _ ≤ w.heap.size + 1; omega) _)
    have zf := blk2 HZR.out (.slice none 0 0) (.int .i64 0)
    have dd0 := zf.cell 0
    have dd1 := zf.cell 1
    simp at dd0 dd1
    clear zf
    go_wp2
    refine bodyPost_ret (v := .tuple #[.agg #[.slice none 0 0, .int .i64 0], .iface 139 (.int .i64 c)]) (by simp [results, Tryz.f204, go_sem, dd0, dd1]) rfl ?_
    exact hend.out
end
end Go.Proofs.YtbjfihabkpianaaGreatDoor
