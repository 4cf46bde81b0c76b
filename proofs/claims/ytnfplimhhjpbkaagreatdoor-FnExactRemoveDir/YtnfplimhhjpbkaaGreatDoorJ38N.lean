/-
  Joined: ChangedI, FileI, Make6, Cut6.
-/
import Derived.Test.YtnfplimhhjpbkaaGreatDoorJ36N
import Derived.Test.YtnfplimhhjpbkaaGreatDoorJ37N
namespace Go.Proofs.YtnfplimhhjpbkaaGreatDoor
section
open Go.RowKit
/-- What is known of the inodes of a tree. -/
theorem tree_facts {nx : Int} {rs : List InoR} (h : treeD nx (rs.map InoR.D) = true) : (∀ r ∈ rs, r.D.kind = 1 ∨ r.D.kind = 2) ∧ (∀ r ∈ rs, (Lit.int .i64 r.D.ino).wf = true) ∧ ∀ r ∈ rs, ∀ e ∈ r.D.ents, (Lit.int .i64 e.2).wf = true := by
  have h1 := (treeD_parts h).1
  refine ⟨fun r hr => ?_, fun r hr => ?_, fun r hr => tab_wf h1 r.D (List.mem_map_of_mem hr)⟩
  · have h2 := ((tabD_ok h1).2.2.2.2.1 r.D (List.mem_map_of_mem hr)).1
    have h3 := (ok_parts h2).2.2.2.1
    unfold kindR at h3
    simp only [Bool.or_eq_true, Bool.and_eq_true, decide_eq_true_eq] at h3
    rcases h3 with h3 | h3
    · exact .inl h3.1
    · exact .inr h3.1
  · have h2 := ((tabD_ok h1).2.2.2.2.1 r.D (List.mem_map_of_mem hr)).1
    unfold inoOk at h2
    simp only [Bool.and_eq_true, decide_eq_true_eq] at h2
    have h3 := h2.1.1.1.1.1.1
    obtain ⟨k, hk⟩ : ∃ k : Nat, r.D.ino = (k : Int) := ⟨r.D.ino.toNat, by omega⟩
    rw [hk]
    exact WalkArith.wf_i64 (by omega)
/-- What a method answers: a table and a code as an error. -/
def EMeth (w : World) (nx : Int) (ds : List InoD) (c : Int) (e : Ending) (w' : World) : Prop :=
  ∃ (ra : Option Addr) (rn rc : Nat) (rx : Int), e = .returned (.tuple #[.agg #[.slice ra rn rc, .int .i64 rx], errV c]) ∧ Below w.heap.size w w' ∧ (c = 0 → TabAt w nx ds (.agg #[.slice ra rn rc, .int .i64 rx]) w')
theorem copyT {w W V : World} {n : Nat} {nx : Int} {rs : List InoR} {e : Ending} {R : Nat} {u0 u1 : Value} (h : CopyTPost W n nx rs e V) (hb : Below w.heap.size w W) (hR : w.heap.size ≤ R) (hz : Blk W R 26 #[u0, u1]) : ∃ (g : Nat), e = .returned (.agg #[.slice (some ⟨g, 0, none⟩) n n, .int .i64 nx]) ∧ Below W.heap.size W V ∧ ∀ (V' : World), Below V.heap.size V V' → ∀ c : Int, TabC w nx (rs.map InoR.D) c (.returned (.tuple #[.agg #[.slice (some ⟨g, 0, none⟩) n n, .int .i64 nx], .int .i64 c])) ((V'.setCell ⟨R, 0, none⟩ (.slice (some ⟨g, 0, none⟩) n n)).setCell ⟨R, 1, none⟩ (.int .i64 nx)) := by
  obtain ⟨g, js, rfl, hl, hq, hbV⟩ := h
  refine ⟨g, rfl, hbV, fun V' hV' c => ?_⟩
  have h1 := ((hq.dqa.keep hV').cong (ds' := (rs.map InoR.D).map lift) (by rw [lift_map])).boxed ((hb.trans (hbV.mono hb.size)).trans (hV'.mono (by have := hb.size; have := hbV.size; omega))) hR hz.lt (.slice (some ⟨g, 0, none⟩) n n) (.int .i64 nx)
  refine ⟨some ⟨g, 0, none⟩, n, js, ?_, ?_, h1.2⟩
  · rw [hl]
  · rw [hl]
    exact h1.1
theorem methT {w W V : World} {nx : Int} {ds : List InoD} {v0 v1 : Value} {R : Nat} {u0 u1 : Value} (h : TabAt W nx ds (.agg #[v0, v1]) V) (hb : Below w.heap.size w W) (hR : w.heap.size ≤ R) (hz : Blk W R 26 #[u0, u1]) : ∀ (V' : World), Below V.heap.size V V' → TabC w nx ds 0 (.returned (.tuple #[.agg #[v0, v1], .int .i64 0])) ((V'.setCell ⟨R, 0, none⟩ v0).setCell ⟨R, 1, none⟩ v1) := by
  obtain ⟨a, c, js, hv, hq, hbV⟩ := h
  intro V' hV'
  have h1 := (hq.keep hV').boxed ((hb.trans (hbV.mono hb.size)).trans (hV'.mono (by have := hb.size; have := hbV.size; omega))) hR hz.lt v0 v1
  exact ⟨a, c, js, by rw [hv], h1.1, h1.2⟩
/-- What is known behind the method's call: its table in a box of the call's own. -/
structure CHR (w1 : World) (nx : Int) (ds : List InoD) (c : Int) (A : Nat) (v0 v1 : Value) (wx : World) : Prop where
  lo : w1.heap.size ≤ A
  z : Blk wx A 26 #[v0, v1]
  b : Below w1.heap.size w1 wx
  tab : c = 0 → TabAt w1 nx ds (.agg #[v0, v1]) wx
theorem chr_new {w1 W V : World} {nx : Int} {ds : List InoD} {c : Int} {v0 v1 : Value} (B : Below w1.heap.size w1 V) (_b : Below W.heap.size W V) (hl : w1.heap.size ≤ W.heap.size) (t : c = 0 → TabAt W nx ds (.agg #[v0, v1]) V) : CHR w1 nx ds c V.heap.size v0 v1 (V.alloc (.cells #[v0, v1] 26)) := by
  refine ⟨B.size, Blk.new V _ _, B.alloc B.size _, fun h => ?_⟩
  obtain ⟨a, cc, js, hv, hq, _⟩ := t h
  exact ⟨a, cc, js, hv, (hq.keep ((Below.refl _ V).alloc (Nat.le_refl _) _)).lower hl, B.alloc B.size _⟩
theorem chr_old {w1 W V : World} {nx : Int} {ds : List InoD} {c : Int} {v0 v1 u0 u1 : Value} {A : Nat} (B : Below w1.heap.size w1 V) (hA : w1.heap.size ≤ A) (z : Blk V A 26 #[u0, u1]) (hW : A < W.heap.size) (t : c = 0 → TabAt W nx ds (.agg #[v0, v1]) V) : CHR w1 nx ds c A v0 v1 ((V.setCell ⟨A, 0, none⟩ v0).setCell ⟨A, 1, none⟩ v1) := by
  have hb := (B.setCell (p := ⟨A, 0, none⟩) hA v0).setCell (p := ⟨A, 1, none⟩) hA v1
  refine ⟨hA, blk2 z v0 v1, hb, fun h => ?_⟩
  obtain ⟨a, cc, js, hv, hq, _⟩ := t h
  exact ⟨a, cc, js, hv, ((hq.setX hW 0 v0).setX hW 1 v1).lower (by omega), hb⟩
theorem changesI (w : World) : Calls Tryz.prog 132 #[] w fun e w' => e = .returned (.agg #[.func (.func 178) #[] #[], .func (.func 179) #[] #[], .func (.func 180) #[] #[], .func (.func 181) #[] #[], .func (.func 182) #[] #[], .func (.func 183) #[] #[], .func (.func 184) #[] #[], .func (.func 185) #[] #[], .func (.func 186) #[] #[]]) ∧ Below w.heap.size w w' := by
  have hend : Hid (Below w.heap.size w (w.alloc (.cells #[.func (.func 178) #[] #[], .func (.func 179) #[] #[], .func (.func 180) #[] #[], .func (.func 181) #[] #[], .func (.func 182) #[] #[], .func (.func 183) #[] #[], .func (.func 184) #[] #[], .func (.func 185) #[] #[], .func (.func 186) #[] #[]] 149))) := (Below.refl _ w).alloc (Nat.le_refl _) _
  have zf := Blk.new w 149 #[.func (.func 178) #[] #[], .func (.func 179) #[] #[], .func (.func 180) #[] #[], .func (.func 181) #[] #[], .func (.func 182) #[] #[], .func (.func 183) #[] #[], .func (.func 184) #[] #[], .func (.func 185) #[] #[], .func (.func 186) #[] #[]]
  go_enter Tryz.func132, Tryz.ntmps132
  have hsf := fun (F : Nat) (a : Addr) (w : World) => run_store Tryz.prog w a (.func (.func F) #[] #[]) .plain rfl
  have d0 := zf.cell 0
  have d1 := zf.cell 1
  have d2 := zf.cell 2
  have d3 := zf.cell 3
  have d4 := zf.cell 4
  have d5 := zf.cell 5
  have d6 := zf.cell 6
  have d7 := zf.cell 7
  have d8 := zf.cell 8
  simp at d0 d1 d2 d3 d4 d5 d6 d7 d8
  clear zf
  go_wp2
  refine bodyPost_ret (v := .agg #[.func (.func 178) #[] #[], .func (.func 179) #[] #[], .func (.func 180) #[] #[], .func (.func 181) #[] #[], .func (.func 182) #[] #[], .func (.func 183) #[] #[], .func (.func 184) #[] #[], .func (.func 185) #[] #[], .func (.func 186) #[] #[]]) (by simp [results, Tryz.f132, go_sem]) rfl ?_
  exact ⟨rfl, hend.out⟩
end

section
open Go.RowKit
/-- The inode of a path, but one of this kind. -/
def badK (k : Int) (ds : List InoD) (s : ByteArray) : InoD × Int := if (statD ds s).2 = 0 ∧ (statD ds s).1.kind = k then (inoZ.D, 3) else statD ds s
theorem badK_file {ds : List InoD} (h : ∀ D ∈ ds, D.kind = 1 ∨ D.kind = 2) (s : ByteArray) : badK 2 ds s = fileD ds s := by
  unfold badK fileD
  by_cases h0 : (statD ds s).2 = 0
  · have hm : (statD ds s).1 ∈ ds := by
      revert h0
      unfold statD
      split
      · split
        · intro h; simp at h
        · rename_i D hD
          intro _
          exact (look_mem hD).1
      · rename_i hc
        intro h
        exact absurd h hc
    have hk := h _ hm
    by_cases h2 : (statD ds s).1.kind = 2
    · rw [if_pos ⟨h0, h2⟩, if_pos ⟨h0, by omega⟩]
    · rw [if_neg (fun c => h2 c.2), if_neg (fun c => h2 (by omega))]
  · rw [if_neg (fun c => h0 c.1), if_neg (fun c => h0 c.1)]
set_option maxRecDepth 100000 in
set_option maxHeartbeats 4000000 in
theorem fileI (a : Option Addr) (n cap : Nat) (nx : Int) (rs : List InoR) (s : ByteArray) (w : World) (ht : TR w a n rs) (hK : ∀ r ∈ rs, r.D.kind = 1 ∨ r.D.kind = 2) (hwf : ∀ r ∈ rs, (Lit.int .i64 r.D.ino).wf = true) (hwe : ∀ r ∈ rs, ∀ e ∈ r.D.ents, (Lit.int .i64 e.2).wf = true) (hs : s.size ≤ 4000000) :
    Calls Tryz.prog 214 #[.agg #[.slice a n cap, .int .i64 nx], .string s] w fun e w' => EStat w (badK 2 (rs.map InoR.D) s).1 (badK 2 (rs.map InoR.D) s).2 e w' := by
  have B0 : Below w.heap.size w ((w.alloc (.cells #[.slice a n cap, .int .i64 nx] 26)).alloc (.cells #[.int .i64 0, .int .i64 0, .int .i64 0, .slice none 0 0, .slice none 0 0, .slice none 0 0] 66)) := ((Below.refl _ w).alloc (Nat.le_refl _) _).alloc (by simp) _
  have zT : Blk ((w.alloc (.cells #[.slice a n cap, .int .i64 nx] 26)).alloc (.cells #[.int .i64 0, .int .i64 0, .int .i64 0, .slice none 0 0, .slice none 0 0, .slice none 0 0] 66)) w.heap.size 26 #[.slice a n cap, .int .i64 nx] := (Blk.new w _ _).alloc _
  have zR := Blk.new (w.alloc (.cells #[.slice a n cap, .int .i64 nx] 26)) 66 #[.int .i64 0, .int .i64 0, .int .i64 0, .slice none 0 0, .slice none 0 0, .slice none 0 0]
  simp only [World.size_alloc] at zR
  obtain ⟨D, c, hDc⟩ : ∃ D c, statD (rs.map InoR.D) s = (D, c) := ⟨_, _, rfl⟩
  have hp : Hid (∀ (e : Ending) (w' : World) (E : InoD) (q : Int), (if c = 0 ∧ D.kind = 2 then (inoZ.D, (3 : Int)) else (D, c)) = (E, q) → EStat w E q e w' → EStat w (badK 2 (rs.map InoR.D) s).1 (badK 2 (rs.map InoR.D) s).2 e w') := fun e w' E q h hh => by
    unfold badK
    rw [hDc]
    dsimp only
    rw [h]
    exact hh
  generalize EStat w (badK 2 (rs.map InoR.D) s).1 (badK 2 (rs.map InoR.D) s).2 = P at hp ⊢
  go_enter Tryz.func214, Tryz.ntmps214
  go_wp2_with fail
  obtain ⟨W0, hW0⟩ : ∃ W, ((w.alloc (.cells #[.slice a n cap, .int .i64 nx] 26)).alloc (.cells #[.int .i64 0, .int .i64 0, .int .i64 0, .slice none 0 0, .slice none 0 0, .slice none 0 0] 66)) = W := ⟨_, rfl⟩
  rw [hW0] at B0 zT zR ⊢
  clear hW0
  have hcS := statI a n cap nx rs s W0 (ht.keep B0) hK hwf hwe hs
  rw [hDc] at hcS
  dsimp only at hcS
  clear hDc zT ht
  (with_reducible refine hcS.mono ?_)
  rintro e w2 ⟨b1, d1, b2, d2, b3, d3, rfl, g2, bb2⟩
  clear hcS
  have zr := zR.keep bb2
  have hb2 := B0.trans (bb2.mono B0.size)
  have hs1 : w.heap.size + 1 < W0.heap.size := zR.lt
  have z3 := zr.alloc (.cells #[.int .i64 D.ino, .int .i64 D.kind, .int .i64 D.links, .slice b1 D.data.length d1, .slice b2 D.ents.length d2, .slice b3 D.attrs.length d3] 66)
  have hb3 := hb2.alloc hb2.size (.cells #[.int .i64 D.ino, .int .i64 D.kind, .int .i64 D.links, .slice b1 D.data.length d1, .slice b2 D.ents.length d2, .slice b3 D.attrs.length d3] 66)
  have zX := Blk.new w2 66 #[.int .i64 D.ino, .int .i64 D.kind, .int .i64 D.links, .slice b1 D.data.length d1, .slice b2 D.ents.length d2, .slice b3 D.attrs.length d3]
  have g3 := (g2.keep (Nat.le_refl _) ((Below.refl _ w2).alloc (Nat.le_refl _) (.cells #[.int .i64 D.ino, .int .i64 D.kind, .int .i64 D.links, .slice b1 D.data.length d1, .slice b2 D.ents.length d2, .slice b3 D.attrs.length d3] 66))).wider (T' := (w2.alloc (.cells #[.int .i64 D.ino, .int .i64 D.kind, .int .i64 D.links, .slice b1 D.data.length d1, .slice b2 D.ents.length d2, .slice b3 D.attrs.length d3] 66)).heap.size) (Nat.le_refl _) (by simp)
  obtain ⟨t0, t1, t2, t3, t4, t5⟩ := z3.six
  have fz0 := z3.frozen 0
  have fz1 := z3.frozen 1
  have fz2 := z3.frozen 2
  have fz3 := z3.frozen 3
  have fz4 := z3.frozen 4
  have fz5 := z3.frozen 5
  obtain ⟨x0, x1, x2, x3, x4, x5⟩ := zX.six
  obtain ⟨W3, hW3⟩ : ∃ W, w2.alloc (.cells #[.int .i64 D.ino, .int .i64 D.kind, .int .i64 D.links, .slice b1 D.data.length d1, .slice b2 D.ents.length d2, .slice b3 D.attrs.length d3] 66) = W := ⟨_, rfl⟩
  have HZ3 : Hid _ := z3
  have HB3 : Hid _ := hb3
  have HG3 : Hid _ := g3
  rw [hW3] at HZ3 HB3 HG3 t0 t1 t2 t3 t4 t5 fz0 fz1 fz2 fz3 fz4 fz5 x0 x1 x2 x3 x4 x5
  have hfin : Hid ((if c = 0 ∧ D.kind = 2 then (inoZ.D, (3 : Int)) else (D, c)) = (D, c) → P (.returned (.tuple #[.agg #[.int .i64 D.ino, .int .i64 D.kind, .int .i64 D.links, .slice b1 D.data.length d1, .slice b2 D.ents.length d2, .slice b3 D.attrs.length d3], errV c])) ((((((W3.setCell ⟨w.heap.size + 1, 0, none⟩ (.int .i64 D.ino)).setCell ⟨w.heap.size + 1, 1, none⟩ (.int .i64 D.kind)).setCell ⟨w.heap.size + 1, 2, none⟩ (.int .i64 D.links)).setCell ⟨w.heap.size + 1, 3, none⟩ (.slice b1 D.data.length d1)).setCell ⟨w.heap.size + 1, 4, none⟩ (.slice b2 D.ents.length d2)).setCell ⟨w.heap.size + 1, 5, none⟩ (.slice b3 D.attrs.length d3))) := fun h => by
    have hf := at_stored HB3.out HG3.out HZ3.out hs1 (.int .i64 D.ino) (.int .i64 D.kind) (.int .i64 D.links) (.slice b1 D.data.length d1) (.slice b2 D.ents.length d2) (.slice b3 D.attrs.length d3)
    exact hp.out _ _ _ _ h ⟨b1, d1, b2, d2, b3, d3, rfl, hf.1, hf.2⟩
  have HF : Hid _ := blk6 HZ3.out (.int .i64 D.ino) (.int .i64 D.kind) (.int .i64 D.links) (.slice b1 D.data.length d1) (.slice b2 D.ents.length d2) (.slice b3 D.attrs.length d3)
  clear z3 hb3 g3 zr hb2 g2 bb2 zX zR B0
  by_cases hc0 : c = 0
  · subst hc0
    rw [errV_zero]
    by_cases hk : D.kind = 2
    · have hkb : (D.kind == 2) = true := by simp [hk]
      have HE : Hid ((if (0 : Int) = 0 ∧ D.kind = 2 then (inoZ.D, (3 : Int)) else (D, 0)) = (inoZ.D, 3)) := if_pos ⟨rfl, hk⟩
      have HEE : Hid _ := HE
      clear hk
      go_wp2
      have zf := blk6 HZ3.out (.int .i64 0) (.int .i64 0) (.int .i64 0) (.slice none 0 0) (.slice none 0 0) (.slice none 0 0)
      obtain ⟨dd0, dd1, dd2, dd3, dd4, dd5⟩ := zf.six
      refine bodyPost_ret (v := .tuple #[.agg #[.int .i64 0, .int .i64 0, .int .i64 0, .slice none 0 0, .slice none 0 0, .slice none 0 0], .iface 136 (.int .i64 3)]) (by simp [results, Tryz.f214, go_sem, dd0, dd1, dd2, dd3, dd4, dd5]) rfl ?_
      exact hp.out _ _ _ _ HEE.out (eStat_zero rfl (at_stored HB3.out (inoG_zero W3 (w.heap.size + 1 + 1) W3.heap.size) HZ3.out (Nat.lt_succ_self _) _ _ _ _ _ _).2)
    · have hkb : (D.kind == 2) = false := by simpa using hk
      have HE : Hid _ := hfin.out (if_neg (by simp [hk]))
      clear hk
      go_wp2
      obtain ⟨dd0, dd1, dd2, dd3, dd4, dd5⟩ := Blk.six HF.out
      refine bodyPost_ret (v := .tuple #[.agg #[.int .i64 D.ino, .int .i64 D.kind, .int .i64 D.links, .slice b1 D.data.length d1, .slice b2 D.ents.length d2, .slice b3 D.attrs.length d3], .nilIface]) (by simp [results, Tryz.f214, go_sem, dd0, dd1, dd2, dd3, dd4, dd5]) rfl ?_
      exact HE.out
  · have HE : Hid _ := hfin.out (if_neg (by simp [hc0]))
    rw [errV_some hc0] at HE ⊢
    clear hc0
    go_wp2
    obtain ⟨dd0, dd1, dd2, dd3, dd4, dd5⟩ := Blk.six HF.out
    refine bodyPost_ret (v := .tuple #[.agg #[.int .i64 D.ino, .int .i64 D.kind, .int .i64 D.links, .slice b1 D.data.length d1, .slice b2 D.ents.length d2, .slice b3 D.attrs.length d3], .iface 136 (.int .i64 c)]) (by simp [results, Tryz.f214, go_sem, dd0, dd1, dd2, dd3, dd4, dd5]) rfl ?_
    exact HE.out
set_option maxRecDepth 100000 in
set_option maxHeartbeats 4000000 in
theorem dirI (a : Option Addr) (n cap : Nat) (nx : Int) (rs : List InoR) (s : ByteArray) (w : World) (ht : TR w a n rs) (hK : ∀ r ∈ rs, r.D.kind = 1 ∨ r.D.kind = 2) (hwf : ∀ r ∈ rs, (Lit.int .i64 r.D.ino).wf = true) (hwe : ∀ r ∈ rs, ∀ e ∈ r.D.ents, (Lit.int .i64 e.2).wf = true) (hs : s.size ≤ 4000000) :
    Calls Tryz.prog 220 #[.agg #[.slice a n cap, .int .i64 nx], .string s] w fun e w' => EStat w (badK 1 (rs.map InoR.D) s).1 (badK 1 (rs.map InoR.D) s).2 e w' := by
  have B0 : Below w.heap.size w ((w.alloc (.cells #[.slice a n cap, .int .i64 nx] 26)).alloc (.cells #[.int .i64 0, .int .i64 0, .int .i64 0, .slice none 0 0, .slice none 0 0, .slice none 0 0] 66)) := ((Below.refl _ w).alloc (Nat.le_refl _) _).alloc (by simp) _
  have zT : Blk ((w.alloc (.cells #[.slice a n cap, .int .i64 nx] 26)).alloc (.cells #[.int .i64 0, .int .i64 0, .int .i64 0, .slice none 0 0, .slice none 0 0, .slice none 0 0] 66)) w.heap.size 26 #[.slice a n cap, .int .i64 nx] := (Blk.new w _ _).alloc _
  have zR := Blk.new (w.alloc (.cells #[.slice a n cap, .int .i64 nx] 26)) 66 #[.int .i64 0, .int .i64 0, .int .i64 0, .slice none 0 0, .slice none 0 0, .slice none 0 0]
  simp only [World.size_alloc] at zR
  obtain ⟨D, c, hDc⟩ : ∃ D c, statD (rs.map InoR.D) s = (D, c) := ⟨_, _, rfl⟩
  have hp : Hid (∀ (e : Ending) (w' : World) (E : InoD) (q : Int), (if c = 0 ∧ D.kind = 1 then (inoZ.D, (3 : Int)) else (D, c)) = (E, q) → EStat w E q e w' → EStat w (badK 1 (rs.map InoR.D) s).1 (badK 1 (rs.map InoR.D) s).2 e w') := fun e w' E q h hh => by
    unfold badK
    rw [hDc]
    dsimp only
    rw [h]
    exact hh
  generalize EStat w (badK 1 (rs.map InoR.D) s).1 (badK 1 (rs.map InoR.D) s).2 = P at hp ⊢
  go_enter Tryz.func220, Tryz.ntmps220
  go_wp2_with fail
  obtain ⟨W0, hW0⟩ : ∃ W, ((w.alloc (.cells #[.slice a n cap, .int .i64 nx] 26)).alloc (.cells #[.int .i64 0, .int .i64 0, .int .i64 0, .slice none 0 0, .slice none 0 0, .slice none 0 0] 66)) = W := ⟨_, rfl⟩
  rw [hW0] at B0 zT zR ⊢
  clear hW0
  have hcS := statI a n cap nx rs s W0 (ht.keep B0) hK hwf hwe hs
  rw [hDc] at hcS
  dsimp only at hcS
  clear hDc zT ht
  (with_reducible refine hcS.mono ?_)
  rintro e w2 ⟨b1, d1, b2, d2, b3, d3, rfl, g2, bb2⟩
  clear hcS
  have zr := zR.keep bb2
  have hb2 := B0.trans (bb2.mono B0.size)
  have hs1 : w.heap.size + 1 < W0.heap.size := zR.lt
  have z3 := zr.alloc (.cells #[.int .i64 D.ino, .int .i64 D.kind, .int .i64 D.links, .slice b1 D.data.length d1, .slice b2 D.ents.length d2, .slice b3 D.attrs.length d3] 66)
  have hb3 := hb2.alloc hb2.size (.cells #[.int .i64 D.ino, .int .i64 D.kind, .int .i64 D.links, .slice b1 D.data.length d1, .slice b2 D.ents.length d2, .slice b3 D.attrs.length d3] 66)
  have zX := Blk.new w2 66 #[.int .i64 D.ino, .int .i64 D.kind, .int .i64 D.links, .slice b1 D.data.length d1, .slice b2 D.ents.length d2, .slice b3 D.attrs.length d3]
  have g3 := (g2.keep (Nat.le_refl _) ((Below.refl _ w2).alloc (Nat.le_refl _) (.cells #[.int .i64 D.ino, .int .i64 D.kind, .int .i64 D.links, .slice b1 D.data.length d1, .slice b2 D.ents.length d2, .slice b3 D.attrs.length d3] 66))).wider (T' := (w2.alloc (.cells #[.int .i64 D.ino, .int .i64 D.kind, .int .i64 D.links, .slice b1 D.data.length d1, .slice b2 D.ents.length d2, .slice b3 D.attrs.length d3] 66)).heap.size) (Nat.le_refl _) (by simp)
  obtain ⟨t0, t1, t2, t3, t4, t5⟩ := z3.six
  have fz0 := z3.frozen 0
  have fz1 := z3.frozen 1
  have fz2 := z3.frozen 2
  have fz3 := z3.frozen 3
  have fz4 := z3.frozen 4
  have fz5 := z3.frozen 5
  obtain ⟨x0, x1, x2, x3, x4, x5⟩ := zX.six
  obtain ⟨W3, hW3⟩ : ∃ W, w2.alloc (.cells #[.int .i64 D.ino, .int .i64 D.kind, .int .i64 D.links, .slice b1 D.data.length d1, .slice b2 D.ents.length d2, .slice b3 D.attrs.length d3] 66) = W := ⟨_, rfl⟩
  have HZ3 : Hid _ := z3
  have HB3 : Hid _ := hb3
  have HG3 : Hid _ := g3
  rw [hW3] at HZ3 HB3 HG3 t0 t1 t2 t3 t4 t5 fz0 fz1 fz2 fz3 fz4 fz5 x0 x1 x2 x3 x4 x5
  have hfin : Hid ((if c = 0 ∧ D.kind = 1 then (inoZ.D, (3 : Int)) else (D, c)) = (D, c) → P (.returned (.tuple #[.agg #[.int .i64 D.ino, .int .i64 D.kind, .int .i64 D.links, .slice b1 D.data.length d1, .slice b2 D.ents.length d2, .slice b3 D.attrs.length d3], errV c])) ((((((W3.setCell ⟨w.heap.size + 1, 0, none⟩ (.int .i64 D.ino)).setCell ⟨w.heap.size + 1, 1, none⟩ (.int .i64 D.kind)).setCell ⟨w.heap.size + 1, 2, none⟩ (.int .i64 D.links)).setCell ⟨w.heap.size + 1, 3, none⟩ (.slice b1 D.data.length d1)).setCell ⟨w.heap.size + 1, 4, none⟩ (.slice b2 D.ents.length d2)).setCell ⟨w.heap.size + 1, 5, none⟩ (.slice b3 D.attrs.length d3))) := fun h => by
    have hf := at_stored HB3.out HG3.out HZ3.out hs1 (.int .i64 D.ino) (.int .i64 D.kind) (.int .i64 D.links) (.slice b1 D.data.length d1) (.slice b2 D.ents.length d2) (.slice b3 D.attrs.length d3)
    exact hp.out _ _ _ _ h ⟨b1, d1, b2, d2, b3, d3, rfl, hf.1, hf.2⟩
  have HF : Hid _ := blk6 HZ3.out (.int .i64 D.ino) (.int .i64 D.kind) (.int .i64 D.links) (.slice b1 D.data.length d1) (.slice b2 D.ents.length d2) (.slice b3 D.attrs.length d3)
  clear z3 hb3 g3 zr hb2 g2 bb2 zX zR B0
  by_cases hc0 : c = 0
  · subst hc0
    rw [errV_zero]
    by_cases hk : D.kind = 1
    · have hkb : (D.kind == 1) = true := by simp [hk]
      have HE : Hid ((if (0 : Int) = 0 ∧ D.kind = 1 then (inoZ.D, (3 : Int)) else (D, 0)) = (inoZ.D, 3)) := if_pos ⟨rfl, hk⟩
      have HEE : Hid _ := HE
      clear hk
      go_wp2
      have zf := blk6 HZ3.out (.int .i64 0) (.int .i64 0) (.int .i64 0) (.slice none 0 0) (.slice none 0 0) (.slice none 0 0)
      obtain ⟨dd0, dd1, dd2, dd3, dd4, dd5⟩ := zf.six
      refine bodyPost_ret (v := .tuple #[.agg #[.int .i64 0, .int .i64 0, .int .i64 0, .slice none 0 0, .slice none 0 0, .slice none 0 0], .iface 136 (.int .i64 3)]) (by simp [results, Tryz.f220, go_sem, dd0, dd1, dd2, dd3, dd4, dd5]) rfl ?_
      exact hp.out _ _ _ _ HEE.out (eStat_zero rfl (at_stored HB3.out (inoG_zero W3 (w.heap.size + 1 + 1) W3.heap.size) HZ3.out (Nat.lt_succ_self _) _ _ _ _ _ _).2)
    · have hkb : (D.kind == 1) = false := by simpa using hk
      have HE : Hid _ := hfin.out (if_neg (by simp [hk]))
      clear hk
      go_wp2
      obtain ⟨dd0, dd1, dd2, dd3, dd4, dd5⟩ := Blk.six HF.out
      refine bodyPost_ret (v := .tuple #[.agg #[.int .i64 D.ino, .int .i64 D.kind, .int .i64 D.links, .slice b1 D.data.length d1, .slice b2 D.ents.length d2, .slice b3 D.attrs.length d3], .nilIface]) (by simp [results, Tryz.f220, go_sem, dd0, dd1, dd2, dd3, dd4, dd5]) rfl ?_
      exact HE.out
  · have HE : Hid _ := hfin.out (if_neg (by simp [hc0]))
    rw [errV_some hc0] at HE ⊢
    clear hc0
    go_wp2
    obtain ⟨dd0, dd1, dd2, dd3, dd4, dd5⟩ := Blk.six HF.out
    refine bodyPost_ret (v := .tuple #[.agg #[.int .i64 D.ino, .int .i64 D.kind, .int .i64 D.links, .slice b1 D.data.length d1, .slice b2 D.ents.length d2, .slice b3 D.attrs.length d3], .iface 136 (.int .i64 c)]) (by simp [results, Tryz.f220, go_sem, dd0, dd1, dd2, dd3, dd4, dd5]) rfl ?_
    exact HE.out
end

section
open Go.RowKit
theorem statD_mem {ds : List InoD} {s : ByteArray} {D : InoD} (h : statD ds s = (D, 0)) : D ∈ ds := by
  unfold statD at h
  split at h
  · split at h
    · simp at h
    · rename_i E hE
      simp at h
      exact h ▸ (look_mem hE).1
  · rename_i hn
    simp at h
    exact absurd h.2 hn
/-- SetInode, with what is told of tables here. -/
theorem setT (a : Option Addr) (n cap : Nat) (nx : Int) (rs : List InoR) (D : InoD) (a1 a2 a3 : Option Addr) (c1 c2 c3 : Nat) (w : World) (ht : TR w a n rs) (hsx : InoSmall D) (hx : InoRd w D a1 a2 a3) :
    Calls Tryz.prog 99 #[.agg #[.slice a n cap, .int .i64 nx], .agg #[.int .i64 D.ino, .int .i64 D.kind, .int .i64 D.links, .slice a1 D.data.length c1, .slice a2 D.ents.length c2, .slice a3 D.attrs.length c3]] w fun e w' => ∃ v, e = .returned v ∧ TabAt w nx (setD (rs.map InoR.D) D) v w' :=
  (setS a n cap nx rs D a1 a2 a3 c1 c2 c3 w ht.len ht.n ht.small hsx ht.rd hx).mono fun e w' h => by
    have := SetPost.tab h
    rw [setD_eq] at this
    exact this
theorem setD_len (ds : List InoD) (D : InoD) : (setD ds D).length ≤ ds.length + 1 := by
  unfold setD
  rw [List.length_map]
  unfold setR
  split
  · simp
  · rw [putAt_len _ _ _ (placeOf_le _ _)]
    simp
theorem setD_small {ds : List InoD} {D : InoD} (h : ∀ E ∈ ds, InoSmall E) (hD : InoSmall D) : ∀ E ∈ setD ds D, InoSmall E := fun E hE => by
  unfold setD at hE
  obtain ⟨r, hr, rfl⟩ := List.mem_map.1 hE
  rcases setR_mem hr with h' | rfl
  · obtain ⟨F, hF, rfl⟩ := List.mem_map.1 h'
    exact h F hF
  · exact hD
theorem TR.smallD {w : World} {a : Option Addr} {n : Nat} {rs : List InoR} (h : TR w a n rs) : ∀ D ∈ rs.map InoR.D, InoSmall D := fun D hD => by
  obtain ⟨r, hr, rfl⟩ := List.mem_map.1 hD
  exact h.small r hr
end

section
open Go.RowKit
def cutE (es : List (ByteArray × Int)) (nm : ByteArray) : List (ByteArray × Int) := es.filter fun q => decide (q.1 ≠ nm)
theorem cutE_take {es : List (ByteArray × Int)} {nm : ByteArray} {k : Nat} {q : ByteArray × Int} (h : es[k]? = some q) : cutE (es.take (k + 1)) nm = cutE (es.take k) nm ++ (if q.1 = nm then [] else [q]) := by
  unfold cutE
  rw [List.take_add_one, h, List.filter_append]
  by_cases hq : q.1 = nm
  · simp [hq]
  · simp [hq]
theorem cutE_le (es : List (ByteArray × Int)) (nm : ByteArray) (k : Nat) : (cutE (es.take k) nm).length ≤ k := by
  have := List.length_filter_le (fun q : ByteArray × Int => decide (q.1 ≠ nm)) (es.take k)
  unfold cutE
  simp only [List.length_take] at this
  omega
set_option maxRecDepth 100000 in
set_option maxHeartbeats 4000000 in
theorem l6CutS (a : Option Addr) (n cap : Nat) (es : List (ByteArray × Int)) (nm : ByteArray) (w : World) (hn : es.length = n) (hs : n ≤ 1048576) (hr : RdP w a (eP es)) :
    Calls Tryz.prog 150 #[.slice a n cap, .string nm] w fun e w' => ∃ g c, e = .returned (.slice (some ⟨g, 0, none⟩) (cutE es nm).length c) ∧ w'.ownsRow w.heap.size 86 2 (.slice (some ⟨g, 0, none⟩) (cutE es nm).length c) (cutE es nm).length (pv (eP (cutE es nm))) ∧ Below w.heap.size w w' := by
  have hn' : Hid (es.length = n) := hn
  obtain ⟨i0, hi, hz0, hz1, hz2⟩ := info_parts Tryz.infoEnt
  have B0 : Below w.heap.size w (w.alloc (.cells #[] 86)) := (Below.refl _ w).alloc (Nat.le_refl _) _
  have oE : (w.alloc (.cells #[] 86)).ownsRow w.heap.size 86 2 (.slice (some ⟨w.heap.size, 0, none⟩) (cutE (es.take 0) nm).length 0) (cutE (es.take 0) nm).length (pv (eP (cutE (es.take 0) nm))) := empty_row w w.heap.size 86 2 (Nat.le_refl _)
  have HR : Hid _ := hr
  obtain ⟨R, hR⟩ : ∃ R, cutE es nm = R := ⟨_, rfl⟩
  rw [hR]
  have HRR : Hid _ := hR
  clear hn hr hR
  go_enter Tryz.func150, Tryz.ntmps150
  go_wp2
  go_loopw [5, 6] (fun o i wr => ∃ (k g c m : Nat), k ≤ n ∧ i = .int .i64 k ∧ o = .slice (some ⟨g, 0, none⟩) m c ∧ (cutE (es.take k) nm).length = m ∧ wr.ownsRow w.heap.size 86 2 (.slice (some ⟨g, 0, none⟩) m c) m (pv (eP (cutE (es.take k) nm))) ∧ Below w.heap.size w wr) (fun _ i _ => n - (intOf i).toNat)
  case atStart => exact ⟨0, w.heap.size, 0, 0, Nat.zero_le _, rfl, rfl, rfl, oE, B0⟩
  case round =>
    obtain ⟨k, g, c, m, hk, rfl, rfl, hm, ho, hB⟩ := hrel
    clear oE B0
    by_cases hkn : k < n
    · have hki : (k : Int) < (n : Int) := by omega
      have hkl : k < es.length := by rw [hn'.out]; exact hkn
      obtain ⟨b, off, rfl, hlt, hc⟩ := RdP.lt HR.out (by intro h; have := congrArg List.length h; rw [eP_length] at this; simp at this; rw [this] at hkl; simp at hkl)
      have hx := hc k (by rw [eP_length]; exact hkl)
      rw [eP_at es k hkl] at hx
      have hct := cutE_take (nm := nm) (List.getElem?_eq_getElem hkl)
      have hle := cutE_le es nm k
      obtain ⟨z, u, hzu⟩ : ∃ z u, es[k] = (z, u) := ⟨_, _, rfl⟩
      rw [hzu] at hx hct
      have x1 : wr.cell? ⟨b, off + k * 2, none⟩ = some (.string z) := (hB.cell (p := ⟨b, off + k * 2, none⟩) hlt).trans hx.1
      have x2 : wr.cell? ⟨b, off + k * 2 + 1, none⟩ = some (.int .i64 u) := (hB.cell (p := ⟨b, off + k * 2 + 1, none⟩) hlt).trans hx.2
      dsimp only at hct
      rw [hm] at hle
      by_cases hz : z = nm
      · rw [if_pos hz, List.append_nil] at hct
        have hnx : Hid _ := hct
        have heb : (z.toList == nm.toList) = true := by rw [hz]; exact beq_self_eq_true _
        have heb' : (z.toList != nm.toList) = false := by rw [bne, heb]; rfl
        subst hz
        clear hc hx hct hzu hle
        go_wp2
        go_roundw
        case rel => exact ⟨k + 1, g, c, m, by omega, by go_num, rfl, by rw [hnx.out]; exact hm, by rw [hnx.out]; exact ho, hB⟩
        case measure => simp [intOf]; omega
      · rw [if_neg hz] at hct
        have hnx : Hid _ := hct
        have heb := bytes_ne hz
        have heb' : (z.toList != nm.toList) = true := by rw [bne, heb]; rfl
        have hap := app_pair (wr.alloc (.cells #[.string z, .int .i64 u] 86)) w.heap.size 63 86 i0 (.agg #[.string ⟨#[]⟩, .int .i64 0]) 24 Tryz.underlying63 hi hz0 hz1 hz2 rfl (by omega) g m c (eP (cutE (es.take k) nm)) (World.ownsRow.alloc ho _) (by omega) wr.heap.size (.string z, .int .i64 u) ((Blk.new wr 86 #[.string z, .int .i64 u]).cell 0) ((Blk.new wr 86 #[.string z, .int .i64 u]).cell 1) rfl rfl (by have := hB.size; simp; omega)
        clear hc hx hct hzu
        go_wp2_with (at_builtin; refine wpList_run _ rfl (.tmp 21) (.tmp 26) 63 rfl (.slice (some ⟨g, 0, none⟩) m c) (.slice (some ⟨wr.heap.size, 0, none⟩) 1 1) rfl rfl _ hap ?_; rintro v5 V5 ⟨g5, c5, rfl, o5, hg5, hat5⟩)
        have hB1 := hB.alloc hB.size (.cells #[.string z, .int .i64 u] 86)
        have hlow := (World.ownsRow.lt ho g rfl).1
        have hB2 := hB1.grown hg5 hB1.size (fun q hq => by simp at hq; omega)
        have hfin : Hid (V5.ownsRow w.heap.size 86 2 (.slice (some ⟨g5, 0, none⟩) (m + 1) c5) (m + 1) (pv (eP (cutE (es.take (k + 1)) nm))) ∧ Below w.heap.size w V5) := ⟨by rw [hnx.out, eP_snoc]; exact o5, hB2⟩
        have hlen : Hid ((cutE (es.take (k + 1)) nm).length = m + 1) := by show _ = _; rw [hnx.out, List.length_append, hm]; rfl
        clear hap o5 hg5 hB1 hB2 ho hB x1 x2 hat5
        go_wp2
        go_roundw
        all_goals first
          | (case rel => (repeat apply Exists.intro); exact ⟨⟨k + 1, g5, c5, m + 1, by omega, by go_num, rfl, hlen.out, hfin.out⟩, rfl⟩)
          | (case rel => exact ⟨k + 1, g5, c5, m + 1, by omega, by go_num, rfl, hlen.out, hfin.out⟩)
          | (case measure => simp [intOf]; omega)
          | fail
    · have hki : ¬ (k : Int) < (n : Int) := by omega
      have he : es.take k = es := List.take_of_length_le (by rw [hn'.out]; omega)
      rw [he, HRR.out] at hm ho
      subst hm
      have HD : Hid _ := And.intro ho hB
      clear ho hB
      go_wp2
      go_ret
      first | exact ⟨_, _, rfl, HD.out⟩ | exact ⟨_, ⟨_, rfl⟩, HD.out⟩
end
end Go.Proofs.YtnfplimhhjpbkaaGreatDoor
