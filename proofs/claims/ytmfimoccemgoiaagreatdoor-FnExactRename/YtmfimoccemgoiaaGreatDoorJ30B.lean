/-
  Joined: RowP, Spot6, File6, AsI, CodeI.
-/
import Derived.Test.YtmfimoccemgoiaaGreatDoorJ17B
import Derived.Test.YtmfimoccemgoiaaGreatDoorJ28B
import Derived.LaidEql
import Derived.Stop.Asserts
import Derived.RowKitTokens
namespace Go.Proofs.YtmfimoccemgoiaaGreatDoor
section
open Go.RowKit
/-- An append whose run is known, in a region that draws. -/
theorem step_run (W : World) {ops : Array Oper} {o : Oper} {a : Act} {K : Act → World → Prop} {Q : Exit → Act → World → Prop} {E : Prop} (hgd : o.guard = none) (s x : Operand) (t : TypeId)
    (ho : o.op = .call { callee := .builtin .append, args := #[s, x], argTypes := #[t, t] }) (v1 v2 : Value) (hs : a.eval s = v1) (hx : a.eval x = v2) (R : Value → World → Prop)
    (hr : ∀ ty, ∃ v' W', (Builtin.append_ #[t, t] ty #[v1, v2]).run Tryz.prog W = .ok v' W' ∧ R v' W')
    (h : ∀ v' W', R v' W' → K (a.put o.dst v') W') :
    if Region.wanted o (yielded ops a.tmps) = true then Oper.wp Tryz.prog o a W K Q else E := by
  have hw : Region.wanted o (yielded ops a.tmps) = true := by simp [Region.wanted, hgd]
  rw [if_pos hw]
  obtain ⟨v', W', h1, h2⟩ := hr o.type
  unfold Oper.wp execOp
  simp only [ho, resolve, invoke, builtin, Sem.run_bind, Sem.run_pure, Result.andThen_ok, List.map_toArray, List.map_cons, List.map_nil, hs, hx, h1]
  exact h v' W' h2
/-- One pair more. -/
theorem app_pair (W : World) (B : Nat) (t e : TypeId) (i : TypeInfo) (z : Value) (bytes : Nat) (ht : Tryz.prog.underlying t = some (.slice e)) (hi : Tryz.prog.info? e = some i) (hz : i.zero = some z) (hsz : i.size = 2) (hby : i.bytes = bytes) (hzs : z.cells.size = 2) (hb64 : bytes ≤ 64)
    (g n c : Nat) (ps : List VP) (hown : W.ownsRow B e 2 (.slice (some ⟨g, 0, none⟩) n c) n (pv ps)) (hn : n ≤ 8000000) (ad : Nat) (p : VP) (c0 : W.cell? ⟨ad, 0, none⟩ = some p.1) (c1 : W.cell? ⟨ad, 1, none⟩ = some p.2) (p1 : p.1.oneCell' = true) (p2 : p.2.oneCell' = true) (hB : B ≤ W.heap.size) (ty : TypeId) :
    ∃ v' W', (Builtin.append_ #[t, t] ty #[.slice (some ⟨g, 0, none⟩) n c, .slice (some ⟨ad, 0, none⟩) 1 1]).run Tryz.prog W = .ok v' W' ∧ ∃ g' c', v' = .slice (some ⟨g', 0, none⟩) (n + 1) c' ∧ W'.ownsRow B e 2 (.slice (some ⟨g', 0, none⟩) (n + 1) c') (n + 1) (pv (ps ++ [p])) ∧ W.grownBy W' (some g) ∧ (g' = g ∨ g' = W.heap.size) := by
  obtain ⟨v', w', h1, h2, h3, _, h5⟩ := run_append_own_at (P := Tryz.prog) W B t ty e i z 2 bytes ht hi hz hsz hby hzs (by decide) _ n (pv ps) hown ⟨ad, 0, none⟩ 1 1 [p.1, p.2] rfl (by
    intro j u hj
    rw [add_at]
    match j, hj with
    | 0, hj => simp at hj; subst hj; exact c0
    | 1, hj => simp at hj; subst hj; exact c1
    | j + 2, hj => simp at hj) (by
    intro u hu
    simp at hu
    rcases hu with rfl | rfl
    · exact p1
    · exact p2) (by unfold maxLen; omega) (by have : (n + 1) * bytes ≤ 8000001 * 64 := Nat.mul_le_mul (by omega) hb64; omega) hB
  refine ⟨v', w', h1, ?_⟩
  rw [← pv_snoc] at h2
  rcases h2.2 with ⟨_, h0⟩ | ⟨g', c', cur, rfl, rest⟩
  · omega
  · refine ⟨g', c', rfl, h2, h3, ?_⟩
    simpa [Value.ownBlock] using h5
end

section
open Go.RowKit
theorem join_len {zs : List Str} (h : good zs = true) : (joinOf zs).length ≤ 451 := by
  unfold joinOf
  split
  · simp
  · try rw [if_pos h]
    have h1 := good_len h
    have h2 := good_all h
    have : ∀ l : List Str, (∀ z ∈ l, nameOk z = true) → (l.flatMap fun p => 47 :: p).length ≤ 15 * l.length := by
      intro l
      induction l with
      | nil => intro _; simp
      | cons z l ih =>
        intro hl
        have h3 := nameOk_len (hl z (List.mem_cons_self ..))
        have h4 := ih fun y hy => hl y (List.mem_cons_of_mem _ hy)
        simp only [List.flatMap_cons, List.length_append, List.length_cons] at h4 ⊢
        omega
    have := this zs h2
    omega
theorem parent_small (l : Str) : (parentOf l).1.length ≤ 451 ∧ (parentOf l).2.1.length ≤ 14 := by
  cases hs : splitOf l with
  | none => rw [pa_none hs]; simp
  | some ps =>
    obtain ⟨zs, hz, _⟩ := split_strs hs
    have hg := split_good hz
    rcases Nat.eq_zero_or_pos zs.length with h0 | h0
    · have : zs = [] := List.length_eq_zero_iff.1 h0
      subst this
      rw [pa_nil hz]
      simp
    · rw [pa_some hz h0]
      refine ⟨join_len (good_prefix hg ?_), ?_⟩
      · unfold strs
        rw [List.map_take]
        exact List.take_prefix _ _
      · have hm : zs.getD (zs.length - 1) ⟨#[]⟩ ∈ zs := by
          rw [List.getD_eq_getElem?_getD, List.getElem?_eq_getElem (by omega)]
          exact List.getElem_mem _
        have := good_all hg (zs.getD (zs.length - 1) ⟨#[]⟩).data.toList (List.mem_map_of_mem (f := fun z : ByteArray => z.data.toList) hm)
        exact nameOk_len this
/-- Where something new is put: the parent, the last name, and a code. -/
def spotD (ds : List InoD) (s : ByteArray) (fr : Int) : InoD × ByteArray × Int :=
  if (parentOf s.data.toList).2.2 = false then (inoZ.D, ⟨#[]⟩, 1)
  else if (statD ds (strB (parentOf s.data.toList).1)).2 ≠ 0 then (inoZ.D, ⟨#[]⟩, (statD ds (strB (parentOf s.data.toList).1)).2)
  else if (statD ds (strB (parentOf s.data.toList).1)).1.kind ≠ 2 then (inoZ.D, ⟨#[]⟩, 3)
  else if entOf (strB (parentOf s.data.toList).2.1) (statD ds (strB (parentOf s.data.toList).1)).1.ents ≠ 0 then (inoZ.D, ⟨#[]⟩, 4)
  else if 10 ≤ (statD ds (strB (parentOf s.data.toList).1)).1.ents.length ∧ (statD ds (strB (parentOf s.data.toList).1)).1.ino ≠ fr then (inoZ.D, ⟨#[]⟩, 5)
  else ((statD ds (strB (parentOf s.data.toList).1)).1, strB (parentOf s.data.toList).2.1, 0)
def SpotPost (w : World) (D : InoD) (nm : ByteArray) (c : Int) (e : Ending) (w' : World) : Prop :=
  ∃ (b1 : Option Addr) (d1 : Nat) (b2 : Option Addr) (d2 : Nat) (b3 : Option Addr) (d3 : Nat), e = .returned (.tuple #[.agg #[.int .i64 D.ino, .int .i64 D.kind, .int .i64 D.links, .slice b1 D.data.length d1, .slice b2 D.ents.length d2, .slice b3 D.attrs.length d3], .string nm, .int .i64 c]) ∧
    InoG w' w.heap.size w'.heap.size D (.slice b1 D.data.length d1) (.slice b2 D.ents.length d2) (.slice b3 D.attrs.length d3) ∧ Below w.heap.size w w'
theorem spotPost_zero {w w' : World} {c : Int} {e : Ending} (he : e = .returned (.tuple #[.agg #[.int .i64 0, .int .i64 0, .int .i64 0, .slice none 0 0, .slice none 0 0, .slice none 0 0], .string ⟨#[]⟩, .int .i64 c])) (hb : Below w.heap.size w w') : SpotPost w inoZ.D ⟨#[]⟩ c e w' :=
  ⟨none, 0, none, 0, none, 0, he, inoG_zero _ _ _, hb⟩
theorem statD_small {ds : List InoD} {s : ByteArray} (h : ∀ D ∈ ds, InoSmall D) : InoSmall (statD ds s).1 := by
  have hz : InoSmall inoZ.D := ⟨by simp [inoZ], by simp [inoZ], by simp [inoZ], by simp [inoZ], by simp [inoZ]⟩
  unfold statD
  split
  · split
    · exact hz
    · rename_i D hD
      exact h D (look_mem hD).1
  · exact hz
set_option maxRecDepth 100000 in
set_option maxHeartbeats 8000000 in
theorem spotS (a : Option Addr) (n cap : Nat) (nx : Int) (rs : List InoR) (s : ByteArray) (fr : Int) (w : World) (ht : TR w a n rs) (hs : s.size ≤ 4000000) :
    Calls Tryz.prog 69 #[.agg #[.slice a n cap, .int .i64 nx], .string s, .int .i64 fr] w fun e w' => SpotPost w (spotD (rs.map InoR.D) s fr).1 (spotD (rs.map InoR.D) s fr).2.1 (spotD (rs.map InoR.D) s fr).2.2 e w' := by
  have B0 : Below w.heap.size w ((w.alloc (.cells #[.slice a n cap, .int .i64 nx] 28)).alloc (.cells #[.int .i64 0, .int .i64 0, .int .i64 0, .slice none 0 0, .slice none 0 0, .slice none 0 0] 68)) := ((Below.refl _ w).alloc (Nat.le_refl _) _).alloc (by simp) _
  have zT : Blk ((w.alloc (.cells #[.slice a n cap, .int .i64 nx] 28)).alloc (.cells #[.int .i64 0, .int .i64 0, .int .i64 0, .slice none 0 0, .slice none 0 0, .slice none 0 0] 68)) w.heap.size 28 #[.slice a n cap, .int .i64 nx] := (Blk.new w _ _).alloc _
  have zR := Blk.new (w.alloc (.cells #[.slice a n cap, .int .i64 nx] 28)) 68 #[.int .i64 0, .int .i64 0, .int .i64 0, .slice none 0 0, .slice none 0 0, .slice none 0 0]
  simp only [World.size_alloc] at zR
  have hsz : ((w.alloc (.cells #[.slice a n cap, .int .i64 nx] 28)).alloc (.cells #[.int .i64 0, .int .i64 0, .int .i64 0, .slice none 0 0, .slice none 0 0, .slice none 0 0] 68)).heap.size = w.heap.size + 1 + 1 := by simp
  have hp : Hid (∀ (e : Ending) (w' : World) (D : InoD) (nm : ByteArray) (q : Int), spotD (rs.map InoR.D) s fr = (D, nm, q) → SpotPost w D nm q e w' → SpotPost w (spotD (rs.map InoR.D) s fr).1 (spotD (rs.map InoR.D) s fr).2.1 (spotD (rs.map InoR.D) s fr).2.2 e w') := fun e w' D nm q h hh => by rw [h]; exact hh
  generalize SpotPost w (spotD (rs.map InoR.D) s fr).1 (spotD (rs.map InoR.D) s fr).2.1 (spotD (rs.map InoR.D) s fr).2.2 = P at hp ⊢
  have hsd : spotD (rs.map InoR.D) s fr = spotD (rs.map InoR.D) s fr := rfl
  conv at hsd => rhs; unfold spotD
  have hps := parent_small s.data.toList
  go_enter Tryz.func69, Tryz.ntmps69
  go_wp2_with fail
  obtain ⟨W0, hW0⟩ : ∃ W, ((w.alloc (.cells #[.slice a n cap, .int .i64 nx] 28)).alloc (.cells #[.int .i64 0, .int .i64 0, .int .i64 0, .slice none 0 0, .slice none 0 0, .slice none 0 0] 68)) = W := ⟨_, rfl⟩
  rw [hW0] at B0 zT zR hsz ⊢
  clear hW0
  have ht0 := ht.keep B0
  refine (parentS s W0 hs).mono ?_
  rintro e w1 ⟨b1, rfl⟩
  obtain ⟨P1, P2, P3, hP⟩ : ∃ P1 P2 P3, parentOf s.data.toList = (P1, P2, P3) := ⟨_, _, _, rfl⟩
  rw [hP] at hsd hps ⊢
  dsimp only at hsd hps ⊢
  have hB1 := B0.trans (b1.mono B0.size)
  have zr := zR.keep b1
  have zt := zT.keep b1
  have ht1 := ht0.keep b1
  clear B0 zR zT ht0 b1 ht hP
  cases P3 with
  | false =>
    have hst : spotD (rs.map InoR.D) s fr = (inoZ.D, ⟨#[]⟩, 1) := hsd
    have HS : Hid _ := hst
    have HG : Hid _ := And.intro zr hB1
    obtain ⟨t0, t1, t2, t3, t4, t5⟩ := zr.six
    have fz0 := zr.frozen 0
    have fz1 := zr.frozen 1
    have fz2 := zr.frozen 2
    have fz3 := zr.frozen 3
    have fz4 := zr.frozen 4
    have fz5 := zr.frozen 5
    clear hsd hst zr hB1 zt ht1
    go_wp2
    have zf := ((((((show Blk w1 (w.heap.size + 1) 68 _ from HG.out.1).set 0 (.int .i64 0)).set 1 (.int .i64 0)).set 2 (.int .i64 0)).set 3 (.slice none 0 0)).set 4 (.slice none 0 0)).set 5 (.slice none 0 0)
    have dd0 := zf.cell 0
    have dd1 := zf.cell 1
    have dd2 := zf.cell 2
    have dd3 := zf.cell 3
    have dd4 := zf.cell 4
    have dd5 := zf.cell 5
    simp at dd0 dd1 dd2 dd3 dd4 dd5
    refine bodyPost_ret (v := .tuple #[.agg #[.int .i64 0, .int .i64 0, .int .i64 0, .slice none 0 0, .slice none 0 0, .slice none 0 0], .string ⟨#[]⟩, .int .i64 1]) (by simp [results, Tryz.f69, go_sem, dd0, dd1, dd2, dd3, dd4, dd5]) rfl ?_
    exact hp.out _ _ _ _ _ HS.out (spotPost_zero rfl (at_stored HG.out.2 (inoG_zero w1 (w.heap.size + 1 + 1) w1.heap.size) HG.out.1 (Nat.lt_succ_self _) _ _ _ _ _ _).2)
  | true =>
    simp only [Bool.true_eq_false, if_false] at hsd
    have zt0 := zt.cell 0
    have zt1 := zt.cell 1
    simp at zt0 zt1
    have hcS := statS a n cap nx rs (strB P1) w1 ht1 (by rw [strB_size]; omega)
    have hsm : InoSmall (statD (rs.map InoR.D) (strB P1)).1 := statD_small fun D hD => by
      obtain ⟨r, hr, rfl⟩ := List.mem_map.1 hD
      exact ht1.small r hr
    obtain ⟨D, c, hDc⟩ : ∃ D c, statD (rs.map InoR.D) (strB P1) = (D, c) := ⟨_, _, rfl⟩
    rw [hDc] at hsd hcS hsm
    dsimp only at hsd hcS hsm
    have HZR : Hid _ := zr
    have HB1 : Hid _ := hB1
    have hs1 : w.heap.size + 1 < w1.heap.size := zr.lt
    clear zr hB1 zt ht1 hDc
    go_wp2_with fail
    (with_reducible refine hcS.mono ?_)
    rintro e w2 ⟨b1, d1, b2, d2, b3, d3, rfl, g2, bb2⟩
    clear hcS zt0 zt1
    have zr := Blk.keep HZR.out bb2
    have hb2 := HB1.out.trans (bb2.mono HB1.out.size)
    have z3 := zr.alloc (.cells #[.int .i64 D.ino, .int .i64 D.kind, .int .i64 D.links, .slice b1 D.data.length d1, .slice b2 D.ents.length d2, .slice b3 D.attrs.length d3] 68)
    have hb3 := hb2.alloc hb2.size (.cells #[.int .i64 D.ino, .int .i64 D.kind, .int .i64 D.links, .slice b1 D.data.length d1, .slice b2 D.ents.length d2, .slice b3 D.attrs.length d3] 68)
    have zX := Blk.new w2 68 #[.int .i64 D.ino, .int .i64 D.kind, .int .i64 D.links, .slice b1 D.data.length d1, .slice b2 D.ents.length d2, .slice b3 D.attrs.length d3]
    have g3 := (g2.keep (Nat.le_refl _) ((Below.refl _ w2).alloc (Nat.le_refl _) (.cells #[.int .i64 D.ino, .int .i64 D.kind, .int .i64 D.links, .slice b1 D.data.length d1, .slice b2 D.ents.length d2, .slice b3 D.attrs.length d3] 68))).wider (T' := (w2.alloc (.cells #[.int .i64 D.ino, .int .i64 D.kind, .int .i64 D.links, .slice b1 D.data.length d1, .slice b2 D.ents.length d2, .slice b3 D.attrs.length d3] 68)).heap.size) (Nat.le_refl _) (by simp)
    have hlt2 : w2.heap.size < (w2.alloc (.cells #[.int .i64 D.ino, .int .i64 D.kind, .int .i64 D.links, .slice b1 D.data.length d1, .slice b2 D.ents.length d2, .slice b3 D.attrs.length d3] 68)).heap.size := by simp
    have hs2 := bb2.size
    clear zr hb2 g2 bb2
    -- a refusal behind Stat: the zero inode, and a code
    have hzero : Hid (∀ (W : World) (q : Int) (u0 u1 u2 u3 u4 u5 : Value), Blk W (w.heap.size + 1) 68 #[u0, u1, u2, u3, u4, u5] → Below w.heap.size w W → spotD (rs.map InoR.D) s fr = (inoZ.D, ⟨#[]⟩, q) → P (.returned (.tuple #[.agg #[.int .i64 0, .int .i64 0, .int .i64 0, .slice none 0 0, .slice none 0 0, .slice none 0 0], .string ⟨#[]⟩, .int .i64 q])) ((((((W.setCell ⟨w.heap.size + 1, 0, none⟩ (.int .i64 0)).setCell ⟨w.heap.size + 1, 1, none⟩ (.int .i64 0)).setCell ⟨w.heap.size + 1, 2, none⟩ (.int .i64 0)).setCell ⟨w.heap.size + 1, 3, none⟩ (.slice none 0 0)).setCell ⟨w.heap.size + 1, 4, none⟩ (.slice none 0 0)).setCell ⟨w.heap.size + 1, 5, none⟩ (.slice none 0 0))) := fun W q u0 u1 u2 u3 u4 u5 hz hb hq => hp.out _ _ _ _ _ hq (spotPost_zero rfl (at_stored hb (inoG_zero W (w.heap.size + 1 + 1) W.heap.size) hz (Nat.lt_succ_self _) _ _ _ _ _ _).2)
    obtain ⟨t0, t1, t2, t3, t4, t5⟩ := z3.six
    have fz0 := z3.frozen 0
    have fz1 := z3.frozen 1
    have fz2 := z3.frozen 2
    have fz3 := z3.frozen 3
    have fz4 := z3.frozen 4
    have fz5 := z3.frozen 5
    obtain ⟨W3, hW3⟩ : ∃ W, w2.alloc (.cells #[.int .i64 D.ino, .int .i64 D.kind, .int .i64 D.links, .slice b1 D.data.length d1, .slice b2 D.ents.length d2, .slice b3 D.attrs.length d3] 68) = W := ⟨_, rfl⟩
    have HZ3 : Hid _ := z3
    have HB3 : Hid _ := hb3
    have HG3 : Hid _ := g3
    have HSM : Hid _ := hsm
    rw [hW3] at HZ3 HB3 zX HG3 hlt2 t0 t1 t2 t3 t4 t5 fz0 fz1 fz2 fz3 fz4 fz5
    clear z3 hb3 g3 hsm
    by_cases hc0 : c = 0
    · subst hc0
      simp only [ne_eq, not_true_eq_false, if_false] at hsd
      obtain ⟨x0, x1, x2, x3, x4, x5⟩ := zX.six
      by_cases hk2 : D.kind = 2
      · rw [if_neg (by simpa using hk2)] at hsd
        have hcE := entOfS D b1 b2 b3 d1 d2 d3 (strB P2) W3 HSM.out.ents HG3.out.rds
        unfold inoV at hcE
        have HZX : Hid _ := zX
        obtain ⟨ev, hev⟩ : ∃ ev, entOf (strB P2) D.ents = ev := ⟨_, rfl⟩
        rw [hev] at hcE hsd
        have hkb : (D.kind != 2) = false := by simp [hk2]
        have hkb' : (D.kind == 2) = true := by simp [hk2]
        clear hk2 hev zX t0 t1 t2 t3 t4 t5 fz0 fz1 fz2 fz3 fz4 fz5
        go_wp2_with fail
        (with_reducible refine hcE.mono ?_)
        rintro e w4 ⟨rfl, b4⟩
        clear hcE x0 x1 x2 x3 x4 x5
        have z4 := Blk.keep HZ3.out b4
        have zX4 := Blk.keep HZX.out b4
        have hb4 := HB3.out.trans (b4.mono HB3.out.size)
        obtain ⟨t0, t1, t2, t3, t4, t5⟩ := z4.six
        have fz0 := z4.frozen 0
        have fz1 := z4.frozen 1
        have fz2 := z4.frozen 2
        have fz3 := z4.frozen 3
        have fz4 := z4.frozen 4
        have fz5 := z4.frozen 5
        obtain ⟨x0, x1, x2, x3, x4, x5⟩ := zX4.six
        have HZ4 : Hid _ := z4
        have HB4 : Hid _ := hb4
        have HG4 : Hid (InoG w4 w1.heap.size W3.heap.size D (.slice b1 D.data.length d1) (.slice b2 D.ents.length d2) (.slice b3 D.attrs.length d3)) := InoG.keep HG3.out (Nat.le_refl _) b4
        have hs34 := b4.size
        clear z4 zX4 hb4 b4
        by_cases he0 : ev = 0
        · subst he0
          simp only [not_true_eq_false, if_false] at hsd
          have hsl : Hid _ := HSM.out.ents
          by_cases hful : 10 ≤ D.ents.length ∧ D.ino ≠ fr
          · rw [if_pos hful] at hsd
            have HS : Hid _ := hsd
            obtain ⟨hf1, hf2⟩ := hful
            have hfi : (10 : Int) ≤ (D.ents.length : Int) := by omega
            have hfb : (D.ino != fr) = true := by simpa using hf2
            have hfb' : (D.ino == fr) = false := by simpa using hf2
            have hfd : decide ((10 : Int) ≤ (D.ents.length : Int)) = true := decide_eq_true hfi
            clear hsd
            go_wp2
            have zf := blk6 HZ4.out (.int .i64 0) (.int .i64 0) (.int .i64 0) (.slice none 0 0) (.slice none 0 0) (.slice none 0 0)
            obtain ⟨dd0, dd1, dd2, dd3, dd4, dd5⟩ := zf.six
            refine bodyPost_ret (v := .tuple #[.agg #[.int .i64 0, .int .i64 0, .int .i64 0, .slice none 0 0, .slice none 0 0, .slice none 0 0], .string ⟨#[]⟩, .int .i64 5]) (by simp [results, Tryz.f69, go_sem, dd0, dd1, dd2, dd3, dd4, dd5]) rfl ?_
            exact hzero.out _ _ _ _ _ _ _ _ HZ4.out HB4.out HS.out
          · rw [if_neg hful] at hsd
            have HS : Hid _ := hsd
            have hfin : Hid (P (.returned (.tuple #[.agg #[.int .i64 D.ino, .int .i64 D.kind, .int .i64 D.links, .slice b1 D.data.length d1, .slice b2 D.ents.length d2, .slice b3 D.attrs.length d3], .string (strB P2), .int .i64 0])) ((((((w4.setCell ⟨w.heap.size + 1, 0, none⟩ (.int .i64 D.ino)).setCell ⟨w.heap.size + 1, 1, none⟩ (.int .i64 D.kind)).setCell ⟨w.heap.size + 1, 2, none⟩ (.int .i64 D.links)).setCell ⟨w.heap.size + 1, 3, none⟩ (.slice b1 D.data.length d1)).setCell ⟨w.heap.size + 1, 4, none⟩ (.slice b2 D.ents.length d2)).setCell ⟨w.heap.size + 1, 5, none⟩ (.slice b3 D.attrs.length d3))) := by
              have hf := at_stored HB4.out (HG4.out.wider (Nat.le_refl _) hs34) HZ4.out hs1 (.int .i64 D.ino) (.int .i64 D.kind) (.int .i64 D.links) (.slice b1 D.data.length d1) (.slice b2 D.ents.length d2) (.slice b3 D.attrs.length d3)
              exact hp.out _ _ _ _ _ HS.out ⟨b1, d1, b2, d2, b3, d3, rfl, hf.1, hf.2⟩
            have zf := blk6 HZ4.out (.int .i64 D.ino) (.int .i64 D.kind) (.int .i64 D.links) (.slice b1 D.data.length d1) (.slice b2 D.ents.length d2) (.slice b3 D.attrs.length d3)
            have HF : Hid _ := zf
            clear zf
            by_cases hl10 : 10 ≤ D.ents.length
            · have hino : D.ino = fr := by
                by_cases h : D.ino = fr
                · exact h
                · exact absurd ⟨hl10, h⟩ hful
              have hfi : (10 : Int) ≤ (D.ents.length : Int) := by omega
              have hfb : (D.ino != fr) = false := by simp [hino]
              have hfb' : (D.ino == fr) = true := by simp [hino]
              have hfd : decide ((10 : Int) ≤ (D.ents.length : Int)) = true := decide_eq_true hfi
              clear hsd hful hino
              go_wp2
              obtain ⟨dd0, dd1, dd2, dd3, dd4, dd5⟩ := Blk.six HF.out
              refine bodyPost_ret (v := .tuple #[.agg #[.int .i64 D.ino, .int .i64 D.kind, .int .i64 D.links, .slice b1 D.data.length d1, .slice b2 D.ents.length d2, .slice b3 D.attrs.length d3], .string (strB P2), .int .i64 0]) (by simp [results, Tryz.f69, go_sem, dd0, dd1, dd2, dd3, dd4, dd5]) rfl ?_
              exact hfin.out
            · have hfi : ¬ (10 : Int) ≤ (D.ents.length : Int) := by omega
              have hfd : decide ((10 : Int) ≤ (D.ents.length : Int)) = false := decide_eq_false hfi
              clear hsd hful
              go_wp2
              obtain ⟨dd0, dd1, dd2, dd3, dd4, dd5⟩ := Blk.six HF.out
              refine bodyPost_ret (v := .tuple #[.agg #[.int .i64 D.ino, .int .i64 D.kind, .int .i64 D.links, .slice b1 D.data.length d1, .slice b2 D.ents.length d2, .slice b3 D.attrs.length d3], .string (strB P2), .int .i64 0]) (by simp [results, Tryz.f69, go_sem, dd0, dd1, dd2, dd3, dd4, dd5]) rfl ?_
              exact hfin.out
        · rw [if_pos he0] at hsd
          have HS : Hid _ := hsd
          have heb : (ev != 0) = true := by simpa using he0
          have heb' : (ev == 0) = false := by simpa using he0
          clear hsd
          go_wp2
          have zf := blk6 HZ4.out (.int .i64 0) (.int .i64 0) (.int .i64 0) (.slice none 0 0) (.slice none 0 0) (.slice none 0 0)
          obtain ⟨dd0, dd1, dd2, dd3, dd4, dd5⟩ := zf.six
          refine bodyPost_ret (v := .tuple #[.agg #[.int .i64 0, .int .i64 0, .int .i64 0, .slice none 0 0, .slice none 0 0, .slice none 0 0], .string ⟨#[]⟩, .int .i64 4]) (by simp [results, Tryz.f69, go_sem, dd0, dd1, dd2, dd3, dd4, dd5]) rfl ?_
          exact hzero.out _ _ _ _ _ _ _ _ HZ4.out HB4.out HS.out
      · rw [if_pos hk2] at hsd
        have HS : Hid _ := hsd
        have hkb : (D.kind != 2) = true := by simpa using hk2
        have hkb' : (D.kind == 2) = false := by simpa using hk2
        clear hsd zX
        go_wp2
        have zf := blk6 HZ3.out (.int .i64 0) (.int .i64 0) (.int .i64 0) (.slice none 0 0) (.slice none 0 0) (.slice none 0 0)
        obtain ⟨dd0, dd1, dd2, dd3, dd4, dd5⟩ := zf.six
        refine bodyPost_ret (v := .tuple #[.agg #[.int .i64 0, .int .i64 0, .int .i64 0, .slice none 0 0, .slice none 0 0, .slice none 0 0], .string ⟨#[]⟩, .int .i64 3]) (by simp [results, Tryz.f69, go_sem, dd0, dd1, dd2, dd3, dd4, dd5]) rfl ?_
        exact hzero.out _ _ _ _ _ _ _ _ HZ3.out HB3.out HS.out
    · rw [if_pos hc0] at hsd
      have HS : Hid _ := hsd
      have hcb : (c != 0) = true := by simpa using hc0
      have hcb' : (c == 0) = false := by simpa using hc0
      clear hsd zX
      go_wp2
      have zf := blk6 HZ3.out (.int .i64 0) (.int .i64 0) (.int .i64 0) (.slice none 0 0) (.slice none 0 0) (.slice none 0 0)
      obtain ⟨dd0, dd1, dd2, dd3, dd4, dd5⟩ := zf.six
      refine bodyPost_ret (v := .tuple #[.agg #[.int .i64 0, .int .i64 0, .int .i64 0, .slice none 0 0, .slice none 0 0, .slice none 0 0], .string ⟨#[]⟩, .int .i64 c]) (by simp [results, Tryz.f69, go_sem, dd0, dd1, dd2, dd3, dd4, dd5]) rfl ?_
      exact hzero.out _ _ _ _ _ _ _ _ HZ3.out HB3.out HS.out
end

section
open Go.RowKit
/-- A table and a code are answered. -/
def TabC (w : World) (nx : Int) (ds : List InoD) (c : Int) (e : Ending) (w' : World) : Prop :=
  ∃ (a : Option Addr) (cc : Nat) (js : List InoJ), e = .returned (.tuple #[.agg #[.slice a js.length cc, .int .i64 nx], .int .i64 c]) ∧ DQA w.heap.size w' (.slice a js.length cc) (ds.map lift) js ∧ Below w.heap.size w w'
/-- A table stored in the answer's box. -/
theorem DQA.boxed {w W : World} {B R : Nat} {v : Value} {ds : List InoR} {js : List InoJ} (h : DQA B W v ds js) (hb : Below w.heap.size w W) (hR : w.heap.size ≤ R) (hB : R < B) (u0 u1 : Value) : DQA w.heap.size ((W.setCell ⟨R, 0, none⟩ u0).setCell ⟨R, 1, none⟩ u1) v ds js ∧ Below w.heap.size w ((W.setCell ⟨R, 0, none⟩ u0).setCell ⟨R, 1, none⟩ u1) :=
  ⟨((h.setX hB 0 u0).setX hB 1 u1).lower (by omega), (hb.setCell (p := ⟨R, 0, none⟩) hR u0).setCell (p := ⟨R, 1, none⟩) hR u1⟩
/-- A table that is refused: its copy, and a code. -/
theorem copyC {w W V : World} {nx : Int} {rs : List InoR} {e : Ending} {R : Nat} {u0 u1 : Value} (h : DropPost W nx rs e V) (hb : Below w.heap.size w W) (hR : w.heap.size ≤ R) (hz : Blk W R 28 #[u0, u1]) : ∃ (a : Option Addr) (n cc : Nat), e = .returned (.agg #[.slice a n cc, .int .i64 nx]) ∧ Blk V R 28 #[u0, u1] ∧ ∀ c : Int, TabC w nx (rs.map InoR.D) c (.returned (.tuple #[.agg #[.slice a n cc, .int .i64 nx], .int .i64 c])) ((V.setCell ⟨R, 0, none⟩ (.slice a n cc)).setCell ⟨R, 1, none⟩ (.int .i64 nx)) := by
  obtain ⟨a, cc, js, rfl, hq, hbV⟩ := h
  refine ⟨a, js.length, cc, rfl, hz.keep hbV, fun c => ?_⟩
  have := (hq.dqa.cong (ds' := (rs.map InoR.D).map lift) (by rw [lift_map])).boxed (hb.trans (hbV.mono hb.size)) hR hz.lt (.slice a js.length cc) (.int .i64 nx)
  exact ⟨a, cc, js, rfl, this.1, this.2⟩
theorem blk2 {W : World} {X : Nat} {t : TypeId} {u0 u1 : Value} (h : Blk W X t #[u0, u1]) (v0 v1 : Value) : Blk ((W.setCell ⟨X, 0, none⟩ v0).setCell ⟨X, 1, none⟩ v1) X t #[v0, v1] := (h.set 0 v0).set 1 v1
end

section
open Go.RowKit Go.Extern.Stop Go.Stop Go.Extern
theorem as_nil (t : Value) (w : World) : Calls Tryz.prog 133 #[.nilIface, t] w fun e w' => e = .returned (.bool false) ∧ w' = w := by
  go_enter Tryz.func133, Tryz.ntmps133
  go_wp2
  go_ret
  exact ⟨rfl, rfl⟩
theorem rf_valueOfP (t : Addr) (w : World) : (ReflectliteValue.unpack (.iface 157 (.pointer (some t)))).run Tryz.prog w
    = .ok (.agg #[.pointer (some ⟨2, 157, none⟩), .pointer (some ⟨w.heap.size, 0, none⟩), .int .u64 150]) (w.alloc (.cells #[.pointer (some t)] 157)) := by kernel_rfl
theorem rf_typeP (a : Addr) (w : World) : (ReflectliteValue.methodAny (ReflectliteValue.valueError "reflectlite.Value.Type" 0) (fun t _ _ _ => ReflectliteType.toType t) #[.agg #[.pointer (some ⟨2, 157, none⟩), .pointer (some a), .int .u64 150]]).run Tryz.prog w
    = .ok (.iface 237 (.agg #[.pointer (some ⟨2, 157, none⟩)])) w := by kernel_rfl
theorem rf_methodKind (h : Value) (w : World) : (Go.method 426 237 (.agg #[h]) "Kind").run Tryz.prog w = .ok (317, h) w := by kernel_rfl
theorem rf_kindP (w : World) : ((ReflectliteType.abiMethod fun t => (fun a : Nat => Value.int IntKind.u8 (a : Int)) <$> Rtype.kind t) #[.pointer (some ⟨2, 157, none⟩)]).run Tryz.prog w = .ok (.int .u8 22) w := by kernel_rfl
theorem rf_kindR (w : World) : ((ReflectliteType.abiMethod fun t => (fun a : Nat => Value.int IntKind.u8 (a : Int)) <$> Rtype.kind t) #[.pointer (some ⟨2, 155, none⟩)]).run Tryz.prog w = .ok (.int .u8 2) w := by kernel_rfl
theorem rf_rlm (z : Sem Value) (f : TypeId → Addr → Nat → Nat → Sem Value) (v : Value) :
    ReflectliteValue.method z f #[v] = (do match ← ReflectliteValue.parts v with | none => z | some (t, a, fl) => f t a fl (fl % 32)) := rfl
theorem rf_partsP (a : Addr) (w : World) : (ReflectliteValue.parts (.agg #[.pointer (some ⟨2, 157, none⟩), .pointer (some a), .int .u64 150])).run Tryz.prog w = .ok (some (157, a, 150)) w := by kernel_rfl
theorem rf_isNilP (a p : Addr) (W : World) (ha : W.cell? a = some (.pointer (some p))) :
    (ReflectliteValue.method (ReflectliteValue.valueError "reflectlite.Value.IsNil" 0) ReflectliteValue.isNil #[.agg #[.pointer (some ⟨2, 157, none⟩), .pointer (some a), .int .u64 150]]).run Tryz.prog W = .ok (.bool false) W := by
  rw [rf_rlm]
  simp only [Sem.run_bind, rf_partsP, Result.andThen]
  simp [ReflectliteValue.isNil, loadVar, isAgg, underlying, Tryz.underlying157, ha, Result.andThen]
theorem rf_methodElem (h : Value) (w : World) : (Go.method 426 237 (.agg #[h]) "Elem").run Tryz.prog w = .ok (328, .agg #[h]) w := by kernel_rfl
theorem rf_methodImplements (h : Value) (w : World) : (Go.method 426 237 (.agg #[h]) "Implements").run Tryz.prog w = .ok (329, .agg #[h]) w := by kernel_rfl
theorem rf_methodAssignableTo (h : Value) (w : World) : (Go.method 426 237 (.agg #[h]) "AssignableTo").run Tryz.prog w = .ok (326, .agg #[h]) w := by kernel_rfl
theorem rf_elemP (w : World) : (ReflectliteType.method ReflectliteType.elem #[.agg #[.pointer (some ⟨2, 157, none⟩)]]).run Tryz.prog w = .ok (.iface 237 (.agg #[.pointer (some ⟨2, 155, none⟩)])) w := by kernel_rfl
theorem rf_implementsR (w : World) : (ReflectliteType.relation "Implements" ReflectliteType.implements_ #[.agg #[.pointer (some ⟨2, 155, none⟩)], .iface 237 (.agg #[.pointer (some ⟨2, 101, none⟩)])]).run Tryz.prog w = .ok (.bool true) w := by kernel_rfl
theorem rf_typeOfR (v : Value) (w : World) : (ReflectliteType.typeOf #[.iface 155 v]).run Tryz.prog w = .ok (.iface 237 (.agg #[.pointer (some ⟨2, 155, none⟩)])) w := by kernel_rfl
theorem rf_assignableR (w : World) : (ReflectliteType.relation "AssignableTo" ReflectliteType.assignableTo #[.agg #[.pointer (some ⟨2, 155, none⟩)], .iface 237 (.agg #[.pointer (some ⟨2, 155, none⟩)])]).run Tryz.prog w = .ok (.bool true) w := by kernel_rfl
theorem rf_valueOfR (n : Int) (w : World) : (ReflectliteValue.unpack (.iface 155 (.int .i64 n))).run Tryz.prog w
    = .ok (.agg #[.pointer (some ⟨2, 155, none⟩), .pointer (some ⟨w.heap.size, 0, none⟩), .int .u64 130]) (w.alloc (.cells #[.int .i64 n] 155)) := by kernel_rfl
theorem rf_elemOfP (w : World) : (Rtype.elem? 157).run Tryz.prog w = .ok (some 155) w := by kernel_rfl
theorem rf_mkR (p : Addr) (w : World) : (ReflectliteValue.mk 155 p ReflectliteValue.flagAddr).run Tryz.prog w = .ok (.agg #[.pointer (some ⟨2, 155, none⟩), .pointer (some p), .int .u64 386]) w := by kernel_rfl
theorem rf_elemV (a p : Addr) (W : World) (ha : W.cell? a = some (.pointer (some p))) :
    (ReflectliteValue.method (ReflectliteValue.valueError "reflectlite.Value.Elem" 0) ReflectliteValue.elem #[.agg #[.pointer (some ⟨2, 157, none⟩), .pointer (some a), .int .u64 150]]).run Tryz.prog W
      = .ok (.agg #[.pointer (some ⟨2, 155, none⟩), .pointer (some p), .int .u64 386]) W := by
  rw [rf_rlm]
  simp only [Sem.run_bind, rf_partsP, Result.andThen]
  simp [ReflectliteValue.elem, loadVar, isAgg, underlying, Tryz.underlying157, ha, Result.andThen, rf_elemOfP, rf_mkR]
theorem rf_partsRa (a : Addr) (w : World) : (ReflectliteValue.parts (.agg #[.pointer (some ⟨2, 155, none⟩), .pointer (some a), .int .u64 386])).run Tryz.prog w = .ok (some (155, a, 386)) w := by kernel_rfl
theorem rf_partsR (a : Addr) (w : World) : (ReflectliteValue.parts (.agg #[.pointer (some ⟨2, 155, none⟩), .pointer (some a), .int .u64 130])).run Tryz.prog w = .ok (some (155, a, 130)) w := by kernel_rfl
theorem rf_directR (w : World) : (Rtype.directlyAssignable 155 155).run Tryz.prog w = .ok true w := by kernel_rfl
theorem rf_set (ta b : Addr) (n : Int) (old : Value) (W : World) (hb : W.cell? b = some (.int .i64 n)) (ht : W.cell? ta = some old) (hf : W.frozen? ta = false) :
    (ReflectliteValue.set #[.agg #[.pointer (some ⟨2, 155, none⟩), .pointer (some ta), .int .u64 386], .agg #[.pointer (some ⟨2, 155, none⟩), .pointer (some b), .int .u64 130]]).run Tryz.prog W
      = .ok (.tuple #[]) (W.setCell ta (.int .i64 n)) := by
  rw [show ReflectliteValue.set #[(.agg #[.pointer (some ⟨2, 155, none⟩), .pointer (some ta), .int .u64 386]), (.agg #[.pointer (some ⟨2, 155, none⟩), .pointer (some b), .int .u64 130])] = (ReflectliteValue.parts (.agg #[.pointer (some ⟨2, 155, none⟩), .pointer (some ta), .int .u64 386]) >>= fun p => ReflectliteValue.parts (.agg #[.pointer (some ⟨2, 155, none⟩), .pointer (some b), .int .u64 130]) >>= fun q => _) from rfl]
  simp only [Sem.run_bind, rf_partsRa, rf_partsR, Result.andThen]
  simp [ReflectliteValue.flagAddr, loadVar, isAgg, underlying, Tryz.underlying155, hb, Result.andThen, rf_directR, storeVar, Value.cells, storeCells, Addr.add]
  rw [run_store Tryz.prog W ta _ _ (by rfl)]
  simp [ht, hf]
/-- The one variable of the library that errors.As reads. -/
def EtCell (w : World) : Prop := w.cell? ⟨0, 0, none⟩ = some (.iface 237 (.agg #[.pointer (some ⟨2, 101, none⟩)]))
set_option maxRecDepth 100000 in
set_option maxHeartbeats 4000000 in
theorem as_hit (n : Int) (t : Addr) (old : Value) (w : World) (hg0 : EtCell w) (ht0 : w.cell? t = some old) (hf0 : w.frozen? t = false) :
    Calls Tryz.prog 133 #[.iface 155 (.int .i64 n), .iface 157 (.pointer (some t))] w fun ev w' => ev = .returned (.bool true) ∧ w' = ((((w.alloc (.cells #[.pointer (some t)] 157)).alloc (.cells #[.pointer (some ⟨2, 157, none⟩), .pointer (some ⟨w.heap.size, 0, none⟩), .int .u64 150] 185)).alloc (.cells #[.pointer (some ⟨2, 157, none⟩), .pointer (some ⟨w.heap.size, 0, none⟩), .int .u64 150] 185)).alloc (.cells #[.int .i64 n] 155)).setCell t (.int .i64 n) := by
  have hg : w.cell? ⟨0, 0, none⟩ = some (.iface 237 (.agg #[.pointer (some ⟨2, 101, none⟩)])) := hg0
  have h6 := @run_callFunc_extern Tryz.prog 182 _ (fun args => ReflectliteValue.unpack (args.getD 0 (.tuple #[]))) Tryz.func182 (by kernel_rfl) (by kernel_rfl) (by kernel_rfl) (by kernel_rfl)
  have h7 := @run_callFunc_extern Tryz.prog 183 _ (ReflectliteValue.methodAny (ReflectliteValue.valueError "reflectlite.Value.Type" 0) (fun t _ _ _ => ReflectliteType.toType t)) Tryz.func183 (by kernel_rfl) (by kernel_rfl) (by kernel_rfl) (by kernel_rfl)
  have h8 := @run_callFunc_extern Tryz.prog 184 _ (ReflectliteValue.method (ReflectliteValue.valueError "reflectlite.Value.IsNil" 0) ReflectliteValue.isNil) Tryz.func184 (by kernel_rfl) (by kernel_rfl) (by kernel_rfl) (by kernel_rfl)
  have h27 := @run_callFunc_extern Tryz.prog 317 _ (ReflectliteType.abiMethod fun t => do pure (.int .u8 (← Rtype.kind t))) Tryz.func317 (by kernel_rfl) (by kernel_rfl) (by kernel_rfl) (by kernel_rfl)
  have h37 := @run_callFunc_extern Tryz.prog 328 _ (ReflectliteType.method ReflectliteType.elem) Tryz.func328 (by kernel_rfl) (by kernel_rfl) (by kernel_rfl) (by kernel_rfl)
  have h38 := @run_callFunc_extern Tryz.prog 329 _ (ReflectliteType.relation "Implements" ReflectliteType.implements_) Tryz.func329 (by kernel_rfl) (by kernel_rfl) (by kernel_rfl) (by kernel_rfl)
  have h10 := @run_callFunc_extern Tryz.prog 233 _ ReflectliteType.typeOf Tryz.func233 (by kernel_rfl) (by kernel_rfl) (by kernel_rfl) (by kernel_rfl)
  have h35 := @run_callFunc_extern Tryz.prog 326 _ (ReflectliteType.relation "AssignableTo" ReflectliteType.assignableTo) Tryz.func326 (by kernel_rfl) (by kernel_rfl) (by kernel_rfl) (by kernel_rfl)
  have h11 := @run_callFunc_extern Tryz.prog 234 _ (ReflectliteValue.method (ReflectliteValue.valueError "reflectlite.Value.Elem" 0) ReflectliteValue.elem) Tryz.func234 (by kernel_rfl) (by kernel_rfl) (by kernel_rfl) (by kernel_rfl)
  have h12 := @run_callFunc_extern Tryz.prog 235 _ ReflectliteValue.set Tryz.func235 (by kernel_rfl) (by kernel_rfl) (by kernel_rfl) (by kernel_rfl)
  have tO := rf_typeOfR
  have mA := rf_methodAssignableTo
  have aR := rf_assignableR
  have vR := rf_valueOfR
  have f6 := rf_valueOfP
  have f7 := rf_typeP
  have mK := rf_methodKind
  have mE := rf_methodElem
  have mI := rf_methodImplements
  have kP := rf_kindP
  have kR := rf_kindR
  have eP := rf_elemP
  have iR := rf_implementsR
  have n8 := rf_isNilP ⟨w.heap.size, 0, none⟩ t ((w.alloc (.cells #[.pointer (some t)] 157)).alloc (.cells #[.pointer (some ⟨2, 157, none⟩), .pointer (some ⟨w.heap.size, 0, none⟩), .int .u64 150] 185)) (by simp)
  have hlt : 0 < w.heap.size := by
    rcases Nat.eq_zero_or_pos w.heap.size with h0 | h
    · simp [World.cell?, h0] at hg
    · exact h
  have hg2 : ((w.alloc (.cells #[.pointer (some t)] 157)).alloc (.cells #[.pointer (some ⟨2, 157, none⟩), .pointer (some ⟨w.heap.size, 0, none⟩), .int .u64 150] 185)).cell? ⟨0, 0, none⟩ = some (.iface 237 (.agg #[.pointer (some ⟨2, 101, none⟩)])) := by
    rw [World.cell?_alloc_lt _ _ ⟨0, 0, none⟩ (by simp), World.cell?_alloc_lt _ _ ⟨0, 0, none⟩ hlt]; exact hg
  have htl : t.block < w.heap.size := by
    rcases Nat.lt_or_ge t.block w.heap.size with h | h
    · exact h
    · simp [World.cell?, Array.getElem?_eq_none h] at ht0
  have el := rf_elemV ⟨w.heap.size, 0, none⟩ t (((w.alloc (.cells #[.pointer (some t)] 157)).alloc (.cells #[.pointer (some ⟨2, 157, none⟩), .pointer (some ⟨w.heap.size, 0, none⟩), .int .u64 150] 185)).alloc (.cells #[.pointer (some ⟨2, 157, none⟩), .pointer (some ⟨w.heap.size, 0, none⟩), .int .u64 150] 185)) (by rw [World.cell?_alloc_lt _ _ ⟨w.heap.size, 0, none⟩ (by simp; omega)]; simp)
  have st := rf_set t ⟨w.heap.size + 1 + 1 + 1, 0, none⟩ n old ((((w.alloc (.cells #[.pointer (some t)] 157)).alloc (.cells #[.pointer (some ⟨2, 157, none⟩), .pointer (some ⟨w.heap.size, 0, none⟩), .int .u64 150] 185)).alloc (.cells #[.pointer (some ⟨2, 157, none⟩), .pointer (some ⟨w.heap.size, 0, none⟩), .int .u64 150] 185)).alloc (.cells #[.int .i64 n] 155))
    (by rw [World.cell?_alloc_at _ _ _ _ (by simp)]; rfl)
    (by rw [World.cell?_alloc_lt _ _ t (by simp; omega), World.cell?_alloc_lt _ _ t (by simp; omega), World.cell?_alloc_lt _ _ t (by simp; omega), World.cell?_alloc_lt _ _ t htl]; exact ht0)
    (by rw [World.frozen?_alloc_old _ _ t (by simp; omega), World.frozen?_alloc_old _ _ t (by simp; omega), World.frozen?_alloc_old _ _ t (by simp; omega), World.frozen?_alloc_old _ _ t (Nat.ne_of_lt htl)]; exact hf0)
  go_enter Tryz.func133, Tryz.ntmps133
  go_wp2
  refine wp_loop_rounds 1 ?_
  rw [rounds_succ]
  go_wp2
  go_ret
  exact ⟨rfl, rfl⟩
end

section
open Go.RowKit
/-- A code as an error. -/
def errV (c : Int) : Value := if c = 0 then .nilIface else .iface 155 (.int .i64 c)
theorem errV_zero : errV 0 = .nilIface := rfl
theorem errV_some {c : Int} (h : c ≠ 0) : errV c = .iface 155 (.int .i64 c) := if_neg h
theorem EtCell.keep {w w' : World} (h : EtCell w) (hb : Below w.heap.size w w') : EtCell w' := by
  have hlt : 0 < w.heap.size := by
    rcases Nat.eq_zero_or_pos w.heap.size with h0 | h1
    · have h' : w.cell? ⟨0, 0, none⟩ = _ := h
      simp [World.cell?, h0] at h'
    · exact h1
  exact (hb.cell (p := ⟨0, 0, none⟩) hlt).trans h
set_option maxRecDepth 100000 in
set_option maxHeartbeats 1000000 in
theorem codeOfI (c : Int) (w : World) (hg : EtCell w) :
    Calls Tryz.prog 83 #[errV c] w fun e w' => e = .returned (.int .i64 c) ∧ Below w.heap.size w w' := by
  have B0 : Below w.heap.size w (w.alloc (.cells #[.int .i64 0] 155)) := (Below.refl _ w).alloc (Nat.le_refl _) _
  by_cases h0 : c = 0
  · subst h0
    rw [errV_zero]
    go_enter Tryz.func83, Tryz.ntmps83
    go_wp2_with fail
    (with_reducible refine (as_nil _ _).mono ?_)
    rintro e w1 ⟨rfl, hw⟩
    obtain rfl := hw.symm
    go_wp2
    go_ret
    exact ⟨rfl, B0⟩
  · rw [errV_some h0]
    have z0 := Blk.new w 155 #[.int .i64 0]
    have t0 : (w.alloc (.cells #[.int .i64 0] 155)).cell? ⟨w.heap.size, 0, none⟩ = some (.int .i64 0) := z0.cell 0
    have f0 := z0.frozen 0
    have hA := as_hit c ⟨w.heap.size, 0, none⟩ (.int .i64 0) _ (hg.keep B0) t0 f0
    go_enter Tryz.func83, Tryz.ntmps83
    go_wp2_with fail
    (with_reducible refine hA.mono ?_)
    rintro e w1 ⟨rfl, hw⟩
    obtain ⟨W, hW⟩ : ∃ W, ((((w.alloc (.cells #[.int .i64 0] 155)).alloc (.cells #[.pointer (some ⟨w.heap.size, 0, none⟩)] 157)).alloc (.cells #[.pointer (some ⟨2, 157, none⟩), .pointer (some ⟨(w.alloc (.cells #[.int .i64 0] 155)).heap.size, 0, none⟩), .int .u64 150] 185)).alloc (.cells #[.pointer (some ⟨2, 157, none⟩), .pointer (some ⟨(w.alloc (.cells #[.int .i64 0] 155)).heap.size, 0, none⟩), .int .u64 150] 185)).alloc (.cells #[.int .i64 c] 155) = W := ⟨_, rfl⟩
    rw [hW] at hw
    have BW : Below w.heap.size w W := by
      rw [← hW]
      exact (((B0.alloc B0.size _).alloc (by simp; omega) _).alloc (by simp; omega) _).alloc (by simp; omega) _
    have zW : Blk W w.heap.size 155 #[.int .i64 0] := by
      rw [← hW]
      exact (((z0.alloc _).alloc _).alloc _).alloc _
    have zF := zW.set 0 (.int .i64 c)
    have r0 := zF.cell 0
    simp at r0
    have hgr := gr_setC W w.heap.size 0 (.int .i64 c)
    have hend : Hid (Below w.heap.size w (W.setCell ⟨w.heap.size, 0, none⟩ (.int .i64 c))) := BW.grown hgr BW.size (fun j hj => by simp at hj; omega)
    subst hw
    clear hW hA zW zF hgr BW z0 t0 f0 B0
    go_wp2
    go_ret
    exact ⟨rfl, hend.out⟩
end
end Go.Proofs.YtmfimoccemgoiaaGreatDoor
