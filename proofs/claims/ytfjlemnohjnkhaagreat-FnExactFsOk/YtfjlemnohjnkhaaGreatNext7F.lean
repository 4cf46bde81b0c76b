/-
  What the specification's l7Next answers.
-/
import Derived.Test.YtfjlemnohjnkhaaGreatJ11F
import Derived.Test.YtfjlemnohjnkhaaGreatPutIF
namespace Go.Proofs.YtfjlemnohjnkhaaGreat
open Go.RowKit
def foldN (ds : List InoD) (l : List Int) (o : List Int) : List Int := l.foldl (fun o x => addE ds o (dirEnts ds x)) o
theorem foldN_drop {ds : List InoD} {l o : List Int} {k : Nat} {x : Int} (h : l[k]? = some x) : foldN ds (l.drop k) o = foldN ds (l.drop (k + 1)) (addE ds o (dirEnts ds x)) := by
  have hk := (List.getElem?_eq_some_iff.1 h).1
  unfold foldN
  rw [List.drop_eq_getElem_cons hk, List.foldl_cons, (List.getElem?_eq_some_iff.1 h).2]
theorem addE_drop {ds : List InoD} {es : List (ByteArray × Int)} {o : List Int} {k : Nat} (h : k < es.length) : addE ds o (es.drop k) = addE ds (if (look ds es[k].2).isSome then putI o es[k].2 else o) (es.drop (k + 1)) := by
  unfold addE
  rw [List.drop_eq_getElem_cons h, List.foldl_cons]
/-- Six cells of a box stored anew. -/
theorem blk6 {W : World} {X : Nat} {t : TypeId} {u0 u1 u2 u3 u4 u5 : Value} (h : Blk W X t #[u0, u1, u2, u3, u4, u5]) (v0 v1 v2 v3 v4 v5 : Value) : Blk ((((((W.setCell ⟨X, 0, none⟩ v0).setCell ⟨X, 1, none⟩ v1).setCell ⟨X, 2, none⟩ v2).setCell ⟨X, 3, none⟩ v3).setCell ⟨X, 4, none⟩ v4).setCell ⟨X, 5, none⟩ v5) X t #[v0, v1, v2, v3, v4, v5] :=
  (((((h.set 0 v0).set 1 v1).set 2 v2).set 3 v3).set 4 v4).set 5 v5
theorem gr6s (W : World) (X : Nat) (v0 v1 v2 v3 v4 v5 : Value) : W.grownBy ((((((W.setCell ⟨X, 0, none⟩ v0).setCell ⟨X, 1, none⟩ v1).setCell ⟨X, 2, none⟩ v2).setCell ⟨X, 3, none⟩ v3).setCell ⟨X, 4, none⟩ v4).setCell ⟨X, 5, none⟩ v5) (some X) :=
  gr_more (gr_more (gr_more (gr_more (gr_more (gr_setC W _ 0 _) 1 _) 2 _) 3 _) 4 _) 5 _
/-- An inode that InodeAt answered, in a box of its own. -/
structure NXR (W0 : World) (D : InoD) (ok : Bool) (p q : Value) (wx : World) : Prop where
  ex : ∃ (X : Nat) (b1 : Option Addr) (d1 : Nat) (b2 : Option Addr) (d2 : Nat) (b3 : Option Addr) (d3 : Nat), p = .pointer (some ⟨X, 0, none⟩) ∧ W0.heap.size ≤ X ∧ Blk wx X 85 #[.int .i64 D.ino, .int .i64 D.kind, .int .i64 D.links, .slice b1 D.data.length d1, .slice b2 D.ents.length d2, .slice b3 D.attrs.length d3] ∧ InoRd wx D b1 b2 b3
  ok : q = .bool ok
  below : Below W0.heap.size W0 wx
theorem InoG.rds {w : World} {B T : Nat} {D : InoD} {a1 a2 a3 : Option Addr} {c1 c2 c3 : Nat} (h : InoG w B T D (.slice a1 D.data.length c1) (.slice a2 D.ents.length c2) (.slice a3 D.attrs.length c3)) : InoRd w D a1 a2 a3 := by
  obtain ⟨_, _, _, _, _, _, e1, e2, e3, r⟩ := h.form
  simp only [Value.slice.injEq, true_and] at e1 e2 e3
  rw [e1.1, e2.1, e3.1]
  exact r
theorem nxrA {W0 wr W : World} {D : InoD} {ok : Bool} {b1 b2 b3 : Option Addr} {d1 d2 d3 : Nat} (hB : Below W0.heap.size W0 wr) (hb : Below wr.heap.size wr W) (g : InoG W wr.heap.size W.heap.size D (.slice b1 D.data.length d1) (.slice b2 D.ents.length d2) (.slice b3 D.attrs.length d3)) :
    NXR W0 D ok (.pointer (some ⟨W.heap.size, 0, none⟩)) (.bool ok) (W.alloc (.cells #[.int .i64 D.ino, .int .i64 D.kind, .int .i64 D.links, .slice b1 D.data.length d1, .slice b2 D.ents.length d2, .slice b3 D.attrs.length d3] 85)) := by
  have hB1 : Below W0.heap.size W0 W := hB.trans (hb.mono hB.size)
  exact ⟨⟨W.heap.size, b1, d1, b2, d2, b3, d3, rfl, hB1.size, Blk.new W _ _, g.rds.keep ((Below.refl _ W).alloc (Nat.le_refl _) _)⟩, rfl, hB1.alloc hB1.size _⟩
theorem nxrB {W0 wr W : World} {D : InoD} {ok : Bool} {b1 b2 b3 : Option Addr} {d1 d2 d3 : Nat} {u0 u1 u2 u3 u4 u5 : Value} {X lo : Nat} (hB : Below W0.heap.size W0 wr) (hX : W0.heap.size ≤ X) (hlo : X < lo ∨ W.heap.size ≤ X) (hb : Below wr.heap.size wr W) (z : Blk W X 85 #[u0, u1, u2, u3, u4, u5]) (g : InoG W lo W.heap.size D (.slice b1 D.data.length d1) (.slice b2 D.ents.length d2) (.slice b3 D.attrs.length d3)) :
    NXR W0 D ok (.pointer (some ⟨X, 0, none⟩)) (.bool ok) ((((((W.setCell ⟨X, 0, none⟩ (.int .i64 D.ino)).setCell ⟨X, 1, none⟩ (.int .i64 D.kind)).setCell ⟨X, 2, none⟩ (.int .i64 D.links)).setCell ⟨X, 3, none⟩ (.slice b1 D.data.length d1)).setCell ⟨X, 4, none⟩ (.slice b2 D.ents.length d2)).setCell ⟨X, 5, none⟩ (.slice b3 D.attrs.length d3)) := by
  have hB1 : Below W0.heap.size W0 W := hB.trans (hb.mono hB.size)
  have gg := gr6s W X (.int .i64 D.ino) (.int .i64 D.kind) (.int .i64 D.links) (.slice b1 D.data.length d1) (.slice b2 D.ents.length d2) (.slice b3 D.attrs.length d3)
  exact ⟨⟨X, b1, d1, b2, d2, b3, d3, rfl, hX, blk6 z _ _ _ _ _ _, (g.kept fun b h1 h2 => gg.block b h2 (by simp; omega)).rds⟩, rfl, hB1.grown gg hB1.size (fun m hm => by simp at hm; omega)⟩
set_option maxRecDepth 100000 in
set_option maxHeartbeats 4000000 in
theorem l7NextS (a : Option Addr) (n cap : Nat) (nx : Int) (rs : List InoR) (la : Option Addr) (m lc : Nat) (xs : List Int) (w : World) (ht : TR w a n rs) (hm : xs.length = m) (hl : RdV w la (iV xs)) (hin : InTab (rs.map InoR.D) xs) :
    Calls Tryz.prog 77 #[.agg #[.slice a n cap, .int .i64 nx], .slice la m lc] w fun e w' => ∃ a' c', e = .returned (.slice a' (nextD (rs.map InoR.D) xs).length c') ∧ RdV w' a' (iV (nextD (rs.map InoR.D) xs)) ∧ Below w.heap.size w w' := by
  have B0 : Below w.heap.size w (w.alloc (.cells #[.slice a n cap, .int .i64 nx] 47)) := (Below.refl _ w).alloc (Nat.le_refl _) _
  have z0 := Blk.new w 47 #[.slice a n cap, .int .i64 nx]
  obtain ⟨ds, hds⟩ : ∃ ds, rs.map InoR.D = ds := ⟨_, rfl⟩
  rw [hds] at hin ⊢
  have HDS : Hid _ := hds
  have hm' : Hid (xs.length = m) := hm
  obtain ⟨R, hR⟩ : ∃ R, nextD ds xs = R := ⟨_, rfl⟩
  rw [hR]
  have HR : Hid (foldN ds (xs.drop 0) xs = R) := hR
  have hmn : m ≤ 1048576 := by
    have h1 := hin.len
    have h2 : ds.length = n := by rw [← hds, List.length_map, ht.len]
    have := ht.n
    omega
  have HT0 := ht.keep B0
  have HL0 := hl.keep B0
  have HI : Hid _ := hin
  clear ht hl hds hm hR hin
  go_enter Tryz.func77, Tryz.ntmps77
  go_wp2
  obtain ⟨W0, hW0⟩ : ∃ W, w.alloc (.cells #[.slice a n cap, .int .i64 nx] 47) = W := ⟨_, rfl⟩
  rw [hW0] at B0 z0 HT0 HL0 ⊢
  clear hW0
  have HT : Hid _ := HT0
  have HL : Hid _ := HL0
  have HZ : Hid _ := z0
  have HB0 : Hid _ := B0
  have hws : w.heap.size ≤ W0.heap.size := B0.size
  clear HT0 HL0 z0 B0
  go_loopw [5, 6] (fun o i wr => ∃ (k : Nat) (ov : List Int) (oa : Option Addr) (on oc : Nat), k ≤ m ∧ i = .int .i64 k ∧ o = .slice oa on oc ∧ ov.length = on ∧ RdV wr oa (iV ov) ∧ Hid (InTab ds ov) ∧ Hid (foldN ds (xs.drop k) ov = R) ∧ Below W0.heap.size W0 wr) (fun _ i _ => m - (intOf i).toNat)
  case atStart => exact ⟨0, xs, la, m, lc, Nat.zero_le _, rfl, rfl, hm'.out, HL.out, HI, HR, Below.refl _ _⟩
  case round =>
    obtain ⟨k, ov, oa, on, oc, hk, rfl, rfl, hon, hro, hio, hfo, hB⟩ := hrel
    clear HR
    by_cases hkm : k < m
    · have hki : (k : Int) < (m : Int) := by omega
      have hkl : k < xs.length := by rw [hm'.out]; exact hkm
      obtain ⟨x, hx⟩ : ∃ x, xs[k]? = some x := ⟨_, List.getElem?_eq_getElem hkl⟩
      have hfo' := hfo.out
      rw [foldN_drop hx] at hfo'
      obtain ⟨lb, loff, rfl, hllt, hlc⟩ := RdV.lt HL.out (by intro h; have := congrArg List.length h; rw [iV_len] at this; simp at this; rw [this] at hkl; simp at hkl)
      have hln := (hB.cell (p := ⟨lb, loff + k, none⟩) hllt).trans (hlc k _ (iV_at hx))
      have zb := Blk.keep HZ.out hB
      have zt0 := zb.cell 0
      have zt1 := zb.cell 1
      simp at zt0 zt1
      have hTr := HT.out.keep hB
      have hcA := fun (W : World) (hW : Below wr.heap.size wr W) => inodeAtS a n cap nx x rs W hTr.len (by have := hTr.n; omega) hTr.small (hTr.keep hW).rd
      have hA1 := hcA wr.drew (Below.refl _ _).drew
      have hA2 := hcA (wr.alloc (.cells #[.int .i64 0, .int .i64 0, .int .i64 0, .slice none 0 0, .slice none 0 0, .slice none 0 0] 85)).drew ((Below.refl _ _).alloc (Nat.le_refl _) _).drew
      have hlnA := ((Below.refl _ wr).alloc (Nat.le_refl _) (.cells #[.int .i64 0, .int .i64 0, .int .i64 0, .slice none 0 0, .slice none 0 0, .slice none 0 0] 85)).cell (p := ⟨lb, loff + k, none⟩) (Nat.lt_of_lt_of_le hllt hB.size) |>.trans hln
      have zbA := zb.alloc (.cells #[.int .i64 0, .int .i64 0, .int .i64 0, .slice none 0 0, .slice none 0 0, .slice none 0 0] 85)
      have ztA0 := zbA.cell 0
      have ztA1 := zbA.cell 1
      simp at ztA0 ztA1
      clear hlc hfo hcA
      go_upto_region 5 with fail
      go_cut [7, 8] (fun p q wx => NXR wr (atD rs x) (atB rs x) p q wx)
      case first =>
        go_region_law (first
          | (go_simp; go_at_call 99; (with_reducible refine hA1.mono ?_); rintro e w10 ⟨b1, d1, b2, d2, b3, d3, rfl, gA, bA⟩; have zN := Blk.new w10 85 #[.int .i64 0, .int .i64 0, .int .i64 0, .slice none 0 0, .slice none 0 0, .slice none 0 0]; obtain ⟨t0, t1, t2, t3, t4, t5⟩ := zN.six; have f0 := zN.frozen 0; have f1 := zN.frozen 1; have f2 := zN.frozen 2; have f3 := zN.frozen 3; have f4 := zN.frozen 4; have f5 := zN.frozen 5; dsimp only)
          | (go_simp; go_at_call 99; (with_reducible refine hA2.mono ?_); rintro e w10 ⟨b1, d1, b2, d2, b3, d3, rfl, gB, bB⟩; have zN := Blk.keep (Blk.drew (Blk.new wr 85 #[.int .i64 0, .int .i64 0, .int .i64 0, .slice none 0 0, .slice none 0 0, .slice none 0 0])) bB; obtain ⟨t0, t1, t2, t3, t4, t5⟩ := zN.six; have f0 := zN.frozen 0; have f1 := zN.frozen 1; have f2 := zN.frozen 2; have f3 := zN.frozen 3; have f4 := zN.frozen 4; have f5 := zN.frozen 5; dsimp only))
        all_goals (go_wp2_with fail; go_meet)
        all_goals first
          | (have q := gA; exact nxrA (Below.refl _ _) ((Below.refl _ wr).drew.trans bA) gA)
          | (have q := gB; exact nxrB (Below.refl _ _) (Nat.le_refl _) (.inl (by show _ < (wr.alloc _).heap.size; simp)) (((Below.refl _ wr).alloc (Nat.le_refl _) _).drew.trans (bB.mono (by show _ ≤ (wr.alloc _).heap.size; simp))) zN gB)
          | fail
      case rest =>
        obtain ⟨⟨X, b1, d1, b2, d2, b3, d3, rfl, hX, zX, rX⟩, rfl, bX⟩ := hcut
        obtain ⟨Wc, hwc⟩ : ∃ W, W = wc := ⟨_, rfl⟩
        subst hwc
        have hBc : Below W0.heap.size W0 Wc := hB.trans (bX.mono hB.size)
        have hro' := hro.keep bX
        have hde : dirEnts ds x = if atB rs x = true ∧ (atD rs x).kind = 2 then (atD rs x).ents else [] := by
          rw [atB_look, atD_look, HDS.out]
          unfold dirEnts
          cases look ds x with
          | none => simp
          | some D => simp
        rw [hde] at hfo'
        have hsm : (atD rs x).ents.length ≤ 1048576 := by
          rw [atD_look]
          cases hlo : look (rs.map InoR.D) x with
          | none => simp [inoZ]
          | some D =>
            obtain ⟨p, r, _, hrp, rfl, _⟩ := lookD_some hlo
            exact (HT.out.small r (List.mem_of_getElem? hrp)).ents
        generalize atB rs x = ok at hfo' ⊢
        obtain ⟨es, hes⟩ : ∃ es, (atD rs x).ents = es := ⟨_, rfl⟩
        have hre : RdP Wc b2 (eP es) := by rw [← hes]; exact rX.ents
        rw [hes] at zX hfo' hsm
        obtain ⟨n2, hn2⟩ : ∃ n2, es.length = n2 := ⟨_, rfl⟩
        rw [hn2] at zX hsm
        have HN : Hid _ := hn2
        generalize (atD rs x).data.length = n1 at zX
        generalize (atD rs x).attrs.length = n3 at zX
        generalize (atD rs x).ino = i1 at zX
        generalize (atD rs x).kind = i2 at zX hfo'
        generalize (atD rs x).links = i3 at zX
        have HRE : Hid _ := hre
        have HZX : Hid _ := zX
        have y1 := zX.cell 1
        have y4 := zX.cell 4
        simp at y1 y4
        clear hde hes rX hre hn2 zt0 zt1 ztA0 ztA1 zb zbA hln hlnA hA1 hA2 hTr hx bX hro
        by_cases hgo : ok = true ∧ i2 = 2
        · obtain ⟨rfl, rfl⟩ := hgo
          rw [if_pos ⟨rfl, rfl⟩] at hfo'
          obtain ⟨E, hE⟩ : ∃ E, addE ds ov es = E := ⟨_, rfl⟩
          rw [hE] at hfo'
          have HF : Hid (foldN ds (xs.drop (k + 1)) E = R) := hfo'
          have HE : Hid (addE ds ov (es.drop 0) = E) := hE
          clear hfo' hE
          go_wp2
          clear y1 y4
          go_loopw [5, 9] (fun o j wi => ∃ (q : Nat) (pv : List Int) (pa : Option Addr) (pn pc : Nat), q ≤ n2 ∧ j = .int .i64 q ∧ o = .slice pa pn pc ∧ pv.length = pn ∧ RdV wi pa (iV pv) ∧ Hid (InTab ds pv) ∧ Hid (addE ds pv (es.drop q) = E) ∧ Below Wc.heap.size Wc wi) (fun _ j _ => n2 - (intOf j).toNat)
          case atStart => exact ⟨0, ov, oa, on, oc, Nat.zero_le _, rfl, rfl, hon, hro', hio, HE, Below.refl _ _⟩
          case round =>
            obtain ⟨q, pw, pa, pn, pc, hq, rfl, rfl, hpn, hrp, hip, hap, hBi⟩ := hrel
            clear HE hro' hio
            have zXi := Blk.keep HZX.out hBi
            have y1 := zXi.cell 1
            have y4 := zXi.cell 4
            simp at y1 y4
            have hBw : Below W0.heap.size W0 wr := hBc.trans (hBi.mono hBc.size)
            by_cases hqn : q < n2
            · have hqi : (q : Int) < (n2 : Int) := by omega
              have hql : q < es.length := by rw [HN.out]; exact hqn
              have hap' := hap.out
              rw [addE_drop hql] at hap'
              obtain ⟨eb, eo, rfl, helt, hec⟩ := RdP.lt HRE.out (by intro h; have := congrArg List.length h; rw [eP_length] at this; simp at this; rw [this] at hql; simp at hql)
              have hx := hec q (by rw [eP_length]; exact hql)
              rw [eP_at es q hql] at hx
              obtain ⟨u, hu⟩ : ∃ u, es[q].2 = u := ⟨_, rfl⟩
              rw [hu] at hx hap'
              have x2 : wr.cell? ⟨eb, eo + q * 2 + 1, none⟩ = some (.int .i64 u) := (hBi.cell (p := ⟨eb, eo + q * 2 + 1, none⟩) helt).trans hx.2
              have zb := Blk.keep HZ.out hBw
              have zt0 := zb.cell 0
              have zt1 := zb.cell 1
              simp at zt0 zt1
              have hTr := HT.out.keep hBw
              have hcL := l4At_any a n cap nx u rs wr.drew hTr.len (by have := hTr.n; omega) (hTr.rd.keep (Below.refl _ _).drew)
              have HK : Hid (∀ W : World, Below wr.heap.size wr W → W.cell? ⟨w.heap.size, 0, none⟩ = some (.slice a n cap) ∧ W.cell? ⟨w.heap.size, 1, none⟩ = some (.int .i64 nx) ∧ W.cell? ⟨X, 4, none⟩ = some (.slice (some ⟨eb, eo, none⟩) n2 d2) ∧ W.cell? ⟨X, 1, none⟩ = some (.int .i64 2) ∧ W.cell? ⟨eb, eo + q * 2 + 1, none⟩ = some (.int .i64 u)) := fun W hW => ⟨(zb.keep hW).cell 0, (zb.keep hW).cell 1, (zXi.keep hW).cell 4, (zXi.keep hW).cell 1, (hW.cell (p := ⟨eb, eo + q * 2 + 1, none⟩) (Nat.lt_of_lt_of_le helt hBi.size)).trans x2⟩
              have hlo : atN rs u = if (look ds u).isSome then atN rs u else -1 := by
                cases hl : look ds u with
                | none => rw [atN_none (by rw [HDS.out]; exact hl)]; rfl
                | some D => rfl
              cases hl : (look ds u).isSome with
              | false =>
                rw [hl] at hap' hlo
                simp only [Bool.false_eq_true, if_false] at hap' hlo
                rw [hlo] at hcL
                have hnx : Hid _ := hap'
                clear hap' hlo hec hx hTr hap hu
                go_wp2
                go_region_held3 (fun W : World => W.cell? ⟨w.heap.size, 0, none⟩ = some (.slice a n cap) ∧ W.cell? ⟨w.heap.size, 1, none⟩ = some (.int .i64 nx) ∧ W.cell? ⟨X, 4, none⟩ = some (.slice (some ⟨eb, eo, none⟩) n2 d2) ∧ W.cell? ⟨X, 1, none⟩ = some (.int .i64 2) ∧ W.cell? ⟨eb, eo + q * 2 + 1, none⟩ = some (.int .i64 u)) (go_keep) ((go_at_call 45; (with_reducible refine hcL.mono ?_); rintro e w2 ⟨rfl, hb2⟩; obtain ⟨p0, p1, p2, p3, p4⟩ := HK.out w2 ((Below.refl _ _).drew.trans hb2)))
                all_goals (have hB2 : Below wr.heap.size wr w2 := (Below.refl _ wr).drew.trans hb2; clear zt0 zt1 y1 y4 x2 hcL)
                all_goals go_wp2
                all_goals go_roundw
                all_goals first
                  | (case rel => exact ⟨q + 1, pw, pa, pn, pc, by omega, by go_num, rfl, hpn, hrp.keep hB2, hip, hnx, hBi.trans (hB2.mono hBi.size)⟩)
                  | (case measure => simp [intOf]; omega)
              | true =>
                rw [hl] at hap'
                simp only [if_true] at hap'
                obtain ⟨D, hD⟩ := Option.isSome_iff_exists.1 hl
                obtain ⟨pp, _, hf, _, _, hpl⟩ := lookD_some (rs := rs) (by rw [HDS.out]; exact hD)
                have hN : atN rs u = (pp : Int) := by unfold atN; rw [hf]
                rw [hN] at hcL
                have hge : (0 : Int) ≤ (pp : Int) := by omega
                have hpn' : pn ≤ 4000000 := by
                  have h1 := hip.out.len
                  have h2 : ds.length = n := by rw [← HDS.out, List.length_map, hTr.len]
                  have := hTr.n
                  omega
                have hip' : Hid (InTab ds (putI pw u)) := InTab.put hip.out hl
                have hcP := fun (W : World) (hW : Below wr.heap.size wr W) => l7PutS pa pn pc u pw W hpn hpn' (hrp.keep hW)
                have HP : Hid _ := hcP
                have hnx : Hid _ := hap'
                clear hap' hlo hec hx hTr hap hu hD hf hN hcP
                go_wp2
                go_region_held3 (fun W : World => W.cell? ⟨w.heap.size, 0, none⟩ = some (.slice a n cap) ∧ W.cell? ⟨w.heap.size, 1, none⟩ = some (.int .i64 nx) ∧ W.cell? ⟨X, 4, none⟩ = some (.slice (some ⟨eb, eo, none⟩) n2 d2) ∧ W.cell? ⟨X, 1, none⟩ = some (.int .i64 2) ∧ W.cell? ⟨eb, eo + q * 2 + 1, none⟩ = some (.int .i64 u)) (go_keep) ((go_at_call 45; (with_reducible refine hcL.mono ?_); rintro e w2 ⟨rfl, hb2⟩; obtain ⟨p0, p1, p2, p3, p4⟩ := HK.out w2 ((Below.refl _ _).drew.trans hb2)))
                all_goals (have hB2 : Below wr.heap.size wr w2 := (Below.refl _ wr).drew.trans hb2; have hc3 := HP.out w2 hB2; clear zt0 zt1 y1 y4 x2 hcL)
                all_goals go_wp2_with fail
                all_goals (with_reducible refine hc3.mono ?_)
                all_goals (rintro e w3 ⟨pa', pc', rfl, hr3, b3⟩; clear hc3 p0 p1 p2 p3 p4)
                all_goals go_wp2
                all_goals go_roundw
                all_goals first
                  | (case rel => exact ⟨q + 1, putI pw u, pa', _, pc', by omega, by go_num, rfl, rfl, hr3, hip', hnx, (hBi.trans (hB2.mono hBi.size)).trans (b3.mono (hBi.trans (hB2.mono hBi.size)).size)⟩)
                  | (case measure => simp [intOf]; omega)
            · have hqi : ¬ (q : Int) < (n2 : Int) := by omega
              have hfin : Hid (foldN ds (xs.drop (k + 1)) pw = R) := by
                have h1 := hap.out
                rw [List.drop_of_length_le (by rw [HN.out]; omega)] at h1
                have h2 : pw = E := h1
                show _ = _
                rw [h2]
                exact HF.out
              go_wp2
              go_roundw
              case rel => exact ⟨k + 1, pw, pa, pn, pc, by omega, by go_num, rfl, hpn, hrp, hip, hfin, hBw⟩
              case measure => simp [intOf]; omega
        · rw [if_neg hgo] at hfo'
          have HF : Hid (foldN ds (xs.drop (k + 1)) ov = R) := hfo'
          clear hfo'
          go_wp2
          refine wp_loop_rounds 1 ?_; rw [rounds_succ]
          by_cases h0 : (0 : Int) < (n2 : Int)
          · cases ok with
            | false =>
              go_wp2
              go_roundw
              case rel => exact ⟨k + 1, ov, oa, on, oc, by omega, by go_num, rfl, hon, hro', hio, HF, hBc⟩
              case measure => simp [intOf]; omega
            | true =>
              have hkb : (i2 == 2) = false := by simpa using hgo
              go_wp2
              go_roundw
              case rel => exact ⟨k + 1, ov, oa, on, oc, by omega, by go_num, rfl, hon, hro', hio, HF, hBc⟩
              case measure => simp [intOf]; omega
          · go_wp2
            go_roundw
            case rel => exact ⟨k + 1, ov, oa, on, oc, by omega, by go_num, rfl, hon, hro', hio, HF, hBc⟩
            case measure => simp [intOf]; omega
    · have hki : ¬ (k : Int) < (m : Int) := by omega
      have hend : ov = R := by
        have h1 := hfo.out
        rw [List.drop_of_length_le (by rw [hm'.out]; omega)] at h1
        exact h1
      subst hend
      subst hon
      have HD : Hid (RdV wr oa (iV ov) ∧ Below w.heap.size w wr) := ⟨hro, HB0.out.trans (hB.mono hws)⟩
      clear hro hB hio hfo
      go_wp2
      go_ret
      first | exact ⟨_, _, rfl, HD.out⟩ | exact ⟨_, ⟨_, rfl⟩, HD.out⟩
end Go.Proofs.YtfjlemnohjnkhaaGreat
