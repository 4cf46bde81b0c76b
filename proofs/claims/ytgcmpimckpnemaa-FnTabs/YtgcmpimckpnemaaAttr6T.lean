/-
  What the specification's SetAttr answers.
-/
import Derived.Test.YtgcmpimckpnemaaA15T
import Derived.Test.YtgcmpimckpnemaaPutAT
namespace Go.Proofs.Ytgcmpimckpnemaa
open Go.RowKit
def cutA (es : List (ByteArray × ByteArray)) (nm : ByteArray) : List (ByteArray × ByteArray) := es.filter fun q => decide (q.1 ≠ nm)
theorem cutA_take {es : List (ByteArray × ByteArray)} {nm : ByteArray} {k : Nat} {q : ByteArray × ByteArray} (h : es[k]? = some q) : cutA (es.take (k + 1)) nm = cutA (es.take k) nm ++ (if q.1 = nm then [] else [q]) := by
  unfold cutA
  rw [List.take_add_one, h, List.filter_append]
  by_cases hq : q.1 = nm
  · simp [hq]
  · simp [hq]
theorem cutA_le (es : List (ByteArray × ByteArray)) (nm : ByteArray) (k : Nat) : (cutA (es.take k) nm).length ≤ k := by
  have := List.length_filter_le (fun q : ByteArray × ByteArray => decide (q.1 ≠ nm)) (es.take k)
  unfold cutA
  simp only [List.length_take] at this
  omega
def attrD (nx : Int) (ds : List InoD) (s nm val : ByteArray) : List InoD × Int :=
  if treeD nx ds = false ∨ (splitOf s.data.toList).isSome = false ∨ nameOk nm.data.toList = false ∨ 16 < val.size then (ds, 1)
  else if (statD ds s).2 ≠ 0 then (ds, (statD ds s).2)
  else if val = ⟨#[]⟩ then (setD ds { (statD ds s).1 with attrs := cutA (statD ds s).1.attrs nm }, 0)
  else if 4 ≤ (cutA (statD ds s).1.attrs nm).length then (ds, 5)
  else (setD ds { (statD ds s).1 with attrs := insBy (fun q => gtS nm q.1) (cutA (statD ds s).1.attrs nm) (nm, val) }, 0)
theorem cutA_small {D : InoD} (h : InoSmall D) (nm : ByteArray) : InoSmall { D with attrs := cutA D.attrs nm } := by
  refine ⟨h.data, h.ents, ?_, h.entsz, fun q hq => h.attrsz q (List.mem_filter.1 hq).1⟩
  exact Nat.le_trans (List.length_filter_le _ _) h.attrs
theorem putA_small {D : InoD} (h : InoSmall D) (nm val : ByteArray) (hn : nm.size ≤ 1048576) (hv : val.size ≤ 1048576) (hl : (cutA D.attrs nm).length ≤ 1000) : InoSmall { D with attrs := insBy (fun q => gtS nm q.1) (cutA D.attrs nm) (nm, val) } := by
  refine ⟨h.data, h.ents, ?_, h.entsz, fun q hq => ?_⟩
  · show (insBy _ _ _).length ≤ _
    rw [insBy_len]
    omega
  · rcases insBy_mem.1 hq with rfl | hq
    · exact ⟨hn, hv⟩
    · exact h.attrsz q (List.mem_filter.1 hq).1
set_option maxRecDepth 100000 in
set_option maxHeartbeats 8000000 in
theorem attrS (a : Option Addr) (n cap : Nat) (nx : Int) (rs : List InoR) (s nm val : ByteArray) (w : World) (ht : TR w a n rs) (hs : s.size ≤ 4000000) (hnm : nm.size ≤ 4000000) (hvl : val.size ≤ 4000000) :
    Calls Try.prog 117 #[.agg #[.slice a n cap, .int .i64 nx], .string s, .string nm, .string val] w fun e w' => TabC w nx (attrD nx (rs.map InoR.D) s nm val).1 (attrD nx (rs.map InoR.D) s nm val).2 e w' := by
  have B0 : Below w.heap.size w ((w.alloc (.cells #[.slice a n cap, .int .i64 nx] 26)).alloc (.cells #[.slice none 0 0, .int .i64 0] 26)) := ((Below.refl _ w).alloc (Nat.le_refl _) _).alloc (by simp) _
  have zT : Blk ((w.alloc (.cells #[.slice a n cap, .int .i64 nx] 26)).alloc (.cells #[.slice none 0 0, .int .i64 0] 26)) w.heap.size 26 #[.slice a n cap, .int .i64 nx] := (Blk.new w _ _).alloc _
  have zR := Blk.new (w.alloc (.cells #[.slice a n cap, .int .i64 nx] 26)) 26 #[.slice none 0 0, .int .i64 0]
  simp only [World.size_alloc] at zR
  obtain ⟨ds, hds⟩ : ∃ ds, rs.map InoR.D = ds := ⟨_, rfl⟩
  have hdn : ds.length = n := by rw [← hds, List.length_map, ht.len]
  have hp : Hid (∀ (e : Ending) (w' : World) (l : List InoD) (q : Int), attrD nx ds s nm val = (l, q) → TabC w nx l q e w' → TabC w nx (attrD nx ds s nm val).1 (attrD nx ds s nm val).2 e w') := fun e w' l q h hh => by rw [h]; exact hh
  rw [hds]
  generalize TabC w nx (attrD nx ds s nm val).1 (attrD nx ds s nm val).2 = P at hp ⊢
  have hmd : attrD nx ds s nm val = attrD nx ds s nm val := rfl
  conv at hmd => rhs; unfold attrD
  have HDS : Hid _ := hds
  have HDN : Hid _ := hdn
  have HT : Hid _ := ht
  have HSm : Hid (∀ F ∈ ds, InoSmall F) := by
    intro F hF
    exact ht.smallD F (by rw [hds]; exact hF)
  have hn1 := ht.n
  have href : Hid (∀ (W : World) (q : Int), Below w.heap.size w W → Blk W (w.heap.size + 1) 26 #[.slice none 0 0, .int .i64 0] → attrD nx ds s nm val = (ds, q) → Calls Try.prog 41 #[.agg #[.slice a n cap, .int .i64 nx]] W fun e V => ∃ (b : Option Addr) (m cc : Nat), e = .returned (.agg #[.slice b m cc, .int .i64 nx]) ∧ Blk V (w.heap.size + 1) 26 #[.slice none 0 0, .int .i64 0] ∧ P (.returned (.tuple #[.agg #[.slice b m cc, .int .i64 nx], .int .i64 q])) ((V.setCell ⟨w.heap.size + 1, 0, none⟩ (.slice b m cc)).setCell ⟨w.heap.size + 1, 1, none⟩ (.int .i64 nx))) := fun W q hb hz hq => by
    have hT := HT.out.keep hb
    refine (l4CopyS a n cap nx rs W hT.len hT.n hT.small hT.rd).mono fun e V h => ?_
    obtain ⟨b, m, cc, h1, h2, h3⟩ := copyC h hb (Nat.le_succ _) hz
    rw [HDS.out] at h3
    exact ⟨b, m, cc, h1, h2, hp.out _ _ _ _ hq (h3 q)⟩
  have hset : Hid (∀ (W V : World) (v : Value) (l : List InoD), TabAt W nx l v V → Below w.heap.size w W → Blk W (w.heap.size + 1) 26 #[.slice none 0 0, .int .i64 0] → attrD nx ds s nm val = (l, 0) → ∃ (b : Option Addr) (m cc : Nat), v = .agg #[.slice b m cc, .int .i64 nx] ∧ Blk V (w.heap.size + 1) 26 #[.slice none 0 0, .int .i64 0] ∧ P (.returned (.tuple #[.agg #[.slice b m cc, .int .i64 nx], .int .i64 0])) ((V.setCell ⟨w.heap.size + 1, 0, none⟩ (.slice b m cc)).setCell ⟨w.heap.size + 1, 1, none⟩ (.int .i64 nx))) := fun W V v l h hb hz hq => by
    obtain ⟨b, cc, js, rfl, hQ, hbV⟩ := h
    refine ⟨b, js.length, cc, rfl, hz.keep hbV, hp.out _ _ _ _ hq ?_⟩
    have := hQ.boxed (hb.trans (hbV.mono hb.size)) (R := w.heap.size + 1) (by omega) hz.lt (.slice b js.length cc) (.int .i64 nx)
    exact ⟨b, cc, js, rfl, this.1, this.2⟩
  go_enter Try.func117, Try.ntmps117
  go_wp2_with fail
  obtain ⟨W0, hW0⟩ : ∃ W, (w.alloc (.cells #[.slice a n cap, .int .i64 nx] 26)).alloc (.cells #[.slice none 0 0, .int .i64 0] 26) = W := ⟨_, rfl⟩
  rw [hW0] at B0 zT zR ⊢
  clear hW0 ht hds hdn
  have hsp := splitB s W0 hs
  refine hsp.mono ?_
  rintro e w1 ⟨sa, sm, sc, rfl, bb1⟩
  clear hsp
  generalize (splitOf s.data.toList).isSome = K1 at hmd ⊢
  have hB0 := B0
  have zr0 := zR
  have zt0 := zT
  clear B0 zR zT
  have hB1 := hB0.trans (bb1.mono hB0.size)
  have zr1 := zr0.keep bb1
  have zt1 := zt0.keep bb1
  clear hB0 zr0 zt0 bb1

  have t0 := zt1.cell 0
  have t1 := zt1.cell 1
  simp at t0 t1
  have hcT := treeS a n cap nx rs w1 (HT.out.keep hB1)
  rw [HDS.out] at hcT
  go_wp2_with fail
  (with_reducible refine hcT.mono ?_)
  rintro e w2 ⟨rfl, bb2⟩
  clear hcT t0 t1
  have hB2 := hB1.trans (bb2.mono hB1.size)
  have zr2 := zr1.keep bb2
  have zt2 := zt1.keep bb2
  clear hB1 zr1 zt1 bb2

  have t0 := zt2.cell 0
  have t1 := zt2.cell 1
  simp at t0 t1
  cases htr : treeD nx ds with
  | false =>
    rw [htr, if_pos (.inl rfl)] at hmd
    have hcC := href.out w2 1 hB2 zr2 hmd
    clear hmd zr2 zt2 htr
    go_wp2_with fail
    (with_reducible refine hcC.mono ?_)
    rintro e wz ⟨b, m, cc, rfl, zz, hPz⟩
    have HPP : Hid _ := hPz
    have HZZ : Hid _ := zz
    have rr0 := zz.cell 0
    have rr1 := zz.cell 1
    have rf0 := zz.frozen 0
    have rf1 := zz.frozen 1
    simp at rr0 rr1
    clear zz hPz hcC t0 t1
    go_wp2
    have zf := blk2 HZZ.out (.slice b m cc) (.int .i64 nx)
    have dd0 := zf.cell 0
    have dd1 := zf.cell 1
    simp at dd0 dd1
    refine bodyPost_ret (v := .tuple #[.agg #[.slice b m cc, .int .i64 nx], .int .i64 1]) (by simp [results, Try.f117, go_sem, dd0, dd1]) rfl ?_
    exact HPP.out

  | true =>
    have hok := tabD_ok (treeD_parts htr).1
    have HOK : Hid _ := hok
    rw [htr] at hmd
    clear htr hok
    cases K1 with
    | false =>
      rw [if_pos (.inr (.inl rfl))] at hmd
      have hcC := href.out w2 1 hB2 zr2 hmd
      clear hmd zr2 zt2
      go_wp2_with fail
      (with_reducible refine hcC.mono ?_)
      rintro e wz ⟨b, m, cc, rfl, zz, hPz⟩
      have HPP : Hid _ := hPz
      have HZZ : Hid _ := zz
      have rr0 := zz.cell 0
      have rr1 := zz.cell 1
      have rf0 := zz.frozen 0
      have rf1 := zz.frozen 1
      simp at rr0 rr1
      clear zz hPz hcC t0 t1
      go_wp2
      have zf := blk2 HZZ.out (.slice b m cc) (.int .i64 nx)
      have dd0 := zf.cell 0
      have dd1 := zf.cell 1
      simp at dd0 dd1
      refine bodyPost_ret (v := .tuple #[.agg #[.slice b m cc, .int .i64 nx], .int .i64 1]) (by simp [results, Try.f117, go_sem, dd0, dd1]) rfl ?_
      exact HPP.out

    | true =>
      have hcN := nameS nm w2 hnm
      go_wp2_with fail
      (with_reducible refine hcN.mono ?_)
      rintro e w3 ⟨rfl, hw3⟩
      obtain rfl := hw3.symm
      clear hcN
      cases hno : nameOk nm.data.toList with
      | false =>
        rw [if_pos (.inr (.inr (.inl hno)))] at hmd
        have hcC := href.out w2 1 hB2 zr2 hmd
        clear hmd zr2 zt2 hno
        go_wp2_with fail
        (with_reducible refine hcC.mono ?_)
        rintro e wz ⟨b, m, cc, rfl, zz, hPz⟩
        have HPP : Hid _ := hPz
        have HZZ : Hid _ := zz
        have rr0 := zz.cell 0
        have rr1 := zz.cell 1
        have rf0 := zz.frozen 0
        have rf1 := zz.frozen 1
        simp at rr0 rr1
        clear zz hPz hcC t0 t1
        go_wp2
        have zf := blk2 HZZ.out (.slice b m cc) (.int .i64 nx)
        have dd0 := zf.cell 0
        have dd1 := zf.cell 1
        simp at dd0 dd1
        refine bodyPost_ret (v := .tuple #[.agg #[.slice b m cc, .int .i64 nx], .int .i64 1]) (by simp [results, Try.f117, go_sem, dd0, dd1]) rfl ?_
        exact HPP.out

      | true =>
        have hnm14 : nm.size ≤ 14 := by
          have := nameOk_len hno
          rw [Lib.size_eq]
          exact this
        by_cases h16 : 16 < val.size
        · rw [if_pos (.inr (.inr (.inr h16)))] at hmd
          have hcC := href.out w2 1 hB2 zr2 hmd
          have hi16 : (16 : Int) < (val.size : Int) := by omega
          have hd16 : decide ((16 : Int) < (val.size : Int)) = true := decide_eq_true hi16
          clear hmd zr2 zt2 hno
          go_wp2_with fail
          (with_reducible refine hcC.mono ?_)
          rintro e wz ⟨b, m, cc, rfl, zz, hPz⟩
          have HPP : Hid _ := hPz
          have HZZ : Hid _ := zz
          have rr0 := zz.cell 0
          have rr1 := zz.cell 1
          have rf0 := zz.frozen 0
          have rf1 := zz.frozen 1
          simp at rr0 rr1
          clear zz hPz hcC t0 t1
          go_wp2
          have zf := blk2 HZZ.out (.slice b m cc) (.int .i64 nx)
          have dd0 := zf.cell 0
          have dd1 := zf.cell 1
          simp at dd0 dd1
          refine bodyPost_ret (v := .tuple #[.agg #[.slice b m cc, .int .i64 nx], .int .i64 1]) (by simp [results, Try.f117, go_sem, dd0, dd1]) rfl ?_
          exact HPP.out

        · rw [if_neg (by simp [hno]; omega)] at hmd
          have hi16 : ¬ (16 : Int) < (val.size : Int) := by omega
          have hd16 : decide ((16 : Int) < (val.size : Int)) = false := decide_eq_false hi16
          clear hno
          have hcS := statS a n cap nx rs s w2 (HT.out.keep hB2) hs
          rw [HDS.out] at hcS
          obtain ⟨D, c, hDc⟩ : ∃ D c, statD ds s = (D, c) := ⟨_, _, rfl⟩
          rw [hDc] at hmd hcS
          dsimp only at hmd hcS
          have HDC : Hid _ := hDc
          have hrl : w.heap.size + 1 < w2.heap.size := zr2.lt
          clear hDc
          go_wp2_with fail
          (with_reducible refine hcS.mono ?_)
          rintro e w4 ⟨b1, d1, b2, d2, b3, d3, rfl, g4, bb4⟩
          clear hcS t0 t1
          have hs34 := bb4.size
          have zr4 := (zr2.keep bb4).alloc (.cells #[.int .i64 D.ino, .int .i64 D.kind, .int .i64 D.links, .slice b1 D.data.length d1, .slice b2 D.ents.length d2, .slice b3 D.attrs.length d3] 30)
          have zt4 := (zt2.keep bb4).alloc (.cells #[.int .i64 D.ino, .int .i64 D.kind, .int .i64 D.links, .slice b1 D.data.length d1, .slice b2 D.ents.length d2, .slice b3 D.attrs.length d3] 30)
          have hb4' := hB2.trans (bb4.mono hB2.size)
          have hB4 := hb4'.alloc hb4'.size (.cells #[.int .i64 D.ino, .int .i64 D.kind, .int .i64 D.links, .slice b1 D.data.length d1, .slice b2 D.ents.length d2, .slice b3 D.attrs.length d3] 30)
          have zX := Blk.new w4 30 #[.int .i64 D.ino, .int .i64 D.kind, .int .i64 D.links, .slice b1 D.data.length d1, .slice b2 D.ents.length d2, .slice b3 D.attrs.length d3]
          have g5 := g4.keep (Nat.le_refl _) ((Below.refl _ w4).alloc (Nat.le_refl _) (.cells #[.int .i64 D.ino, .int .i64 D.kind, .int .i64 D.links, .slice b1 D.data.length d1, .slice b2 D.ents.length d2, .slice b3 D.attrs.length d3] 30))
          have hlt : w4.heap.size < (w4.alloc (.cells #[.int .i64 D.ino, .int .i64 D.kind, .int .i64 D.links, .slice b1 D.data.length d1, .slice b2 D.ents.length d2, .slice b3 D.attrs.length d3] 30)).heap.size := by simp
          obtain ⟨W4, hW4⟩ : ∃ W, w4.alloc (.cells #[.int .i64 D.ino, .int .i64 D.kind, .int .i64 D.links, .slice b1 D.data.length d1, .slice b2 D.ents.length d2, .slice b3 D.attrs.length d3] 30) = W := ⟨_, rfl⟩
          rw [hW4] at zr4 zt4 hB4 zX g5 hlt
          have t0 := zt4.cell 0
          have t1 := zt4.cell 1
          simp at t0 t1
          clear hb4' g4 bb4 hB2 zr2 zt2
          by_cases hc0 : c = 0
          · subst hc0
            rw [if_neg (by simp)] at hmd
            have hDs : InoSmall D := HSm.out D (statD_mem HDC.out)
            have hDa := hDs.attrs
            obtain ⟨i0, hi, hz0, hz1, hz2⟩ := info_parts Try.infoAttr
            have hre := g5.rds.attrs
            have HRE : Hid _ := hre
            have HZX : Hid _ := zX
            have oE : (W4.alloc (.cells #[] 70)).ownsRow W4.heap.size 70 2 (.slice (some ⟨W4.heap.size, 0, none⟩) (cutA (D.attrs.take 0) nm).length 0) (cutA (D.attrs.take 0) nm).length (pv (aP (cutA (D.attrs.take 0) nm))) := empty_row W4 W4.heap.size 70 2 (Nat.le_refl _)
            have BE : Below W4.heap.size W4 (W4.alloc (.cells #[] 70)) := (Below.refl _ W4).alloc (Nat.le_refl _) _
            obtain ⟨na, hna⟩ : ∃ m, D.attrs.length = m := ⟨_, rfl⟩
            have HNA : Hid _ := hna
            rw [hna] at hDa
            have HMD : Hid _ := hmd
            have HZ4 : Hid _ := zr4
            have HT4 : Hid _ := zt4
            have HB4 : Hid _ := hB4
            have HG5 : Hid _ := g5
            clear hmd zr4 zt4 hB4 g5 hre zX t0 t1 hna
            go_wp2
            go_loopw [14, 15] (fun l i wr => ∃ (k g cc m : Nat), k ≤ na ∧ i = .int .i64 k ∧ l = .slice (some ⟨g, 0, none⟩) m cc ∧ (cutA (D.attrs.take k) nm).length = m ∧ wr.ownsRow W4.heap.size 70 2 (.slice (some ⟨g, 0, none⟩) m cc) m (pv (aP (cutA (D.attrs.take k) nm))) ∧ Below W4.heap.size W4 wr) (fun _ i _ => na - (intOf i).toNat)
            case atStart => exact ⟨0, W4.heap.size, 0, 0, Nat.zero_le _, rfl, rfl, rfl, oE, BE⟩
            case round =>
              obtain ⟨k, g, cg, m, hk, rfl, rfl, hm, ho, hBr⟩ := hrel
              clear oE BE
              have zXr := Blk.keep HZX.out hBr
              have x5 := zXr.cell 5
              simp at x5
              rw [HNA.out] at x5
              by_cases hkn : k < na
              · have hki : (k : Int) < (na : Int) := by omega
                have hkl : k < D.attrs.length := by rw [HNA.out]; exact hkn
                obtain ⟨eb, eo, rfl, helt, hec⟩ := RdP.lt HRE.out (by intro h; have := congrArg List.length h; rw [aP_length] at this; simp at this; rw [this] at hkl; simp at hkl)
                have hx := hec k (by rw [aP_length]; exact hkl)
                rw [aP_at D.attrs k hkl] at hx
                have hct := cutA_take (nm := nm) (List.getElem?_eq_getElem hkl)
                have hle := cutA_le D.attrs nm k
                obtain ⟨z, u, hzu⟩ : ∃ z u, D.attrs[k] = (z, u) := ⟨_, _, rfl⟩
                rw [hzu] at hx hct
                have q1 : wr.cell? ⟨eb, eo + k * 2, none⟩ = some (.string z) := (hBr.cell (p := ⟨eb, eo + k * 2, none⟩) helt).trans hx.1
                have q2 : wr.cell? ⟨eb, eo + k * 2 + 1, none⟩ = some (.string u) := (hBr.cell (p := ⟨eb, eo + k * 2 + 1, none⟩) helt).trans hx.2
                dsimp only at hct
                rw [hm] at hle
                by_cases hz : z = nm
                · rw [if_pos hz, List.append_nil] at hct
                  have hnx : Hid _ := hct
                  have heb : (z.toList == nm.toList) = true := by rw [hz]; exact beq_self_eq_true _
                  have heb' : (z.toList != nm.toList) = false := by rw [bne, heb]; rfl
                  clear hec hx hct hzu hle hz
                  go_wp2
                  go_roundw
                  case rel => exact ⟨k + 1, g, cg, m, by omega, by go_num, rfl, by rw [hnx.out]; exact hm, by rw [hnx.out]; exact ho, hBr⟩
                  case measure => simp [intOf]; omega
                · rw [if_neg hz] at hct
                  have hnx : Hid _ := hct
                  have heb := bytes_ne hz
                  have heb' : (z.toList != nm.toList) = true := by rw [bne, heb]; rfl
                  have hap := app_pair (wr.alloc (.cells #[.string z, .string u] 70)) W4.heap.size 28 70 i0 (.agg #[.string ⟨#[]⟩, .string ⟨#[]⟩]) 32 Try.underlying28 hi hz0 hz1 hz2 rfl (by omega) g m cg (aP (cutA (D.attrs.take k) nm)) (World.ownsRow.alloc ho _) (by omega) wr.heap.size (.string z, .string u) ((Blk.new wr 70 #[.string z, .string u]).cell 0) ((Blk.new wr 70 #[.string z, .string u]).cell 1) rfl rfl (by have := hBr.size; simp; omega)
                  clear hec hx hct hzu
                  go_wp2_with (at_builtin; refine wpList_run _ rfl (.tmp 67) (.tmp 73) 28 rfl (.slice (some ⟨g, 0, none⟩) m cg) (.slice (some ⟨wr.heap.size, 0, none⟩) 1 1) rfl rfl _ hap ?_; rintro v5 V5 ⟨g6, c6, rfl, o6, hg6, hat6⟩)
                  have hB1 := hBr.alloc hBr.size (.cells #[.string z, .string u] 70)
                  have hlow := (World.ownsRow.lt ho g rfl).1
                  have hB2 := hB1.grown hg6 hB1.size (fun q hq => by simp at hq; omega)
                  have hfin : Hid (V5.ownsRow W4.heap.size 70 2 (.slice (some ⟨g6, 0, none⟩) (m + 1) c6) (m + 1) (pv (aP (cutA (D.attrs.take (k + 1)) nm))) ∧ Below W4.heap.size W4 V5) := ⟨by rw [hnx.out, aP_snoc]; exact o6, hB2⟩
                  have hlen : Hid ((cutA (D.attrs.take (k + 1)) nm).length = m + 1) := by show _ = _; rw [hnx.out, List.length_append, hm]; rfl
                  clear hap o6 hg6 hB1 hB2 ho hBr q1 q2 hat6 x5 zXr
                  go_wp2
                  go_roundw
                  all_goals first
                    | (case rel => (repeat apply Exists.intro); exact ⟨⟨k + 1, g6, c6, m + 1, by omega, by go_num, rfl, hlen.out, hfin.out⟩, rfl⟩)
                    | (case rel => exact ⟨k + 1, g6, c6, m + 1, by omega, by go_num, rfl, hlen.out, hfin.out⟩)
                    | (case measure => simp [intOf]; omega)
                    | fail
              · have hki : ¬ (k : Int) < (na : Int) := by omega
                have he : D.attrs.take k = D.attrs := List.take_of_length_le (by rw [HNA.out]; omega)
                rw [he] at hm ho
                obtain ⟨U, hU⟩ : ∃ U, U = wr := ⟨_, rfl⟩
                subst hU
                have hmd := HMD.out
                have zr4 : Blk W4 (w.heap.size + 1) 26 #[.slice none 0 0, .int .i64 0] := HZ4.out
                have zt4 : Blk W4 w.heap.size 26 #[.slice a n cap, .int .i64 nx] := HT4.out
                have hB4 := HB4.out
                have g5 := HG5.out
                have zX : Blk W4 w4.heap.size 30 #[.int .i64 D.ino, .int .i64 D.kind, .int .i64 D.links, .slice b1 D.data.length d1, .slice b2 D.ents.length d2, .slice b3 D.attrs.length d3] := HZX.out
                have hml : m ≤ na := by rw [← hm]; have := List.length_filter_le (fun q : ByteArray × ByteArray => decide (q.1 ≠ nm)) D.attrs; rw [HNA.out] at this; exact this
                clear he zXr HRE hi hz0 hz1 hz2 HMD HZ4 HT4 HB4 HG5 HZX
                by_cases hve : val = ⟨#[]⟩
                · rw [if_pos hve] at hmd
                  subst hve
                  have hsU := hBr.size
                  have gS := gr_setC U w4.heap.size 5 (.slice (some ⟨g, 0, none⟩) m cg)
                  have y5 := (zX.keep hBr).cell 5
                  have yf := (zX.keep hBr).frozen 5
                  simp at y5
                  have hgl := (World.ownsRow.lt ho g rfl).1
                  have hsB := hBr.size
                  have zX8 : Blk (U.setCell ⟨w4.heap.size, 5, none⟩ (.slice (some ⟨g, 0, none⟩) m cg)) w4.heap.size 30 #[.int .i64 D.ino, .int .i64 D.kind, .int .i64 D.links, .slice b1 D.data.length d1, .slice b2 D.ents.length d2, .slice (some ⟨g, 0, none⟩) m cg] := (zX.keep hBr).set 5 _
                  have zr8 := (zr4.keep hBr).kept gS (by omega)
                  have zt8 := (zt4.keep hBr).kept gS (by omega)
                  have o8 := row_kept ho gS (fun z hz e => by simp [Value.ownBlock] at hz; simp at e; omega)
                  have g8 : InoG (U.setCell ⟨w4.heap.size, 5, none⟩ (.slice (some ⟨g, 0, none⟩) m cg)) w2.heap.size w4.heap.size D (.slice b1 D.data.length d1) (.slice b2 D.ents.length d2) (.slice b3 D.attrs.length d3) := (g5.keep (by omega) hBr).kept fun k h1 h2 => gS.block k (by omega) (by simp; omega)
                  have hB8 : Below w.heap.size w (U.setCell ⟨w4.heap.size, 5, none⟩ (.slice (some ⟨g, 0, none⟩) m cg)) := (hB4.trans (hBr.mono hB4.size)).setCell (p := ⟨w4.heap.size, 5, none⟩) (by show w.heap.size ≤ w4.heap.size; omega) _
                  obtain ⟨F, hF⟩ : ∃ F, ({ D with attrs := cutA D.attrs nm } : InoD) = F := ⟨_, rfl⟩
                  have hFr : InoRd (U.setCell ⟨w4.heap.size, 5, none⟩ (.slice (some ⟨g, 0, none⟩) m cg)) F b1 b2 (some ⟨g, 0, none⟩) := by
                    rw [← hF]
                    exact ⟨g8.rds.data, g8.rds.byt, g8.rds.ents, (show OwnP 70 _ g _ cg _ from row_lower o8 (Nat.zero_le _)).rd⟩
                  have hFs : InoSmall F := by
                    rw [← hF]
                    exact cutA_small hDs nm
                  have e2 : D.ino = F.ino ∧ D.kind = F.kind ∧ D.links = F.links ∧ D.data.length = F.data.length ∧ D.ents.length = F.ents.length ∧ m = F.attrs.length := by rw [← hF]; exact ⟨rfl, rfl, rfl, rfl, rfl, hm.symm⟩
                  rw [hF] at hmd
                  have HMF : Hid _ := hmd
                  have hcF := setT a n cap nx rs F b1 b2 (some ⟨g, 0, none⟩) d1 d2 cg (U.setCell ⟨w4.heap.size, 5, none⟩ (.slice (some ⟨g, 0, none⟩) m cg)) (HT.out.keep hB8) hFs hFr
                  rw [HDS.out, ← e2.1, ← e2.2.1, ← e2.2.2.1, ← e2.2.2.2.1, ← e2.2.2.2.2.1, ← e2.2.2.2.2.2] at hcF
                  obtain ⟨j0, j1, j2, j3, j4, j5⟩ := zX8.six
                  have p0 := zt8.cell 0
                  have p1 := zt8.cell 1
                  simp at p0 p1
                  obtain ⟨V8, hV8⟩ : ∃ W, U.setCell ⟨w4.heap.size, 5, none⟩ (.slice (some ⟨g, 0, none⟩) m cg) = W := ⟨_, rfl⟩
                  rw [hV8] at hcF hB8 zr8 j0 j1 j2 j3 j4 j5 p0 p1
                  have HBW : Hid _ := hB8
                  have HZW : Hid _ := zr8
                  clear zX zr4 zt4 hB4 g5 ho hBr gS zX8 zr8 zt8 o8 g8 hB8 hF hFr hFs e2 hmd
                  go_wp2_with fail
                  (with_reducible refine hcF.mono ?_)
                  rintro e wz ⟨v, rfl, tAz⟩
                  obtain ⟨b, m, cc, rfl, zz, hPz⟩ := hset.out _ _ _ _ tAz HBW.out HZW.out HMF.out
                  have HPP : Hid _ := hPz
                  have HZZ : Hid _ := zz
                  have rr0 := zz.cell 0
                  have rr1 := zz.cell 1
                  have rf0 := zz.frozen 0
                  have rf1 := zz.frozen 1
                  simp at rr0 rr1
                  clear zz hPz hcF tAz y5 yf j0 j1 j2 j3 j4 j5 p0 p1
                  go_wp2
                  have zf := blk2 HZZ.out (.slice b m cc) (.int .i64 nx)
                  have dd0 := zf.cell 0
                  have dd1 := zf.cell 1
                  simp at dd0 dd1
                  refine bodyPost_ret (v := .tuple #[.agg #[.slice b m cc, .int .i64 nx], .int .i64 0]) (by simp [results, Try.f117, go_sem, dd0, dd1]) rfl ?_
                  exact HPP.out

                · rw [if_neg hve] at hmd
                  have hvb := bytes_ne hve
                  have hvn : val.toList ≠ [] := fun e => hve (by
                    rw [Lib.toList_data] at e
                    rw [← Lib.mk_data val, e])
                  have hvb2 : (val.toList == ([] : List UInt8)) = false := by simpa using hvn
                  have hvb3 : val.toList.isEmpty = false := by simpa using hvn
                  have hsU := hBr.size
                  by_cases h4 : 4 ≤ m
                  · rw [if_pos (by rw [hm]; exact h4)] at hmd
                    have hi4 : (4 : Int) ≤ (m : Int) := by omega
                    have hcC := href.out U 5 (hB4.trans (hBr.mono hB4.size)) (zr4.keep hBr) hmd
                    have zt5 := zt4.keep hBr
                    have t0 := zt5.cell 0
                    have t1 := zt5.cell 1
                    simp at t0 t1
                    clear hmd zr4 zt4 hB4 zX g5 ho zt5 hve hvn
                    go_wp2_with fail
                    (with_reducible refine hcC.mono ?_)
                    rintro e wz ⟨b, m, cc, rfl, zz, hPz⟩
                    have HPP : Hid _ := hPz
                    have HZZ : Hid _ := zz
                    have rr0 := zz.cell 0
                    have rr1 := zz.cell 1
                    have rf0 := zz.frozen 0
                    have rf1 := zz.frozen 1
                    simp at rr0 rr1
                    clear zz hPz hcC t0 t1 x5
                    go_wp2
                    have zf := blk2 HZZ.out (.slice b m cc) (.int .i64 nx)
                    have dd0 := zf.cell 0
                    have dd1 := zf.cell 1
                    simp at dd0 dd1
                    refine bodyPost_ret (v := .tuple #[.agg #[.slice b m cc, .int .i64 nx], .int .i64 5]) (by simp [results, Try.f117, go_sem, dd0, dd1]) rfl ?_
                    exact HPP.out

                  · rw [if_neg (by rw [hm]; exact h4)] at hmd
                    have hi4 : ¬ (4 : Int) ≤ (m : Int) := by omega
                    have hcP := l6AttrS (some ⟨g, 0, none⟩) m cg (cutA D.attrs nm) nm val U hm (by omega) (show OwnP 70 _ g _ cg _ from row_lower ho (Nat.zero_le _)).rd
                    clear hve hvn
                    go_wp2_with fail
                    (with_reducible refine hcP.mono ?_)
                    rintro e w7 ⟨g7, c7, rfl, o7, b7⟩
                    have bU7 : Below W4.heap.size W4 w7 := hBr.trans (b7.mono hBr.size)
                    clear hcP x5 ho
                    have gS := gr_setC w7 w4.heap.size 5 (.slice (some ⟨g7, 0, none⟩) (m + 1) c7)
                    have y5 := (zX.keep bU7).cell 5
                    have yf := (zX.keep bU7).frozen 5
                    simp at y5
                    have hgl := (World.ownsRow.lt o7 g7 rfl).1
                    have hsB := bU7.size
                    have zX8 : Blk (w7.setCell ⟨w4.heap.size, 5, none⟩ (.slice (some ⟨g7, 0, none⟩) (m + 1) c7)) w4.heap.size 30 #[.int .i64 D.ino, .int .i64 D.kind, .int .i64 D.links, .slice b1 D.data.length d1, .slice b2 D.ents.length d2, .slice (some ⟨g7, 0, none⟩) (m + 1) c7] := (zX.keep bU7).set 5 _
                    have zr8 := (zr4.keep bU7).kept gS (by omega)
                    have zt8 := (zt4.keep bU7).kept gS (by omega)
                    have o8 := row_kept o7 gS (fun z hz e => by simp [Value.ownBlock] at hz; simp at e; omega)
                    have g8 : InoG (w7.setCell ⟨w4.heap.size, 5, none⟩ (.slice (some ⟨g7, 0, none⟩) (m + 1) c7)) w2.heap.size w4.heap.size D (.slice b1 D.data.length d1) (.slice b2 D.ents.length d2) (.slice b3 D.attrs.length d3) := (g5.keep (by omega) bU7).kept fun k h1 h2 => gS.block k (by omega) (by simp; omega)
                    have hB8 : Below w.heap.size w (w7.setCell ⟨w4.heap.size, 5, none⟩ (.slice (some ⟨g7, 0, none⟩) (m + 1) c7)) := (hB4.trans (bU7.mono hB4.size)).setCell (p := ⟨w4.heap.size, 5, none⟩) (by show w.heap.size ≤ w4.heap.size; omega) _
                    obtain ⟨F, hF⟩ : ∃ F, ({ D with attrs := insBy (fun q => gtS nm q.1) (cutA D.attrs nm) (nm, val) } : InoD) = F := ⟨_, rfl⟩
                    have hFr : InoRd (w7.setCell ⟨w4.heap.size, 5, none⟩ (.slice (some ⟨g7, 0, none⟩) (m + 1) c7)) F b1 b2 (some ⟨g7, 0, none⟩) := by
                      rw [← hF]
                      exact ⟨g8.rds.data, g8.rds.byt, g8.rds.ents, (show OwnP 70 _ g7 _ c7 _ from row_lower o8 (Nat.zero_le _)).rd⟩
                    have hFs : InoSmall F := by
                      rw [← hF]
                      exact putA_small hDs nm val (by omega) (by omega) (by rw [hm]; omega)
                    have e2 : D.ino = F.ino ∧ D.kind = F.kind ∧ D.links = F.links ∧ D.data.length = F.data.length ∧ D.ents.length = F.ents.length ∧ (m + 1) = F.attrs.length := by rw [← hF]; exact ⟨rfl, rfl, rfl, rfl, rfl, (by show _ = (insBy _ _ _).length; rw [insBy_len, hm])⟩
                    rw [hF] at hmd
                    have HMF : Hid _ := hmd
                    have hcF := setT a n cap nx rs F b1 b2 (some ⟨g7, 0, none⟩) d1 d2 c7 (w7.setCell ⟨w4.heap.size, 5, none⟩ (.slice (some ⟨g7, 0, none⟩) (m + 1) c7)) (HT.out.keep hB8) hFs hFr
                    rw [HDS.out, ← e2.1, ← e2.2.1, ← e2.2.2.1, ← e2.2.2.2.1, ← e2.2.2.2.2.1, ← e2.2.2.2.2.2] at hcF
                    obtain ⟨j0, j1, j2, j3, j4, j5⟩ := zX8.six
                    have p0 := zt8.cell 0
                    have p1 := zt8.cell 1
                    simp at p0 p1
                    obtain ⟨V8, hV8⟩ : ∃ W, w7.setCell ⟨w4.heap.size, 5, none⟩ (.slice (some ⟨g7, 0, none⟩) (m + 1) c7) = W := ⟨_, rfl⟩
                    rw [hV8] at hcF hB8 zr8 j0 j1 j2 j3 j4 j5 p0 p1
                    have HBW : Hid _ := hB8
                    have HZW : Hid _ := zr8
                    clear zX zr4 zt4 hB4 g5 o7 bU7 gS zX8 zr8 zt8 o8 g8 hB8 hF hFr hFs e2 hmd
                    go_wp2_with fail
                    (with_reducible refine hcF.mono ?_)
                    rintro e wz ⟨v, rfl, tAz⟩
                    obtain ⟨b, m, cc, rfl, zz, hPz⟩ := hset.out _ _ _ _ tAz HBW.out HZW.out HMF.out
                    have HPP : Hid _ := hPz
                    have HZZ : Hid _ := zz
                    have rr0 := zz.cell 0
                    have rr1 := zz.cell 1
                    have rf0 := zz.frozen 0
                    have rf1 := zz.frozen 1
                    simp at rr0 rr1
                    clear zz hPz hcF tAz y5 yf j0 j1 j2 j3 j4 j5 p0 p1
                    go_wp2
                    have zf := blk2 HZZ.out (.slice b m cc) (.int .i64 nx)
                    have dd0 := zf.cell 0
                    have dd1 := zf.cell 1
                    simp at dd0 dd1
                    refine bodyPost_ret (v := .tuple #[.agg #[.slice b m cc, .int .i64 nx], .int .i64 0]) (by simp [results, Try.f117, go_sem, dd0, dd1]) rfl ?_
                    exact HPP.out

          · rw [if_pos hc0] at hmd
            have hcC := href.out W4 c hB4 zr4 hmd
            have hcb : (c != 0) = true := by simpa using hc0
            have hcb' : (c == 0) = false := by simpa using hc0
            clear hmd zr4 zt4 hB4 zX g5
            go_wp2_with fail
            (with_reducible refine hcC.mono ?_)
            rintro e wz ⟨b, m, cc, rfl, zz, hPz⟩
            have HPP : Hid _ := hPz
            have HZZ : Hid _ := zz
            have rr0 := zz.cell 0
            have rr1 := zz.cell 1
            have rf0 := zz.frozen 0
            have rf1 := zz.frozen 1
            simp at rr0 rr1
            clear zz hPz hcC t0 t1
            go_wp2
            have zf := blk2 HZZ.out (.slice b m cc) (.int .i64 nx)
            have dd0 := zf.cell 0
            have dd1 := zf.cell 1
            simp at dd0 dd1
            refine bodyPost_ret (v := .tuple #[.agg #[.slice b m cc, .int .i64 nx], .int .i64 c]) (by simp [results, Try.f117, go_sem, dd0, dd1]) rfl ?_
            exact HPP.out
end Go.Proofs.Ytgcmpimckpnemaa
