/-
  Joined: WithI, Text, SameB, TabM2, FreshM, WrapI.
-/
import Derived.Test.YtbjfihabkpianaaGreatDoorJ30E
import Derived.Laws.BytesString
import Derived.Laws.StructEq
namespace Go.Proofs.YtbjfihabkpianaaGreatDoor
section
open Go.RowKit
theorem putEnt_small {D : InoD} (h : InoSmall D) (nm : ByteArray) (u : Int) (hn : nm.size ≤ 1048576) (hl : D.ents.length ≤ 100) : InoSmall { D with ents := insBy (fun q => gtS nm q.1) D.ents (nm, u) } := by
  refine ⟨h.data, ?_, h.attrs, fun q hq => ?_, h.attrsz⟩
  · show (insBy _ _ _).length ≤ _
    rw [insBy_len]
    omega
  · rcases insBy_mem.1 hq with rfl | hq
    · exact hn
    · exact h.entsz q hq
set_option maxRecDepth 100000 in
set_option maxHeartbeats 4000000 in
theorem withI (a : Option Addr) (n cap : Nat) (nx : Int) (rs : List InoR) (s : ByteArray) (u : Int) (w : World) (ht : TR w a n rs) (hK : ∀ r ∈ rs, r.D.kind = 1 ∨ r.D.kind = 2) (hwf : ∀ r ∈ rs, (Lit.int .i64 r.D.ino).wf = true) (hwe : ∀ r ∈ rs, ∀ e ∈ r.D.ents, (Lit.int .i64 e.2).wf = true) (hE : ∀ r ∈ rs, r.D.ents.length ≤ 100) (hs : s.size ≤ 4000000) (hps : (strB (parentOf s.data.toList).1).size ≤ 4000000) (D : InoD) (hD : badK 1 (rs.map InoR.D) (strB (parentOf s.data.toList).1) = (D, 0)) (hnz : (strB (parentOf s.data.toList).2.1).size ≤ 1048576) (hno : ∀ e ∈ D.ents, (e.1.toList == (strB (parentOf s.data.toList).2.1).toList) = false) (hmo : ∀ (i j : Nat) (hi : i < D.ents.length) (hj : j < D.ents.length), i ≤ j → Op.bytesLess D.ents[j].1.toList (strB (parentOf s.data.toList).2.1).toList = true → Op.bytesLess D.ents[i].1.toList (strB (parentOf s.data.toList).2.1).toList = true) :
    Calls Tryz.prog 213 #[.agg #[.slice a n cap, .int .i64 nx], .string s, .int .i64 u] w fun e w' => ∃ v, e = .returned v ∧ TabAt w nx (setD (rs.map InoR.D) { D with ents := insBy (fun q => gtS (strB (parentOf s.data.toList).2.1) q.1) D.ents (strB (parentOf s.data.toList).2.1, u) }) v w' := by
  have B0 : Below w.heap.size w ((w.alloc (.cells #[.slice a n cap, .int .i64 nx] 47)).alloc (.cells #[.slice none 0 0, .int .i64 0] 47)) := ((Below.refl _ w).alloc (Nat.le_refl _) _).alloc (by simp) _
  have zT := (Blk.new w 47 #[.slice a n cap, .int .i64 nx]).alloc (.cells #[.slice none 0 0, .int .i64 0] 47)
  have zR := Blk.new (w.alloc (.cells #[.slice a n cap, .int .i64 nx] 47)) 47 #[.slice none 0 0, .int .i64 0]
  simp only [World.size_alloc] at zR
  have hcP := fun W => parentI s W hs
  unfold PaPost at hcP
  obtain ⟨pa, hpa⟩ : ∃ p, strB (parentOf s.data.toList).1 = p := ⟨_, rfl⟩
  obtain ⟨nm, hnm⟩ : ∃ p, strB (parentOf s.data.toList).2.1 = p := ⟨_, rfl⟩
  obtain ⟨pb, hpb⟩ : ∃ p, (parentOf s.data.toList).2.2 = p := ⟨_, rfl⟩
  rw [hpa] at hcP hD hps
  rw [hnm] at hcP hnz hno hmo ⊢
  rw [hpb] at hcP
  have hcF := fun (W : World) (hW : Below w.heap.size w W) => dirI a n cap nx rs pa W (ht.keep hW) hK hwf hwe hps
  have HMEM : Hid _ := @badK_mem 1 (rs.map InoR.D) pa
  rw [hD] at hcF HMEM
  dsimp only at hcF HMEM
  have HDm : Hid (D ∈ rs.map InoR.D) := HMEM.out rfl
  obtain ⟨ds, hds⟩ : ∃ ds, rs.map InoR.D = ds := ⟨_, rfl⟩
  rw [hds]
  have HDS : Hid _ := hds
  obtain ⟨TT, hTT⟩ : ∃ c, setD ds { D with ents := insBy (fun q => gtS nm q.1) D.ents (nm, u) } = c := ⟨_, rfl⟩
  rw [hTT]
  have HTT : Hid _ := hTT
  have HSM : Hid _ := ht.small
  have HLEN : Hid _ := ht.len
  have HNN : Hid _ := ht.n
  have HRD : Hid _ := ht.rd
  have HWF : Hid _ := hwf
  have HEE : Hid _ := hE
  clear hpa hnm hpb hD ht hK hwf hwe hE hds hTT HMEM
  go_enter Tryz.func213, Tryz.ntmps213
  go_wp2_with fail
  obtain ⟨Wz, hWz⟩ : ∃ W, ((w.alloc (.cells #[.slice a n cap, .int .i64 nx] 47)).alloc (.cells #[.slice none 0 0, .int .i64 0] 47)) = W := ⟨_, rfl⟩
  rw [hWz] at B0 zT zR ⊢
  clear hWz
  (with_reducible refine (hcP Wz).mono ?_)
  rintro e w1 ⟨b1, rfl⟩
  have zt1 := zT.keep b1
  have zr1 := zR.keep b1
  have hb1 := B0.trans (b1.mono B0.size)
  have t0 := zt1.cell 0
  have t1 := zt1.cell 1
  simp at t0 t1
  clear zT zR B0 b1 hcP
  go_wp2_with fail
  (with_reducible refine (hcF w1 hb1).mono ?_)
  rintro e w2 ⟨b1, d1, b2, d2, b3, d3, rfl, g2, bb2⟩
  rw [errV_zero]
  have zt := (zt1.keep bb2).alloc (.cells #[.int .i64 D.ino, .int .i64 D.kind, .int .i64 D.links, .slice b1 D.data.length d1, .slice b2 D.ents.length d2, .slice b3 D.attrs.length d3] 68)
  have zr := (zr1.keep bb2).alloc (.cells #[.int .i64 D.ino, .int .i64 D.kind, .int .i64 D.links, .slice b1 D.data.length d1, .slice b2 D.ents.length d2, .slice b3 D.attrs.length d3] 68)
  have hb2 := hb1.trans (bb2.mono hb1.size)
  have hb3 := hb2.alloc hb2.size (.cells #[.int .i64 D.ino, .int .i64 D.kind, .int .i64 D.links, .slice b1 D.data.length d1, .slice b2 D.ents.length d2, .slice b3 D.attrs.length d3] 68)
  have hbA : Below w2.heap.size w2 (w2.alloc (.cells #[.int .i64 D.ino, .int .i64 D.kind, .int .i64 D.links, .slice b1 D.data.length d1, .slice b2 D.ents.length d2, .slice b3 D.attrs.length d3] 68)) := (Below.refl _ w2).alloc (Nat.le_refl _) _
  have zX := Blk.new w2 68 #[.int .i64 D.ino, .int .i64 D.kind, .int .i64 D.links, .slice b1 D.data.length d1, .slice b2 D.ents.length d2, .slice b3 D.attrs.length d3]
  have g3 := g2.keep (Nat.le_refl _) hbA
  have hsR : w.heap.size + 1 < w2.heap.size := (zr1.keep bb2).lt
  have HBZ : Hid (w.heap.size ≤ w1.heap.size) := hb1.size
  obtain ⟨X, hX⟩ : ∃ X, w2.heap.size = X := ⟨_, rfl⟩
  obtain ⟨W3, hW3⟩ : ∃ W, w2.alloc (.cells #[.int .i64 D.ino, .int .i64 D.kind, .int .i64 D.links, .slice b1 D.data.length d1, .slice b2 D.ents.length d2, .slice b3 D.attrs.length d3] 68) = W := ⟨_, rfl⟩
  rw [hW3] at zt zr hb3 zX g3
  rw [hX] at zX g3 hsR
  have HZT : Hid _ := zt
  have HZR : Hid _ := zr
  have HB3 : Hid _ := hb3
  have HG3 : Hid _ := g3
  have HZX : Hid _ := zX
  obtain ⟨x0, x1, x2, x3, x4, x5⟩ := zX.six
  have fx := zX.frozen 4
  obtain ⟨rD, hrD, hrDD⟩ : ∃ r ∈ rs, r.D = D := by
    have := HDm.out
    obtain ⟨r, hr, h⟩ := List.mem_map.1 this
    exact ⟨r, hr, h⟩
  have HSD : Hid (InoSmall D) := hrDD ▸ HSM.out rD hrD
  have HWD : Hid ((Lit.int .i64 D.ino).wf = true) := hrDD ▸ HWF.out rD hrD
  have hel0 : D.ents.length ≤ 100 := hrDD ▸ HEE.out rD hrD
  have hcZ := putNEnt (.slice b2 D.ents.length d2) D.ents.length D.ents nm u W3 (by omega) HG3.out.ents hno hmo
  clear hcF zt1 zr1 g2 bb2 hb2 hbA hb1 zt zr hb3 g3 zX hrD hrDD t0 t1
  go_wp2_with fail
  (with_reducible refine hcZ.mono ?_)
  rintro e w4 ⟨v4, rfl, o4, g4⟩
  obtain ⟨a4, c4, rfl⟩ := ownQ_shape o4
  have zt4 := Blk.rowQ HZT.out (by decide) HG3.out.ents g4
  have zr4 := Blk.rowQ HZR.out (by decide) HG3.out.ents g4
  have zX4 := Blk.rowQ HZX.out (by decide) HG3.out.ents g4
  have hk4 : KpT W3 w4 [5, 106] := KpT.row g4 HG3.out.ents (by decide)
  have hb4 : Below w.heap.size w w4 := HB3.out.grown g4 HB3.out.size (fun m hm => by have h1 := HG3.out.within m (.inr (.inl hm)); have h2 := HBZ.out; omega)
  obtain ⟨es', hes'⟩ : ∃ l, insBy (fun q => gtS nm q.1) D.ents (nm, u) = l := ⟨_, rfl⟩
  have hel : D.ents.length + 1 = es'.length := by rw [← hes', insBy_len]
  have hsx : InoSmall { D with ents := es' } := by rw [← hes']; exact putEnt_small HSD.out nm u hnz hel0
  rw [hes', hel] at o4
  rw [hes'] at HTT
  rw [hel]
  obtain ⟨m4, hm4⟩ : ∃ k, es'.length = k := ⟨_, rfl⟩
  rw [hm4] at o4 ⊢
  have zX5 := zX4.set 4 (.slice a4 m4 c4)
  have zt5 := zt4.other (B' := X) (by omega) 4 (.slice a4 m4 c4)
  have zr5 := zr4.other (B' := X) (by omega) 4 (.slice a4 m4 c4)
  have hk5 : KpT w4 (w4.setCell ⟨X, 4, none⟩ (.slice a4 m4 c4)) [5, 106, 154] := KpT.grown (gr_setC w4 X 4 _) zX4 (by decide)
  have o5 : OwnQ 154 (w4.setCell ⟨X, 4, none⟩ (.slice a4 m4 c4)) (.slice a4 m4 c4) m4 (eP es') := row_kp o4 hk5 (by decide)
  have g5 := inoG_ents HG3.out (hk4.tr (fun B cur t fr h1 h2 => hk5 B cur t fr h1 (List.mem_append_left [154] h2))) o5
  have hb5 := hb4.setCell (p := ⟨X, 4, none⟩) (show w.heap.size ≤ X by omega) (.slice a4 m4 c4)
  have fx4 := zX4.frozen 4
  have xx4 := zX4.cell 4
  simp at xx4
  obtain ⟨W5, hW5⟩ : ∃ W, w4.setCell ⟨X, 4, none⟩ (.slice a4 m4 c4) = W := ⟨_, rfl⟩
  rw [hW5] at zX5 zt5 zr5 g5 hb5
  have hrd5 : InoRd W5 { D with ents := es' } b1 a4 b3 := InoG.rds (B := 0) (T := W5.heap.size) (c1 := d1) (c2 := c4) (c3 := d3) (by show InoG W5 0 W5.heap.size _ (.slice b1 D.data.length d1) (.slice a4 es'.length c4) (.slice b3 D.attrs.length d3); rw [hm4]; exact g5)
  have hcI := setI a n cap nx rs { D with ents := es' } b1 a4 b3 d1 c4 d3 W5 HLEN.out HNN.out HWD.out HWF.out HSM.out hsx (RdI.keep HRD.out hb5) hrd5
  dsimp only at hcI
  rw [hm4] at hcI
  obtain ⟨x0, x1, x2, x3, x4, x5⟩ := zX5.six
  have t0 := zt5.cell 0
  have t1 := zt5.cell 1
  simp at t0 t1
  have HZR5 : Hid _ := zr5
  have HB5 : Hid _ := hb5
  have HHM : Hid _ := hm4
  clear hcZ o4 g4 hk4 hk5 o5 g5 hb4 hb5 hrd5 hsx zt4 zr4 zt5 zr5 zX5 hel hes' hm4
  go_wp2_with fail
  (with_reducible refine hcI.mono ?_)
  intro e w6 hp6
  obtain ⟨v6, rfl, ht6⟩ := hp6.tab
  rw [setD_eq, HDS.out] at ht6
  dsimp only at ht6
  rw [HTT.out] at ht6
  have ht6' := ht6
  obtain ⟨ra, rc, js, rfl, hq6, b6⟩ := ht6'
  obtain ⟨rn, hrn⟩ : ∃ rn, js.length = rn := ⟨_, rfl⟩
  rw [hrn] at hq6 ⊢
  have zr6 := Blk.keep HZR5.out b6
  have HFIN : Hid (TabAt w nx TT (.agg #[.slice ra rn rc, .int .i64 nx]) ((w6.setCell ⟨w.heap.size + 1, 0, none⟩ (.slice ra rn rc)).setCell ⟨w.heap.size + 1, 1, none⟩ (.int .i64 nx))) := by
    have h1 := hq6.boxed (HB5.out.trans (b6.mono HB5.out.size)) (show w.heap.size ≤ w.heap.size + 1 by omega) (Blk.lt HZR5.out) (.slice ra rn rc) (.int .i64 nx)
    refine ⟨ra, rc, js, by rw [hrn], ?_, h1.2⟩
    rw [hrn]
    exact h1.1
  have r0 := zr6.cell 0
  have r1 := zr6.cell 1
  have f0 := zr6.frozen 0
  have f1 := zr6.frozen 1
  simp at r0 r1
  have zf := blk2 zr6 (.slice ra rn rc) (.int .i64 nx)
  have dd0 := zf.cell 0
  have dd1 := zf.cell 1
  simp at dd0 dd1
  clear hcI hp6 ht6 zf zr6 b6 x0 x1 x2 x3 x4 x5 t0 t1 hrn hq6
  go_wp2
  refine bodyPost_ret (v := .agg #[.slice ra rn rc, .int .i64 nx]) (by simp [results, Tryz.f213, go_sem, dd0, dd1]) rfl ?_
  exact ⟨_, rfl, HFIN.out⟩
end

section
open Go.RowKit
def str (l : List Int) : ByteArray := l.foldl (fun r n => r.push (UInt8.ofNat n.toNat)) ByteArray.empty
def gtOf (zs : List Int) (r : Nat × Nat × Bool) : ByteArray × Nat × Bool :=
  if r.2.2 = false ∨ zs.length < r.2.1 + r.1 then (ByteArray.empty, 0, false)
  else (str ((zs.drop r.2.1).take r.1), r.2.1 + r.1, true)
theorem conv_at (w : World) (b off n : Nat) (zs : List Int) (nx x : Nat) (hn : zs.length = n) (hx : nx + x ≤ n) (hc : ∀ i, i < zs.length → w.cell? ⟨b, off + i, none⟩ = some (.int .u8 (zs.getD i 0))) (cap : Nat) :
    (convert 42 9 (.slice (some ⟨b, off + nx, none⟩) x cap)).run Tryz.prog w = .ok (.string (str ((zs.drop nx).take x))) w := by
  rw [run_convert_bytes_string w 42 9 5 _ _ _ Tryz.underlying42 Tryz.underlying5 Tryz.underlying9]
  have hl : ((zs.drop nx).take x).length = x := by simp; omega
  have h := run_loadCells_list (P := Tryz.prog) (w := w) ⟨b, off + nx, none⟩ (((zs.drop nx).take x).map (Value.int .u8)) (by
    intro j v hj
    simp only [List.getElem?_map] at hj
    by_cases hjx : j < x
    · have e : (⟨b, off + nx, none⟩ : Addr).add j = ⟨b, off + (nx + j), none⟩ := by simp [Addr.add, Nat.add_assoc]
      rw [e, hc (nx + j) (by omega)]
      rw [List.getElem?_take, if_pos hjx, List.getElem?_drop] at hj
      rw [← hj, List.getElem?_eq_getElem (by omega)]
      simp [List.getElem?_eq_getElem (show nx + j < zs.length by omega)]
    · rw [List.getElem?_take, if_neg hjx] at hj
      simp at hj)
  simp only [List.length_map, hl] at h
  exact run_bytesToString w _ x cap _ h
theorem conv_none (w : World) (a : Addr) (cap : Nat) : (convert 42 9 (.slice (some a) 0 cap)).run Tryz.prog w = .ok (.string ByteArray.empty) w := by
  rw [run_convert_bytes_string w 42 9 5 _ _ _ Tryz.underlying42 Tryz.underlying5 Tryz.underlying9]
  have h := run_loadCells_list (P := Tryz.prog) (w := w) a [] (by intro j v hj; simp at hj)
  exact run_bytesToString w a 0 cap [] h
end

section
open Go.RowKit
theorem conv_any (w : World) (a : Option Addr) (n cap : Nat) (zs : List Int) (hn : zs.length = n) (hr : Rd w a zs) :
    (convert 42 9 (.slice a n cap)).run Tryz.prog w = .ok (.string (str zs)) w := by
  rcases hr with h | ⟨b, off, rfl, hc⟩
  · subst h
    subst hn
    cases a with
    | none =>
      rw [run_convert_bytes_string w 42 9 5 _ _ _ Tryz.underlying42 Tryz.underlying5 Tryz.underlying9]
      simp [Conv.bytesToString, str]
    | some a => exact conv_none w a cap
  · have := conv_at w b off n zs 0 n hn (by omega) hc cap
    rw [Nat.add_zero, List.drop_zero, List.take_of_length_le (by omega)] at this
    exact this
end

section
open Go.RowKit
theorem find_set {α : Type} (q : α → Bool) (D : α) (hD : q D = false) : ∀ (l : List α) (p : Nat), (∀ E, l[p]? = some E → q E = false) → (l.set p D).find? q = l.find? q
  | [], _, _ => rfl
  | x :: l, 0, h => by
    have := h x rfl
    simp [hD, this]
  | x :: l, p + 1, h => by
    rw [List.set_cons_succ, List.find?_cons, List.find?_cons, find_set q D hD l p (fun E hE => h E (by simpa using hE))]
theorem find_set_self {α : Type} (q : α → Bool) (D : α) (hD : q D = true) : ∀ (l : List α) (p : Nat), p < l.length → (∀ j E, j < p → l[j]? = some E → q E = false) → (l.set p D).find? q = some D
  | [], _, h, _ => by simp at h
  | x :: l, 0, _, _ => by simp [hD]
  | x :: l, p + 1, h, k => by
    have hx := k 0 x (by omega) rfl
    rw [List.set_cons_succ, List.find?_cons, hx]
    exact find_set_self q D hD l p (by simpa using h) (fun j E hj hE => k (j + 1) E (by omega) (by simpa using hE))
theorem setD_form (ds : List InoD) (D : InoD) : (∃ p, p < ds.length ∧ setD ds D = ds.set p D ∧ (∀ E, ds[p]? = some E → E.ino = D.ino) ∧ ∀ j E, j < p → ds[j]? = some E → E.ino ≠ D.ino) ∨ (∃ k, setD ds D = ds.take k ++ D :: ds.drop k) ∧ ∀ E ∈ ds, E.ino ≠ D.ino := by
  unfold setD
  have hi : inos (ds.map lift) = ds.map InoD.ino := by unfold inos; rw [List.map_map]; rfl
  cases hf : firstAt (inos (ds.map lift)) (lift D).D.ino with
  | some p =>
    left
    rw [setR_some hf]
    rw [hi] at hf
    obtain ⟨hl, hp, hj⟩ := List.findIdx?_eq_some_iff_getElem.1 hf
    have hl' : p < ds.length := by simpa using hl
    refine ⟨p, hl', ?_, ?_, ?_⟩
    · rw [List.map_set, lift_map]; rfl
    · intro E hE
      have : (ds.map InoD.ino)[p]? = some E.ino := by rw [List.getElem?_map, hE]; rfl
      rw [(List.getElem?_eq_some_iff.1 this).2] at hp
      simpa [lift] using hp
    · intro j E hjp hE
      have h1 : (ds.map InoD.ino)[j]? = some E.ino := by rw [List.getElem?_map, hE]; rfl
      have h2 := hj j hjp
      rw [(List.getElem?_eq_some_iff.1 h1).2] at h2
      simpa [lift] using h2
  | none =>
    right
    rw [setR_none hf]
    refine ⟨⟨placeOf (ds.map lift) (lift D).D.ino, ?_⟩, fun E hE he => ?_⟩
    · unfold putAt
      simp only [List.map_append, List.map_cons, List.map_take, List.map_drop, lift_map]
      rfl
    · rw [hi] at hf
      have := List.findIdx?_eq_none_iff.1 hf E.ino (List.mem_map_of_mem hE)
      have he' : E.ino = (lift D).D.ino := he
      rw [he'] at this
      simp at this
theorem look_setD (ds : List InoD) (D : InoD) (y : Int) : look (setD ds D) y = if y = D.ino then some D else look ds y := by
  unfold look
  rcases setD_form ds D with ⟨p, hp, e, h1, h2⟩ | ⟨⟨k, e⟩, h⟩
  · rw [e]
    split
    · rename_i hy
      subst hy
      exact find_set_self _ D (by simp) ds p hp (fun j E hj hE => by simpa using h2 j E hj hE)
    · rename_i hy
      refine find_set _ D (by simpa using fun e => hy e.symm) ds p (fun E hE => ?_)
      have := h1 E hE
      rw [this]
      simpa using fun e => hy e.symm
  · rw [e]
    split
    · rename_i hy
      subst hy
      have h0 : (ds.take k).find? (fun E => E.ino == D.ino) = none := List.find?_eq_none.2 (fun E hE => by simpa using h E (List.mem_of_mem_take hE))
      rw [List.find?_append, h0]
      simp
    · rename_i hy
      have hn : (D.ino == y) = false := by simpa using fun e => hy e.symm
      rw [List.find?_append, List.find?_cons, hn]
      rw [show ds.find? (fun E => E.ino == y) = (ds.take k ++ ds.drop k).find? (fun E => E.ino == y) by rw [List.take_append_drop], List.find?_append]
end

section
open Go.RowKit
theorem entOf_in {nm : ByteArray} : ∀ {es : List (ByteArray × Int)}, entOf nm es ≠ 0 → ∃ q ∈ es, q.2 = entOf nm es
  | [], h => absurd rfl h
  | q :: es, h => by
    unfold entOf at h ⊢
    by_cases hq : q.1 = nm
    · rw [if_pos hq]
      exact ⟨q, List.mem_cons_self .., rfl⟩
    · rw [if_neg hq] at h ⊢
      obtain ⟨p, hp, he⟩ := entOf_in h
      exact ⟨p, List.mem_cons_of_mem _ hp, he⟩
theorem walkD_new {ds : List InoD} {N : InoD} (hN : look ds N.ino = none) (hE : ∀ D ∈ ds, ∀ e ∈ D.ents, (look ds e.2).isSome = true) : ∀ (l : List ByteArray) (x : Int), x ≠ N.ino → walkD (setD ds N) x l = walkD ds x l
  | [], x, _ => rfl
  | nm :: l, x, hx => by
    unfold walkD
    rw [look_setD, if_neg hx]
    cases hl : look ds x with
    | none => rfl
    | some D =>
      dsimp only
      by_cases hk : D.kind = 2
      · rw [if_pos hk, if_pos hk]
        by_cases h0 : entOf nm D.ents = 0
        · rw [if_pos h0, if_pos h0]
        · rw [if_neg h0, if_neg h0]
          refine walkD_new hN hE l _ fun e => ?_
          obtain ⟨q, hq, hq2⟩ : ∃ q ∈ D.ents, q.2 = entOf nm D.ents := entOf_in h0
          have h1 := hE D (look_mem hl).1 q hq
          rw [hq2, e, hN] at h1
          cases h1
      · rw [if_neg hk, if_neg hk]
theorem walkD_end {ds : List InoD} {N : InoD} (hN : look ds N.ino = none) (hE : ∀ D ∈ ds, ∀ e ∈ D.ents, (look ds e.2).isSome = true) : ∀ (l : List ByteArray) (x : Int), x ≠ N.ino → 0 ≠ N.ino → (walkD ds x l).1 ≠ N.ino
  | [], x, hx, _ => hx
  | nm :: l, x, hx, hz => by
    unfold walkD
    cases hl : look ds x with
    | none => exact hz
    | some D =>
      dsimp only
      by_cases hk : D.kind = 2
      · rw [if_pos hk]
        by_cases h0 : entOf nm D.ents = 0
        · rw [if_pos h0]
          exact hz
        · rw [if_neg h0]
          refine walkD_end hN hE l _ (fun e => ?_) hz
          obtain ⟨q, hq, hq2⟩ : ∃ q ∈ D.ents, q.2 = entOf nm D.ents := entOf_in h0
          have h1 := hE D (look_mem hl).1 q hq
          rw [hq2, e, hN] at h1
          cases h1
      · rw [if_neg hk]
        exact hz
theorem statD_new {ds : List InoD} {N : InoD} (hN : look ds N.ino = none) (hE : ∀ D ∈ ds, ∀ e ∈ D.ents, (look ds e.2).isSome = true) (h1 : N.ino ≠ 1) (h0 : N.ino ≠ 0) (s : ByteArray) : statD (setD ds N) s = statD ds s := by
  have hw : walkP (setD ds N) s = walkP ds s := by
    unfold walkP
    cases splitOf s.data.toList with
    | none => rfl
    | some l => exact walkD_new hN hE _ 1 (Ne.symm h1)
  have he : (walkP ds s).1 ≠ N.ino := by
    unfold walkP
    cases splitOf s.data.toList with
    | none => exact Ne.symm h0
    | some l => exact walkD_end hN hE _ 1 (Ne.symm h1) (Ne.symm h0)
  unfold statD
  rw [hw, look_setD, if_neg he]
theorem badK_new {ds : List InoD} {N : InoD} (hN : look ds N.ino = none) (hE : ∀ D ∈ ds, ∀ e ∈ D.ents, (look ds e.2).isSome = true) (h1 : N.ino ≠ 1) (h0 : N.ino ≠ 0) (k : Int) (s : ByteArray) : badK k (setD ds N) s = badK k ds s := by
  unfold badK
  rw [statD_new hN hE h1 h0]
theorem set_new {ds : List InoD} {N : InoD} (h : ∀ E ∈ ds, E.ino < N.ino) : setD ds N = ds ++ [N] := by
  unfold setD
  have hf : firstAt (inos (ds.map lift)) (lift N).D.ino = none := by
    unfold firstAt inos
    rw [List.findIdx?_eq_none_iff]
    intro x hx
    rw [List.map_map] at hx
    obtain ⟨E, hE, rfl⟩ := List.mem_map.1 hx
    have h1 := h E hE
    have h2 : E.ino ≠ N.ino := by omega
    simpa [lift] using h2
  rw [setR_none hf]
  have hp : placeOf (ds.map lift) (lift N).D.ino = (ds.map lift).length := placeOf_end fun j q hj => by
    have hm := List.mem_of_getElem? hj
    obtain ⟨E, hE, rfl⟩ := List.mem_map.1 hm
    have h1 := h E hE
    show ¬ N.ino < E.ino
    omega
  rw [hp]
  unfold putAt
  simp only [List.take_length, List.drop_length, List.map_append, List.map_cons, List.map_nil, lift_map]
  rfl
theorem set_there {ds : List InoD} {D' : InoD} (h : ∃ E ∈ ds, E.ino = D'.ino) : ∃ p, p < ds.length ∧ setD ds D' = ds.set p D' ∧ (∀ E, ds[p]? = some E → E.ino = D'.ino) ∧ ∀ j E, j < p → ds[j]? = some E → E.ino ≠ D'.ino := by
  rcases setD_form ds D' with h1 | ⟨_, h2⟩
  · exact h1
  · obtain ⟨E, hE, he⟩ := h
    exact absurd he (h2 E hE)
theorem set_two {ds : List InoD} {N D' : InoD} (hN : ∀ E ∈ ds, E.ino < N.ino) (hD : ∃ E ∈ ds, E.ino = D'.ino) : setD (setD ds N) D' = setD (setD ds D') N := by
  obtain ⟨p, hp, e1, e2, e3⟩ := set_there hD
  have hlt : D'.ino < N.ino := by obtain ⟨E, hE, he⟩ := hD; have := hN E hE; omega
  rw [set_new hN, e1, set_new (ds := ds.set p D') (N := N) (fun E hE => by
    rcases List.mem_or_eq_of_mem_set hE with h | rfl
    · exact hN E h
    · exact hlt)]
  obtain ⟨q, hq, f1, f2, f3⟩ := set_there (ds := ds ++ [N]) (D' := D') (by obtain ⟨E, hE, he⟩ := hD; exact ⟨E, List.mem_append_left _ hE, he⟩)
  have hqp : q = p := by
    rcases Nat.lt_trichotomy q p with h | h | h
    · have hql : q < ds.length := by omega
      have h1 := f2 ds[q] (by rw [List.getElem?_append_left hql]; exact List.getElem?_eq_getElem hql)
      exact absurd h1 (e3 q ds[q] h (List.getElem?_eq_getElem hql))
    · exact h
    · have h1 := e2 ds[p] (List.getElem?_eq_getElem hp)
      exact absurd h1 (f3 p ds[p] h (by rw [List.getElem?_append_left hp]; exact List.getElem?_eq_getElem hp))
  subst hqp
  rw [f1, List.set_append_left _ _ hp]
end

section
open Go.RowKit
theorem tabC_box {w W V : World} {nx : Int} {ds : List InoD} {c : Int} {e : Ending} {R : Nat} {u0 u1 : Value} (h : TabC W nx ds c e V) (hb : Below w.heap.size w W) (hR : w.heap.size ≤ R) (hz : Blk W R 47 #[u0, u1]) : ∃ (a : Option Addr) (m cc : Nat), e = .returned (.tuple #[.agg #[.slice a m cc, .int .i64 nx], .int .i64 c]) ∧ Blk V R 47 #[u0, u1] ∧ TabC w nx ds c (.returned (.tuple #[.agg #[.slice a m cc, .int .i64 nx], .int .i64 c])) ((V.setCell ⟨R, 0, none⟩ (.slice a m cc)).setCell ⟨R, 1, none⟩ (.int .i64 nx)) := by
  obtain ⟨a, cc, js, rfl, hq, hbV⟩ := h
  have := hq.boxed (hb.trans (hbV.mono hb.size)) hR hz.lt (.slice a js.length cc) (.int .i64 nx)
  exact ⟨a, js.length, cc, rfl, hz.keep hbV, a, cc, js, rfl, this.1, this.2⟩
set_option maxRecDepth 100000 in
set_option maxHeartbeats 4000000 in
theorem wrap_MakeDir (a : Option Addr) (n cap : Nat) (nx : Int) (s : ByteArray) (w : World) (N : Int) (D : List InoD) (C : Int)
    (hc : ∀ W : World, Below w.heap.size w W → Calls Tryz.prog 76 #[.agg #[.slice a n cap, .int .i64 nx], .int .i64 0, .agg #[.string s, .string ⟨#[]⟩, .int .i64 0, .slice none 0 0, .string ⟨#[]⟩, .string ⟨#[]⟩]] W fun e w' => TabC W N D C e w') :
    Calls Tryz.prog 52 #[.agg #[.slice a n cap, .int .i64 nx], .string s] w fun e w' => TabC w N D C e w' := by
  have B0 : Below w.heap.size w ((w.alloc (.cells #[.slice a n cap, .int .i64 nx] 47)).alloc (.cells #[.slice none 0 0, .int .i64 0] 47)) := ((Below.refl _ w).alloc (Nat.le_refl _) _).alloc (by simp) _
  have zR := Blk.new (w.alloc (.cells #[.slice a n cap, .int .i64 nx] 47)) 47 #[.slice none 0 0, .int .i64 0]
  simp only [World.size_alloc] at zR
  go_enter Tryz.func52, Tryz.ntmps52
  go_wp2_with fail
  obtain ⟨W0, hW0⟩ : ∃ W, ((w.alloc (.cells #[.slice a n cap, .int .i64 nx] 47)).alloc (.cells #[.slice none 0 0, .int .i64 0] 47)) = W := ⟨_, rfl⟩
  rw [hW0] at B0 zR ⊢
  clear hW0
  (with_reducible refine (hc W0 B0).mono ?_)
  intro e w2 hp
  obtain ⟨ra, rn, rc, rfl, zz, hfin⟩ := tabC_box hp B0 (by omega) zR
  have HFIN : Hid (TabC w N D C (.returned (.tuple #[.agg #[.slice ra rn rc, .int .i64 N], .int .i64 C])) ((w2.setCell ⟨w.heap.size + 1, 0, none⟩ (.slice ra rn rc)).setCell ⟨w.heap.size + 1, 1, none⟩ (.int .i64 N))) := hfin
  have r0 := zz.cell 0
  have r1 := zz.cell 1
  have f0 := zz.frozen 0
  have f1 := zz.frozen 1
  simp at r0 r1
  have zf := blk2 zz (.slice ra rn rc) (.int .i64 N)
  have dd0 := zf.cell 0
  have dd1 := zf.cell 1
  simp at dd0 dd1
  clear hp hfin zf zz zR B0 hc
  go_wp2
  refine bodyPost_ret (v := .tuple #[.agg #[.slice ra rn rc, .int .i64 N], .int .i64 C]) (by simp [results, Tryz.f52, go_sem, dd0, dd1]) rfl ?_
  exact HFIN.out
set_option maxRecDepth 100000 in
set_option maxHeartbeats 4000000 in
theorem wrap_MakeFile (a : Option Addr) (n cap : Nat) (nx : Int) (s : ByteArray) (w : World) (N : Int) (D : List InoD) (C : Int)
    (hc : ∀ W : World, Below w.heap.size w W → Calls Tryz.prog 76 #[.agg #[.slice a n cap, .int .i64 nx], .int .i64 1, .agg #[.string s, .string ⟨#[]⟩, .int .i64 0, .slice none 0 0, .string ⟨#[]⟩, .string ⟨#[]⟩]] W fun e w' => TabC W N D C e w') :
    Calls Tryz.prog 38 #[.agg #[.slice a n cap, .int .i64 nx], .string s] w fun e w' => TabC w N D C e w' := by
  have B0 : Below w.heap.size w ((w.alloc (.cells #[.slice a n cap, .int .i64 nx] 47)).alloc (.cells #[.slice none 0 0, .int .i64 0] 47)) := ((Below.refl _ w).alloc (Nat.le_refl _) _).alloc (by simp) _
  have zR := Blk.new (w.alloc (.cells #[.slice a n cap, .int .i64 nx] 47)) 47 #[.slice none 0 0, .int .i64 0]
  simp only [World.size_alloc] at zR
  go_enter Tryz.func38, Tryz.ntmps38
  go_wp2_with fail
  obtain ⟨W0, hW0⟩ : ∃ W, ((w.alloc (.cells #[.slice a n cap, .int .i64 nx] 47)).alloc (.cells #[.slice none 0 0, .int .i64 0] 47)) = W := ⟨_, rfl⟩
  rw [hW0] at B0 zR ⊢
  clear hW0
  (with_reducible refine (hc W0 B0).mono ?_)
  intro e w2 hp
  obtain ⟨ra, rn, rc, rfl, zz, hfin⟩ := tabC_box hp B0 (by omega) zR
  have HFIN : Hid (TabC w N D C (.returned (.tuple #[.agg #[.slice ra rn rc, .int .i64 N], .int .i64 C])) ((w2.setCell ⟨w.heap.size + 1, 0, none⟩ (.slice ra rn rc)).setCell ⟨w.heap.size + 1, 1, none⟩ (.int .i64 N))) := hfin
  have r0 := zz.cell 0
  have r1 := zz.cell 1
  have f0 := zz.frozen 0
  have f1 := zz.frozen 1
  simp at r0 r1
  have zf := blk2 zz (.slice ra rn rc) (.int .i64 N)
  have dd0 := zf.cell 0
  have dd1 := zf.cell 1
  simp at dd0 dd1
  clear hp hfin zf zz zR B0 hc
  go_wp2
  refine bodyPost_ret (v := .tuple #[.agg #[.slice ra rn rc, .int .i64 N], .int .i64 C]) (by simp [results, Tryz.f38, go_sem, dd0, dd1]) rfl ?_
  exact HFIN.out
set_option maxRecDepth 100000 in
set_option maxHeartbeats 4000000 in
theorem wrap_WriteAt (a : Option Addr) (n cap : Nat) (nx : Int) (s : ByteArray) (k : Int) (da : Option Addr) (dn dc : Nat) (w : World) (N : Int) (D : List InoD) (C : Int)
    (hc : ∀ W : World, Below w.heap.size w W → Calls Tryz.prog 76 #[.agg #[.slice a n cap, .int .i64 nx], .int .i64 2, .agg #[.string s, .string ⟨#[]⟩, .int .i64 k, .slice da dn dc, .string ⟨#[]⟩, .string ⟨#[]⟩]] W fun e w' => TabC W N D C e w') :
    Calls Tryz.prog 33 #[.agg #[.slice a n cap, .int .i64 nx], .string s, .int .i64 k, .slice da dn dc] w fun e w' => TabC w N D C e w' := by
  have B0 : Below w.heap.size w ((w.alloc (.cells #[.slice a n cap, .int .i64 nx] 47)).alloc (.cells #[.slice none 0 0, .int .i64 0] 47)) := ((Below.refl _ w).alloc (Nat.le_refl _) _).alloc (by simp) _
  have zR := Blk.new (w.alloc (.cells #[.slice a n cap, .int .i64 nx] 47)) 47 #[.slice none 0 0, .int .i64 0]
  simp only [World.size_alloc] at zR
  go_enter Tryz.func33, Tryz.ntmps33
  go_wp2_with fail
  obtain ⟨W0, hW0⟩ : ∃ W, ((w.alloc (.cells #[.slice a n cap, .int .i64 nx] 47)).alloc (.cells #[.slice none 0 0, .int .i64 0] 47)) = W := ⟨_, rfl⟩
  rw [hW0] at B0 zR ⊢
  clear hW0
  (with_reducible refine (hc W0 B0).mono ?_)
  intro e w2 hp
  obtain ⟨ra, rn, rc, rfl, zz, hfin⟩ := tabC_box hp B0 (by omega) zR
  have HFIN : Hid (TabC w N D C (.returned (.tuple #[.agg #[.slice ra rn rc, .int .i64 N], .int .i64 C])) ((w2.setCell ⟨w.heap.size + 1, 0, none⟩ (.slice ra rn rc)).setCell ⟨w.heap.size + 1, 1, none⟩ (.int .i64 N))) := hfin
  have r0 := zz.cell 0
  have r1 := zz.cell 1
  have f0 := zz.frozen 0
  have f1 := zz.frozen 1
  simp at r0 r1
  have zf := blk2 zz (.slice ra rn rc) (.int .i64 N)
  have dd0 := zf.cell 0
  have dd1 := zf.cell 1
  simp at dd0 dd1
  clear hp hfin zf zz zR B0 hc
  go_wp2
  refine bodyPost_ret (v := .tuple #[.agg #[.slice ra rn rc, .int .i64 N], .int .i64 C]) (by simp [results, Tryz.f33, go_sem, dd0, dd1]) rfl ?_
  exact HFIN.out
set_option maxRecDepth 100000 in
set_option maxHeartbeats 4000000 in
theorem wrap_Unlink (a : Option Addr) (n cap : Nat) (nx : Int) (s : ByteArray) (w : World) (N : Int) (D : List InoD) (C : Int)
    (hc : ∀ W : World, Below w.heap.size w W → Calls Tryz.prog 76 #[.agg #[.slice a n cap, .int .i64 nx], .int .i64 4, .agg #[.string s, .string ⟨#[]⟩, .int .i64 0, .slice none 0 0, .string ⟨#[]⟩, .string ⟨#[]⟩]] W fun e w' => TabC W N D C e w') :
    Calls Tryz.prog 36 #[.agg #[.slice a n cap, .int .i64 nx], .string s] w fun e w' => TabC w N D C e w' := by
  have B0 : Below w.heap.size w ((w.alloc (.cells #[.slice a n cap, .int .i64 nx] 47)).alloc (.cells #[.slice none 0 0, .int .i64 0] 47)) := ((Below.refl _ w).alloc (Nat.le_refl _) _).alloc (by simp) _
  have zR := Blk.new (w.alloc (.cells #[.slice a n cap, .int .i64 nx] 47)) 47 #[.slice none 0 0, .int .i64 0]
  simp only [World.size_alloc] at zR
  go_enter Tryz.func36, Tryz.ntmps36
  go_wp2_with fail
  obtain ⟨W0, hW0⟩ : ∃ W, ((w.alloc (.cells #[.slice a n cap, .int .i64 nx] 47)).alloc (.cells #[.slice none 0 0, .int .i64 0] 47)) = W := ⟨_, rfl⟩
  rw [hW0] at B0 zR ⊢
  clear hW0
  (with_reducible refine (hc W0 B0).mono ?_)
  intro e w2 hp
  obtain ⟨ra, rn, rc, rfl, zz, hfin⟩ := tabC_box hp B0 (by omega) zR
  have HFIN : Hid (TabC w N D C (.returned (.tuple #[.agg #[.slice ra rn rc, .int .i64 N], .int .i64 C])) ((w2.setCell ⟨w.heap.size + 1, 0, none⟩ (.slice ra rn rc)).setCell ⟨w.heap.size + 1, 1, none⟩ (.int .i64 N))) := hfin
  have r0 := zz.cell 0
  have r1 := zz.cell 1
  have f0 := zz.frozen 0
  have f1 := zz.frozen 1
  simp at r0 r1
  have zf := blk2 zz (.slice ra rn rc) (.int .i64 N)
  have dd0 := zf.cell 0
  have dd1 := zf.cell 1
  simp at dd0 dd1
  clear hp hfin zf zz zR B0 hc
  go_wp2
  refine bodyPost_ret (v := .tuple #[.agg #[.slice ra rn rc, .int .i64 N], .int .i64 C]) (by simp [results, Tryz.f36, go_sem, dd0, dd1]) rfl ?_
  exact HFIN.out
set_option maxRecDepth 100000 in
set_option maxHeartbeats 4000000 in
theorem wrap_RemoveDir (a : Option Addr) (n cap : Nat) (nx : Int) (s : ByteArray) (w : World) (N : Int) (D : List InoD) (C : Int)
    (hc : ∀ W : World, Below w.heap.size w W → Calls Tryz.prog 76 #[.agg #[.slice a n cap, .int .i64 nx], .int .i64 5, .agg #[.string s, .string ⟨#[]⟩, .int .i64 0, .slice none 0 0, .string ⟨#[]⟩, .string ⟨#[]⟩]] W fun e w' => TabC W N D C e w') :
    Calls Tryz.prog 37 #[.agg #[.slice a n cap, .int .i64 nx], .string s] w fun e w' => TabC w N D C e w' := by
  have B0 : Below w.heap.size w ((w.alloc (.cells #[.slice a n cap, .int .i64 nx] 47)).alloc (.cells #[.slice none 0 0, .int .i64 0] 47)) := ((Below.refl _ w).alloc (Nat.le_refl _) _).alloc (by simp) _
  have zR := Blk.new (w.alloc (.cells #[.slice a n cap, .int .i64 nx] 47)) 47 #[.slice none 0 0, .int .i64 0]
  simp only [World.size_alloc] at zR
  go_enter Tryz.func37, Tryz.ntmps37
  go_wp2_with fail
  obtain ⟨W0, hW0⟩ : ∃ W, ((w.alloc (.cells #[.slice a n cap, .int .i64 nx] 47)).alloc (.cells #[.slice none 0 0, .int .i64 0] 47)) = W := ⟨_, rfl⟩
  rw [hW0] at B0 zR ⊢
  clear hW0
  (with_reducible refine (hc W0 B0).mono ?_)
  intro e w2 hp
  obtain ⟨ra, rn, rc, rfl, zz, hfin⟩ := tabC_box hp B0 (by omega) zR
  have HFIN : Hid (TabC w N D C (.returned (.tuple #[.agg #[.slice ra rn rc, .int .i64 N], .int .i64 C])) ((w2.setCell ⟨w.heap.size + 1, 0, none⟩ (.slice ra rn rc)).setCell ⟨w.heap.size + 1, 1, none⟩ (.int .i64 N))) := hfin
  have r0 := zz.cell 0
  have r1 := zz.cell 1
  have f0 := zz.frozen 0
  have f1 := zz.frozen 1
  simp at r0 r1
  have zf := blk2 zz (.slice ra rn rc) (.int .i64 N)
  have dd0 := zf.cell 0
  have dd1 := zf.cell 1
  simp at dd0 dd1
  clear hp hfin zf zz zR B0 hc
  go_wp2
  refine bodyPost_ret (v := .tuple #[.agg #[.slice ra rn rc, .int .i64 N], .int .i64 C]) (by simp [results, Tryz.f37, go_sem, dd0, dd1]) rfl ?_
  exact HFIN.out
set_option maxRecDepth 100000 in
set_option maxHeartbeats 4000000 in
theorem wrap_HardLink (a : Option Addr) (n cap : Nat) (nx : Int) (s tt : ByteArray) (w : World) (N : Int) (D : List InoD) (C : Int)
    (hc : ∀ W : World, Below w.heap.size w W → Calls Tryz.prog 76 #[.agg #[.slice a n cap, .int .i64 nx], .int .i64 6, .agg #[.string s, .string tt, .int .i64 0, .slice none 0 0, .string ⟨#[]⟩, .string ⟨#[]⟩]] W fun e w' => TabC W N D C e w') :
    Calls Tryz.prog 40 #[.agg #[.slice a n cap, .int .i64 nx], .string s, .string tt] w fun e w' => TabC w N D C e w' := by
  have B0 : Below w.heap.size w ((w.alloc (.cells #[.slice a n cap, .int .i64 nx] 47)).alloc (.cells #[.slice none 0 0, .int .i64 0] 47)) := ((Below.refl _ w).alloc (Nat.le_refl _) _).alloc (by simp) _
  have zR := Blk.new (w.alloc (.cells #[.slice a n cap, .int .i64 nx] 47)) 47 #[.slice none 0 0, .int .i64 0]
  simp only [World.size_alloc] at zR
  go_enter Tryz.func40, Tryz.ntmps40
  go_wp2_with fail
  obtain ⟨W0, hW0⟩ : ∃ W, ((w.alloc (.cells #[.slice a n cap, .int .i64 nx] 47)).alloc (.cells #[.slice none 0 0, .int .i64 0] 47)) = W := ⟨_, rfl⟩
  rw [hW0] at B0 zR ⊢
  clear hW0
  (with_reducible refine (hc W0 B0).mono ?_)
  intro e w2 hp
  obtain ⟨ra, rn, rc, rfl, zz, hfin⟩ := tabC_box hp B0 (by omega) zR
  have HFIN : Hid (TabC w N D C (.returned (.tuple #[.agg #[.slice ra rn rc, .int .i64 N], .int .i64 C])) ((w2.setCell ⟨w.heap.size + 1, 0, none⟩ (.slice ra rn rc)).setCell ⟨w.heap.size + 1, 1, none⟩ (.int .i64 N))) := hfin
  have r0 := zz.cell 0
  have r1 := zz.cell 1
  have f0 := zz.frozen 0
  have f1 := zz.frozen 1
  simp at r0 r1
  have zf := blk2 zz (.slice ra rn rc) (.int .i64 N)
  have dd0 := zf.cell 0
  have dd1 := zf.cell 1
  simp at dd0 dd1
  clear hp hfin zf zz zR B0 hc
  go_wp2
  refine bodyPost_ret (v := .tuple #[.agg #[.slice ra rn rc, .int .i64 N], .int .i64 C]) (by simp [results, Tryz.f40, go_sem, dd0, dd1]) rfl ?_
  exact HFIN.out
end
end Go.Proofs.YtbjfihabkpianaaGreatDoor
