/-
  What the laws' grown answers.
-/
import Derived.Test.YtbjfihabkpianaaGreatDoorJ37E
import Derived.Lib.SlBytesConst
namespace Go.Proofs.YtbjfihabkpianaaGreatDoor
open Go.RowKit
/-- A box that holds a table, none of whose lists lies in the block R. -/
def TBX (W : World) (T : Nat) (nx : Int) (ds : List InoD) (R : Nat) : Prop := ∃ a n c rs, Blk W T 47 #[.slice a n c, .int .i64 nx] ∧ TR W a n rs ∧ rs.map InoR.D = ds ∧ ∀ (i : Nat) (u : Value) (i' : Nat) (u' : Value), TR ((W.setCell ⟨R, i, none⟩ u).setCell ⟨R, i', none⟩ u') a n rs
theorem TBX.tb {W : World} {T : Nat} {nx : Int} {ds : List InoD} {R : Nat} (h : TBX W T nx ds R) : TB W T nx ds := by
  obtain ⟨a, n, c, rs, h1, h2, h3, _⟩ := h
  exact ⟨a, n, c, rs, h1, h2, h3⟩
/-- A table answered with a code and stored back into its box. -/
theorem TabC.back {W w4 : World} {nx : Int} {ds : List InoD} {c : Int} {e : Ending} {T : Nat} {u0 u1 : Value} (h : TabC W nx ds c e w4) (hs : ∀ D ∈ ds, InoSmall D) (hl : ds.length ≤ 1048576) (hz : Blk W T 47 #[u0, u1]) :
    ∃ a n cc, e = .returned (.tuple #[.agg #[.slice a n cc, .int .i64 nx], .int .i64 c]) ∧ (∀ X, X < W.heap.size → TBX ((w4.setCell ⟨T, 0, none⟩ (.slice a n cc)).setCell ⟨T, 1, none⟩ (.int .i64 nx)) T nx ds X) ∧ Blk w4 T 47 #[u0, u1] ∧ Below W.heap.size W w4 := by
  obtain ⟨a, cc, js, rfl, hq, hb⟩ := h
  have h1 : (js.map InoJ.r).map InoR.D = ds := by rw [hq.ds, lift_map]
  have h2 : js.length = ds.length := by rw [← h1]; simp
  have hsm : ∀ r ∈ js.map InoJ.r, InoSmall r.D := fun r hr => hs r.D (by rw [← h1]; exact List.mem_map_of_mem hr)
  have hz4 := hz.keep hb
  have q2 := (hq.setX hz.lt 0 (.slice a js.length cc)).setX hz.lt 1 (.int .i64 nx)
  exact ⟨a, js.length, cc, rfl, fun X hX => ⟨a, js.length, cc, js.map InoJ.r, blk2 hz4 _ _, ⟨by simp, by omega, hsm, q2.rd rfl⟩, h1, fun i u i' u' => ⟨by simp, by omega, hsm, ((q2.setX hX i u).setX hX i' u').rd rfl⟩⟩, hz4, hb⟩
/-- A table that can be read in a box, with what is known of a tree. -/
theorem TB.tree {W : World} {X : Nat} {nx : Int} {ds : List InoD} (h : TB W X nx ds) (ht : treeD nx ds = true) : ∃ a n c rs, Blk W X 47 #[.slice a n c, .int .i64 nx] ∧ TR W a n rs ∧ rs.map InoR.D = ds ∧ (∀ r ∈ rs, r.D.kind = 1 ∨ r.D.kind = 2) ∧ (∀ r ∈ rs, (Lit.int .i64 r.D.ino).wf = true) ∧ ∀ r ∈ rs, ∀ e ∈ r.D.ents, (Lit.int .i64 e.2).wf = true := by
  obtain ⟨a, n, c, rs, h1, h2, h3⟩ := h
  obtain ⟨t1, t2, t3⟩ := tree_facts (nx := nx) (rs := rs) (by rw [h3]; exact ht)
  exact ⟨a, n, c, rs, h1, h2, h3, t1, t2, t3⟩
theorem below_two {B : Nat} {w0 w : World} {T : Nat} (h : Below B w0 w) (hT : B ≤ T) (u v : Value) : Below B w0 ((w.setCell ⟨T, 0, none⟩ u).setCell ⟨T, 1, none⟩ v) := (h.setCell (p := ⟨T, 0, none⟩) hT _).setCell (p := ⟨T, 1, none⟩) hT _
/-- What is known where a table was answered with the code 0 and goes back into its box. -/
def Back (W : World) (T : Nat) (u0 u1 : Value) (nx : Int) (ds : List InoD) (e : Ending) (w4 : World) : Prop :=
  ∃ a n cc, e = .returned (.tuple #[.agg #[.slice a n cc, .int .i64 nx], .int .i64 0]) ∧ (∀ X, X < W.heap.size → TBX ((w4.setCell ⟨T, 0, none⟩ (.slice a n cc)).setCell ⟨T, 1, none⟩ (.int .i64 nx)) T nx ds X) ∧ Blk w4 T 47 #[u0, u1] ∧ Below W.heap.size W w4
theorem mkBack {W : World} {T : Nat} {nx nx' : Int} {ds ds' : List InoD} {p : ByteArray} (h : TB W T nx ds) (ht : treeD nx ds = true) (het : EtCell W) (hp : p.size ≤ 1048576) (hm : makeD nx ds p 1 = (nx', ds', 0)) (hs : ∀ D ∈ ds', InoSmall D) (hl : ds'.length ≤ 1048576) :
    ∃ a n c, Blk W T 47 #[.slice a n c, .int .i64 nx] ∧ Calls Tryz.prog 38 #[.agg #[.slice a n c, .int .i64 nx], .string p] W fun e w4 => Back W T (.slice a n c) (.int .i64 nx) nx' ds' e w4 := by
  obtain ⟨a, n, c, rs, zb, hTr, hRr, _, hwf, _⟩ := h.tree ht
  refine ⟨a, n, c, zb, ?_⟩
  have h1 := makeFileI a n c nx rs p W hTr hwf het hp
  rw [hRr, hm] at h1
  exact h1.mono fun e w4 h2 => TabC.back h2 hs hl zb
theorem wrBack {W : World} {T : Nat} {nx : Int} {ds ds' : List InoD} {p : ByteArray} {k : Int} {dz : List Int} {da : Option Addr} {dn dc : Nat} {a : Option Addr} {n c : Nat} {rs : List InoR} (zb : Blk W T 47 #[.slice a n c, .int .i64 nx]) (hTr : TR W a n rs) (hRr : rs.map InoR.D = ds) (hwf : ∀ r ∈ rs, (Lit.int .i64 r.D.ino).wf = true) (het : EtCell W) (hp : p.size ≤ 4000000) (hdl : dz.length = dn) (hdn : dn ≤ 1048576) (hdr : Rd W da dz) (hdb : Byt dz) (hm : writeD nx ds p k dz = (ds', 0)) (hs : ∀ D ∈ ds', InoSmall D) (hl : ds'.length ≤ 1048576) :
    Calls Tryz.prog 33 #[.agg #[.slice a n c, .int .i64 nx], .string p, .int .i64 k, .slice da dn dc] W fun e w4 => Back W T (.slice a n c) (.int .i64 nx) nx ds' e w4 := by
  have h1 := writeAtI a n c nx rs p k da dn dc dz W hTr hwf het hp hdl hdn hdr hdb
  rw [hRr, hm] at h1
  exact h1.mono fun e w4 h2 => TabC.back h2 hs hl zb
/-- What grown makes of the last file: p noughts, then its end. -/
def gTop (p : Nat) : List Int := List.replicate p 0 ++ [101, 110, 100]
theorem gTop_len (p : Nat) : (gTop p).length = p + 3 := by simp [gTop]
/-- Behind the tables that are written to: their box. -/
def GRW (w0 : World) (T R : Nat) (nx : Int) (ds : List InoD) (s : Value) (wx : World) : Prop := s = .int .i64 0 ∧ Hid (TBX wx T nx ds R) ∧ Hid (Below w0.heap.size w0 wx)
theorem rd_two (W : World) (x y : Int) : Rd (W.alloc (.cells #[.int .u8 x, .int .u8 y] 5)) (some ⟨W.heap.size, 0, none⟩) [x, y] := by
  refine .inr ⟨W.heap.size, 0, rfl, fun i hi => ?_⟩
  simp at hi
  rw [(Blk.new W 5 #[.int .u8 x, .int .u8 y]).cell (0 + i)]
  match i, hi with
  | 0, _ => rfl
  | 1, _ => rfl
theorem rd_three (W : World) (x y z : Int) (fr : Nat × Nat) : Rd (W.alloc (.cells #[.int .u8 x, .int .u8 y, .int .u8 z] 5 fr)) (some ⟨W.heap.size, 0, none⟩) [x, y, z] := by
  refine .inr ⟨W.heap.size, 0, rfl, fun i hi => ?_⟩
  simp at hi
  rw [cell_of_row (W.alloc (.cells #[.int .u8 x, .int .u8 y, .int .u8 z] 5 fr)) W.heap.size (0 + i) #[.int .u8 x, .int .u8 y, .int .u8 z] 5 fr (heap_alloc_new W _)]
  match i, hi with
  | 0, _ => rfl
  | 1, _ => rfl
  | 2, _ => rfl
set_option maxRecDepth 100000 in
set_option maxHeartbeats 16000000 in
theorem grownI (a : Option Addr) (n cap : Nat) (ys : List Int) (w : World) (hyl : ys.length = n) (hn20 : n ≤ 1048576) (hyr : Rd w a ys) (hyb : Byt ys) (het : EtCell w) :
    Calls Tryz.prog 32 #[.slice a n cap] w fun e w' => ∃ b m c rs, e = .returned (.tuple #[.agg #[.slice b m c, .int .i64 6], .bool true]) ∧ TR w' b m rs ∧ rs.map InoR.D = gX [(atV8 ys n 2 : Int), 7] [] (gTop (atV8 ys n 3 % 50)) ∧ Below w.heap.size w w' := by
  obtain ⟨v, hv⟩ : ∃ v, atV8 ys n 2 = v := ⟨_, rfl⟩
  obtain ⟨u, hu⟩ : ∃ v, atV8 ys n 3 = v := ⟨_, rfl⟩
  have hv255 : v ≤ 255 := by rw [← hv]; exact atV8_le ys n 2 hyb
  have hu255 : u ≤ 255 := by rw [← hu]; exact atV8_le ys n 3 hyb
  have hAT : ∀ W : World, Below w.heap.size w W → Calls Tryz.prog 31 #[.slice a n cap, .int .i64 2] W fun e w' => e = .returned (.int .i64 (v : Int)) ∧ w' = W := fun W hW => by
    have h := at8_any a n cap ys 2 W hyl (by omega) (by omega) (hyr.keep hW) hyb
    rw [hv] at h
    exact h
  have hAU : ∀ W : World, Below w.heap.size w W → Calls Tryz.prog 31 #[.slice a n cap, .int .i64 3] W fun e w' => e = .returned (.int .i64 (u : Int)) ∧ w' = W := fun W hW => by
    have h := at8_any a n cap ys 3 W hyl (by omega) (by omega) (hyr.keep hW) hyb
    rw [hu] at h
    exact h
  rw [hv, hu]
  have HAT : Hid _ := hAT
  have HAU : Hid _ := hAU
  have HET : Hid _ := het
  clear hAT hAU hv hu hyl hyr hyb het
  have B0 : Below w.heap.size w (w.alloc (.cells #[.slice none 0 0, .int .i64 0] 47)) := (Below.refl _ w).alloc (Nat.le_refl _) _
  have zR : Blk (w.alloc (.cells #[.slice none 0 0, .int .i64 0] 47)) w.heap.size 47 #[.slice none 0 0, .int .i64 0] := Blk.new w _ _
  go_enter Tryz.func32, Tryz.ntmps32
  go_wp2_with fail
  obtain ⟨W0, hW0⟩ : ∃ W, w.alloc (.cells #[.slice none 0 0, .int .i64 0] 47) = W := ⟨_, rfl⟩
  have hs0 : W0.heap.size = w.heap.size + 1 := by rw [← hW0]; simp
  rw [hW0] at B0 zR ⊢
  clear hW0
  refine (tabNewI W0).mono ?_
  rintro e w2 ⟨g1, rfl, hg1, o1, b2⟩
  have hT1 : TR w2 (some ⟨g1, 0, none⟩) 1 [ino1] := ⟨rfl, by omega, fun r hr => by simp at hr; subst hr; exact ino1_small, o1.rds fun r hr => by simp at hr; subst hr; exact ino1_rd w2⟩
  have B2 := B0.trans (b2.mono B0.size)
  have hcD := makeDirI (some ⟨g1, 0, none⟩) 1 1 2 [ino1] pDir w2 hT1 (fun r hr => by simp at hr; subst hr; decide) (EtCell.keep HET.out B2) (by decide)
  rw [show makeD 2 (List.map InoR.D [ino1]) pDir 2 = (3, gA1, 0) from gA_one] at hcD
  dsimp only at hcD
  unfold pDir at hcD
  have C2 : Below W0.heap.size W0 w2 := b2
  go_wp2_with fail
  (with_reducible refine hcD.mono ?_)
  intro e w3 hp3
  obtain ⟨q1, q2, q3, q4⟩ := gA_goods
  obtain ⟨gs1, gl1, gt1⟩ := goodB_small q1
  obtain ⟨gs2, gl2, gt2⟩ := goodB_small q2
  obtain ⟨gs3, gl3, gt3⟩ := goodB_small q3
  obtain ⟨gs4, gl4, gt4⟩ := goodB_small q4
  obtain ⟨a3, n3, c3, rs3, rfl, hT3, hR3, b3⟩ := hp3.open gs1 gl1
  have bA : Below w3.heap.size w3 (w3.alloc (.cells #[.slice a3 n3 c3, .int .i64 3] 47)) := (Below.refl _ w3).alloc (Nat.le_refl _) _
  have C3 := C2.trans (b3.mono C2.size)
  have D1 : Hid (Below W0.heap.size W0 (w3.alloc (.cells #[.slice a3 n3 c3, .int .i64 3] 47))) := C3.trans (bA.mono C3.size)
  have hTB1 : Hid (TB (w3.alloc (.cells #[.slice a3 n3 c3, .int .i64 3] 47)) w3.heap.size 3 gA1) := ⟨a3, n3, c3, rs3, Blk.new w3 _ _, (hT3 _ bA).1, hR3⟩
  have hwT : W0.heap.size ≤ w3.heap.size := C3.size
  clear hp3 hT3 hR3 bA b2 b3 hcD hT1 o1 C2 C3 hg1 q1 q2 q3 q4 B2
  have HEW : Hid (∀ W : World, Below W0.heap.size W0 W → EtCell W) := fun W hW => EtCell.keep HET.out (B0.trans (hW.mono B0.size))
  have HWW : Hid (∀ W : World, Below W0.heap.size W0 W → Below w.heap.size w W) := fun W hW => B0.trans (hW.mono B0.size)
  obtain ⟨T, hT⟩ : ∃ X, w3.heap.size = X := ⟨_, rfl⟩
  have G2 : Hid _ := And.intro gs2 (And.intro gl2 gt2)
  have G3 : Hid _ := And.intro gs3 (And.intro gl3 gt3)
  have G4 : Hid _ := And.intro gs4 (And.intro gl4 gt4)
  have G1 : Hid _ := gt1
  clear gs1 gl1 gt1 gs2 gl2 gt2 gs3 gl3 gt3 gs4 gl4 gt4 B0 HET
  go_upto_region 2 with fail
  obtain ⟨V1, hV1⟩ : ∃ W, (w3.alloc (.cells #[.slice a3 n3 c3, .int .i64 3] 47)) = W := ⟨_, rfl⟩
  rw [hV1, hT] at hTB1
  rw [hV1] at D1 ⊢
  rw [hT] at hwT
  clear hV1 hT
  obtain ⟨at1, nt1, ct1, zb1, hc1⟩ := mkBack (p := pOne) hTB1.out G1.out (HEW.out V1 D1.out) (by decide) gA_two G2.out.1 G2.out.2.1
  unfold pOne at hc1
  have z0 := zb1.cell 0
  have z1 := zb1.cell 1
  simp at z0 z1
  go_wp2_with fail
  (with_reducible refine hc1.mono ?_)
  rintro e yw1 ⟨ax1, nx1, cx1, rfl, htb1, zc1, bb1⟩
  have y0 := zc1.cell 0
  have y1 := zc1.cell 1
  have f0 := zc1.frozen 0
  have f1 := zc1.frozen 1
  simp at y0 y1
  have D2 : Hid (Below W0.heap.size W0 ((yw1.setCell ⟨T, 0, none⟩ (.slice ax1 nx1 cx1)).setCell ⟨T, 1, none⟩ (.int .i64 4))) := below_two (D1.out.trans (bb1.mono D1.out.size)) hwT _ _
  have hTB2 : Hid (TB ((yw1.setCell ⟨T, 0, none⟩ (.slice ax1 nx1 cx1)).setCell ⟨T, 1, none⟩ (.int .i64 4)) T 4 gA2) := (htb1 w.heap.size (by have := D1.out.size; omega)).tb
  clear htb1 zc1 bb1 hc1 zb1 z0 z1 D1 hTB1
  go_upto_region 3 with fail
  obtain ⟨V2, hV2⟩ : ∃ W, (yw1.setCell ⟨T, 0, none⟩ (.slice ax1 nx1 cx1)).setCell ⟨T, 1, none⟩ (.int .i64 4) = W := ⟨_, rfl⟩
  rw [hV2] at D2 hTB2 ⊢
  clear hV2 y0 y1 f0 f1
  go_upto_region 3 with fail
  obtain ⟨at2, nt2, ct2, zb2, hc2⟩ := mkBack (p := pTwo) hTB2.out G2.out.2.2 (HEW.out V2 D2.out) (by decide) gA_three G3.out.1 G3.out.2.1
  unfold pTwo at hc2
  have z0 := zb2.cell 0
  have z1 := zb2.cell 1
  simp at z0 z1
  go_wp2_with fail
  (with_reducible refine hc2.mono ?_)
  rintro e yw2 ⟨ax2, nx2, cx2, rfl, htb2, zc2, bb2⟩
  have y0 := zc2.cell 0
  have y1 := zc2.cell 1
  have f0 := zc2.frozen 0
  have f1 := zc2.frozen 1
  simp at y0 y1
  have D3 : Hid (Below W0.heap.size W0 ((yw2.setCell ⟨T, 0, none⟩ (.slice ax2 nx2 cx2)).setCell ⟨T, 1, none⟩ (.int .i64 5))) := below_two (D2.out.trans (bb2.mono D2.out.size)) hwT _ _
  have hTB3 : Hid (TB ((yw2.setCell ⟨T, 0, none⟩ (.slice ax2 nx2 cx2)).setCell ⟨T, 1, none⟩ (.int .i64 5)) T 5 gA3) := (htb2 w.heap.size (by have := D2.out.size; omega)).tb
  clear htb2 zc2 bb2 hc2 zb2 z0 z1 D2 hTB2
  go_upto_region 4 with fail
  obtain ⟨V3, hV3⟩ : ∃ W, (yw2.setCell ⟨T, 0, none⟩ (.slice ax2 nx2 cx2)).setCell ⟨T, 1, none⟩ (.int .i64 5) = W := ⟨_, rfl⟩
  rw [hV3] at D3 hTB3 ⊢
  clear hV3 y0 y1 f0 f1
  go_upto_region 4 with fail
  obtain ⟨at3, nt3, ct3, zb3, hc3⟩ := mkBack (p := pTop) hTB3.out G3.out.2.2 (HEW.out V3 D3.out) (by decide) gA_four G4.out.1 G4.out.2.1
  unfold pTop at hc3
  have z0 := zb3.cell 0
  have z1 := zb3.cell 1
  simp at z0 z1
  go_wp2_with fail
  (with_reducible refine hc3.mono ?_)
  rintro e yw3 ⟨ax3, nx3, cx3, rfl, htb3, zc3, bb3⟩
  have y0 := zc3.cell 0
  have y1 := zc3.cell 1
  have f0 := zc3.frozen 0
  have f1 := zc3.frozen 1
  simp at y0 y1
  have D4 : Hid (Below W0.heap.size W0 ((yw3.setCell ⟨T, 0, none⟩ (.slice ax3 nx3 cx3)).setCell ⟨T, 1, none⟩ (.int .i64 6))) := below_two (D3.out.trans (bb3.mono D3.out.size)) hwT _ _
  have hTB4 : Hid (TB ((yw3.setCell ⟨T, 0, none⟩ (.slice ax3 nx3 cx3)).setCell ⟨T, 1, none⟩ (.int .i64 6)) T 6 (gX [] [] [])) := (htb3 w.heap.size (by have := D3.out.size; omega)).tb
  clear htb3 zc3 bb3 hc3 zb3 z0 z1 D3 hTB3
  go_upto_region 5 with fail
  obtain ⟨V4, hV4⟩ : ∃ W, (yw3.setCell ⟨T, 0, none⟩ (.slice ax3 nx3 cx3)).setCell ⟨T, 1, none⟩ (.int .i64 6) = W := ⟨_, rfl⟩
  rw [hV4] at D4 hTB4 ⊢
  clear hV4 y0 y1 f0 f1
  have hw8 : IntKind.u8.wrap (v : Int) = (v : Int) := by rw [IntKind.wrap_u8]; omega
  have hw64 : IntKind.i64.wrap (v : Int) = (v : Int) := by rw [IntKind.wrap_i64]; omega
  obtain ⟨at4, nt4, ct4, rt4, zb4, hTr4, hRr4, _, hwf4, _⟩ := TB.tree hTB4.out G4.out.2.2
  have hWr : ∀ W : World, Below V4.heap.size V4 W → Rd W (some ⟨V4.heap.size, 0, none⟩) [(v : Int), 7] → Calls Tryz.prog 33 #[.agg #[.slice at4 nt4 ct4, .int .i64 6], .string pOne, .int .i64 0, .slice (some ⟨V4.heap.size, 0, none⟩) 2 2] W fun e w4 => Back W T (.slice at4 nt4 ct4) (.int .i64 6) 6 (gX [(v : Int), 7] [] []) e w4 := fun W hW hR => wrBack (zb4.keep hW) (hTr4.keep hW) hRr4 hwf4 (HEW.out W (D4.out.trans (hW.mono D4.out.size))) (by decide) rfl (by omega) hR (fun z hz => by simp at hz; omega) (by rw [show (0 : Int) = ((0 : Nat) : Int) from rfl, gX_w3 (by simp) (by simp) (by simp) (by simp), writeB_nil]; rfl) (gX_small (by simp) (by simp) (by simp)) (by show (5 : Nat) ≤ _; omega)
  unfold pOne at hWr
  have hBB : ∀ W : World, Below V4.heap.size V4 W → Below w.heap.size w W := fun W hW => HWW.out W (D4.out.trans (hW.mono D4.out.size))
  have z0 := zb4.cell 0
  have z1 := zb4.cell 1
  simp at z0 z1
  have hTl := zb4.lt
  have nT1 : ¬ T = V4.heap.size := by omega
  have nT2 : ¬ V4.heap.size = T := by omega
  have HWr : Hid _ := hWr
  have HBB : Hid _ := hBB
  clear hWr hBB hTr4 hRr4 hwf4 zb4
  go_cut [9] (fun s wx => GRW W0 T w.heap.size 6 (gX [(v : Int), 7] [] []) s wx)
  case first =>
    go_region_with (first
      | (go_at_call 31; (with_reducible refine (HAT.out _ (HBB.out _ (by first | with_reducible exact (Below.refl _ _).drew | with_reducible exact ((Below.refl _ _).alloc (Nat.le_refl _) _).drew | with_reducible exact (Below.refl _ _).drew.alloc (Nat.le_refl _) _))).mono ?_); rintro e w8 ⟨rfl, hw8⟩; subst hw8)
      | (go_at_call 33; (with_reducible refine (HWr.out _ (by first | with_reducible exact (Below.refl _ _).drew.alloc (Nat.le_refl _) _ | with_reducible exact ((Below.refl _ _).alloc (Nat.le_refl _) _).drew) (by first | exact rd_two _ ((v : Int)) (7) | exact (rd_two _ ((v : Int)) (7)).keep (Below.refl _ _).drew)).mono ?_); rintro e w9 ⟨a9, n9, c9, rfl, htb9, zc9, bb9⟩; have hs9 := bb9.size; (try simp at hs9); have y0 := zc9.cell 0; have y1 := zc9.cell 1; have f0 := zc9.frozen 0; have f1 := zc9.frozen 1; (simp at y0 y1); have HT9 : Hid _ := htb9 w.heap.size (by have := D4.out.size; simp; omega); have B9 : Hid (Below W0.heap.size W0 w9) := D4.out.trans (((by first | with_reducible exact (Below.refl _ _).drew.alloc (Nat.le_refl _) _ | with_reducible exact ((Below.refl _ _).alloc (Nat.le_refl _) _).drew : Below V4.heap.size V4 _).trans (bb9.mono (by simp))).mono D4.out.size); clear htb9 zc9 bb9))
    all_goals (go_wp2_with fail; go_meet; exact ⟨rfl, HT9, below_two B9.out hwT _ _⟩)
  case rest =>
  obtain ⟨rfl, hTX5, D5⟩ := hcut
  have hTB5 : Hid _ := TBX.tb hTX5.out
  obtain ⟨V5, hwc⟩ : ∃ W, W = wc := ⟨_, rfl⟩
  subst hwc
  clear hTB4 D4 HWr HBB z0 z1 hTl nT1 nT2
  obtain ⟨p, hp⟩ : ∃ k, u % 50 = k := ⟨_, rfl⟩
  have hp50 : p < 50 := by omega
  have hmod : (u : Int) % 50 = (p : Int) := by omega
  have hmod2 : Int.tmod (u : Int) 50 = (p : Int) := by rw [Int.tmod_eq_emod_of_nonneg (by omega)]; exact hmod
  have HP : Hid _ := hp
  clear hp
  have hci : (convert 42 42 (.slice (some ⟨V5.heap.size, 0, none⟩) 3 3)).run Tryz.prog (V5.drew.alloc (.cells #[.int .u8 101, .int .u8 110, .int .u8 100] 5)) = .ok (.slice (some ⟨V5.heap.size, 0, none⟩) 3 3) (V5.drew.alloc (.cells #[.int .u8 101, .int .u8 110, .int .u8 100] 5 (3, 4))) := Lib.run_convert_bytes_const (P := Tryz.prog) V5.drew 42 5 #[.int .u8 101, .int .u8 110, .int .u8 100] 3 3 Tryz.underlying42 Tryz.underlying5
  have hcj : (convert 42 42 (.slice (some ⟨V5.heap.size, 0, none⟩) 3 3)).run Tryz.prog (V5.alloc (.cells #[.int .u8 101, .int .u8 110, .int .u8 100] 5)).drew = .ok (.slice (some ⟨V5.heap.size, 0, none⟩) 3 3) (V5.alloc (.cells #[.int .u8 101, .int .u8 110, .int .u8 100] 5 (3, 4))).drew := hci
  go_upto_region 6 with fail
  obtain ⟨at5, nt5, ct5, rt5, zb5, hTr5, hRr5, _, hwf5, _⟩ := TB.tree hTB5.out (gX_tree (by simp) (by simp) (by simp))
  have hWr : ∀ W : World, Below V5.heap.size V5 W → Rd W (some ⟨V5.heap.size, 0, none⟩) [101, 110, 100] → Calls Tryz.prog 33 #[.agg #[.slice at5 nt5 ct5, .int .i64 6], .string pTop, .int .i64 (p : Int), .slice (some ⟨V5.heap.size, 0, none⟩) 3 3] W fun e w4 => Back W T (.slice at5 nt5 ct5) (.int .i64 6) 6 (gX [(v : Int), 7] [] (gTop p)) e w4 := fun W hW hR => wrBack (zb5.keep hW) (hTr5.keep hW) hRr5 hwf5 (HEW.out W (D5.out.trans (hW.mono D5.out.size))) (by decide) rfl (by omega) hR (fun z hz => by simp at hz; omega) (by rw [gX_w5 (by simp) (by simp) (by simp) (by simp; omega), writeB_nil]; rfl) (gX_small (by simp) (by simp) (by rw [gTop_len]; omega)) (by show (5 : Nat) ≤ _; omega)
  unfold pTop at hWr
  have hBB : ∀ W : World, Below V5.heap.size V5 W → Below w.heap.size w W := fun W hW => HWW.out W (D5.out.trans (hW.mono D5.out.size))
  have z0 := zb5.cell 0
  have z1 := zb5.cell 1
  simp at z0 z1
  have hTl := zb5.lt
  have nT1 : ¬ T = V5.heap.size := by omega
  have nT2 : ¬ V5.heap.size = T := by omega
  have HWr : Hid _ := hWr
  have HBB : Hid _ := hBB
  clear hWr hBB hTr5 hRr5 hwf5 zb5
  go_cut [10] (fun s wx => GRW W0 T w.heap.size 6 (gX [(v : Int), 7] [] (gTop p)) s wx)
  case first =>
    go_region_with (first
      | (go_at_call 31; (with_reducible refine (HAU.out _ (HBB.out _ (by first | with_reducible exact (Below.refl _ _).drew | with_reducible exact ((Below.refl _ _).alloc (Nat.le_refl _) _).drew | with_reducible exact (Below.refl _ _).drew.alloc (Nat.le_refl _) _))).mono ?_); rintro e w8 ⟨rfl, hw8⟩; subst hw8)
      | (go_at_call 33; (with_reducible refine (HWr.out _ (by first | with_reducible exact (Below.refl _ _).drew.alloc (Nat.le_refl _) _ | with_reducible exact ((Below.refl _ _).alloc (Nat.le_refl _) _).drew) (by first | exact rd_three _ (101) (110) (100) (3, 4) | exact (rd_three _ (101) (110) (100) (3, 4)).keep (Below.refl _ _).drew)).mono ?_); rintro e w9 ⟨a9, n9, c9, rfl, htb9, zc9, bb9⟩; have hs9 := bb9.size; (try simp at hs9); have y0 := zc9.cell 0; have y1 := zc9.cell 1; have f0 := zc9.frozen 0; have f1 := zc9.frozen 1; (simp at y0 y1); have HT9 : Hid _ := htb9 w.heap.size (by have := D5.out.size; simp; omega); have B9 : Hid (Below W0.heap.size W0 w9) := D5.out.trans (((by first | with_reducible exact (Below.refl _ _).drew.alloc (Nat.le_refl _) _ | with_reducible exact ((Below.refl _ _).alloc (Nat.le_refl _) _).drew : Below V5.heap.size V5 _).trans (bb9.mono (by simp))).mono D5.out.size); clear htb9 zc9 bb9))
    all_goals (go_wp2_with fail; go_meet; exact ⟨rfl, HT9, below_two B9.out hwT _ _⟩)
  case rest =>
  obtain ⟨rfl, hTX6, D6⟩ := hcut
  have hTB6 : Hid _ := TBX.tb hTX6.out
  obtain ⟨V6, hwc⟩ : ∃ W, W = wc := ⟨_, rfl⟩
  subst hwc
  clear hTB5 D5 HWr HBB z0 z1 hTl nT1 nT2
  obtain ⟨at6, nt6, ct6, rt6, zb6, hTr6, hRr6, hTE6⟩ := hTX6.out
  have hl6 : nt6 = 5 := by have h1 := hTr6.len; have h2 := congrArg List.length hRr6; rw [List.length_map] at h2; rw [← h1, h2]; rfl
  subst hl6
  have hzR := zR.keep D6.out
  have z0 := zb6.cell 0
  have z1 := zb6.cell 1
  simp at z0 z1
  have r0 := hzR.cell 0
  have r1 := hzR.cell 1
  have g0 := hzR.frozen 0
  have g1 := hzR.frozen 1
  simp at r0 r1
  have nR1 : ¬ T = w.heap.size := by omega
  have nR2 : ¬ w.heap.size = T := by omega
  have hTE := hTE6 0 (.slice at6 5 ct6) 1 (.int .i64 6)
  have HEND : Hid (TR ((V6.setCell ⟨w.heap.size, 0, none⟩ (.slice at6 5 ct6)).setCell ⟨w.heap.size, 1, none⟩ (.int .i64 6)) at6 5 rt6 ∧ Blk ((V6.setCell ⟨w.heap.size, 0, none⟩ (.slice at6 5 ct6)).setCell ⟨w.heap.size, 1, none⟩ (.int .i64 6)) w.heap.size 47 #[.slice at6 5 ct6, .int .i64 6] ∧ Below w.heap.size w ((V6.setCell ⟨w.heap.size, 0, none⟩ (.slice at6 5 ct6)).setCell ⟨w.heap.size, 1, none⟩ (.int .i64 6))) := ⟨hTE, blk2 hzR _ _, below_two (HWW.out V6 D6.out) (Nat.le_refl _) _ _⟩
  have HRR : Hid _ := hRr6
  clear hTE hTE6 hzR zb6 hTr6 hRr6 hTB6 hTX6 D6 zR
  go_upto_region 7 with fail
  go_region
  have dd0 := (HEND.out.2.1).cell 0
  have dd1 := (HEND.out.2.1).cell 1
  simp at dd0 dd1
  go_wp2_with fail
  refine bodyPost_ret (v := .tuple #[.agg #[.slice at6 5 ct6, .int .i64 6], .bool true]) (by simp [results, Tryz.f32, go_sem, dd0, dd1]) rfl ?_
  refine ⟨at6, 5, ct6, rt6, rfl, HEND.out.1.keep (Below.refl _ _).drew, ?_, HEND.out.2.2.drew⟩
  rw [HP.out]
  exact HRR.out
end Go.Proofs.YtbjfihabkpianaaGreatDoor

