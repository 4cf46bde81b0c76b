/-
  Joined: ChHo, ChNi, ChFl.
-/
import Derived.Test.YtkhgafmhbibikaaGreatDoorJ14Y
import Derived.Deep.MidRow
import Derived.Deep.WholeRow
namespace Go.Proofs.YtkhgafmhbibikaaGreatDoor
section
open Go.RowKit
theorem fk_cells {w : World} {b off k : Nat} {f : FkR} (h : ∀ j, j < fkE.k → w.cell? ⟨b, off + k * fkE.k + j, none⟩ = (fkE.en f)[j]?) {q0 q1 q2 q3 q4 q5 q6 q7 : PgR} (hq : f.ps = [q0, q1, q2, q3, q4, q5, q6, q7]) (j : Nat) (v : Value) (hv : (fk18 q0 q1 q2 q3 q4 q5 q6 q7 f.wear f.bad)[j]? = some v) : w.cell? ⟨b, off + k * 18 + j, none⟩ = some v := by
  have hj : j < 18 := (Array.getElem?_eq_some_iff.1 hv).1
  have h1 := h j hj
  have h2 : fkE.en f = (fk18 q0 q1 q2 q3 q4 q5 q6 q7 f.wear f.bad).toList := by
    show pgE.xv f.ps ++ [.int .i64 f.wear, .bool f.bad] = _
    rw [hq]
    rfl
  rw [h2] at h1
  exact h1.trans (by simpa using hv)
/-- Eight pages that lie flat in a box are pages that can be read. -/
theorem rd_flat {w : World} {K : Nat} {q0 q1 q2 q3 q4 q5 q6 q7 : PgR} {wear : Int} {bad : Bool} (h : Blk w K 155 (fk18 q0 q1 q2 q3 q4 q5 q6 q7 wear bad)) (hr : ∀ p ∈ [q0, q1, q2, q3, q4, q5, q6, q7], Rd w p.a p.zs) : RdPs w (some ⟨K, 0, none⟩) [q0, q1, q2, q3, q4, q5, q6, q7] := by
  refine .inr ⟨K, 0, rfl, fun i p hi => ⟨fun j hj => ?_, hr p (List.mem_of_getElem? hi)⟩⟩
  have hi8 : i < 8 := (List.getElem?_eq_some_iff.1 hi).1
  have hj2 : j < 2 := hj
  show w.cell? ⟨K, 0 + i * 2 + j, none⟩ = _
  rw [Nat.zero_add, h.cell (i * 2 + j)]
  rcases (show i = 0 ∨ i = 1 ∨ i = 2 ∨ i = 3 ∨ i = 4 ∨ i = 5 ∨ i = 6 ∨ i = 7 by omega) with rfl | rfl | rfl | rfl | rfl | rfl | rfl | rfl <;> rcases (show j = 0 ∨ j = 1 by omega) with rfl | rfl <;> simp at hi <;> subst hi <;> rfl
/-- A whole struct into the block that was made last, at the operation. -/
theorem wpList_store_new {ops : Array Oper} {rest : List Oper} {op : Oper} {a : Act} {W : World} {Q : Exit → Act → World → Prop} (hgd : op.guard = none) (t : TypeId) (x y : Operand) (ho : op.op = .store t x y) (c c' : Array Value)
    (hx : a.eval x = .pointer (some ⟨W.heap.size, 0, none⟩)) (hy : a.eval y = .agg c') (hi : (Tryz.prog.info? t).map (·.size) = some c'.size) (hs : c.size = c'.size) (h1 : c'.all (·.oneCell') = true)
    (h : wpList Tryz.prog ops Q rest (a.put op.dst undef) (W.alloc (.cells c' t))) : wpList Tryz.prog ops Q (op :: rest) a (W.alloc (.cells c t)) := by
  refine wpList_plain hgd fun K hK => ?_
  unfold Oper.wp execOp
  simp only [ho, hx, hy, Sem.run_bind, Sem.run_pure, Result.andThen_ok, run_storeAt_new W t c c' hi hs h1]
  exact hK _ _ h
theorem Tryz.sizeCells : (Tryz.prog.info? 155).map (·.size) = some 18 := by kernel_rfl
theorem fk18_one (q0 q1 q2 q3 q4 q5 q6 q7 : PgR) (wear : Int) (bad : Bool) : (fk18 q0 q1 q2 q3 q4 q5 q6 q7 wear bad).all (·.oneCell') = true := by simp [fk18, PgR.v, Value.oneCell']
set_option maxRecDepth 100000 in
set_option maxHeartbeats 8000000 in
theorem handedI (F : Nat) (a : Option Addr) (n cap : Nat) (fs : List FkR) (w : World) (hn : fs.length = n) (hs : totB (fs.map FkR.D) ≤ 1048576) (hF : Blk w F 140 #[.slice a n cap]) (hr : RdFs w a fs) :
    Calls Tryz.prog 114 #[.pointer (some ⟨F, 0, none⟩)] w (ChA w (fs.map FkR.D)) := by
  have hnn : n ≤ 1048576 := by have := totB_len (fs.map FkR.D); simp at this; omega
  have B0 : Below w.heap.size w (w.alloc (.cells #[.slice none 0 0] 32)) := (Below.refl _ w).alloc (Nat.le_refl _) _
  have hws : (w.alloc (.cells #[.slice none 0 0] 32)).heap.size = w.heap.size + 1 := by simp
  have z0 := Blk.new w 32 #[.slice none 0 0]
  have z1 := Blk.new (w.alloc (.cells #[.slice none 0 0] 32)) 32 #[.slice none 0 0]
  have cc0 : CC (w.alloc (.cells #[.slice none 0 0] 32)) ((w.alloc (.cells #[.slice none 0 0] 32)).alloc (.cells #[.slice none 0 0] 32)) (w.alloc (.cells #[.slice none 0 0] 32)).heap.size (.slice none 0 0) [] [] := CC.new ((Below.refl _ _).alloc (Nat.le_refl _) _) z1 (Nat.le_refl _)
  have hF1 := (hF.keep B0).keep cc0.bel
  have y0 := hF1.cell 0
  simp at y0
  have HR : Hid (RdFs (w.alloc (.cells #[.slice none 0 0] 32)) a fs) := hr.keep B0
  have HN : Hid (fs.length = n) := hn
  have HS : Hid _ := hs
  clear hr hF hF1 hn hs
  go_enter Tryz.func114, Tryz.ntmps114
  go_upto_region 3 with fail
  obtain ⟨W0, hW0⟩ : ∃ W, w.alloc (.cells #[.slice none 0 0] 32) = W := ⟨_, rfl⟩
  rw [hW0] at B0 z0 cc0 hws HR ⊢
  clear hW0 z1 y0
  obtain ⟨H, hH⟩ : ∃ H, w.heap.size = H := ⟨_, rfl⟩
  have HH : Hid _ := hH
  rw [hH] at z0 hws ⊢
  rw [hws] at cc0
  have HZ0 : Hid (Blk W0 H 32 #[.slice none 0 0]) := z0
  have HB0 : Hid (Below H w W0) := by rw [← hH]; exact B0
  have HW : Hid _ := hws
  clear z0 B0 hH hws
  go_loopw [12] (fun i wr => ∃ (k : Nat) (v : Value) (us : List BkR), k ≤ n ∧ i = .int .i64 k ∧ us.length = k ∧ Hid (CC W0 wr (H + 1) v us ((fs.take k).map FkR.D))) (fun i _ => n - (intOf i).toNat)
  case atStart => exact ⟨0, .slice none 0 0, [], by omega, rfl, rfl, cc0⟩
  case round =>
    obtain ⟨k, v, us, hk, rfl, hus, hcc⟩ := hrel
    clear cc0
    by_cases hkn : k < n
    · have hki : (k : Int) < (n : Int) := by omega
      obtain ⟨f, hfk⟩ : ∃ f, fs[k]? = some f := ⟨_, List.getElem?_eq_getElem (by rw [HN.out]; exact hkn)⟩
      obtain ⟨b, off, rfl, hlt, hc⟩ := RdE.lt (RdFs.keep HR.out hcc.out.bel) (by intro h; rw [h] at hfk; simp at hfk)
      obtain ⟨hcl, hrd⟩ := hc k f hfk
      have htot : 1 + totP (f.ps.map PgR.D) ≤ totB (fs.map FkR.D) := totB_mem (b := f.D) (bs := fs.map FkR.D) (List.mem_map_of_mem (List.mem_of_getElem? hfk))
      have hfD : Hid ((fs.take (k + 1)).map FkR.D = (fs.take k).map FkR.D ++ [⟨f.ps.map PgR.D, f.wear, f.bad⟩]) := by show _ = _; rw [List.take_add_one, hfk]; simp [FkR.D]
      have hts : totP (f.ps.map PgR.D) ≤ 1048576 := by have := HS.out; omega
      obtain ⟨q0, q1, q2, q3, q4, q5, q6, q7, hq⟩ := list8 f.h8
      rw [hq] at hrd hfD hts
      have hcs := fk_cells hcl hq
      generalize f.wear = wear at hcs hfD
      generalize f.bad = bad at hcs hfD
      have hrg : wr.rangeAt b (off + k * 18) (fk18 q0 q1 q2 q3 q4 q5 q6 q7 wear bad).toList := fun j v hv => hcs j v (by simpa using hv)
      have bE : Below wr.heap.size wr (wr.alloc (.cells (fk18 q0 q1 q2 q3 q4 q5 q6 q7 wear bad) 155)) := (Below.refl _ wr).alloc (Nat.le_refl _) _
      have zE := Blk.new wr 155 (fk18 q0 q1 q2 q3 q4 q5 q6 q7 wear bad)
      have cb8 := hcc.out.keep bE
      have hrp := rd_flat zE (fun p hp => (hrd p hp).keep bE)
      have hXE : H + 1 < wr.heap.size := hcc.out.x.lt
      have p16 := zE.cell 16
      have p17 := zE.cell 17
      have hCs : (fk18 q0 q1 q2 q3 q4 q5 q6 q7 wear bad).size = 18 := rfl
      have hC1 := fk18_one q0 q1 q2 q3 q4 q5 q6 q7 wear bad
      obtain ⟨C, hC⟩ : ∃ C, fk18 q0 q1 q2 q3 q4 q5 q6 q7 wear bad = C := ⟨_, rfl⟩
      have p16' : (wr.alloc (.cells C 155)).cell? ⟨wr.heap.size, 16, none⟩ = some (.int .i64 wear) := by rw [← hC]; exact p16
      have p17' : (wr.alloc (.cells C 155)).cell? ⟨wr.heap.size, 17, none⟩ = some (.bool bad) := by rw [← hC]; exact p17
      rw [hC] at zE cb8 hrp hrg hCs hC1
      have HS18 : Hid ((Tryz.prog.info? 155).map (·.size) = some C.toList.length) := by show _ = _; rw [Tryz.sizeCells]; simp [hCs]
      have HS18' : Hid ((Tryz.prog.info? 155).map (·.size) = some C.size) := by show _ = _; rw [Tryz.sizeCells, hCs]
      have HCS : Hid _ := hCs
      have HC1 : Hid _ := hC1
      have HRG : Hid (wr.rangeAt b (off + k * 18) C.toList) := hrg
      clear hcs hcl hrd hfk hc htot hq bE hC p16 p17 hrg hCs hC1
      obtain ⟨W8, hW8⟩ : ∃ W, wr.alloc (.cells C 155) = W := ⟨_, rfl⟩
      have HW8 : Hid _ := hW8
      rw [hW8] at zE cb8 hrp p16' p17'
      clear hW8
      go_upto_region 4 with fail
      go_cut [5, 6, 7, 8, 9, 10, 11, 12] from 5 to 29 (fun s s6 s7 s8 s9 t l i wx => s6 = .agg #[.slice none 0 0] ∧ s7 = .pointer (some ⟨F, 0, none⟩) ∧ s8 = .pointer (some ⟨F, 0, none⟩) ∧ s9 = .pointer (some ⟨F, 0, none⟩) ∧ s = .pointer (some ⟨wr.heap.size, 0, none⟩) ∧ t = .slice (some ⟨b, off, none⟩) n cap ∧ l = .int .i64 (n : Int) ∧ i = .int .i64 (k : Int) ∧ wx = W8)
      case first =>
        clear zE cb8 hrp p16' p17'
        go_wp2_with (first
          | (refine wpList_load_mid rfl 155 (.tmp 14) rfl b (off + k * 18) rfl C.toList _ HRG.out Tryz.underlying155 rfl HS18.out ?_; rw [Array.toArray_toList])
          | (refine wpList_store_new rfl 155 (.tmp 5) (.tmp 15) rfl _ C rfl rfl HS18'.out (by rw [HCS.out]; rfl) HC1.out ?_))
        go_meet
        exact ⟨rfl, rfl, rfl, rfl, rfl, rfl, rfl, rfl, HW8.out⟩
      case rest =>
      obtain ⟨rfl, rfl, rfl, rfl, rfl, rfl, rfl, rfl, hwc⟩ := hcut
      subst hwc
      obtain ⟨W8, hW8⟩ : ∃ W, W = wc := ⟨_, rfl⟩
      subst hW8
      clear HW8 hlt HRG HS18 HS18' HCS HC1
      go_upto_region 5 with fail
      obtain ⟨E, hE⟩ : ∃ E, wr.heap.size = E := ⟨_, rfl⟩
      rw [hE] at zE hrp hXE p16' p17' ⊢
      clear hE hcc
      have hEX : E ≠ H + 1 := by omega
      have hEX' : H + 1 ≠ E := by omega
      have x0 := cb8.x.cell 0
      simp at x0
      have hcall := copyBlkI (some ⟨E, 0, none⟩) 8 8 wear bad [q0, q1, q2, q3, q4, q5, q6, q7] W8.drew rfl hts hrp
      have HC8 : Hid (CC W0 W8.drew (H + 1) v us ((fs.take k).map FkR.D)) := cb8.keep (Below.refl _ _).drew
      clear cb8 zE hrp
      go_region_law (first
        | (go_simp; go_at_call 129; (with_reducible refine hcall.mono ?_); rintro e W9 ⟨a1, c1, qs, rfl, hnp, b9⟩; have cb9 := HC8.out.keep b9; have x0' := cb9.x.cell 0; have x0'' := (cb9.x.alloc (.cells #[.slice a1 8 c1, .int .i64 wear, .bool bad] 57)).cell 0; simp at x0' x0''; have hrow := cb9.row; rw [hus] at hrow; have happ := fun ty => app_block W9 v us k hus (by omega) hrow ⟨a1, c1, qs, wear, bad⟩ ty 8 (by rw [hnp.len]; simp); dsimp only)
        | (refine step_appAny (W9.alloc (.cells #[.slice a1 8 c1, .int .i64 wear, .bool bad] 57)) rfl (.tmp 17) (.tmp 26) 30 rfl v (.slice (some ⟨W9.heap.size, 0, none⟩) 1 1) _ rfl rfl happ ?_; intro v2 W10 hap2; obtain ⟨a2, c2, rfl, _⟩ := OwnE.rd (rd := fun _ => True) hap2.own (fun _ _ => trivial); have hxg := blk_gr (cb9.x.alloc (.cells #[.slice a1 8 c1, .int .i64 wear, .bool bad] 57)) hap2.gr (fun e => (cb9.vn (H + 1) e).2.1 rfl); have g0 := hxg.cell 0; have gf := hxg.frozen 0; simp at g0; dsimp only))
      all_goals (have ccn : CC W0 (W10.setCell ⟨H + 1, 0, none⟩ (.slice a2 (k + 1) c2)) (H + 1) (.slice a2 (k + 1) c2) (us ++ [⟨a1, c1, qs, wear, bad⟩]) ((fs.take k).map FkR.D ++ [⟨[q0, q1, q2, q3, q4, q5, q6, q7].map PgR.D, wear, bad⟩]) := CC.step HC8.out hus (by rw [hnp.len]; simp) b9 hnp hap2 (by simp [hus]); rw [← hfD.out] at ccn; have CCN : Hid _ := ccn; have hul : (us ++ [⟨a1, c1, qs, wear, bad⟩] : List BkR).length = k + 1 := (by simp [hus]); clear ccn hap2 happ hxg g0 gf x0 x0' x0'' p16' p17' hcall cb9 hrow hnp b9)
      all_goals go_wp2
      all_goals go_roundw
      all_goals first
        | (case rel => exact ⟨k + 1, _, _, by omega, by go_num, hul, CCN⟩)
        | (case measure => simp [intOf]; omega)
    · have hki : ¬ (k : Int) < (n : Int) := by omega
      obtain rfl : k = n := by omega
      have hco := hcc.out
      rw [List.take_of_length_le (by rw [HN.out]; omega)] at hco
      obtain ⟨va, vc, rfl, _⟩ := OwnE.rd (rd := fun _ => True) hco.row (fun _ _ => trivial)
      rw [hus] at hco
      have x0 := hco.x.cell 0
      have zr := Blk.keep HZ0.out hco.bel
      have r0 := zr.cell 0
      have f0 := zr.frozen 0
      have zf := zr.set 0 (.slice va k vc)
      have d0 := zf.cell 0
      simp at x0 r0 d0
      have HC : Hid _ := hco
      clear hco zr zf hcc
      go_wp2
      refine bodyPost_ret (v := .agg #[.slice va k vc]) (by simp [results, Tryz.f114, go_sem, d0]) rfl ?_
      have hc := HC.out
      have hw := HW.out
      have hH := HH.out
      have hbs := HB0.out
      have bel : Below w.heap.size w wr := by rw [hH]; exact hbs.trans (hc.bel.mono (by omega))
      exact ⟨va, k, vc, us, rfl, NewBs.wider (B := W0.heap.size) (NewBs.set_below (B := W0.heap.size) (j := H) (hc.done hus) (by omega)) (by omega), hus, bel.setCell (p := ⟨H, 0, none⟩) (by simp only; omega) _⟩
end

section
open Go.RowKit
def fkZ : FkR := ⟨List.replicate 8 pgZ, 0, false, rfl⟩
theorem Tryz.infoCells : (Tryz.prog.info? 155).map (fun i => (i.zero, i.size, i.bytes)) = some (some (.agg #[.bool false, .slice none 0 0, .bool false, .slice none 0 0, .bool false, .slice none 0 0, .bool false, .slice none 0 0, .bool false, .slice none 0 0, .bool false, .slice none 0 0, .bool false, .slice none 0 0, .bool false, .slice none 0 0, .int .i64 0, .bool false]), 18, 272) := by kernel_rfl
end

section
open Go.RowKit
def FkR.wearTo (f : FkR) (x : Int) : FkR := ⟨f.ps, x, f.bad, f.h8⟩
def FkR.badTo (f : FkR) (x : Bool) : FkR := ⟨f.ps, f.wear, x, f.h8⟩
def FkR.pg (f : FkR) (j : Nat) (p : PgR) : FkR := ⟨f.ps.set j p, f.wear, f.bad, by rw [List.length_set]; exact f.h8⟩
theorem xv16 (f : FkR) : (pgE.xv f.ps).length = 16 := by rw [pgE.xv_length, f.h8]; rfl
theorem en_wear (f : FkR) (x : Int) : fkE.en (f.wearTo x) = (fkE.en f).set 16 (.int .i64 x) := by
  show pgE.xv f.ps ++ [Value.int .i64 x, Value.bool f.bad] = (pgE.xv f.ps ++ [Value.int .i64 f.wear, Value.bool f.bad]).set 16 (.int .i64 x)
  rw [List.set_append_right _ _ (by rw [xv16]; omega), xv16]
  rfl
theorem en_bad (f : FkR) (x : Bool) : fkE.en (f.badTo x) = (fkE.en f).set 17 (.bool x) := by
  show pgE.xv f.ps ++ [Value.int .i64 f.wear, Value.bool x] = (pgE.xv f.ps ++ [Value.int .i64 f.wear, Value.bool f.bad]).set 17 (.bool x)
  rw [List.set_append_right _ _ (by rw [xv16]; omega), xv16]
  rfl
theorem en_pg {f : FkR} {j j2 : Nat} {p q : PgR} {x : Value} (hj : f.ps[j]? = some q) (h2 : j2 < 2) (he : pgE.en p = (pgE.en q).set j2 x) : fkE.en (f.pg j p) = (fkE.en f).set (j * 2 + j2) x := by
  have h8 : j < 8 := by have := (List.getElem?_eq_some_iff.1 hj).1; rw [f.h8] at this; exact this
  show pgE.xv (f.ps.set j p) ++ [Value.int .i64 f.wear, Value.bool f.bad] = (pgE.xv f.ps ++ [Value.int .i64 f.wear, Value.bool f.bad]).set (j * 2 + j2) x
  rw [List.set_append_left _ _ (by rw [xv16]; omega)]
  rw [← pgE.xv_set f.ps j j2 q p x hj h2 he]
  rfl
theorem FkR.ext' {f g : FkR} (h1 : f.ps = g.ps) (h2 : f.wear = g.wear) (h3 : f.bad = g.bad) : f = g := by
  cases f; cases g; simp at h1 h2 h3; subst h1; subst h2; subst h3; rfl
/-- A flash of the call's own: its box F, its row G. -/
structure FO (w0 wr : World) (F G n : Nat) (fs : List FkR) : Prop where
  bel : Below w0.heap.size w0 wr
  f : Blk wr F 140 #[.slice (some ⟨G, 0, none⟩) n n]
  g : OwnE fkE 155 wr (.slice (some ⟨G, 0, none⟩) n n) n fs
  fn : w0.heap.size ≤ F
  gn : w0.heap.size ≤ G
  ne : F ≠ G
theorem FO.keep {w0 wr w' : World} {F G n : Nat} {fs : List FkR} (h : FO w0 wr F G n fs) (hb : Below wr.heap.size wr w') : FO w0 w' F G n fs := ⟨h.bel.trans (hb.mono h.bel.size), h.f.keep hb, h.g.keep hb, h.fn, h.gn, h.ne⟩
theorem FO.cell {w0 wr : World} {F G n k j : Nat} {fs : List FkR} {f : FkR} (h : FO w0 wr F G n fs) (hk : fs[k]? = some f) (hj : j < 18) : wr.cell? ⟨G, k * 18 + j, none⟩ = (fkE.en f)[j]? := h.g.cell k j f hk hj
theorem FO.is {w0 wr : World} {F G n k j : Nat} {fs : List FkR} {f : FkR} (h : FO w0 wr F G n fs) (hk : fs[k]? = some f) (hj : j < 18) : ∃ x, wr.cell? ⟨G, k * 18 + j, none⟩ = .some x := ⟨_, (h.cell hk hj).trans (List.getElem?_eq_getElem (by rw [fkE.len]; exact hj))⟩
theorem FO.one {w0 wr : World} {F G n k j : Nat} {fs : List FkR} {f f' : FkR} {x : Value} (h : FO w0 wr F G n fs) (hk : fs[k]? = some f) (hj : j < 18) (he : fkE.en f' = (fkE.en f).set j x) : FO w0 (wr.setCell ⟨G, k * 18 + j, none⟩ x) F G n (fs.set k f') :=
  ⟨h.bel.setCell (p := ⟨G, k * 18 + j, none⟩) h.gn _, (Below.heap_setCell _ _ _ _ h.ne).trans h.f, h.g.set k j f f' x hk hj he, h.fn, h.gn, h.ne⟩
theorem get_set {α : Type} {l : List α} {k : Nat} {f g : α} (h : l[k]? = some f) : (l.set k g)[k]? = some g := by
  rw [List.getElem?_set_self (List.getElem?_eq_some_iff.1 h).1]
/-- A page into a block. -/
theorem FO.page {w0 wr : World} {F G n k j n1 : Nat} {fs : List FkR} {f : FkR} {p : PgR} (h : FO w0 wr F G n fs) (hk : fs[k]? = some f) (hj : j < 8) (hn : p.zs.length = n1) : FO w0 ((wr.setCell ⟨G, k * 18 + j * 2, none⟩ (.bool p.used)).setCell ⟨G, k * 18 + j * 2 + 1, none⟩ (.slice p.a n1 p.cap)) F G n (fs.set k (f.pg j p)) := by
  subst hn
  obtain ⟨q, hq⟩ : ∃ q, f.ps[j]? = .some q := ⟨_, List.getElem?_eq_getElem (by rw [f.h8]; exact hj)⟩
  have h1 := h.one (j := j * 2 + 0) (x := .bool p.used) (f' := f.pg j ⟨p.used, q.a, q.cap, q.zs⟩) hk (by omega) (en_pg hq (by omega) rfl)
  have h2 := h1.one (j := j * 2 + 1) (x := .slice p.a p.zs.length p.cap) (f' := (f.pg j ⟨p.used, q.a, q.cap, q.zs⟩).pg j p) (get_set hk) (by omega) (en_pg (get_set hq) (by omega) rfl)
  rw [List.set_set, Nat.add_zero] at h2
  rw [show (f.pg j ⟨p.used, q.a, q.cap, q.zs⟩).pg j p = f.pg j p from FkR.ext' (by simp [FkR.pg]) rfl rfl] at h2
  exact h2
theorem FO.used {w0 wr : World} {F G n k j : Nat} {fs : List FkR} {f : FkR} {u : Bool} (h : FO w0 wr F G n fs) (hk : fs[k]? = some f) (hj : j < 8) : ∃ gs g, FO w0 (wr.setCell ⟨G, k * 18 + j * 2, none⟩ (.bool u)) F G n gs ∧ gs[k]? = Option.some g := by
  obtain ⟨q, hq⟩ : ∃ q, f.ps[j]? = .some q := ⟨_, List.getElem?_eq_getElem (by rw [f.h8]; exact hj)⟩
  exact ⟨_, _, h.one (j := j * 2 + 0) (x := .bool u) (f' := f.pg j ⟨u, q.a, q.cap, q.zs⟩) hk (by omega) (en_pg hq (by omega) rfl), get_set hk⟩
/-- A flash was answered. -/
def FlA (w : World) (fs : List FkR) (e : Ending) (w' : World) : Prop := ∃ F G, e = .returned (.pointer (some ⟨F, 0, none⟩)) ∧ FO w w' F G fs.length fs
/-- The flash of a chip. -/
def FlOf (bs : List BkR) (fs : List FkR) : Prop := fs.length = bs.length ∧ ∀ (i : Nat) (r : BkR), bs[i]? = some r → ∃ f : FkR, fs[i]? = some f ∧ f.ps = r.ps ∧ f.wear = r.wear ∧ f.bad = r.bad
set_option maxRecDepth 100000 in
set_option maxHeartbeats 8000000 in
theorem flashOfI (a : Option Addr) (n cap : Nat) (bs : List BkR) (fs : List FkR) (w : World) (ht : CR w a n bs) (hf : FlOf bs fs) :
    Calls Tryz.prog 120 #[.agg #[.slice a n cap]] w (FlA w fs) := by
  have hnn := ht.n
  obtain ⟨i0, hi, hz0, hz1, hz2⟩ := info_parts Tryz.infoCells
  have hm : n ≤ maxLen := by unfold maxLen; omega
  have hby : i0.bytes * n ≤ 281474976710656 := by rw [hz2]; omega
  have B0 : Below w.heap.size w (w.alloc (.cells #[.slice a n cap] 32)) := (Below.refl _ w).alloc (Nat.le_refl _) _
  have z0 := Blk.new w 32 #[.slice a n cap]
  have hws : (w.alloc (.cells #[.slice a n cap] 32)).heap.size = w.heap.size + 1 := by simp
  obtain ⟨H, hH⟩ : ∃ H, w.heap.size = H := ⟨_, rfl⟩
  rw [hH] at z0 hws
  go_enter Tryz.func120, Tryz.ntmps120
  go_upto_region 1 with fail
  obtain ⟨W0, hW0⟩ : ∃ W, w.alloc (.cells #[.slice a n cap] 32) = W := ⟨_, rfl⟩
  rw [hW0] at B0 z0 hws ⊢
  clear hW0
  have y0 := z0.cell 0
  simp at y0
  have HH : Hid (w.heap.size = H) := hH
  have HW : Hid (W0.heap.size = H + 1) := hws
  have HT : Hid (CR W0 a n bs) := ht.keep B0
  have HF : Hid (FlOf bs fs) := hf
  have HLN : Hid (bs.length = n) := ht.len
  have HB0 : Hid (Below H w W0) := by rw [← hH]; exact B0
  have HZ0 : Hid (Blk W0 H 32 #[.slice a n cap]) := z0
  clear ht hf B0 z0 hH hws
  go_upto_region 2 with (at_make; refine wpList_make_full _ rfl (.tmp 10) (.tmp 10) 138 rfl 0 155 i0 _ 18 Tryz.underlying138 hi hz0 hz1 .i64 .i64 _ _ n rfl rfl rfl rfl hby hm (Nat.zero_le _) ?_; intro w2 hown hgrow)
  have B2 : Below W0.heap.size W0 w2 := (Below.refl _ _).grown hgrow (Nat.le_refl _) (by simp)
  have fo0 : FO W0 (w2.alloc (.cells #[.slice (some ⟨W0.heap.size, 0, none⟩) n n] 140)) w2.heap.size W0.heap.size n (List.replicate n fkZ) := by
    have h1 : OwnE fkE 155 w2 (.slice (some ⟨W0.heap.size, 0, none⟩) n n) n (List.replicate n fkZ) := made_row fkE fkZ (.agg #[.bool false, .slice none 0 0, .bool false, .slice none 0 0, .bool false, .slice none 0 0, .bool false, .slice none 0 0, .bool false, .slice none 0 0, .bool false, .slice none 0 0, .bool false, .slice none 0 0, .bool false, .slice none 0 0, .int .i64 0, .bool false]) rfl hown
    have h2 := h1.lt (g := W0.heap.size) rfl
    exact ⟨B2.alloc B2.size _, Blk.new w2 _ _, h1.keep ((Below.refl _ w2).alloc (Nat.le_refl _) _), B2.size, Nat.le_refl _, by omega⟩
  obtain ⟨G, hG⟩ : ∃ G, W0.heap.size = G := ⟨_, rfl⟩
  obtain ⟨F, hFF⟩ : ∃ F, w2.heap.size = F := ⟨_, rfl⟩
  rw [hG, hFF] at fo0
  rw [hG]
  obtain ⟨W1, hW1⟩ : ∃ W, w2.alloc (.cells #[.slice (some ⟨G, 0, none⟩) n n] 140) = W := ⟨_, rfl⟩
  rw [hW1] at fo0
  try rw [hFF]
  try rw [hW1]
  have HG : Hid (W0.heap.size = G) := hG
  have y1 := (Blk.keep HZ0.out fo0.bel).cell 0
  simp at y1
  clear hown hgrow B2 hW1 hi hz0 hz1 hz2 hby hm y0 hG hFF
  go_upto_region 3 with fail
  clear y1
  go_loopw [17] (fun i wr => ∃ (k : Nat) (gs : List FkR), k ≤ n ∧ i = .int .i64 k ∧ Hid (FO W0 wr F G n gs) ∧ Hid (∀ j, j < k → gs[j]? = fs[j]?)) (fun i _ => n - (intOf i).toNat)
  case atStart => exact ⟨0, _, by omega, rfl, fo0, fun j hj => absurd hj (by omega)⟩
  case round =>
    obtain ⟨k, gs, hk, rfl, hfo, hgs⟩ := hrel
    clear fo0
    by_cases hkn : k < n
    · have hki : (k : Int) < (n : Int) := by omega
      obtain ⟨b, off, r, rfl, hlt, hrk, x3, hrp, htp⟩ := (HT.out.keep hfo.out.bel).some hkn
      obtain ⟨c0, c1, c2⟩ := x3
      obtain ⟨fk, hfk, hfp, hfw, hfb⟩ := HF.out.2 k r hrk
      have HRP0 : Hid (RdPs W0 r.a r.ps) := by
        obtain ⟨_, _, r', _, _, h1, _, h2, _⟩ := HT.out.some hkn
        rw [hrk] at h1
        cases h1
        exact h2
      obtain ⟨ra, rc, rp, wear, bad⟩ := r
      dsimp only at c0 c1 c2 hrp htp hfp hfw hfb HRP0
      have hr8 : rp.length = 8 := by rw [← hfp]; exact fk.h8
      rw [hr8] at c0
      obtain ⟨f, hgk⟩ : ∃ f, gs[k]? = some f := ⟨_, List.getElem?_eq_getElem (by rw [hfo.out.g.len]; exact hkn)⟩
      have HFK : Hid (fs[k]? = some fk ∧ fk.ps = rp ∧ fk.wear = wear ∧ fk.bad = bad) := ⟨hfk, hfp, hfw, hfb⟩
      have bE : Below wr.heap.size wr (wr.alloc (.cells #[.slice ra 8 rc, .int .i64 wear, .bool bad] 57)) := (Below.refl _ wr).alloc (Nat.le_refl _) _
      have zE := Blk.new wr 57 #[.slice ra 8 rc, .int .i64 wear, .bool bad]
      have fo8 := hfo.out.keep bE
      have hrp8 := hrp.keep bE
      go_upto_region 5 with fail
      obtain ⟨W8, hW8⟩ : ∃ W, wr.alloc (.cells #[.slice ra 8 rc, .int .i64 wear, .bool bad] 57) = W := ⟨_, rfl⟩
      rw [hW8] at zE fo8 hrp8 bE ⊢
      clear hW8 c0 c1 c2 hrp hrk hfk hfp hfw hfb hlt
      obtain ⟨E, hE⟩ : ∃ E, wr.heap.size = E := ⟨_, rfl⟩
      rw [hE] at zE ⊢
      have hEG : E ≠ G := by have := hfo.out.g.lt (g := G) rfl; omega
      have fo9 : FO W0 W8.drew F G n gs := fo8.keep (Below.refl _ _).drew
      have zE9 : Blk W8.drew E 57 #[.slice ra 8 rc, .int .i64 wear, .bool bad] := Blk.keep zE (Below.refl _ _).drew
      have fa := fo9.one (j := 16) (x := .int .i64 wear) hgk (by omega) (en_wear f wear)
      have fb := fa.one (j := 17) (x := .bool bad) (get_set hgk) (by omega) (en_bad (f.wearTo wear) bad)
      rw [List.set_set] at fb
      have zEa : Blk (W8.drew.setCell ⟨G, k * 18 + 16, none⟩ (.int .i64 wear)) E 57 #[.slice ra 8 rc, .int .i64 wear, .bool bad] := (Below.heap_setCell _ _ _ _ hEG).trans zE9
      have zEb : Blk ((W8.drew.setCell ⟨G, k * 18 + 16, none⟩ (.int .i64 wear)).setCell ⟨G, k * 18 + 17, none⟩ (.bool bad)) E 57 #[.slice ra 8 rc, .int .i64 wear, .bool bad] := (Below.heap_setCell _ _ _ _ hEG).trans zEa
      obtain ⟨v16, p16⟩ := fo9.is hgk (j := 16) (by omega)
      have f16 := fo9.g.frozen (k * 18 + 16)
      obtain ⟨v17, p17⟩ := fa.is (get_set hgk) (j := 17) (by omega)
      have f17 := fa.g.frozen (k * 18 + 17)
      have x0 := fo9.f.cell 0
      have x1 := zE9.cell 1
      have x2 := zE9.cell 2
      have xa0 := fa.f.cell 0
      have xa1 := zEa.cell 1
      have xa2 := zEa.cell 2
      have HXA : Hid _ := And.intro xa0 (And.intro xa1 xa2)
      simp at x0 x1 x2
      have HFB : Hid _ := fb
      have HGK : Hid (gs[k]? = some f) := hgk
      have HZEB : Hid _ := zEb
      clear hfo fo8 bE zE fo9 zE9 fa fb zEa zEb hrp8 hE xa0 xa1 xa2 hgk
      have hkk : ¬ (k : Int) < 0 := by omega
      have p17' : ((W8.setCell ⟨G, k * 18 + 16, none⟩ (.int .i64 wear)).drew).cell? ⟨G, k * 18 + 17, none⟩ = some v17 := p17
      have f17' : ((W8.setCell ⟨G, k * 18 + 16, none⟩ (.int .i64 wear)).drew).frozen? ⟨G, k * 18 + 17, none⟩ = false := f17
      refine wp_region_noPanic ?_
      refine wp_region_last (fun W : World => W.cell? ⟨F, 0, none⟩ = some (.slice (some ⟨G, 0, none⟩) n n) ∧ W.cell? ⟨E, 1, none⟩ = some (.int .i64 wear) ∧ W.cell? ⟨E, 2, none⟩ = some (.bool bad)) 19 (by kernel_rfl) (by kernel_rfl) (by go_keep) 19 (by kernel_rfl) (fun hS => ?_)
      refine wpAnyH_take (i := 0) (v := ?gv1) rfl (by kernel_rfl) (by kernel_rfl) (by kernel_rfl) (fun _ _ _ h => h) (Or.inl ⟨by kernel_rfl, ?gy1⟩) (by assumption) ?gr1
      case gy1 => (intro w' hSw; (try dsimp only at hSw); go_simp; (try with_reducible rfl))
      try simp only [Act.put, List.setIfInBounds_toArray, List.set_cons_zero, List.set_cons_succ, List.getElem_toArray, List.getElem_cons_zero]
      refine wpAnyH_take (i := 1) (v := ?gv2) rfl (by kernel_rfl) (by kernel_rfl) (by kernel_rfl) (fun _ _ _ h => h) (Or.inl ⟨by kernel_rfl, ?gy2⟩) (by assumption) ?gr2
      case gy2 => (intro w' hSw; (try dsimp only at hSw); go_simp; (try with_reducible rfl))
      try simp only [Act.put, List.setIfInBounds_toArray, List.set_cons_zero, List.set_cons_succ, List.getElem_toArray, List.getElem_cons_succ, List.getElem_cons_zero]
      refine wpAnyH_take (i := 2) (v := ?gv3) rfl (by kernel_rfl) (by kernel_rfl) (by kernel_rfl) (fun _ _ _ h => h) (Or.inl ⟨by kernel_rfl, ?gy3⟩) (by assumption) ?gr3
      case gy3 => (intro w' hSw; (try dsimp only at hSw); go_simp; (try with_reducible rfl))
      try simp only [Act.put, List.setIfInBounds_toArray, List.set_cons_zero, List.set_cons_succ, List.getElem_toArray, List.getElem_cons_succ, List.getElem_cons_zero]
      refine wpAnyH_take (i := 3) (v := ?gv4) rfl (by kernel_rfl) (by kernel_rfl) (by kernel_rfl) (fun _ _ _ h => h) (Or.inl ⟨by kernel_rfl, ?gy4⟩) (by assumption) ?gr4
      case gy4 => (intro w' hSw; (try dsimp only at hSw); go_simp; (try with_reducible rfl))
      try simp only [Act.put, List.setIfInBounds_toArray, List.set_cons_zero, List.set_cons_succ, List.getElem_toArray, List.getElem_cons_succ, List.getElem_cons_zero]
      refine wpAnyH_take (i := 4) (v := ?gv5) rfl (by kernel_rfl) (by kernel_rfl) (by kernel_rfl) (fun _ _ _ h => h) (Or.inl ⟨by kernel_rfl, ?gy5⟩) (by assumption) ?gr5
      case gy5 => (intro w' hSw; (try dsimp only at hSw); go_simp; (try with_reducible rfl))
      try simp only [Act.put, List.setIfInBounds_toArray, List.set_cons_zero, List.set_cons_succ, List.getElem_toArray, List.getElem_cons_succ, List.getElem_cons_zero]
      refine wpAnyH_take (i := 5) (v := ?gv6) rfl (by kernel_rfl) (by kernel_rfl) (by kernel_rfl) (fun _ _ _ h => h) (Or.inl ⟨by kernel_rfl, ?gy6⟩) (by assumption) ?gr6
      case gy6 => (intro w' hSw; (try dsimp only at hSw); go_simp; (try with_reducible rfl))
      try simp only [Act.put, List.setIfInBounds_toArray, List.set_cons_zero, List.set_cons_succ, List.getElem_toArray, List.getElem_cons_succ, List.getElem_cons_zero]
      refine wpAnyH_take (i := 6) (v := ?gv7) rfl (by kernel_rfl) (by kernel_rfl) (by kernel_rfl) (fun _ _ _ h => h) (Or.inl ⟨by kernel_rfl, ?gy7⟩) (by assumption) ?gr7
      case gy7 => (intro w' hSw; (try dsimp only at hSw); go_simp; (try with_reducible rfl))
      try simp only [Act.put, List.setIfInBounds_toArray, List.set_cons_zero, List.set_cons_succ, List.getElem_toArray, List.getElem_cons_succ, List.getElem_cons_zero]
      refine wpAnyH_take (i := 7) (v := ?gv8) rfl (by kernel_rfl) (by kernel_rfl) (by kernel_rfl) (fun _ _ _ h => h) (Or.inl ⟨by kernel_rfl, ?gy8⟩) (by assumption) ?gr8
      case gy8 => (intro w' hSw; (try dsimp only at hSw); go_simp; (try with_reducible rfl))
      try simp only [Act.put, List.setIfInBounds_toArray, List.set_cons_zero, List.set_cons_succ, List.getElem_toArray, List.getElem_cons_succ, List.getElem_cons_zero]
      refine wpAnyH_take (i := 8) (v := ?gv9) rfl (by kernel_rfl) (by kernel_rfl) (by kernel_rfl) (fun _ _ _ h => h) (Or.inl ⟨by kernel_rfl, ?gy9⟩) (by assumption) ?gr9
      case gy9 => (intro w' hSw; (try dsimp only at hSw); go_simp; (try with_reducible rfl))
      try simp only [Act.put, List.setIfInBounds_toArray, List.set_cons_zero, List.set_cons_succ, List.getElem_toArray, List.getElem_cons_succ, List.getElem_cons_zero]
      refine wpAnyH_take (i := 9) (v := ?gv10) rfl (by kernel_rfl) (by kernel_rfl) (by kernel_rfl) (fun _ _ _ h => h) (Or.inl ⟨by kernel_rfl, ?gy10⟩) (by assumption) ?gr10
      case gy10 => (intro w' hSw; (try dsimp only at hSw); go_simp; (try with_reducible rfl))
      try simp only [Act.put, List.setIfInBounds_toArray, List.set_cons_zero, List.set_cons_succ, List.getElem_toArray, List.getElem_cons_succ, List.getElem_cons_zero]
      refine wpAnyH_take (i := 10) (v := ?gv11) rfl (by kernel_rfl) (by kernel_rfl) (by kernel_rfl) (fun _ _ _ h => h) (Or.inl ⟨by kernel_rfl, ?gy11⟩) (by assumption) ?gr11
      case gy11 => (intro w' hSw; (try dsimp only at hSw); go_simp; (try with_reducible rfl))
      try simp only [Act.put, List.setIfInBounds_toArray, List.set_cons_zero, List.set_cons_succ, List.getElem_toArray, List.getElem_cons_succ, List.getElem_cons_zero]
      refine wpAnyH_take (i := 11) (v := ?gv12) rfl (by kernel_rfl) (by kernel_rfl) (by kernel_rfl) (fun _ _ _ h => h) (Or.inl ⟨by kernel_rfl, ?gy12⟩) (by assumption) ?gr12
      case gy12 => (intro w' hSw; (try dsimp only at hSw); go_simp; (try with_reducible rfl))
      try simp only [Act.put, List.setIfInBounds_toArray, List.set_cons_zero, List.set_cons_succ, List.getElem_toArray, List.getElem_cons_succ, List.getElem_cons_zero]
      refine wpAnyH_take (i := 12) (v := ?gv13) rfl (by kernel_rfl) (by kernel_rfl) (by kernel_rfl) (fun _ _ _ h => h) (Or.inl ⟨by kernel_rfl, ?gy13⟩) (by assumption) ?gr13
      case gy13 => (intro w' hSw; (try dsimp only at hSw); go_simp; (try with_reducible rfl))
      try simp only [Act.put, List.setIfInBounds_toArray, List.set_cons_zero, List.set_cons_succ, List.getElem_toArray, List.getElem_cons_succ, List.getElem_cons_zero]
      refine wpAnyH_take (i := 13) (v := ?gv14) rfl (by kernel_rfl) (by kernel_rfl) (by kernel_rfl) (fun _ _ _ h => h) (Or.inl ⟨by kernel_rfl, ?gy14⟩) (by assumption) ?gr14
      case gy14 => (intro w' hSw; (try dsimp only at hSw); go_simp; (try with_reducible rfl))
      try simp only [Act.put, List.setIfInBounds_toArray, List.set_cons_zero, List.set_cons_succ, List.getElem_toArray, List.getElem_cons_succ, List.getElem_cons_zero]
      refine wpAnyH_take (i := 14) (v := ?gv15) rfl (by kernel_rfl) (by kernel_rfl) (by kernel_rfl) (fun _ _ _ h => h) (Or.inl ⟨by kernel_rfl, ?gy15⟩) (by assumption) ?gr15
      case gy15 => (intro w' hSw; (try dsimp only at hSw); go_simp; (try with_reducible rfl))
      try simp only [Act.put, List.setIfInBounds_toArray, List.set_cons_zero, List.set_cons_succ, List.getElem_toArray, List.getElem_cons_succ, List.getElem_cons_zero]
      refine wpAnyH_take (i := 15) (v := ?gv16) rfl (by kernel_rfl) (by kernel_rfl) (by kernel_rfl) (fun _ _ _ h => h) (Or.inl ⟨by kernel_rfl, ?gy16⟩) (by assumption) ?gr16
      case gy16 => (intro w' hSw; (try dsimp only at hSw); go_simp; (try with_reducible rfl))
      try simp only [Act.put, List.setIfInBounds_toArray, List.set_cons_zero, List.set_cons_succ, List.getElem_toArray, List.getElem_cons_succ, List.getElem_cons_zero]
      refine wpAnyH_ready (rs := [16]) (by kernel_rfl) (by simp) ?_
      refine AllReadyH.cons rfl (fun K hK => ?_) AllReadyH.nil
      go_simp
      clear hS
      try dsimp only
      refine Shut.out hK _ _ (⟨HXA.out.1, HXA.out.2.1, HXA.out.2.2⟩) (fun hS => ?_)
      try simp only [Act.put, List.setIfInBounds_toArray, List.set_cons_zero, List.set_cons_succ, List.getElem_toArray, List.getElem_cons_succ, List.getElem_cons_zero]
      refine wpAnyH_take (i := 17) (v := ?gv17) rfl (by kernel_rfl) (by kernel_rfl) (by kernel_rfl) (fun _ _ _ h => h) (Or.inl ⟨by kernel_rfl, ?gy17⟩) (by assumption) ?gr17
      case gy17 => (intro w' hSw; (try dsimp only at hSw); go_simp; (try with_reducible rfl))
      try simp only [Act.put, List.setIfInBounds_toArray, List.set_cons_zero, List.set_cons_succ, List.getElem_toArray, List.getElem_cons_succ, List.getElem_cons_zero]
      refine wpAnyH_take (i := 18) (v := ?gv18) rfl (by kernel_rfl) (by kernel_rfl) (by kernel_rfl) (fun _ _ _ h => h) (Or.inl ⟨by kernel_rfl, ?gy18⟩) (by assumption) ?gr18
      case gy18 => (intro w' hSw; (try dsimp only at hSw); go_simp; (try with_reducible rfl))
      try simp only [Act.put, List.setIfInBounds_toArray, List.set_cons_zero, List.set_cons_succ, List.getElem_toArray, List.getElem_cons_succ, List.getElem_cons_zero]
      refine wpAnyH_done (by kernel_rfl) ?_ _
      refine wpOp_last rfl (fun K hK => ?_)
      clear hS
      go_simp
      refine Shut.out hK _ _ (NoPanic.normal ?_)
      have hfb : FO W0 ((W8.setCell ⟨G, k * 18 + 16, none⟩ (.int .i64 wear)).setCell ⟨G, k * 18 + 17, none⟩ (.bool bad)).drew F G n (gs.set k ((f.wearTo wear).badTo bad)) := HFB.out
      have hze : Blk ((W8.setCell ⟨G, k * 18 + 16, none⟩ (.int .i64 wear)).setCell ⟨G, k * 18 + 17, none⟩ (.bool bad)).drew E 57 #[.slice ra 8 rc, .int .i64 wear, .bool bad] := HZEB.out
      obtain ⟨W9, hW9⟩ : ∃ W, ((W8.setCell ⟨G, k * 18 + 16, none⟩ (.int .i64 wear)).setCell ⟨G, k * 18 + 17, none⟩ (.bool bad)).drew = W := ⟨_, rfl⟩
      rw [hW9] at hfb hze
      have e0 := hze.cell 0
      simp at e0
      have HGS9 : Hid (∀ i, i < k → (gs.set k ((f.wearTo wear).badTo bad))[i]? = fs[i]?) := fun i hi => by rw [List.getElem?_set_ne (by omega)]; exact hgs.out i hi
      have HG9 : Hid (∃ g, (gs.set k ((f.wearTo wear).badTo bad))[k]? = some g ∧ g.wear = wear ∧ g.bad = bad ∧ ∀ i, i < 0 → g.ps[i]? = rp[i]?) := ⟨_, get_set HGK.out, rfl, rfl, fun i hi => absurd hi (by omega)⟩
      have HF9 : Hid (FO W0 W9 F G n (gs.set k ((f.wearTo wear).badTo bad))) := hfb
      try rw [hW9]
      clear hW9 hfb hze x0 x1 x2 p16 f16 p17 f17 p17' f17' HFB HZEB HXA hgs
      go_upto_region 7 with fail
      clear e0
      go_loopw [43] (fun i wr => ∃ (j : Nat) (gs : List FkR), j ≤ 8 ∧ i = .int .i64 j ∧ Hid (FO W0 wr F G n gs) ∧ Hid (∀ i, i < k → gs[i]? = fs[i]?) ∧ Hid (∃ g, gs[k]? = some g ∧ g.wear = wear ∧ g.bad = bad ∧ ∀ i, i < j → g.ps[i]? = rp[i]?)) (fun i _ => 8 - (intOf i).toNat)
      case atStart => exact ⟨0, _, by omega, rfl, HF9, HGS9, HG9⟩
      case round =>
        obtain ⟨j, hs, hj, rfl, hfo, hgs, hgk⟩ := hrel
        clear HF9 HGS9 HG9
        by_cases hj8 : j < 8
        · have hji : (j : Int) < 8 := by omega
          obtain ⟨p, hpj⟩ : ∃ p, rp[j]? = some p := ⟨_, List.getElem?_eq_getElem (by rw [hr8]; exact hj8)⟩
          obtain ⟨pb, poff, rfl, hplt, hpc⟩ := RdPs.lt (RdPs.keep HRP0.out hfo.out.bel) (by intro h; rw [h] at hpj; simp at hpj)
          obtain ⟨⟨c0, c1⟩, _⟩ := hpc j p hpj
          obtain ⟨g, hg1, hg2, hg3, hg4⟩ := hgk.out
          have HGN : Hid (∃ g', (hs.set k (g.pg j p))[k]? = some g' ∧ g'.wear = wear ∧ g'.bad = bad ∧ ∀ i, i < j + 1 → g'.ps[i]? = rp[i]?) := ⟨_, get_set hg1, hg2, hg3, fun i hi => by
            show (g.ps.set j p)[i]? = _
            by_cases he : i = j
            · subst he
              rw [List.getElem?_set_self (by rw [g.h8]; exact hj8), hpj]
            · rw [List.getElem?_set_ne (by omega)]
              exact hg4 i (by omega)⟩
          have HSN : Hid (∀ i, i < k → (hs.set k (g.pg j p))[i]? = fs[i]?) := fun i hi => by rw [List.getElem?_set_ne (by omega)]; exact hgs.out i hi
          obtain ⟨u, pa, pc, pz⟩ := p
          dsimp only at c0 c1
          obtain ⟨n1, hn1⟩ : ∃ n1, pz.length = n1 := ⟨_, rfl⟩
          rw [hn1] at c1
          have bQ : Below wr.heap.size wr (wr.alloc (.cells #[.bool u, .slice pa n1 pc] 85)) := (Below.refl _ wr).alloc (Nat.le_refl _) _
          have zQ := Blk.new wr 85 #[.bool u, .slice pa n1 pc]
          have fo8 := hfo.out.keep bQ
          clear hgk hgs hfo hg2 hg3 hg4 hpc hplt hpj
          go_upto_region 9 with fail
          obtain ⟨W7, hW7⟩ : ∃ W, wr.alloc (.cells #[.bool u, .slice pa n1 pc] 85) = W := ⟨_, rfl⟩
          rw [hW7] at zQ fo8 bQ ⊢
          obtain ⟨Q, hQ⟩ : ∃ Q, wr.heap.size = Q := ⟨_, rfl⟩
          rw [hQ] at zQ ⊢
          clear hW7 c0 c1 bQ hQ
          have fo9 : FO W0 W7.drew F G n hs := fo8.keep (Below.refl _ _).drew
          have zQ9 : Blk W7.drew Q 85 #[.bool u, .slice pa n1 pc] := Blk.keep zQ (Below.refl _ _).drew
          have x0 := fo9.f.cell 0
          have q0 := zQ9.cell 0
          have q1 := zQ9.cell 1
          simp at x0 q0 q1
          obtain ⟨v0, p0⟩ := fo9.is hg1 (j := j * 2) (by omega)
          obtain ⟨v1, p1⟩ := fo9.is hg1 (j := j * 2 + 1) (by omega)
          have r0 : W7.drew.cell? ⟨G, k * 18 + j * 2, none⟩ = some v0 := p0
          have r1 : W7.drew.cell? ⟨G, k * 18 + j * 2 + 1, none⟩ = some v1 := p1
          have f0 := fo9.g.frozen (k * 18 + j * 2)
          obtain ⟨gs1, g1, foU, hgU⟩ := fo9.used (u := u) hg1 hj8
          obtain ⟨v2, p2⟩ := foU.is hgU (j := j * 2 + 1) (by omega)
          have r2 : ((W7.setCell ⟨G, k * 18 + j * 2, none⟩ (.bool u)).drew).cell? ⟨G, k * 18 + j * 2 + 1, none⟩ = some v2 := p2
          have f2 : ((W7.setCell ⟨G, k * 18 + j * 2, none⟩ (.bool u)).drew).frozen? ⟨G, k * 18 + j * 2 + 1, none⟩ = false := foU.g.frozen (k * 18 + j * 2 + 1)
          have HFN : Hid _ := fo9.page (p := ⟨u, pa, pc, pz⟩) hg1 hj8 hn1
          clear p0 p1 p2 foU hgU fo9 fo8 zQ zQ9 hg1 hn1
          have hjj : ¬ (j : Int) < 0 := by omega
          refine wp_region_noPanic ?_
          refine wp_region_last (fun W : World => W.cell? ⟨F, 0, none⟩ = some (.slice (some ⟨G, 0, none⟩) n n) ∧ W.cell? ⟨Q, 0, none⟩ = some (.bool u) ∧ W.cell? ⟨Q, 1, none⟩ = some (.slice pa n1 pc)) 10 (by kernel_rfl) (by kernel_rfl) (by go_keep) 10 (by kernel_rfl) (fun hS => ?_)
          refine wpAnyH_take (i := 0) (v := ?gv19) rfl (by kernel_rfl) (by kernel_rfl) (by kernel_rfl) (fun _ _ _ h => h) (Or.inl ⟨by kernel_rfl, ?gy19⟩) (by assumption) ?gr19
          case gy19 => (intro w' hSw; (try dsimp only at hSw); go_simp; (try with_reducible rfl))
          try simp only [Act.put, List.setIfInBounds_toArray, List.set_cons_zero, List.set_cons_succ, List.getElem_toArray, List.getElem_cons_zero]
          refine wpAnyH_take (i := 1) (v := ?gv20) rfl (by kernel_rfl) (by kernel_rfl) (by kernel_rfl) (fun _ _ _ h => h) (Or.inl ⟨by kernel_rfl, ?gy20⟩) (by assumption) ?gr20
          case gy20 => (intro w' hSw; (try dsimp only at hSw); go_simp; (try with_reducible rfl))
          try simp only [Act.put, List.setIfInBounds_toArray, List.set_cons_zero, List.set_cons_succ, List.getElem_toArray, List.getElem_cons_succ, List.getElem_cons_zero]
          refine wpAnyH_take (i := 2) (v := ?gv21) rfl (by kernel_rfl) (by kernel_rfl) (by kernel_rfl) (fun _ _ _ h => h) (Or.inl ⟨by kernel_rfl, ?gy21⟩) (by assumption) ?gr21
          case gy21 => (intro w' hSw; (try dsimp only at hSw); go_simp; (try with_reducible rfl))
          try simp only [Act.put, List.setIfInBounds_toArray, List.set_cons_zero, List.set_cons_succ, List.getElem_toArray, List.getElem_cons_succ, List.getElem_cons_zero]
          refine wpAnyH_take (i := 3) (v := ?gv22) rfl (by kernel_rfl) (by kernel_rfl) (by kernel_rfl) (fun _ _ _ h => h) (Or.inl ⟨by kernel_rfl, ?gy22⟩) (by assumption) ?gr22
          case gy22 => (intro w' hSw; (try dsimp only at hSw); go_simp; (try with_reducible rfl))
          try simp only [Act.put, List.setIfInBounds_toArray, List.set_cons_zero, List.set_cons_succ, List.getElem_toArray, List.getElem_cons_succ, List.getElem_cons_zero]
          refine wpAnyH_take (i := 4) (v := ?gv23) rfl (by kernel_rfl) (by kernel_rfl) (by kernel_rfl) (fun _ _ _ h => h) (Or.inl ⟨by kernel_rfl, ?gy23⟩) (by assumption) ?gr23
          case gy23 => (intro w' hSw; (try dsimp only at hSw); go_simp; (try with_reducible rfl))
          try simp only [Act.put, List.setIfInBounds_toArray, List.set_cons_zero, List.set_cons_succ, List.getElem_toArray, List.getElem_cons_succ, List.getElem_cons_zero]
          refine wpAnyH_take (i := 5) (v := ?gv24) rfl (by kernel_rfl) (by kernel_rfl) (by kernel_rfl) (fun _ _ _ h => h) (Or.inl ⟨by kernel_rfl, ?gy24⟩) (by assumption) ?gr24
          case gy24 => (intro w' hSw; (try dsimp only at hSw); go_simp; (try with_reducible rfl))
          try simp only [Act.put, List.setIfInBounds_toArray, List.set_cons_zero, List.set_cons_succ, List.getElem_toArray, List.getElem_cons_succ, List.getElem_cons_zero]
          refine wpAnyH_take (i := 6) (v := ?gv25) rfl (by kernel_rfl) (by kernel_rfl) (by kernel_rfl) (fun _ _ _ h => h) (Or.inl ⟨by kernel_rfl, ?gy25⟩) (by assumption) ?gr25
          case gy25 => (intro w' hSw; (try dsimp only at hSw); go_simp; (try with_reducible rfl))
          try simp only [Act.put, List.setIfInBounds_toArray, List.set_cons_zero, List.set_cons_succ, List.getElem_toArray, List.getElem_cons_succ, List.getElem_cons_zero]
          refine wpAnyH_take (i := 7) (v := ?gv26) rfl (by kernel_rfl) (by kernel_rfl) (by kernel_rfl) (fun _ _ _ h => h) (Or.inl ⟨by kernel_rfl, ?gy26⟩) (by assumption) ?gr26
          case gy26 => (intro w' hSw; (try dsimp only at hSw); go_simp; (try with_reducible rfl))
          try simp only [Act.put, List.setIfInBounds_toArray, List.set_cons_zero, List.set_cons_succ, List.getElem_toArray, List.getElem_cons_succ, List.getElem_cons_zero]
          refine wpAnyH_take (i := 8) (v := ?gv27) rfl (by kernel_rfl) (by kernel_rfl) (by kernel_rfl) (fun _ _ _ h => h) (Or.inl ⟨by kernel_rfl, ?gy27⟩) (by assumption) ?gr27
          case gy27 => (intro w' hSw; (try dsimp only at hSw); go_simp; (try with_reducible rfl))
          try simp only [Act.put, List.setIfInBounds_toArray, List.set_cons_zero, List.set_cons_succ, List.getElem_toArray, List.getElem_cons_succ, List.getElem_cons_zero]
          refine wpAnyH_take (i := 9) (v := ?gv28) rfl (by kernel_rfl) (by kernel_rfl) (by kernel_rfl) (fun _ _ _ h => h) (Or.inl ⟨by kernel_rfl, ?gy28⟩) (by assumption) ?gr28
          case gy28 => (intro w' hSw; (try dsimp only at hSw); go_simp; (try with_reducible rfl))
          try simp only [Act.put, List.setIfInBounds_toArray, List.set_cons_zero, List.set_cons_succ, List.getElem_toArray, List.getElem_cons_succ, List.getElem_cons_zero]
          refine wpAnyH_done (by kernel_rfl) ?_ _
          refine wpOp_last rfl (fun K hK => ?_)
          clear hS
          go_simp
          refine Shut.out hK _ _ (NoPanic.normal ?_)
          have hfn : FO W0 ((W7.setCell ⟨G, k * 18 + j * 2, none⟩ (.bool u)).setCell ⟨G, k * 18 + j * 2 + 1, none⟩ (.slice pa n1 pc)).drew F G n (hs.set k (g.pg j ⟨u, pa, pc, pz⟩)) := HFN.out
          have HFN2 : Hid _ := hfn
          clear hfn x0 q0 q1 r0 r1 r2 f0 f2
          go_wp2
          go_roundw
          case rel => exact ⟨j + 1, _, by omega, by go_num, HFN2, HSN, HGN⟩
          case measure => simp [intOf]; omega
        · have hji : ¬ (j : Int) < 8 := by omega
          have HEND : Hid (∀ i, i < k + 1 → hs[i]? = fs[i]?) := fun i hi => by
            by_cases he : i = k
            · subst he
              obtain ⟨g, h1, h2, h3, h4⟩ := hgk.out
              obtain ⟨h5, h6, h7, h9⟩ := HFK.out
              rw [h1, h5, FkR.ext' (f := g) (g := fk) (List.ext_getElem? fun i => by
                have h10 := g.h8
                by_cases hi8 : i < j
                · rw [h4 i hi8, h6]
                · rw [List.getElem?_eq_none (by omega), List.getElem?_eq_none (by rw [fk.h8]; omega)]) (by rw [h2, h7]) (by rw [h3, h9])]
            · exact hgs.out i (by omega)
          go_wp2
          go_roundw
          case rel => exact ⟨k + 1, hs, by omega, by go_num, hfo, HEND⟩
          case measure => simp [intOf]; omega
    · have hki : ¬ (k : Int) < (n : Int) := by omega
      obtain rfl : k = n := by omega
      go_wp2
      go_ret
      have hl : gs.length = k := hfo.out.g.len
      have hf := HF.out.1
      have hln := HLN.out
      have e : gs = fs := List.ext_getElem? fun i => by
        by_cases h : i < k
        · exact hgs.out i h
        · rw [List.getElem?_eq_none (by omega), List.getElem?_eq_none (by omega)]
      have hG := HG.out
      have hW := HW.out
      have hH := HH.out
      have hb := HB0.out
      have h := hfo.out
      refine ⟨F, G, rfl, ?_⟩
      rw [show fs.length = k by omega, ← e]
      have h1 := h.fn
      have h2 := h.gn
      exact ⟨by rw [hH]; exact hb.trans (h.bel.mono (by omega)), h.f, h.g, by omega, by omega, h.ne⟩
end
end Go.Proofs.YtkhgafmhbibikaaGreatDoor
