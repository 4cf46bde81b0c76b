/-
  Joined: ChHo, ChNi.
-/
import Derived.Test.YtcohppfocfepdaaDoorJ12P
import Derived.Deep.MidRow
import Derived.Deep.WholeRow
namespace Go.Proofs.YtcohppfocfepdaaDoor
section
open Go.RowKit
theorem fk_cells {w : World} {b off k : Nat} {f : FkR} (h : ∀ j, j < fkE.k → w.cell? ⟨b, off + k * fkE.k + j, none⟩ = (fkE.en f)[j]?) {q0 q1 q2 q3 q4 q5 q6 q7 : PgR} (hq : f.ps = [q0, q1, q2, q3, q4, q5, q6, q7]) (j : Nat) (v : Value) (hv : (fk18 q0 q1 q2 q3 q4 q5 q6 q7 f.wear f.bad)[j]? = some v) : w.cell? ⟨b, off + k * 18 + j, none⟩ = some v := by
  have hj : j < 18 := (Array.getElem?_eq_some_iff.1 hv).1
  have h1 := h j hj
  have h2 : fkE.en f = (fk18 q0 q1 q2 q3 q4 q5 q6 q7 f.wear f.bad).toList := by
    show pgE.xv f.ps ++ [.int .i64 f.wear, .bool f.bad] = _
    rw [hq]
    rfl
  rw [h2] at h1
  exact h1.trans (by simpa using hv)
/-- Eight pages that lie flat in a box are pages that can be read. -/
theorem rd_flat {w : World} {K : Nat} {q0 q1 q2 q3 q4 q5 q6 q7 : PgR} {wear : Int} {bad : Bool} (h : Blk w K 89 (fk18 q0 q1 q2 q3 q4 q5 q6 q7 wear bad)) (hr : ∀ p ∈ [q0, q1, q2, q3, q4, q5, q6, q7], Rd w p.a p.zs) : RdPs w (some ⟨K, 0, none⟩) [q0, q1, q2, q3, q4, q5, q6, q7] := by
  refine .inr ⟨K, 0, rfl, fun i p hi => ⟨fun j hj => ?_, hr p (List.mem_of_getElem? hi)⟩⟩
  have hi8 : i < 8 := (List.getElem?_eq_some_iff.1 hi).1
  have hj2 : j < 2 := hj
  show w.cell? ⟨K, 0 + i * 2 + j, none⟩ = _
  rw [Nat.zero_add, h.cell (i * 2 + j)]
  rcases (show i = 0 ∨ i = 1 ∨ i = 2 ∨ i = 3 ∨ i = 4 ∨ i = 5 ∨ i = 6 ∨ i = 7 by omega) with rfl | rfl | rfl | rfl | rfl | rfl | rfl | rfl <;> rcases (show j = 0 ∨ j = 1 by omega) with rfl | rfl <;> simp at hi <;> subst hi <;> rfl
/-- A whole struct into the block that was made last, at the operation. -/
theorem wpList_store_new {ops : Array Oper} {rest : List Oper} {op : Oper} {a : Act} {W : World} {Q : Exit → Act → World → Prop} (hgd : op.guard = none) (t : TypeId) (x y : Operand) (ho : op.op = .store t x y) (c c' : Array Value)
    (hx : a.eval x = .pointer (some ⟨W.heap.size, 0, none⟩)) (hy : a.eval y = .agg c') (hi : (Tryd.prog.info? t).map (·.size) = some c'.size) (hs : c.size = c'.size) (h1 : c'.all (·.oneCell') = true)
    (h : wpList Tryd.prog ops Q rest (a.put op.dst undef) (W.alloc (.cells c' t))) : wpList Tryd.prog ops Q (op :: rest) a (W.alloc (.cells c t)) := by
  refine wpList_plain hgd fun K hK => ?_
  unfold Oper.wp execOp
  simp only [ho, hx, hy, Sem.run_bind, Sem.run_pure, Result.andThen_ok, run_storeAt_new W t c c' hi hs h1]
  exact hK _ _ h
theorem Tryd.sizeCells : (Tryd.prog.info? 89).map (·.size) = some 18 := by kernel_rfl
theorem fk18_one (q0 q1 q2 q3 q4 q5 q6 q7 : PgR) (wear : Int) (bad : Bool) : (fk18 q0 q1 q2 q3 q4 q5 q6 q7 wear bad).all (·.oneCell') = true := by simp [fk18, PgR.v, Value.oneCell']
set_option maxRecDepth 100000 in
set_option maxHeartbeats 8000000 in
theorem handedI (F : Nat) (a : Option Addr) (n cap : Nat) (fs : List FkR) (w : World) (hn : fs.length = n) (hs : totB (fs.map FkR.D) ≤ 1048576) (hF : Blk w F 86 #[.slice a n cap]) (hr : RdFs w a fs) :
    Calls Tryd.prog 42 #[.pointer (some ⟨F, 0, none⟩)] w (ChA w (fs.map FkR.D)) := by
  have hnn : n ≤ 1048576 := by have := totB_len (fs.map FkR.D); simp at this; omega
  have B0 : Below w.heap.size w (w.alloc (.cells #[.slice none 0 0] 26)) := (Below.refl _ w).alloc (Nat.le_refl _) _
  have hws : (w.alloc (.cells #[.slice none 0 0] 26)).heap.size = w.heap.size + 1 := by simp
  have z0 := Blk.new w 26 #[.slice none 0 0]
  have z1 := Blk.new (w.alloc (.cells #[.slice none 0 0] 26)) 26 #[.slice none 0 0]
  have cc0 : CC (w.alloc (.cells #[.slice none 0 0] 26)) ((w.alloc (.cells #[.slice none 0 0] 26)).alloc (.cells #[.slice none 0 0] 26)) (w.alloc (.cells #[.slice none 0 0] 26)).heap.size (.slice none 0 0) [] [] := CC.new ((Below.refl _ _).alloc (Nat.le_refl _) _) z1 (Nat.le_refl _)
  have hF1 := (hF.keep B0).keep cc0.bel
  have y0 := hF1.cell 0
  simp at y0
  have HR : Hid (RdFs (w.alloc (.cells #[.slice none 0 0] 26)) a fs) := hr.keep B0
  have HN : Hid (fs.length = n) := hn
  have HS : Hid _ := hs
  clear hr hF hF1 hn hs
  go_enter Tryd.func42, Tryd.ntmps42
  go_upto_region 3 with fail
  obtain ⟨W0, hW0⟩ : ∃ W, w.alloc (.cells #[.slice none 0 0] 26) = W := ⟨_, rfl⟩
  rw [hW0] at B0 z0 cc0 hws HR ⊢
  clear hW0 z1 y0
  obtain ⟨H, hH⟩ : ∃ H, w.heap.size = H := ⟨_, rfl⟩
  have HH : Hid _ := hH
  rw [hH] at z0 hws ⊢
  rw [hws] at cc0
  have HZ0 : Hid (Blk W0 H 26 #[.slice none 0 0]) := z0
  have HB0 : Hid (Below H w W0) := by rw [← hH]; exact B0
  have HW : Hid _ := hws
  clear z0 B0 hH hws
  go_loopw [12] (fun i wr => ∃ (k : Nat) (v : Value) (us : List BkR), k ≤ n ∧ i = .int .i64 k ∧ us.length = k ∧ Hid (CC W0 wr (H + 1) v us ((fs.take k).map FkR.D))) (fun i _ => n - (intOf i).toNat)
  case atStart => exact ⟨0, .slice none 0 0, [], by omega, rfl, rfl, cc0⟩
  case round =>
    obtain ⟨k, v, us, hk, rfl, hus, hcc⟩ := hrel
    clear cc0
    by_cases hkn : k < n
    · have hki : (k : Int) < (n : Int) := by omega
      obtain ⟨f, hfk⟩ : ∃ f, fs[k]? = some f := ⟨_, List.getElem?_eq_getElem (by rw [HN.out]; exact hkn)⟩
      obtain ⟨b, off, rfl, hlt, hc⟩ := RdE.lt (RdFs.keep HR.out hcc.out.bel) (by intro h; rw [h] at hfk; simp at hfk)
      obtain ⟨hcl, hrd⟩ := hc k f hfk
      have htot : 1 + totP (f.ps.map PgR.D) ≤ totB (fs.map FkR.D) := totB_mem (b := f.D) (bs := fs.map FkR.D) (List.mem_map_of_mem (List.mem_of_getElem? hfk))
      have hfD : Hid ((fs.take (k + 1)).map FkR.D = (fs.take k).map FkR.D ++ [⟨f.ps.map PgR.D, f.wear, f.bad⟩]) := by show _ = _; rw [List.take_add_one, hfk]; simp [FkR.D]
      have hts : totP (f.ps.map PgR.D) ≤ 1048576 := by have := HS.out; omega
      obtain ⟨q0, q1, q2, q3, q4, q5, q6, q7, hq⟩ := list8 f.h8
      rw [hq] at hrd hfD hts
      have hcs := fk_cells hcl hq
      generalize f.wear = wear at hcs hfD
      generalize f.bad = bad at hcs hfD
      have hrg : wr.rangeAt b (off + k * 18) (fk18 q0 q1 q2 q3 q4 q5 q6 q7 wear bad).toList := fun j v hv => hcs j v (by simpa using hv)
      have bE : Below wr.heap.size wr (wr.alloc (.cells (fk18 q0 q1 q2 q3 q4 q5 q6 q7 wear bad) 89)) := (Below.refl _ wr).alloc (Nat.le_refl _) _
      have zE := Blk.new wr 89 (fk18 q0 q1 q2 q3 q4 q5 q6 q7 wear bad)
      have cb8 := hcc.out.keep bE
      have hrp := rd_flat zE (fun p hp => (hrd p hp).keep bE)
      have hXE : H + 1 < wr.heap.size := hcc.out.x.lt
      have p16 := zE.cell 16
      have p17 := zE.cell 17
      have hCs : (fk18 q0 q1 q2 q3 q4 q5 q6 q7 wear bad).size = 18 := rfl
      have hC1 := fk18_one q0 q1 q2 q3 q4 q5 q6 q7 wear bad
      obtain ⟨C, hC⟩ : ∃ C, fk18 q0 q1 q2 q3 q4 q5 q6 q7 wear bad = C := ⟨_, rfl⟩
      have p16' : (wr.alloc (.cells C 89)).cell? ⟨wr.heap.size, 16, none⟩ = some (.int .i64 wear) := by rw [← hC]; exact p16
      have p17' : (wr.alloc (.cells C 89)).cell? ⟨wr.heap.size, 17, none⟩ = some (.bool bad) := by rw [← hC]; exact p17
      rw [hC] at zE cb8 hrp hrg hCs hC1
      have HS18 : Hid ((Tryd.prog.info? 89).map (·.size) = some C.toList.length) := by show _ = _; rw [Tryd.sizeCells]; simp [hCs]
      have HS18' : Hid ((Tryd.prog.info? 89).map (·.size) = some C.size) := by show _ = _; rw [Tryd.sizeCells, hCs]
      have HCS : Hid _ := hCs
      have HC1 : Hid _ := hC1
      have HRG : Hid (wr.rangeAt b (off + k * 18) C.toList) := hrg
      clear hcs hcl hrd hfk hc htot hq bE hC p16 p17 hrg hCs hC1
      obtain ⟨W8, hW8⟩ : ∃ W, wr.alloc (.cells C 89) = W := ⟨_, rfl⟩
      have HW8 : Hid _ := hW8
      rw [hW8] at zE cb8 hrp p16' p17'
      clear hW8
      go_upto_region 4 with fail
      go_cut [5, 6, 7, 8, 9, 10, 11, 12] from 5 to 29 (fun s s6 s7 s8 s9 t l i wx => s6 = .agg #[.slice none 0 0] ∧ s7 = .pointer (some ⟨F, 0, none⟩) ∧ s8 = .pointer (some ⟨F, 0, none⟩) ∧ s9 = .pointer (some ⟨F, 0, none⟩) ∧ s = .pointer (some ⟨wr.heap.size, 0, none⟩) ∧ t = .slice (some ⟨b, off, none⟩) n cap ∧ l = .int .i64 (n : Int) ∧ i = .int .i64 (k : Int) ∧ wx = W8)
      case first =>
        clear zE cb8 hrp p16' p17'
        go_wp2_with (first
          | (refine wpList_load_mid rfl 89 (.tmp 14) rfl b (off + k * 18) rfl C.toList _ HRG.out Tryd.underlying89 rfl HS18.out ?_; rw [Array.toArray_toList])
          | (refine wpList_store_new rfl 89 (.tmp 5) (.tmp 15) rfl _ C rfl rfl HS18'.out (by rw [HCS.out]; rfl) HC1.out ?_))
        go_meet
        exact ⟨rfl, rfl, rfl, rfl, rfl, rfl, rfl, rfl, HW8.out⟩
      case rest =>
      obtain ⟨rfl, rfl, rfl, rfl, rfl, rfl, rfl, rfl, hwc⟩ := hcut
      subst hwc
      obtain ⟨W8, hW8⟩ : ∃ W, W = wc := ⟨_, rfl⟩
      subst hW8
      clear HW8 hlt HRG HS18 HS18' HCS HC1
      go_upto_region 5 with fail
      obtain ⟨E, hE⟩ : ∃ E, wr.heap.size = E := ⟨_, rfl⟩
      rw [hE] at zE hrp hXE p16' p17' ⊢
      clear hE hcc
      have hEX : E ≠ H + 1 := by omega
      have hEX' : H + 1 ≠ E := by omega
      have x0 := cb8.x.cell 0
      simp at x0
      have hcall := copyBlkI (some ⟨E, 0, none⟩) 8 8 wear bad [q0, q1, q2, q3, q4, q5, q6, q7] W8.drew rfl hts hrp
      have HC8 : Hid (CC W0 W8.drew (H + 1) v us ((fs.take k).map FkR.D)) := cb8.keep (Below.refl _ _).drew
      clear cb8 zE hrp
      go_region_law (first
        | (go_simp; go_at_call 55; (with_reducible refine hcall.mono ?_); rintro e W9 ⟨a1, c1, qs, rfl, hnp, b9⟩; have cb9 := HC8.out.keep b9; have x0' := cb9.x.cell 0; have x0'' := (cb9.x.alloc (.cells #[.slice a1 8 c1, .int .i64 wear, .bool bad] 34)).cell 0; simp at x0' x0''; have hrow := cb9.row; rw [hus] at hrow; have happ := fun ty => app_block W9 v us k hus (by omega) hrow ⟨a1, c1, qs, wear, bad⟩ ty 8 (by rw [hnp.len]; simp); dsimp only)
        | (refine step_appAny (W9.alloc (.cells #[.slice a1 8 c1, .int .i64 wear, .bool bad] 34)) rfl (.tmp 17) (.tmp 26) 24 rfl v (.slice (some ⟨W9.heap.size, 0, none⟩) 1 1) _ rfl rfl happ ?_; intro v2 W10 hap2; obtain ⟨a2, c2, rfl, _⟩ := OwnE.rd (rd := fun _ => True) hap2.own (fun _ _ => trivial); have hxg := blk_gr (cb9.x.alloc (.cells #[.slice a1 8 c1, .int .i64 wear, .bool bad] 34)) hap2.gr (fun e => (cb9.vn (H + 1) e).2.1 rfl); have g0 := hxg.cell 0; have gf := hxg.frozen 0; simp at g0; dsimp only))
      all_goals (have ccn : CC W0 (W10.setCell ⟨H + 1, 0, none⟩ (.slice a2 (k + 1) c2)) (H + 1) (.slice a2 (k + 1) c2) (us ++ [⟨a1, c1, qs, wear, bad⟩]) ((fs.take k).map FkR.D ++ [⟨[q0, q1, q2, q3, q4, q5, q6, q7].map PgR.D, wear, bad⟩]) := CC.step HC8.out hus (by rw [hnp.len]; simp) b9 hnp hap2 (by simp [hus]); rw [← hfD.out] at ccn; have CCN : Hid _ := ccn; have hul : (us ++ [⟨a1, c1, qs, wear, bad⟩] : List BkR).length = k + 1 := (by simp [hus]); clear ccn hap2 happ hxg g0 gf x0 x0' x0'' p16' p17' hcall cb9 hrow hnp b9)
      all_goals go_wp2
      all_goals go_roundw
      all_goals first
        | (case rel => exact ⟨k + 1, _, _, by omega, by go_num, hul, CCN⟩)
        | (case measure => simp [intOf]; omega)
    · have hki : ¬ (k : Int) < (n : Int) := by omega
      obtain rfl : k = n := by omega
      have hco := hcc.out
      rw [List.take_of_length_le (by rw [HN.out]; omega)] at hco
      obtain ⟨va, vc, rfl, _⟩ := OwnE.rd (rd := fun _ => True) hco.row (fun _ _ => trivial)
      rw [hus] at hco
      have x0 := hco.x.cell 0
      have zr := Blk.keep HZ0.out hco.bel
      have r0 := zr.cell 0
      have f0 := zr.frozen 0
      have zf := zr.set 0 (.slice va k vc)
      have d0 := zf.cell 0
      simp at x0 r0 d0
      have HC : Hid _ := hco
      clear hco zr zf hcc
      go_wp2
      refine bodyPost_ret (v := .agg #[.slice va k vc]) (by simp [results, Tryd.f42, go_sem, d0]) rfl ?_
      have hc := HC.out
      have hw := HW.out
      have hH := HH.out
      have hbs := HB0.out
      have bel : Below w.heap.size w wr := by rw [hH]; exact hbs.trans (hc.bel.mono (by omega))
      exact ⟨va, k, vc, us, rfl, NewBs.wider (B := W0.heap.size) (NewBs.set_below (B := W0.heap.size) (j := H) (hc.done hus) (by omega)) (by omega), hus, bel.setCell (p := ⟨H, 0, none⟩) (by simp only; omega) _⟩
end

section
open Go.RowKit
def fkZ : FkR := ⟨List.replicate 8 pgZ, 0, false, rfl⟩
theorem Tryd.infoCells : (Tryd.prog.info? 89).map (fun i => (i.zero, i.size, i.bytes)) = some (some (.agg #[.bool false, .slice none 0 0, .bool false, .slice none 0 0, .bool false, .slice none 0 0, .bool false, .slice none 0 0, .bool false, .slice none 0 0, .bool false, .slice none 0 0, .bool false, .slice none 0 0, .bool false, .slice none 0 0, .int .i64 0, .bool false]), 18, 272) := by kernel_rfl
end
end Go.Proofs.YtcohppfocfepdaaDoor
