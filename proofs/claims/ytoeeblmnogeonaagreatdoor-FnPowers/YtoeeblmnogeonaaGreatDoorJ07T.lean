/-
  Joined: ChNw, ChHo, ChNi, HeldZ.
-/
import Derived.Test.YtoeeblmnogeonaaGreatDoorJ06T
import Derived.Deep.MidRow
import Derived.Deep.WholeRow
import Derived.Deep.RegionHeld
namespace Go.Proofs.YtoeeblmnogeonaaGreatDoor
section
open Go.RowKit
/-- A new chip was answered. -/
def ChA (w : World) (ds : List BkD) (e : Ending) (w' : World) : Prop := ∃ a n c qs, e = .returned (.agg #[.slice a n c]) ∧ NewBs w' w.heap.size (.slice a n c) ds qs ∧ qs.length = n ∧ Below w.heap.size w w'
/-- A block with nothing. -/
def bkN : BkD := ⟨List.replicate 8 ⟨false, []⟩, 0, false⟩
/-- What ChipNew answers. -/
def newD (x : Int) : List BkD := if 3 ≤ x ∧ x ≤ 24 then List.replicate x.toNat bkN else []
theorem new_row {W : World} {M : Array Value} (hM : M = madeCells (Value.agg #[.bool false, .slice none 0 0]).cells 16) : NewPs (W.alloc (.cells M 92)) W.heap.size (.slice (some ⟨W.heap.size, 0, none⟩) 8 8) (List.replicate 8 ⟨false, []⟩) (List.replicate 8 pgZ) := by
  have h1 : (W.alloc (.cells M 92)).ownsRow 0 92 2 (.slice (some ⟨W.heap.size, 0, none⟩) 8 8) 8 (madeCells (Value.agg #[.bool false, .slice none 0 0]).cells (8 * 2)).toList := by
    refine ⟨by simp [madeCells], .inr ⟨W.heap.size, 8, M, rfl, Nat.zero_le _, heap_alloc_new W _, Nat.le_refl _, by unfold maxLen; omega, by rw [hM]; simp [madeCells], ?_⟩⟩
    rw [hM]
    exact List.take_of_length_le (by simp [madeCells])
  have h2 := made_ownPs h1
  refine ⟨by rw [List.map_replicate]; rfl, ⟨h2, fun p hp => ?_⟩, fun g hg => ?_, ?_⟩
  · rw [List.mem_replicate] at hp
    rw [hp.2]
    exact ⟨RowB.nil _, Nat.le_refl _⟩
  · simp [fpPs, pgZ, PgR.v, Value.ownBlock] at hg
    omega
  · simp [fpPs, pgZ, PgR.v, Value.ownBlock]
set_option maxRecDepth 100000 in
set_option maxHeartbeats 8000000 in
theorem chipNewS (x : Int) (w : World) :
    Calls Tryz.prog 72 #[.int .i64 x] w (ChA w (newD x)) := by
  have B0 : Below w.heap.size w (w.alloc (.cells #[.slice none 0 0] 26)) := (Below.refl _ w).alloc (Nat.le_refl _) _
  have hws : (w.alloc (.cells #[.slice none 0 0] 26)).heap.size = w.heap.size + 1 := by simp
  have z0 := Blk.new w 26 #[.slice none 0 0]
  have z1 := Blk.new (w.alloc (.cells #[.slice none 0 0] 26)) 26 #[.slice none 0 0]
  have cc0 : CC (w.alloc (.cells #[.slice none 0 0] 26)) ((w.alloc (.cells #[.slice none 0 0] 26)).alloc (.cells #[.slice none 0 0] 26)) (w.alloc (.cells #[.slice none 0 0] 26)).heap.size (.slice none 0 0) [] [] := CC.new ((Below.refl _ _).alloc (Nat.le_refl _) _) z1 (Nat.le_refl _)
  obtain ⟨i0, hi, hz0, hz1, hz2⟩ := info_parts Tryz.infoPage
  obtain ⟨M, hM⟩ : ∃ M, M = madeCells (Value.agg #[.bool false, .slice none 0 0]).cells 16 := ⟨_, rfl⟩
  have hmk : ∀ W : World, (Instr.makeSlice 40 (.int .i64 8) (.int .i64 8)).run Tryz.prog W = .ok (.slice (some ⟨W.heap.size, 0, none⟩) 8 8) (W.alloc (.cells M 92)) := fun W => by
    have h := run_make (P := Tryz.prog) W 40 92 i0 _ Tryz.underlying40 hi hz0 .i64 .i64 8 8 (by omega) (by omega) (by rw [hz2]; omega) (by omega)
    rw [hz1] at h
    rw [hM]
    exact h
  have HM : Hid _ := hM
  clear hM hi hz0 hz1 hz2
  go_enter Tryz.func72, Tryz.ntmps72
  go_upto_region 3 with fail
  obtain ⟨W0, hW0⟩ : ∃ W, w.alloc (.cells #[.slice none 0 0] 26) = W := ⟨_, rfl⟩
  rw [hW0] at B0 z0 cc0 hws ⊢
  clear hW0 z1
  obtain ⟨H, hH⟩ : ∃ H, w.heap.size = H := ⟨_, rfl⟩
  have HH : Hid _ := hH
  rw [hH] at z0 hws ⊢
  rw [hws] at cc0
  have HZ0 : Hid (Blk W0 H 26 #[.slice none 0 0]) := z0
  have HB0 : Hid (Below H w W0) := by rw [← hH]; exact B0
  have HW : Hid _ := hws
  clear z0 B0 hH hws
  by_cases hx : 3 ≤ x ∧ x ≤ 24
  · obtain ⟨n, rfl⟩ : ∃ n : Nat, x = (n : Int) := ⟨x.toNat, by omega⟩
    have hnn : n ≤ 24 := by omega
    have HX : Hid _ := hx
    have HD : Hid (newD (n : Int) = List.replicate n bkN) := by show _ = _; unfold newD; rw [if_pos hx]; simp
    have hd : (decide (3 ≤ (n : Int)) && decide ((n : Int) ≤ 24)) = true := by simp; omega
    have HIN : Hid (∀ W : World, Calls Tryz.prog 70 #[.int .i64 (n : Int), .int .i64 3, .int .i64 24] W fun e w' => e = .returned (.bool true) ∧ w' = W) := fun W => by have := l1In_any (n : Int) 3 24 W; rw [hd] at this; exact this
    clear hx hd
    go_loopw [4] (fun i wr => ∃ (k : Nat) (v : Value) (us : List BkR), k ≤ n ∧ i = .int .i64 k ∧ us.length = k ∧ Hid (CC W0 wr (H + 1) v us (List.replicate k bkN))) (fun i _ => n - (intOf i).toNat)
    case atStart => exact ⟨0, .slice none 0 0, [], by omega, rfl, rfl, cc0⟩
    case round =>
      obtain ⟨k, v, us, hk, rfl, hus, hcc⟩ := hrel
      clear cc0
      by_cases hkn : k < n
      · have hki : (k : Int) < (n : Int) := by omega
        have cb := hcc.out
        have x0 := cb.x.cell 0
        simp at x0
        go_upto_region 5 with (go_at_call 70; refine (HIN.out _).mono ?_; rintro e w1 ⟨rfl, hw1⟩; obtain rfl := hw1.symm)
        have bA : Below wr.drew.heap.size wr.drew (wr.drew.alloc (.cells M 92)) := (Below.refl _ _).alloc (Nat.le_refl _) _
        have cbd : CC W0 wr.drew (H + 1) v us (List.replicate k bkN) := cb.keep (Below.refl _ _).drew
        have cb9 := cbd.keep bA
        have hnp := new_row (W := wr.drew) HM.out
        have hrow := cb9.row
        rw [hus] at hrow
        have happ := fun ty => app_block (wr.drew.alloc (.cells M 92)) v us k hus (by omega) hrow ⟨some ⟨wr.drew.heap.size, 0, none⟩, 8, List.replicate 8 pgZ, 0, false⟩ ty 8 (by simp)
        have y0 := cb9.x.cell 0
        have y1 := (cb9.x.alloc (.cells #[.slice (some ⟨wr.drew.heap.size, 0, none⟩) 8 8, .int .i64 0, .bool false] 42)).cell 0
        simp at y0 y1
        have y0' : (wr.alloc (.cells M 92)).cell? ⟨H + 1, 0, none⟩ = some v := y0
        have y1' : ((wr.alloc (.cells M 92)).alloc (.cells #[.slice (some ⟨wr.heap.size, 0, none⟩) 8 8, .int .i64 0, .bool false] 42)).cell? ⟨H + 1, 0, none⟩ = some v := y1
        have hwd : wr.drew.heap.size = wr.heap.size := rfl
        dsimp only at happ
        rw [hwd] at happ hnp bA
        have hsz : (wr.drew.alloc (.cells M 92)).heap.size = wr.heap.size + 1 := by simp
        rw [hsz] at happ
        have HCB : Hid _ := cbd
        have HNP : Hid _ := hnp
        have HBA : Hid _ := bA
        have HC9 : Hid _ := cb9
        clear cb cbd cb9 hnp hrow bA hcc hwd hsz
        go_region_law (refine step_appAny ((wr.drew.alloc (.cells M 92)).alloc (.cells #[.slice (some ⟨wr.heap.size, 0, none⟩) 8 8, .int .i64 0, .bool false] 42)) rfl (.tmp 16) (.tmp 19) 24 rfl v (.slice (some ⟨wr.heap.size + 1, 0, none⟩) 1 1) _ rfl rfl happ ?_; intro v2 W10 hap2; obtain ⟨a2, c2, rfl, _⟩ := OwnE.rd (rd := fun _ => True) hap2.own (fun _ _ => trivial); have hxg := blk_gr (HC9.out.x.alloc (.cells #[.slice (some ⟨wr.heap.size, 0, none⟩) 8 8, .int .i64 0, .bool false] 42)) hap2.gr (fun e => (HC9.out.vn (H + 1) e).2.1 rfl); have g0 := hxg.cell 0; have gf := hxg.frozen 0; simp at g0; dsimp only)
        all_goals (have ccn : CC W0 (W10.setCell ⟨H + 1, 0, none⟩ (.slice a2 (k + 1) c2)) (H + 1) (.slice a2 (k + 1) c2) (us ++ [⟨some ⟨wr.heap.size, 0, none⟩, 8, List.replicate 8 pgZ, 0, false⟩]) (List.replicate k bkN ++ [bkN]) := CC.step HCB.out hus (by simp) HBA.out HNP.out hap2 (by simp [hus]); rw [← List.replicate_succ'] at ccn; have CCN : Hid _ := ccn; have hul : (us ++ [⟨some ⟨wr.heap.size, 0, none⟩, 8, List.replicate 8 pgZ, 0, false⟩] : List BkR).length = k + 1 := (by simp [hus]); clear ccn hap2 happ hxg g0 gf x0 y0 y1 y0' y1')
        all_goals go_wp2
        all_goals go_roundw
        all_goals first
          | (case rel => exact ⟨k + 1, _, _, by omega, by go_num, hul, CCN⟩)
          | (case measure => simp [intOf]; omega)
      · have hki : ¬ (k : Int) < (n : Int) := by omega
        obtain rfl : k = n := by omega
        have hco := hcc.out
        obtain ⟨va, vc, rfl, _⟩ := OwnE.rd (rd := fun _ => True) hco.row (fun _ _ => trivial)
        rw [hus] at hco
        have x0 := hco.x.cell 0
        have zr := Blk.keep HZ0.out hco.bel
        have r0 := zr.cell 0
        have f0 := zr.frozen 0
        have zf := zr.set 0 (.slice va k vc)
        have d0 := zf.cell 0
        simp at x0 r0 d0
        have HC : Hid _ := hco
        clear hco zr zf hcc
        go_wp2
        refine bodyPost_ret (v := .agg #[.slice va k vc]) (by simp [results, Tryz.f72, go_sem, d0]) rfl ?_
        have hc := HC.out
        have hw := HW.out
        have hH := HH.out
        have hbs := HB0.out
        have bel : Below w.heap.size w wr := by rw [hH]; exact hbs.trans (hc.bel.mono (by omega))
        rw [HD.out]
        exact ⟨va, k, vc, us, rfl, NewBs.wider (B := W0.heap.size) (NewBs.set_below (B := W0.heap.size) (j := H) (hc.done hus) (by omega)) (by omega), hus, bel.setCell (p := ⟨H, 0, none⟩) (by simp only; omega) _⟩
  · have HD : Hid (newD x = []) := by show _ = _; unfold newD; rw [if_neg hx]
    have hd : (decide (3 ≤ x) && decide (x ≤ 24)) = false := by
      rw [← Bool.not_eq_true]; intro h; simp at h; exact hx h
    have x0 := cc0.x.cell 0
    have zr := Blk.keep HZ0.out cc0.bel
    have r0 := zr.cell 0
    have f0 := zr.frozen 0
    have zf := zr.set 0 (.slice none 0 0)
    have d0 := zf.cell 0
    simp at x0 r0 d0
    have HC : Hid _ := cc0
    have HIN : Hid (∀ W : World, Calls Tryz.prog 70 #[.int .i64 x, .int .i64 3, .int .i64 24] W fun e w' => e = .returned (.bool false) ∧ w' = W) := fun W => by have := l1In_any x 3 24 W; rw [hd] at this; exact this
    clear cc0 zr zf hd
    refine wp_loop_rounds 1 ?_; rw [rounds_succ]
    by_cases h0 : 0 < x
    · go_wp2_with (go_at_call 70; refine (HIN.out _).mono ?_; rintro e w1 ⟨rfl, hw1⟩; obtain rfl := hw1.symm)
      refine bodyPost_ret (v := .agg #[.slice none 0 0]) (by simp [results, Tryz.f72, go_sem, d0]) rfl ?_
      have hc := HC.out
      have hw := HW.out
      have hH := HH.out
      have hbs := HB0.out
      have bel : Below w.heap.size w (W0.alloc (.cells #[.slice none 0 0] 26)) := by rw [hH]; exact hbs.trans (hc.bel.mono (by omega))
      rw [HD.out]
      exact ⟨none, 0, 0, [], rfl, NewBs.wider (B := W0.heap.size) (NewBs.set_below (B := W0.heap.size) (j := H) (hc.done rfl) (by omega)) (by omega), rfl, bel.setCell (p := ⟨H, 0, none⟩) (by simp only; omega) _⟩
    · go_wp2
      refine bodyPost_ret (v := .agg #[.slice none 0 0]) (by simp [results, Tryz.f72, go_sem, d0]) rfl ?_
      have hc := HC.out
      have hw := HW.out
      have hH := HH.out
      have hbs := HB0.out
      have bel : Below w.heap.size w (W0.alloc (.cells #[.slice none 0 0] 26)) := by rw [hH]; exact hbs.trans (hc.bel.mono (by omega))
      rw [HD.out]
      exact ⟨none, 0, 0, [], rfl, NewBs.wider (B := W0.heap.size) (NewBs.set_below (B := W0.heap.size) (j := H) (hc.done rfl) (by omega)) (by omega), rfl, bel.setCell (p := ⟨H, 0, none⟩) (by simp only; omega) _⟩
/-- A block of a flash: eight pages, laid flat. -/
structure FkR where
  ps : List PgR
  wear : Int
  bad : Bool
  h8 : ps.length = 8
def FkR.D (f : FkR) : BkD := ⟨f.ps.map PgR.D, f.wear, f.bad⟩
def fkE : El FkR := ⟨18, by omega, fun f => pgE.xv f.ps ++ [.int .i64 f.wear, .bool f.bad], fun f => by rw [List.length_append, pgE.xv_length, f.h8]; rfl⟩
def RdFs (w : World) (a : Option Addr) (fs : List FkR) : Prop := RdE fkE (fun f => ∀ p ∈ f.ps, Rd w p.a p.zs) w a fs
theorem RdFs.keep {w w' : World} {a : Option Addr} {fs : List FkR} (h : RdFs w a fs) (hb : Below w.heap.size w w') : RdFs w' a fs := RdE.mono h hb fun _ _ hr p hp => Rd.keep (hr p hp) hb
theorem list8 {α : Type} {l : List α} (h : l.length = 8) : ∃ a b c d e f g i, l = [a, b, c, d, e, f, g, i] := by
  match l, h with
  | [a, b, c, d, e, f, g, i], _ => exact ⟨a, b, c, d, e, f, g, i, rfl⟩
/-- The 18 cells of a flash's block. -/
def fk18 (q0 q1 q2 q3 q4 q5 q6 q7 : PgR) (wear : Int) (bad : Bool) : Array Value := #[.bool q0.used, q0.v, .bool q1.used, q1.v, .bool q2.used, q2.v, .bool q3.used, q3.v, .bool q4.used, q4.v, .bool q5.used, q5.v, .bool q6.used, q6.v, .bool q7.used, q7.v, .int .i64 wear, .bool bad]
end

section
open Go.RowKit
theorem fk_cells {w : World} {b off k : Nat} {f : FkR} (h : ∀ j, j < fkE.k → w.cell? ⟨b, off + k * fkE.k + j, none⟩ = (fkE.en f)[j]?) {q0 q1 q2 q3 q4 q5 q6 q7 : PgR} (hq : f.ps = [q0, q1, q2, q3, q4, q5, q6, q7]) (j : Nat) (v : Value) (hv : (fk18 q0 q1 q2 q3 q4 q5 q6 q7 f.wear f.bad)[j]? = some v) : w.cell? ⟨b, off + k * 18 + j, none⟩ = some v := by
  have hj : j < 18 := (Array.getElem?_eq_some_iff.1 hv).1
  have h1 := h j hj
  have h2 : fkE.en f = (fk18 q0 q1 q2 q3 q4 q5 q6 q7 f.wear f.bad).toList := by
    show pgE.xv f.ps ++ [.int .i64 f.wear, .bool f.bad] = _
    rw [hq]
    rfl
  rw [h2] at h1
  exact h1.trans (by simpa using hv)
/-- Eight pages that lie flat in a box are pages that can be read. -/
theorem rd_flat {w : World} {K : Nat} {q0 q1 q2 q3 q4 q5 q6 q7 : PgR} {wear : Int} {bad : Bool} (h : Blk w K 154 (fk18 q0 q1 q2 q3 q4 q5 q6 q7 wear bad)) (hr : ∀ p ∈ [q0, q1, q2, q3, q4, q5, q6, q7], Rd w p.a p.zs) : RdPs w (some ⟨K, 0, none⟩) [q0, q1, q2, q3, q4, q5, q6, q7] := by
  refine .inr ⟨K, 0, rfl, fun i p hi => ⟨fun j hj => ?_, hr p (List.mem_of_getElem? hi)⟩⟩
  have hi8 : i < 8 := (List.getElem?_eq_some_iff.1 hi).1
  have hj2 : j < 2 := hj
  show w.cell? ⟨K, 0 + i * 2 + j, none⟩ = _
  rw [Nat.zero_add, h.cell (i * 2 + j)]
  rcases (show i = 0 ∨ i = 1 ∨ i = 2 ∨ i = 3 ∨ i = 4 ∨ i = 5 ∨ i = 6 ∨ i = 7 by omega) with rfl | rfl | rfl | rfl | rfl | rfl | rfl | rfl <;> rcases (show j = 0 ∨ j = 1 by omega) with rfl | rfl <;> simp at hi <;> subst hi <;> rfl
/-- A whole struct into the block that was made last, at the operation. -/
theorem wpList_store_new {ops : Array Oper} {rest : List Oper} {op : Oper} {a : Act} {W : World} {Q : Exit → Act → World → Prop} (hgd : op.guard = none) (t : TypeId) (x y : Operand) (ho : op.op = .store t x y) (c c' : Array Value)
    (hx : a.eval x = .pointer (some ⟨W.heap.size, 0, none⟩)) (hy : a.eval y = .agg c') (hi : (Tryz.prog.info? t).map (·.size) = some c'.size) (hs : c.size = c'.size) (h1 : c'.all (·.oneCell') = true)
    (h : wpList Tryz.prog ops Q rest (a.put op.dst undef) (W.alloc (.cells c' t))) : wpList Tryz.prog ops Q (op :: rest) a (W.alloc (.cells c t)) := by
  refine wpList_plain hgd fun K hK => ?_
  unfold Oper.wp execOp
  simp only [ho, hx, hy, Sem.run_bind, Sem.run_pure, Result.andThen_ok, run_storeAt_new W t c c' hi hs h1]
  exact hK _ _ h
theorem Tryz.sizeCells : (Tryz.prog.info? 154).map (·.size) = some 18 := by kernel_rfl
theorem fk18_one (q0 q1 q2 q3 q4 q5 q6 q7 : PgR) (wear : Int) (bad : Bool) : (fk18 q0 q1 q2 q3 q4 q5 q6 q7 wear bad).all (·.oneCell') = true := by simp [fk18, PgR.v, Value.oneCell']
set_option maxRecDepth 100000 in
set_option maxHeartbeats 8000000 in
theorem handedI (F : Nat) (a : Option Addr) (n cap : Nat) (fs : List FkR) (w : World) (hn : fs.length = n) (hs : totB (fs.map FkR.D) ≤ 1048576) (hF : Blk w F 142 #[.slice a n cap]) (hr : RdFs w a fs) :
    Calls Tryz.prog 118 #[.pointer (some ⟨F, 0, none⟩)] w (ChA w (fs.map FkR.D)) := by
  have hnn : n ≤ 1048576 := by have := totB_len (fs.map FkR.D); simp at this; omega
  have B0 : Below w.heap.size w (w.alloc (.cells #[.slice none 0 0] 26)) := (Below.refl _ w).alloc (Nat.le_refl _) _
  have hws : (w.alloc (.cells #[.slice none 0 0] 26)).heap.size = w.heap.size + 1 := by simp
  have z0 := Blk.new w 26 #[.slice none 0 0]
  have z1 := Blk.new (w.alloc (.cells #[.slice none 0 0] 26)) 26 #[.slice none 0 0]
  have cc0 : CC (w.alloc (.cells #[.slice none 0 0] 26)) ((w.alloc (.cells #[.slice none 0 0] 26)).alloc (.cells #[.slice none 0 0] 26)) (w.alloc (.cells #[.slice none 0 0] 26)).heap.size (.slice none 0 0) [] [] := CC.new ((Below.refl _ _).alloc (Nat.le_refl _) _) z1 (Nat.le_refl _)
  have hF1 := (hF.keep B0).keep cc0.bel
  have y0 := hF1.cell 0
  simp at y0
  have HR : Hid (RdFs (w.alloc (.cells #[.slice none 0 0] 26)) a fs) := hr.keep B0
  have HN : Hid (fs.length = n) := hn
  have HS : Hid _ := hs
  clear hr hF hF1 hn hs
  go_enter Tryz.func118, Tryz.ntmps118
  go_upto_region 3 with fail
  obtain ⟨W0, hW0⟩ : ∃ W, w.alloc (.cells #[.slice none 0 0] 26) = W := ⟨_, rfl⟩
  rw [hW0] at B0 z0 cc0 hws HR ⊢
  clear hW0 z1 y0
  obtain ⟨H, hH⟩ : ∃ H, w.heap.size = H := ⟨_, rfl⟩
  have HH : Hid _ := hH
  rw [hH] at z0 hws ⊢
  rw [hws] at cc0
  have HZ0 : Hid (Blk W0 H 26 #[.slice none 0 0]) := z0
  have HB0 : Hid (Below H w W0) := by rw [← hH]; exact B0
  have HW : Hid _ := hws
  clear z0 B0 hH hws
  go_loopw [12] (fun i wr => ∃ (k : Nat) (v : Value) (us : List BkR), k ≤ n ∧ i = .int .i64 k ∧ us.length = k ∧ Hid (CC W0 wr (H + 1) v us ((fs.take k).map FkR.D))) (fun i _ => n - (intOf i).toNat)
  case atStart => exact ⟨0, .slice none 0 0, [], by omega, rfl, rfl, cc0⟩
  case round =>
    obtain ⟨k, v, us, hk, rfl, hus, hcc⟩ := hrel
    clear cc0
    by_cases hkn : k < n
    · have hki : (k : Int) < (n : Int) := by omega
      obtain ⟨f, hfk⟩ : ∃ f, fs[k]? = some f := ⟨_, List.getElem?_eq_getElem (by rw [HN.out]; exact hkn)⟩
      obtain ⟨b, off, rfl, hlt, hc⟩ := RdE.lt (RdFs.keep HR.out hcc.out.bel) (by intro h; rw [h] at hfk; simp at hfk)
      obtain ⟨hcl, hrd⟩ := hc k f hfk
      have htot : 1 + totP (f.ps.map PgR.D) ≤ totB (fs.map FkR.D) := totB_mem (b := f.D) (bs := fs.map FkR.D) (List.mem_map_of_mem (List.mem_of_getElem? hfk))
      have hfD : Hid ((fs.take (k + 1)).map FkR.D = (fs.take k).map FkR.D ++ [⟨f.ps.map PgR.D, f.wear, f.bad⟩]) := by show _ = _; rw [List.take_add_one, hfk]; simp [FkR.D]
      have hts : totP (f.ps.map PgR.D) ≤ 1048576 := by have := HS.out; omega
      obtain ⟨q0, q1, q2, q3, q4, q5, q6, q7, hq⟩ := list8 f.h8
      rw [hq] at hrd hfD hts
      have hcs := fk_cells hcl hq
      generalize f.wear = wear at hcs hfD
      generalize f.bad = bad at hcs hfD
      have hrg : wr.rangeAt b (off + k * 18) (fk18 q0 q1 q2 q3 q4 q5 q6 q7 wear bad).toList := fun j v hv => hcs j v (by simpa using hv)
      have bE : Below wr.heap.size wr (wr.alloc (.cells (fk18 q0 q1 q2 q3 q4 q5 q6 q7 wear bad) 154)) := (Below.refl _ wr).alloc (Nat.le_refl _) _
      have zE := Blk.new wr 154 (fk18 q0 q1 q2 q3 q4 q5 q6 q7 wear bad)
      have cb8 := hcc.out.keep bE
      have hrp := rd_flat zE (fun p hp => (hrd p hp).keep bE)
      have hXE : H + 1 < wr.heap.size := hcc.out.x.lt
      have p16 := zE.cell 16
      have p17 := zE.cell 17
      have hCs : (fk18 q0 q1 q2 q3 q4 q5 q6 q7 wear bad).size = 18 := rfl
      have hC1 := fk18_one q0 q1 q2 q3 q4 q5 q6 q7 wear bad
      obtain ⟨C, hC⟩ : ∃ C, fk18 q0 q1 q2 q3 q4 q5 q6 q7 wear bad = C := ⟨_, rfl⟩
      have p16' : (wr.alloc (.cells C 154)).cell? ⟨wr.heap.size, 16, none⟩ = some (.int .i64 wear) := by rw [← hC]; exact p16
      have p17' : (wr.alloc (.cells C 154)).cell? ⟨wr.heap.size, 17, none⟩ = some (.bool bad) := by rw [← hC]; exact p17
      rw [hC] at zE cb8 hrp hrg hCs hC1
      have HS18 : Hid ((Tryz.prog.info? 154).map (·.size) = some C.toList.length) := by show _ = _; rw [Tryz.sizeCells]; simp [hCs]
      have HS18' : Hid ((Tryz.prog.info? 154).map (·.size) = some C.size) := by show _ = _; rw [Tryz.sizeCells, hCs]
      have HCS : Hid _ := hCs
      have HC1 : Hid _ := hC1
      have HRG : Hid (wr.rangeAt b (off + k * 18) C.toList) := hrg
      clear hcs hcl hrd hfk hc htot hq bE hC p16 p17 hrg hCs hC1
      obtain ⟨W8, hW8⟩ : ∃ W, wr.alloc (.cells C 154) = W := ⟨_, rfl⟩
      have HW8 : Hid _ := hW8
      rw [hW8] at zE cb8 hrp p16' p17'
      clear hW8
      go_upto_region 4 with fail
      go_cut [5, 6, 7, 8, 9, 10, 11, 12] from 5 to 29 (fun s s6 s7 s8 s9 t l i wx => s6 = .agg #[.slice none 0 0] ∧ s7 = .pointer (some ⟨F, 0, none⟩) ∧ s8 = .pointer (some ⟨F, 0, none⟩) ∧ s9 = .pointer (some ⟨F, 0, none⟩) ∧ s = .pointer (some ⟨wr.heap.size, 0, none⟩) ∧ t = .slice (some ⟨b, off, none⟩) n cap ∧ l = .int .i64 (n : Int) ∧ i = .int .i64 (k : Int) ∧ wx = W8)
      case first =>
        clear zE cb8 hrp p16' p17'
        go_wp2_with (first
          | (refine wpList_load_mid rfl 154 (.tmp 14) rfl b (off + k * 18) rfl C.toList _ HRG.out Tryz.underlying154 rfl HS18.out ?_; rw [Array.toArray_toList])
          | (refine wpList_store_new rfl 154 (.tmp 5) (.tmp 15) rfl _ C rfl rfl HS18'.out (by rw [HCS.out]; rfl) HC1.out ?_))
        go_meet
        exact ⟨rfl, rfl, rfl, rfl, rfl, rfl, rfl, rfl, HW8.out⟩
      case rest =>
      obtain ⟨rfl, rfl, rfl, rfl, rfl, rfl, rfl, rfl, hwc⟩ := hcut
      subst hwc
      obtain ⟨W8, hW8⟩ : ∃ W, W = wc := ⟨_, rfl⟩
      subst hW8
      clear HW8 hlt HRG HS18 HS18' HCS HC1
      go_upto_region 5 with fail
      obtain ⟨E, hE⟩ : ∃ E, wr.heap.size = E := ⟨_, rfl⟩
      rw [hE] at zE hrp hXE p16' p17' ⊢
      clear hE hcc
      have hEX : E ≠ H + 1 := by omega
      have hEX' : H + 1 ≠ E := by omega
      have x0 := cb8.x.cell 0
      simp at x0
      have hcall := copyBlkI (some ⟨E, 0, none⟩) 8 8 wear bad [q0, q1, q2, q3, q4, q5, q6, q7] W8.drew rfl hts hrp
      have HC8 : Hid (CC W0 W8.drew (H + 1) v us ((fs.take k).map FkR.D)) := cb8.keep (Below.refl _ _).drew
      clear cb8 zE hrp
      go_region_law (first
        | (go_simp; go_at_call 133; (with_reducible refine hcall.mono ?_); rintro e W9 ⟨a1, c1, qs, rfl, hnp, b9⟩; have cb9 := HC8.out.keep b9; have x0' := cb9.x.cell 0; have x0'' := (cb9.x.alloc (.cells #[.slice a1 8 c1, .int .i64 wear, .bool bad] 42)).cell 0; simp at x0' x0''; have hrow := cb9.row; rw [hus] at hrow; have happ := fun ty => app_block W9 v us k hus (by omega) hrow ⟨a1, c1, qs, wear, bad⟩ ty 8 (by rw [hnp.len]; simp); dsimp only)
        | (refine step_appAny (W9.alloc (.cells #[.slice a1 8 c1, .int .i64 wear, .bool bad] 42)) rfl (.tmp 17) (.tmp 26) 24 rfl v (.slice (some ⟨W9.heap.size, 0, none⟩) 1 1) _ rfl rfl happ ?_; intro v2 W10 hap2; obtain ⟨a2, c2, rfl, _⟩ := OwnE.rd (rd := fun _ => True) hap2.own (fun _ _ => trivial); have hxg := blk_gr (cb9.x.alloc (.cells #[.slice a1 8 c1, .int .i64 wear, .bool bad] 42)) hap2.gr (fun e => (cb9.vn (H + 1) e).2.1 rfl); have g0 := hxg.cell 0; have gf := hxg.frozen 0; simp at g0; dsimp only))
      all_goals (have ccn : CC W0 (W10.setCell ⟨H + 1, 0, none⟩ (.slice a2 (k + 1) c2)) (H + 1) (.slice a2 (k + 1) c2) (us ++ [⟨a1, c1, qs, wear, bad⟩]) ((fs.take k).map FkR.D ++ [⟨[q0, q1, q2, q3, q4, q5, q6, q7].map PgR.D, wear, bad⟩]) := CC.step HC8.out hus (by rw [hnp.len]; simp) b9 hnp hap2 (by simp [hus]); rw [← hfD.out] at ccn; have CCN : Hid _ := ccn; have hul : (us ++ [⟨a1, c1, qs, wear, bad⟩] : List BkR).length = k + 1 := (by simp [hus]); clear ccn hap2 happ hxg g0 gf x0 x0' x0'' p16' p17' hcall cb9 hrow hnp b9)
      all_goals go_wp2
      all_goals go_roundw
      all_goals first
        | (case rel => exact ⟨k + 1, _, _, by omega, by go_num, hul, CCN⟩)
        | (case measure => simp [intOf]; omega)
    · have hki : ¬ (k : Int) < (n : Int) := by omega
      obtain rfl : k = n := by omega
      have hco := hcc.out
      rw [List.take_of_length_le (by rw [HN.out]; omega)] at hco
      obtain ⟨va, vc, rfl, _⟩ := OwnE.rd (rd := fun _ => True) hco.row (fun _ _ => trivial)
      rw [hus] at hco
      have x0 := hco.x.cell 0
      have zr := Blk.keep HZ0.out hco.bel
      have r0 := zr.cell 0
      have f0 := zr.frozen 0
      have zf := zr.set 0 (.slice va k vc)
      have d0 := zf.cell 0
      simp at x0 r0 d0
      have HC : Hid _ := hco
      clear hco zr zf hcc
      go_wp2
      refine bodyPost_ret (v := .agg #[.slice va k vc]) (by simp [results, Tryz.f118, go_sem, d0]) rfl ?_
      have hc := HC.out
      have hw := HW.out
      have hH := HH.out
      have hbs := HB0.out
      have bel : Below w.heap.size w wr := by rw [hH]; exact hbs.trans (hc.bel.mono (by omega))
      exact ⟨va, k, vc, us, rfl, NewBs.wider (B := W0.heap.size) (NewBs.set_below (B := W0.heap.size) (j := H) (hc.done hus) (by omega)) (by omega), hus, bel.setCell (p := ⟨H, 0, none⟩) (by simp only; omega) _⟩
end

section
open Go.RowKit
def fkZ : FkR := ⟨List.replicate 8 pgZ, 0, false, rfl⟩
theorem Tryz.infoCells : (Tryz.prog.info? 154).map (fun i => (i.zero, i.size, i.bytes)) = some (some (.agg #[.bool false, .slice none 0 0, .bool false, .slice none 0 0, .bool false, .slice none 0 0, .bool false, .slice none 0 0, .bool false, .slice none 0 0, .bool false, .slice none 0 0, .bool false, .slice none 0 0, .bool false, .slice none 0 0, .int .i64 0, .bool false]), 18, 272) := by kernel_rfl
end

section
section
variable {P : Program} {ops : Array Oper} {Q : Exit → Act → World → Prop} {md : Region.Mode} {L : Nat}
/-- Behind all others the number L is carried out; then Q. -/
def ThenL (P : Program) (ops : Array Oper) (Q : Exit → Act → World → Prop) (L : Nat) : Exit → Act → World → Prop
  | .normal, a, w => wpOp P ops Q L (fun a' w' => Q .normal a' w') a w
  | e, a, w => Q e a w
/-- Each operation waits, where that binds, for earlier ones alone; each but the number L is waited for by another one, and none waits for L. -/
def lastOne (md : Region.Mode) (ops : Array Oper) (L : Nat) : Bool :=
  decide (L < ops.size) && ((List.range ops.size).all fun i => ((ops[i]?).map fun o => o.after.all fun e => !Region.binds md e || decide (e.on < i)).getD false) && (List.range ops.size).all fun i => i == L || ((List.range ops.size).any (fun j => ((ops[j]?).map fun o => o.after.any fun e => Region.binds md e && e.on == i).getD false) && ((ops[i]?).map fun o => o.after.all fun e => !(e.on == L)).getD false)
theorem last_waits (h : lastOne md ops L = true) {i : Nat} (hi : i < ops.size) (hne : i ≠ L) : (∃ (j : Nat) (o : Oper), ops[j]? = some o ∧ ∃ e ∈ o.after, Region.binds md e = true ∧ e.on = i) ∧ ∀ o, ops[i]? = some o → ∀ e ∈ o.after, e.on ≠ L := by
  unfold lastOne at h
  simp only [Bool.and_eq_true, List.all_eq_true, List.mem_range, Bool.or_eq_true, beq_iff_eq] at h
  have h1 := (h.2 i hi).resolve_left hne
  obtain ⟨h2, h3⟩ := h1
  refine ⟨?_, fun o ho e he => ?_⟩
  · simp only [List.any_eq_true, List.mem_range] at h2
    obtain ⟨j, _, h2⟩ := h2
    cases hL : ops[j]? with
    | none => rw [hL] at h2; simp at h2
    | some o =>
      rw [hL] at h2
      simp only [Option.map_some, Option.getD_some, Array.any_eq_true, Bool.and_eq_true, beq_iff_eq] at h2
      obtain ⟨x, hx, he⟩ := h2
      exact ⟨j, o, hL, _, Array.getElem_mem hx, he.1, he.2⟩
  · rw [ho] at h3
    simp only [Option.map_some, Option.getD_some, Array.all_eq_true_iff_forall_mem] at h3
    have := h3 e he
    simpa using this
/-- What is asked of an operation under 'ThenL' is asked of it under Q. -/
theorem wpOp_thenL {i : Nat} {K : Act → World → Prop} {a : Act} {w : World} (hl : LetsOut (ThenL P ops Q L) → LetsOut Q) (h : wpOp P ops (ThenL P ops Q L) i K a w) : wpOp P ops Q i K a w := by
  unfold wpOp at h ⊢
  split
  · rename_i h0; rw [h0] at h; exact h
  · rename_i o h0
    rw [h0] at h
    dsimp only at h
    split
    · rename_i hw
      rw [if_pos hw] at h
      refine h.imp (fun h1 => ?_) (fun h1 => ⟨h1.1, hl h1.2⟩)
      unfold Oper.wp at h1 ⊢
      generalize (execOp a.eval o).run P w = r at h1 ⊢
      cases r with
      | ok n w' =>
        cases n with
        | enter f args =>
          refine Calls.mono h1 fun e w2 he => ?_
          cases e with
          | returned v => exact he
          | panicked c => exact he
          | outgrown => exact hl he
        | value v => exact h1
        | skip => exact h1
        | defer d => exact h1
        | row r args => exact h1
        | _ => exact h1
      | halt x w' => cases x <;> exact h1
    · rename_i hw
      rw [if_neg hw] at h
      exact h
theorem last_lt (h : lastOne md ops L = true) : L < ops.size := by
  unfold lastOne at h
  simp only [Bool.and_eq_true, decide_eq_true_eq] at h
  exact h.1.1
theorem last_order (h : lastOne md ops L = true) {i : Nat} {o : Oper} (ho : ops[i]? = some o) : ∀ e ∈ o.after, Region.binds md e = true → e.on < i := by
  unfold lastOne at h
  simp only [Bool.and_eq_true, List.all_eq_true, List.mem_range] at h
  have hi : i < ops.size := (Array.getElem?_eq_some_iff.1 ho).1
  have h1 := h.1.2 i hi
  rw [ho] at h1
  simp only [Option.map_some, Option.getD_some, Array.all_eq_true_iff_forall_mem] at h1
  intro e he hb
  have h2 := h1 e he
  rw [hb] at h2
  simpa using h2
theorem getD_both {l : Array Bool} {i : Nat} (hi : i < l.size) : l.getD i true = l.getD i false := by simp [Array.getD, hi]
/-- Where nothing may come up all have come up. -/
theorem all_listed (h : lastOne md ops L = true) {listed : Array Bool} (hs : listed.size = ops.size) (hr : Region.ready md ops listed = []) : ∀ i, i < ops.size → listed.getD i true = true := by
  intro i
  induction i using Nat.strongRecOn with
  | ind i ih =>
    intro hi
    cases hl : listed.getD i true with
    | true => rfl
    | false =>
      have ho : ops[i]? = some ops[i] := Array.getElem?_eq_getElem hi
      have : i ∈ Region.ready md ops listed := mem_ready.2 ⟨hl, _, ho, fun e he hb => by
        have h1 := last_order h ho e he hb
        rw [← getD_both (by omega)]
        exact ih e.on h1 (by omega)⟩
      rw [hr] at this
      cases this
theorem set_getD_ne {l : Array Bool} {i j : Nat} {d : Bool} (h : i ≠ j) : (l.setIfInBounds i true).getD j d = l.getD j d := getD_set_ne d h
theorem set_getD_eq {l : Array Bool} {i : Nat} {d : Bool} (h : i < l.size) : (l.setIfInBounds i true).getD i d = true := by simp [Array.getD, h]
/-- Behind all others the last one comes up. -/
theorem last_comes (h : lastOne md ops L = true) {listed : Array Bool} (hs : listed.size = ops.size) (hL : listed.getD L true = false) (hr : Region.ready md ops (listed.setIfInBounds L true) = []) : ∀ i, i ∈ Region.ready md ops listed ↔ i = L := by
  have hall := all_listed h (listed := listed.setIfInBounds L true) (by simp [hs]) hr
  have hlt := last_lt h
  intro i
  constructor
  · intro hi
    obtain ⟨h1, o, ho, _⟩ := mem_ready.1 hi
    rcases Nat.decEq i L with hne | he
    · have := hall i (Array.getElem?_eq_some_iff.1 ho).1
      rw [set_getD_ne (fun e => hne e.symm), h1] at this
      cases this
    · exact he
  · rintro rfl
    refine mem_ready.2 ⟨hL, _, Array.getElem?_eq_getElem hlt, fun e he hb => ?_⟩
    have h1 := last_order h (Array.getElem?_eq_getElem hlt) e he hb
    have h2 := hall e.on (by omega)
    rw [set_getD_ne (by omega)] at h2
    rw [← getD_both (by omega)]
    exact h2
/-- What has come up has all that it waited for come up. -/
def shutAll (md : Region.Mode) (ops : Array Oper) (listed : Array Bool) : Prop := ∀ (j : Nat) (o : Oper), ops[j]? = some o → listed.getD j true = true → ∀ e ∈ o.after, Region.binds md e = true → listed.getD e.on false = true
theorem shutAll_set {listed : Array Bool} {i : Nat} (_ : listed.size = ops.size) (h : shutAll md ops listed) (hi : i ∈ Region.ready md ops listed) : shutAll md ops (listed.setIfInBounds i true) := fun j o ho hl e he hb => by
  rcases Nat.decEq j i with hne | rfl
  · rw [set_getD_ne (fun e => hne e.symm)] at hl
    exact getD_set_true (h j o ho hl e he hb)
  · obtain ⟨_, o', ho', hall⟩ := mem_ready.1 hi
    rw [ho] at ho'
    simp only [Option.some.injEq] at ho'
    subst ho'
    exact getD_set_true (hall e he hb)
/-- As long as another one has not come up L does not. -/
theorem last_not (h : lastOne md ops L = true) {listed : Array Bool} (hs : listed.size = ops.size) (hc : shutAll md ops listed) : ∀ (d x : Nat), ops.size - x = d → x < ops.size → x ≠ L → listed.getD x true = false → L ∉ Region.ready md ops listed := by
  intro d
  induction d using Nat.strongRecOn with
  | ind d ih =>
    intro x hd hx hxL hun hL
    obtain ⟨j, o, ho, e, he, hb, heq⟩ := (last_waits h hx hxL).1
    have hj := last_order h ho e he hb
    have hjs : j < ops.size := (Array.getElem?_eq_some_iff.1 ho).1
    rcases Nat.decEq j L with hne | rfl
    · have hjun : listed.getD j true = false := by
        cases hl : listed.getD j true with
        | false => rfl
        | true =>
          have h1 := hc j o ho hl e he hb
          rw [heq, ← getD_both (by omega), hun] at h1
          cases h1
      exact ih (ops.size - j) (by omega) j rfl hjs hne hjun hL
    · obtain ⟨_, oL, hoL, lall⟩ := mem_ready.1 hL
      rw [ho] at hoL
      simp only [Option.some.injEq] at hoL
      subst hoL
      have h1 := lall e he hb
      rw [heq, ← getD_both (by omega), hun] at h1
      cases h1
theorem wpAny_thenL (h : lastOne md ops L = true) : ∀ (fuel : Nat) (listed : Array Bool) (a : Act) (w : World), listed.size = ops.size → listed.getD L true = false → shutAll md ops listed →
    wpAny P md ops (ThenL P ops Q L) fuel (listed.setIfInBounds L true) a w → wpAny P md ops Q (fuel + 1) listed a w := by
  have hend : ∀ (fuel : Nat) (listed : Array Bool) (a : Act) (w : World), listed.size = ops.size → listed.getD L true = false → Region.ready md ops (listed.setIfInBounds L true) = [] → ThenL P ops Q L .normal a w → wpAny P md ops Q (fuel + 1) listed a w := by
    intro fuel listed a w hs hL hr hT
    have hc := last_comes h hs hL hr
    refine ⟨fun h0 => ?_, fun i hi => ?_⟩
    · have := (hc L).2 rfl
      rw [h0] at this
      cases this
    · obtain rfl := (hc i).1 hi
      exact wpOp_mono (fun a' w' hq => wpAny_done hr hq fuel) hT
  intro fuel
  induction fuel with
  | zero => intro listed a w hs hL _ H; exact hend 0 listed a w hs hL H.1 H.2
  | succ fuel ih =>
    intro listed a w hs hL hsh H
    rcases Classical.em (Region.ready md ops (listed.setIfInBounds L true) = []) with hr | hr
    · exact hend (fuel + 1) listed a w hs hL hr (H.1 hr)
    · obtain ⟨x, hx⟩ := List.exists_mem_of_ne_nil _ hr
      obtain ⟨x1, ox, hox, xall⟩ := mem_ready.1 hx
      have hxs : x < ops.size := (Array.getElem?_eq_some_iff.1 hox).1
      have hxL : x ≠ L := fun e => by
        subst e
        rw [set_getD_eq (by omega)] at x1
        cases x1
      have hun : listed.getD x true = false := by rw [set_getD_ne (fun e => hxL e.symm)] at x1; exact x1
      have hw := last_waits h hxs hxL
      have hxr : x ∈ Region.ready md ops listed := mem_ready.2 ⟨hun, ox, hox, fun e he hb => by
        have := xall e he hb
        rw [set_getD_ne (fun e2 => hw.2 ox hox e he e2.symm)] at this
        exact this⟩
      refine ⟨fun h0 => (by rw [h0] at hxr; cases hxr), fun i hi => ?_⟩
      have hiL : i ≠ L := fun e => by
        subst e
        exact last_not h hs hsh _ x rfl hxs hxL hun hi
      have h2 := wpOp_thenL (L := L) (fun hl => hl) (H.2 i (ready_mono hi hiL))
      refine wpOp_mono (fun a' w' hk => ih (listed.setIfInBounds i true) a' w' (by simp [hs]) (by rw [set_getD_ne hiL]; exact hL) (shutAll_set hs hsh hi) ?_) h2
      rw [Array.setIfInBounds_comm _ _ hiL]
      exact hk
/-- The beginning: S is shown of the world behind the draw; the last one waits. -/
theorem wp_region_last (S : World → Prop) (L : Nat) {id : Nat} {a : Act} {w : World} (hL : lastOne .any ops L = true) (hm : P.follows .mixedOrders = true) (hS : S w.drew) (n : Nat) (hn : ops.size = n + 1)
    (h : S w.drew → wpAnyH P .any ops (ThenL P ops Q L) S n ((Array.replicate ops.size false).setIfInBounds L true) a w.drew) : (Code.region id ops true).wp P Q a w := by
  refine wp_region_any hm ?_
  have hlt := last_lt hL
  have := wpAny_thenL (Q := Q) (P := P) hL n (Array.replicate ops.size false) a w.drew (by simp) (by simp [Array.getD, hlt]) (fun j o ho hl => by have := (Array.getElem?_eq_some_iff.1 ho).1; simp [Array.getD, this] at hl) (wpAny_of_held _ _ _ _ (h hS))
  rw [← hn] at this
  exact this
/-- The last one. -/
theorem wpOp_last {o : Oper} {a : Act} {w : World} (ho : ops[L]? = some o) (h : ∀ K : Act → World → Prop, Shut (∀ a w, Q .normal a w → K a w) → if Region.wanted o (yielded ops a.tmps) = true then Oper.wp P o a w K Q else K (a.put o.dst undef) w) : ThenL P ops Q L .normal a w :=
  wpOp_step ho (fun K hK => h K hK)
end
end
end Go.Proofs.YtoeeblmnogeonaaGreatDoor
