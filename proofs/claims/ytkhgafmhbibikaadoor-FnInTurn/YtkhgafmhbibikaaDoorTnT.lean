/-
  Joined: Crc, Put, App10, ChFn, ChNw, ChRd, DrK, Draw, DrawS, DvC, DvI, DvN, DvS, DrCh, Draws, DrFn, DrIt.
-/
import Derived.Test.YtkhgafmhbibikaaDoorJ00U
import Derived.Test.YtkhgafmhbibikaaDoorJ01U
import Derived.Test.YtkhgafmhbibikaaDoorJ02U
import Derived.Test.YtkhgafmhbibikaaDoorJ03U
import Derived.Test.YtkhgafmhbibikaaDoorJ04U
import Derived.Test.YtkhgafmhbibikaaDoorJ05U
import Derived.Test.YtkhgafmhbibikaaDoorJ06U
import Derived.Test.YtkhgafmhbibikaaDoorJ07U
import Derived.Test.YtkhgafmhbibikaaDoorJ08U
import Derived.Test.YtkhgafmhbibikaaDoorJ09U
import Derived.Test.YtkhgafmhbibikaaDoorJ10U
import Derived.Test.YtkhgafmhbibikaaDoorJ11U
import Derived.Test.YtkhgafmhbibikaaDoorJ12U
import Derived.Test.YtkhgafmhbibikaaDoorJ13U
import Derived.Test.YtkhgafmhbibikaaDoorJ14U
import Derived.Test.YtkhgafmhbibikaaDoorJ15U
import Derived.Test.YtkhgafmhbibikaaDoorJ16U
import Derived.Test.YtkhgafmhbibikaaDoorJ17U
import Derived.Test.YtkhgafmhbibikaaDoorJ18U
import Derived.Test.YtkhgafmhbibikaaDoorJ19U
import Derived.Test.YtkhgafmhbibikaaDoorJ20U
import Derived.Test.YtkhgafmhbibikaaDoorJ21U
import Derived.Test.YtkhgafmhbibikaaDoorJ22U
import Derived.Test.YtkhgafmhbibikaaDoorJ23U
import Derived.Test.YtkhgafmhbibikaaDoorJ24U
import Derived.Test.YtkhgafmhbibikaaDoorJ25U
import Derived.Test.YtkhgafmhbibikaaDoorJ26U
import Derived.Test.YtkhgafmhbibikaaDoorJ27U
import Derived.WalkKit
import Derived.WalkSpells
import Derived.WalkLawsBesides
import Derived.Deep.QuietTactic
import Derived.BigQuiet
import Derived.OpenShut
import Derived.Laws.BitsAllLaws
import Derived.Maps.AppendAt
import Derived.Lib.SliceRun
import Derived.Lib.Strings
import Derived.Deep.RegionWith
import Derived.Laws.IdiomStrings
import Derived.Deep.Slices
import Derived.ProofKit
import Derived.ChangeOld
import Derived.Below
import Derived.Deep.DeepCutAuto
import Derived.Lib.AppendStr
import Derived.Lib.ConvBytes
import Derived.Deep.RegionHeld3
import Derived.Deep.AppendSrc
import Derived.Deep.AppendLies
import Derived.Deep.RegionLaw
import Derived.Deep.MidRow
import Derived.Deep.WholeRow
import Derived.Deep.RegionHeld
import Derived.LaidEql
import Derived.Stop.Asserts
import Derived.RowKitTokens
import Derived.Laws.BitsLemmas
import Derived.Maps.OwnSet
import Derived.Maps.OwnOps
import Derived.Defers
import Derived.Recover
import Derived.Laws.BytesString
import Derived.Deep.DrawnRows
namespace Go.Proofs.YtkhgafmhbibikaaDoor
section
open Go.RowKit
theorem getD_byt {zs : List Int} (hb : Byt zs) (k : Nat) : 0 ≤ zs[k]?.getD 0 ∧ zs[k]?.getD 0 ≤ 255 := by
  by_cases h : k < zs.length
  · rw [List.getElem?_eq_getElem h]; exact hb _ (List.getElem_mem h)
  · rw [List.getElem?_eq_none (by omega)]; simp
theorem byt_at {zs : List Int} (hb : Byt zs) (k : Nat) : ∃ Z : Nat, zs.getD k 0 = (Z : Int) ∧ Z ≤ 255 := by
  have := getD_byt hb k
  refine ⟨(zs.getD k 0).toNat, ?_, ?_⟩ <;> simp <;> omega
end

section
open Go.RowKit
/-- An append onto a row of the call's own, the new slice written out. -/
theorem wpList_app (w : World) {ops : Array Oper} {rest : List Oper} {o : Oper} {a : Act} {Q : Exit → Act → World → Prop} (hgd : o.guard = none) (s x : Operand)
    (ho : o.op = .call { callee := .builtin .append, args := #[s, x], argTypes := #[25, 25] })
    (g n c : Nat) (zs : List Int) (hs : a.eval s = .slice (some ⟨g, 0, none⟩) n c) (hown : Own w g n c zs)
    (ad : Addr) (m c' : Nat) (ys : List Int) (hx : a.eval x = .slice (some ad) m c') (hl : ys.length = m)
    (hnews : ∀ j, j < m → w.cell? (ad.add j) = some (.int .u8 (ys.getD j 0))) (hb : n + m ≤ 8000000) (H : Nat) (hH : w.heap.size = H)
    (h : ∀ g' cap' w', Own w' g' (n + m) cap' (zs ++ ys) → w.grownBy w' (some g) → (g' = g ∨ g' = H) → wpList Tryd.prog ops Q rest (a.put o.dst (.slice (some ⟨g', 0, none⟩) (n + m) cap')) w') :
    wpList Tryd.prog ops Q (o :: rest) a w := by
  obtain ⟨i0, hi, hz0, hz1, hz2⟩ := info_parts Tryd.info5
  refine wpList_append_own_at w hgd s x 25 ho 0 5 i0 (.int .u8 0) 1 1 Tryd.underlying25 hi hz0 hz1 hz2 rfl (by decide) _ n (zs.map (Value.int .u8)) hs hown ad m c' (ys.map (Value.int .u8)) hx (by simp [hl]) ?_ ?_ (by unfold maxLen; omega) (by omega) (Nat.zero_le _) ?_
  · intro j u hj
    simp only [List.getElem?_map] at hj
    by_cases hjm : j < m
    · rw [hnews j hjm]
      rw [List.getElem?_eq_getElem (by omega)] at hj
      simpa [List.getElem?_eq_getElem (show j < ys.length by omega)] using hj
    · rw [List.getElem?_eq_none (by omega)] at hj
      simp at hj
  · intro u hu
    simp only [List.mem_map] at hu
    obtain ⟨z, _, rfl⟩ := hu
    rfl
  · intro v' w' h1 h2 h3 h4
    have h1' := h1
    rcases h1.2 with ⟨e, _⟩ | ⟨g', cap', cur, e, _⟩
    · exact absurd (h3.1 e).1 (by simp)
    · subst e
      refine h g' cap' w' ?_ h2 ?_
      · unfold Own; rw [List.map_append]; exact h1'
      · rcases h4 with h4 | h4
        · left; simpa [Value.ownBlock] using h4
        · right; rw [← hH]; simpa [Value.ownBlock] using h4
theorem own_empty (w : World) : Own (w.alloc (.cells #[] 5)) w.heap.size 0 0 [] := by
  exact World.ownsRow_made (base := 0) (e := 5) (size := 1) w #[] 0 (Nat.zero_le _) (by unfold maxLen; omega) rfl
theorem one_news (w : World) (z : Int) : ∀ j, j < 1 → (w.alloc (.cells #[.int .u8 z] 5)).cell? ((⟨w.heap.size, 0, none⟩ : Addr).add j) = some (.int .u8 ([z].getD j 0)) := by
  intro j hj
  obtain rfl : j = 0 := by omega
  exact cell_one_new w (.int .u8 z) 5 0 _ rfl
end

section
open Go.RowKit
/-- At the operation. -/
theorem wpList_appAny (W : World) {ops : Array Oper} {rest : List Oper} {o : Oper} {a : Act} {Q : Exit → Act → World → Prop} (hgd : o.guard = none) (s x : Operand) (t : TypeId)
    (ho : o.op = .call { callee := .builtin .append, args := #[s, x], argTypes := #[t, t] }) (v u : Value) (R : Value → World → Prop) (hs : a.eval s = v) (hx : a.eval x = u)
    (hr : ∀ ty, ∃ v' W', (Builtin.append_ #[t, t] ty #[v, u]).run Tryd.prog W = .ok v' W' ∧ R v' W')
    (h : ∀ v' W', R v' W' → wpList Tryd.prog ops Q rest (a.put o.dst v') W') :
    wpList Tryd.prog ops Q (o :: rest) a W := by
  refine wpList_plain hgd fun K hK => ?_
  obtain ⟨v', W', h1, h2⟩ := hr o.type
  unfold Oper.wp execOp
  simp only [ho, resolve, invoke, builtin, Sem.run_bind, Sem.run_pure, Result.andThen_ok, List.map_toArray, List.map_cons, List.map_nil, hs, hx, h1]
  exact hK _ _ (h v' W' h2)
end

section
open Go.RowKit
set_option maxHeartbeats 1600000 in
theorem hasBk (a : Option Addr) (n cap : Nat) (x : Int) (w : World) (_hn : n ≤ 1048576) :
    Calls Tryd.prog 50 #[.slice a n cap, .int .i64 x] w fun e w' => e = .returned (.bool (decide (0 ≤ x) && decide (x < (n : Int)))) ∧ w' = w := by
  go_enter Tryd.func50, Tryd.ntmps50
  by_cases h1 : 0 ≤ x
  · by_cases h2 : x < (n : Int)
    · go_wp2
      go_ret
      exact ⟨by simp [h1, h2], rfl⟩
    · go_wp2
      go_ret
      exact ⟨by simp [h2], rfl⟩
  · go_wp2
    go_ret
    exact ⟨by simp; omega, rfl⟩
set_option maxHeartbeats 1600000 in
theorem hasPg (a : Option Addr) (n cap : Nat) (x : Int) (w : World) (_hn : n ≤ 1048576) :
    Calls Tryd.prog 52 #[.slice a n cap, .int .i64 x] w fun e w' => e = .returned (.bool (decide (0 ≤ x) && decide (x < (n : Int)))) ∧ w' = w := by
  go_enter Tryd.func52, Tryd.ntmps52
  by_cases h1 : 0 ≤ x
  · by_cases h2 : x < (n : Int)
    · go_wp2
      go_ret
      exact ⟨by simp [h1, h2], rfl⟩
    · go_wp2
      go_ret
      exact ⟨by simp [h2], rfl⟩
  · go_wp2
    go_ret
    exact ⟨by simp; omega, rfl⟩
set_option maxRecDepth 100000 in
set_option maxHeartbeats 4000000 in
theorem nextI (a : Option Addr) (n cap : Nat) (bs : List BkR) (x : Int) (w : World) (ht : CR w a n bs) :
    Calls Tryd.prog 22 #[.agg #[.slice a n cap], .int .i64 x] w fun e w' => e = .returned (.int .i64 (nextD (bs.map BkR.D) x)) ∧ Below w.heap.size w w' := by
  have B0 : Below w.heap.size w (w.alloc (.cells #[.slice a n cap] 29)) := (Below.refl _ w).alloc (Nat.le_refl _) _
  have hn1 := ht.n
  by_cases hx : 0 ≤ x ∧ x < (n : Int)
  · obtain ⟨k, rfl⟩ : ∃ k : Nat, x = (k : Int) := ⟨x.toNat, by omega⟩
    have hkn : k < n := by omega
    have hki : (k : Int) < (n : Int) := by omega
    have hd : (decide (0 ≤ (k : Int)) && decide ((k : Int) < (n : Int))) = true := by simp [hki]
    obtain ⟨b, off, r, rfl, hlt, hrk, x3, hrp, htp⟩ := (ht.keep B0).some hkn
    obtain ⟨x0, x1, x2⟩ := x3
    have hcall := writtenI r.a r.ps.length r.cap r.ps _ rfl htp hrp
    have hnx := nextD_in hrk
    rw [hnx]
    obtain ⟨n1, hn1⟩ : ∃ n1, r.ps.length = n1 := ⟨_, rfl⟩
    rw [hn1] at x0 hcall
    have HB : Hid _ := B0
    have hh := hasBk (some ⟨b, off, none⟩) n cap (k : Int) (w.alloc (.cells #[.slice (some ⟨b, off, none⟩) n cap] 29)) (by omega)
    rw [hd] at hh
    clear hnx hrk hn1 ht B0 hrp hd
    go_enter Tryd.func22, Tryd.ntmps22
    go_wp2_with fail
    refine hh.mono ?_
    rintro e w1 ⟨rfl, hw⟩
    obtain rfl := hw.symm
    go_wp2_with fail
    refine hcall.mono ?_
    rintro e w1 ⟨rfl, hb1⟩
    clear hcall x0 x1 x2
    go_wp2
    go_ret
    exact ⟨rfl, HB.out.trans (hb1.mono HB.out.size)⟩
  · have hnx : nextD (bs.map BkR.D) x = -1 := nextD_out (by simpa [ht.len] using hx)
    rw [hnx]
    have hd : (decide (0 ≤ x) && decide (x < (n : Int))) = false := by
      by_cases h1 : 0 ≤ x
      · have : ¬ x < (n : Int) := by omega
        simp [this]
      · simp [h1]
    have hh := hasBk a n cap x (w.alloc (.cells #[.slice a n cap] 29)) (by omega)
    rw [hd] at hh
    clear hd hnx ht
    go_enter Tryd.func22, Tryd.ntmps22
    go_wp2_with fail
    refine hh.mono ?_
    rintro e w1 ⟨rfl, hw⟩
    obtain rfl := hw.symm
    go_wp2
    go_ret
    exact ⟨rfl, B0⟩
end

section
open Go.RowKit
/-- A block with nothing. -/
def bkN : BkD := ⟨List.replicate 8 ⟨false, []⟩, 0, false⟩
/-- What ChipNew answers. -/
def newD (x : Int) : List BkD := if 3 ≤ x ∧ x ≤ 24 then List.replicate x.toNat bkN else []
set_option maxRecDepth 100000 in
set_option maxHeartbeats 8000000 in
theorem chipNewS (x : Int) (w : World) :
    Calls Tryd.prog 76 #[.int .i64 x] w (ChA w (newD x)) := by
  have B0 : Below w.heap.size w (w.alloc (.cells #[.slice none 0 0] 29)) := (Below.refl _ w).alloc (Nat.le_refl _) _
  have hws : (w.alloc (.cells #[.slice none 0 0] 29)).heap.size = w.heap.size + 1 := by simp
  have z0 := Blk.new w 29 #[.slice none 0 0]
  have z1 := Blk.new (w.alloc (.cells #[.slice none 0 0] 29)) 29 #[.slice none 0 0]
  have cc0 : CC (w.alloc (.cells #[.slice none 0 0] 29)) ((w.alloc (.cells #[.slice none 0 0] 29)).alloc (.cells #[.slice none 0 0] 29)) (w.alloc (.cells #[.slice none 0 0] 29)).heap.size (.slice none 0 0) [] [] := CC.new ((Below.refl _ _).alloc (Nat.le_refl _) _) z1 (Nat.le_refl _)
  obtain ⟨i0, hi, hz0, hz1, hz2⟩ := info_parts Tryd.infoPage
  obtain ⟨M, hM⟩ : ∃ M, M = madeCells (Value.agg #[.bool false, .slice none 0 0]).cells 16 := ⟨_, rfl⟩
  have hmk : ∀ W : World, (Instr.makeSlice 48 (.int .i64 8) (.int .i64 8)).run Tryd.prog W = .ok (.slice (some ⟨W.heap.size, 0, none⟩) 8 8) (W.alloc (.cells M 56)) := fun W => by
    have h := run_make (P := Tryd.prog) W 48 56 i0 _ Tryd.underlying48 hi hz0 .i64 .i64 8 8 (by omega) (by omega) (by rw [hz2]; omega) (by omega)
    rw [hz1] at h
    rw [hM]
    exact h
  have HM : Hid _ := hM
  clear hM hi hz0 hz1 hz2
  go_enter Tryd.func76, Tryd.ntmps76
  go_upto_region 3 with fail
  obtain ⟨W0, hW0⟩ : ∃ W, w.alloc (.cells #[.slice none 0 0] 29) = W := ⟨_, rfl⟩
  rw [hW0] at B0 z0 cc0 hws ⊢
  clear hW0 z1
  obtain ⟨H, hH⟩ : ∃ H, w.heap.size = H := ⟨_, rfl⟩
  have HH : Hid _ := hH
  rw [hH] at z0 hws ⊢
  rw [hws] at cc0
  have HZ0 : Hid (Blk W0 H 29 #[.slice none 0 0]) := z0
  have HB0 : Hid (Below H w W0) := by rw [← hH]; exact B0
  have HW : Hid _ := hws
  clear z0 B0 hH hws
  by_cases hx : 3 ≤ x ∧ x ≤ 24
  · obtain ⟨n, rfl⟩ : ∃ n : Nat, x = (n : Int) := ⟨x.toNat, by omega⟩
    have hnn : n ≤ 24 := by omega
    have HX : Hid _ := hx
    have HD : Hid (newD (n : Int) = List.replicate n bkN) := by show _ = _; unfold newD; rw [if_pos hx]; simp
    have hd : (decide (3 ≤ (n : Int)) && decide ((n : Int) ≤ 24)) = true := by simp; omega
    have HIN : Hid (∀ W : World, Calls Tryd.prog 85 #[.int .i64 (n : Int), .int .i64 3, .int .i64 24] W fun e w' => e = .returned (.bool true) ∧ w' = W) := fun W => by have := l1In_any (n : Int) 3 24 W; rw [hd] at this; exact this
    clear hx hd
    go_loopw [4] (fun i wr => ∃ (k : Nat) (v : Value) (us : List BkR), k ≤ n ∧ i = .int .i64 k ∧ us.length = k ∧ Hid (CC W0 wr (H + 1) v us (List.replicate k bkN))) (fun i _ => n - (intOf i).toNat)
    case atStart => exact ⟨0, .slice none 0 0, [], by omega, rfl, rfl, cc0⟩
    case round =>
      obtain ⟨k, v, us, hk, rfl, hus, hcc⟩ := hrel
      clear cc0
      by_cases hkn : k < n
      · have hki : (k : Int) < (n : Int) := by omega
        have cb := hcc.out
        have x0 := cb.x.cell 0
        simp at x0
        go_upto_region 5 with (go_at_call 85; refine (HIN.out _).mono ?_; rintro e w1 ⟨rfl, hw1⟩; obtain rfl := hw1.symm)
        have bA : Below wr.drew.heap.size wr.drew (wr.drew.alloc (.cells M 56)) := (Below.refl _ _).alloc (Nat.le_refl _) _
        have cbd : CC W0 wr.drew (H + 1) v us (List.replicate k bkN) := cb.keep (Below.refl _ _).drew
        have cb9 := cbd.keep bA
        have hnp := new_row (W := wr.drew) HM.out
        have hrow := cb9.row
        rw [hus] at hrow
        have happ := fun ty => app_block (wr.drew.alloc (.cells M 56)) v us k hus (by omega) hrow ⟨some ⟨wr.drew.heap.size, 0, none⟩, 8, List.replicate 8 pgZ, 0, false⟩ ty 8 (by simp)
        have y0 := cb9.x.cell 0
        have y1 := (cb9.x.alloc (.cells #[.slice (some ⟨wr.drew.heap.size, 0, none⟩) 8 8, .int .i64 0, .bool false] 50)).cell 0
        simp at y0 y1
        have y0' : (wr.alloc (.cells M 56)).cell? ⟨H + 1, 0, none⟩ = some v := y0
        have y1' : ((wr.alloc (.cells M 56)).alloc (.cells #[.slice (some ⟨wr.heap.size, 0, none⟩) 8 8, .int .i64 0, .bool false] 50)).cell? ⟨H + 1, 0, none⟩ = some v := y1
        have hwd : wr.drew.heap.size = wr.heap.size := rfl
        dsimp only at happ
        rw [hwd] at happ hnp bA
        have hsz : (wr.drew.alloc (.cells M 56)).heap.size = wr.heap.size + 1 := by simp
        rw [hsz] at happ
        have HCB : Hid _ := cbd
        have HNP : Hid _ := hnp
        have HBA : Hid _ := bA
        have HC9 : Hid _ := cb9
        clear cb cbd cb9 hnp hrow bA hcc hwd hsz
        go_region_law (refine step_appAny ((wr.drew.alloc (.cells M 56)).alloc (.cells #[.slice (some ⟨wr.heap.size, 0, none⟩) 8 8, .int .i64 0, .bool false] 50)) rfl (.tmp 16) (.tmp 19) 27 rfl v (.slice (some ⟨wr.heap.size + 1, 0, none⟩) 1 1) _ rfl rfl happ ?_; intro v2 W10 hap2; obtain ⟨a2, c2, rfl, _⟩ := OwnE.rd (rd := fun _ => True) hap2.own (fun _ _ => trivial); have hxg := blk_gr (HC9.out.x.alloc (.cells #[.slice (some ⟨wr.heap.size, 0, none⟩) 8 8, .int .i64 0, .bool false] 50)) hap2.gr (fun e => (HC9.out.vn (H + 1) e).2.1 rfl); have g0 := hxg.cell 0; have gf := hxg.frozen 0; simp at g0; dsimp only)
        all_goals (have ccn : CC W0 (W10.setCell ⟨H + 1, 0, none⟩ (.slice a2 (k + 1) c2)) (H + 1) (.slice a2 (k + 1) c2) (us ++ [⟨some ⟨wr.heap.size, 0, none⟩, 8, List.replicate 8 pgZ, 0, false⟩]) (List.replicate k bkN ++ [bkN]) := CC.step HCB.out hus (by simp) HBA.out HNP.out hap2 (by simp [hus]); rw [← List.replicate_succ'] at ccn; have CCN : Hid _ := ccn; have hul : (us ++ [⟨some ⟨wr.heap.size, 0, none⟩, 8, List.replicate 8 pgZ, 0, false⟩] : List BkR).length = k + 1 := (by simp [hus]); clear ccn hap2 happ hxg g0 gf x0 y0 y1 y0' y1')
        all_goals go_wp2
        all_goals go_roundw
        all_goals first
          | (case rel => exact ⟨k + 1, _, _, by omega, by go_num, hul, CCN⟩)
          | (case measure => simp [intOf]; omega)
      · have hki : ¬ (k : Int) < (n : Int) := by omega
        obtain rfl : k = n := by omega
        have hco := hcc.out
        obtain ⟨va, vc, rfl, _⟩ := OwnE.rd (rd := fun _ => True) hco.row (fun _ _ => trivial)
        rw [hus] at hco
        have x0 := hco.x.cell 0
        have zr := Blk.keep HZ0.out hco.bel
        have r0 := zr.cell 0
        have f0 := zr.frozen 0
        have zf := zr.set 0 (.slice va k vc)
        have d0 := zf.cell 0
        simp at x0 r0 d0
        have HC : Hid _ := hco
        clear hco zr zf hcc
        go_wp2
        refine bodyPost_ret (v := .agg #[.slice va k vc]) (by simp [results, Tryd.f76, go_sem, d0]) rfl ?_
        have hc := HC.out
        have hw := HW.out
        have hH := HH.out
        have hbs := HB0.out
        have bel : Below w.heap.size w wr := by rw [hH]; exact hbs.trans (hc.bel.mono (by omega))
        rw [HD.out]
        exact ⟨va, k, vc, us, rfl, NewBs.wider (B := W0.heap.size) (NewBs.set_below (B := W0.heap.size) (j := H) (hc.done hus) (by omega)) (by omega), hus, bel.setCell (p := ⟨H, 0, none⟩) (by simp only; omega) _⟩
  · have HD : Hid (newD x = []) := by show _ = _; unfold newD; rw [if_neg hx]
    have hd : (decide (3 ≤ x) && decide (x ≤ 24)) = false := by
      rw [← Bool.not_eq_true]; intro h; simp at h; exact hx h
    have x0 := cc0.x.cell 0
    have zr := Blk.keep HZ0.out cc0.bel
    have r0 := zr.cell 0
    have f0 := zr.frozen 0
    have zf := zr.set 0 (.slice none 0 0)
    have d0 := zf.cell 0
    simp at x0 r0 d0
    have HC : Hid _ := cc0
    have HIN : Hid (∀ W : World, Calls Tryd.prog 85 #[.int .i64 x, .int .i64 3, .int .i64 24] W fun e w' => e = .returned (.bool false) ∧ w' = W) := fun W => by have := l1In_any x 3 24 W; rw [hd] at this; exact this
    clear cc0 zr zf hd
    refine wp_loop_rounds 1 ?_; rw [rounds_succ]
    by_cases h0 : 0 < x
    · go_wp2_with (go_at_call 85; refine (HIN.out _).mono ?_; rintro e w1 ⟨rfl, hw1⟩; obtain rfl := hw1.symm)
      refine bodyPost_ret (v := .agg #[.slice none 0 0]) (by simp [results, Tryd.f76, go_sem, d0]) rfl ?_
      have hc := HC.out
      have hw := HW.out
      have hH := HH.out
      have hbs := HB0.out
      have bel : Below w.heap.size w (W0.alloc (.cells #[.slice none 0 0] 29)) := by rw [hH]; exact hbs.trans (hc.bel.mono (by omega))
      rw [HD.out]
      exact ⟨none, 0, 0, [], rfl, NewBs.wider (B := W0.heap.size) (NewBs.set_below (B := W0.heap.size) (j := H) (hc.done rfl) (by omega)) (by omega), rfl, bel.setCell (p := ⟨H, 0, none⟩) (by simp only; omega) _⟩
    · go_wp2
      refine bodyPost_ret (v := .agg #[.slice none 0 0]) (by simp [results, Tryd.f76, go_sem, d0]) rfl ?_
      have hc := HC.out
      have hw := HW.out
      have hH := HH.out
      have hbs := HB0.out
      have bel : Below w.heap.size w (W0.alloc (.cells #[.slice none 0 0] 29)) := by rw [hH]; exact hbs.trans (hc.bel.mono (by omega))
      rw [HD.out]
      exact ⟨none, 0, 0, [], rfl, NewBs.wider (B := W0.heap.size) (NewBs.set_below (B := W0.heap.size) (j := H) (hc.done rfl) (by omega)) (by omega), rfl, bel.setCell (p := ⟨H, 0, none⟩) (by simp only; omega) _⟩
end

section
open Go.RowKit
/-- What is read of a page: nothing, if it is not written. -/
def readD (ds : List BkD) (x y : Int) : Option (List Int) :=
  if 0 ≤ x ∧ 0 ≤ y then (match ds[x.toNat]? with | some b => (match b.ps[y.toNat]? with | some p => if p.used then some p.zs else none | none => none) | none => none) else none
theorem readD_in {bs : List BkR} {k j : Nat} {r : BkR} {p : PgR} (h : bs[k]? = some r) (h2 : r.ps[j]? = some p) : readD (bs.map BkR.D) (k : Int) (j : Int) = if p.used then some p.zs else none := by
  unfold readD
  rw [if_pos (by omega)]
  simp [h, h2, BkR.D, PgR.D]
theorem readD_bk {ds : List BkD} {x y : Int} (h : ¬ (0 ≤ x ∧ x < (ds.length : Int))) : readD ds x y = none := by
  unfold readD
  split
  · rw [List.getElem?_eq_none (by omega)]
  · rfl
theorem readD_pg {bs : List BkR} {k : Nat} {r : BkR} {y : Int} (hb : bs[k]? = some r) (h : ¬ (0 ≤ y ∧ y < (r.ps.length : Int))) : readD (bs.map BkR.D) (k : Int) y = none := by
  unfold readD
  split
  · rename_i hxy
    have : (r.ps.map PgR.D)[y.toNat]? = none := List.getElem?_eq_none (by simp; omega)
    simp [hb, BkR.D]
    rw [List.getElem?_eq_none (by omega)]
    rfl
  · rfl
/-- What was answered: a new list (or nil) and whether it was there. -/
structure RdA (w : World) (o : Option (List Int)) (e : Ending) (w' : World) : Prop where
  ans : ∃ v, e = .returned (.tuple #[v, .bool o.isSome]) ∧ OwnV 0 w' v (o.getD []).length (o.getD []) ∧ ∀ g, v.ownBlock = some g → w.heap.size ≤ g
  bel : Below w.heap.size w w'
set_option maxRecDepth 100000 in
set_option maxHeartbeats 4000000 in
theorem readI (a : Option Addr) (n cap : Nat) (bs : List BkR) (x y : Int) (w : World) (ht : CR w a n bs) :
    Calls Tryd.prog 24 #[.agg #[.slice a n cap], .int .i64 x, .int .i64 y] w (RdA w (readD (bs.map BkR.D) x y)) := by
  have B0 : Below w.heap.size w (w.alloc (.cells #[.slice a n cap] 29)) := (Below.refl _ w).alloc (Nat.le_refl _) _
  have hn1 := ht.n
  have hh := hasBk a n cap x (w.alloc (.cells #[.slice a n cap] 29)) hn1
  by_cases hx : 0 ≤ x ∧ x < (n : Int)
  · obtain ⟨k, rfl⟩ : ∃ k : Nat, x = (k : Int) := ⟨x.toNat, by omega⟩
    have hkn : k < n := by omega
    have hki : (k : Int) < (n : Int) := by omega
    have hd : (decide (0 ≤ (k : Int)) && decide ((k : Int) < (n : Int))) = true := by simp [hki]
    rw [hd] at hh
    obtain ⟨b, off, r, rfl, hlt, hrk, x3, hrp, htp⟩ := (ht.keep B0).some hkn
    obtain ⟨x0, x1, x2⟩ := x3
    have hpl := totP_len (r.ps.map PgR.D)
    simp only [List.length_map] at hpl
    have hp := hasPg r.a r.ps.length r.cap y (w.alloc (.cells #[.slice (some ⟨b, off, none⟩) n cap] 29)) (by omega)
    by_cases hy : 0 ≤ y ∧ y < (r.ps.length : Int)
    · obtain ⟨j, rfl⟩ : ∃ j : Nat, y = (j : Int) := ⟨y.toNat, by omega⟩
      have hjn : j < r.ps.length := by omega
      have hd2 : (decide (0 ≤ (j : Int)) && decide ((j : Int) < (r.ps.length : Int))) = true := by simp; omega
      rw [hd2] at hp
      obtain ⟨p, hpj⟩ : ∃ p, r.ps[j]? = some p := ⟨_, List.getElem?_eq_getElem hjn⟩
      have hrd := readD_in hrk hpj
      obtain ⟨b2, off2, ha2, hlt2, hc2⟩ := hrp.lt (by intro h; rw [h] at hpj; simp at hpj)
      obtain ⟨⟨y0, y1⟩, hrz⟩ := hc2 j p hpj
      have htz := totP_at hpj
      rw [ha2] at x0 hp
      have hjl : (j : Int) < (r.ps.length : Int) := by omega
      obtain ⟨n2, hn2⟩ : ∃ n2, r.ps.length = n2 := ⟨_, rfl⟩
      rw [hn2] at x0 hp hjl
      obtain ⟨u, hu⟩ : ∃ u, p.used = u := ⟨_, rfl⟩
      rw [hu] at y0 hrd
      obtain ⟨n3, hn3⟩ : ∃ n3, p.zs.length = n3 := ⟨_, rfl⟩
      rw [hn3] at y1 htz
      have hn3m : n3 ≤ 1048576 := by omega
      have B1 : Below w.heap.size w ((w.alloc (.cells #[.slice (some ⟨b, off, none⟩) n cap] 29)).alloc (.cells #[.bool u, .slice p.a n3 p.cap] 56)) := B0.alloc B0.size _
      have hrz1 := hrz.keep ((Below.refl (w.alloc (.cells #[.slice (some ⟨b, off, none⟩) n cap] 29)).heap.size _).alloc (Nat.le_refl _) (.cells #[.bool u, .slice p.a n3 p.cap] 56))
      have happ := fun ty => app_bytes ((w.alloc (.cells #[.slice (some ⟨b, off, none⟩) n cap] 29)).alloc (.cells #[.bool u, .slice p.a n3 p.cap] 56)) (.slice none 0 0) 0 [] p.a n3 p.cap p.zs hn3 (by omega) (ownV_nil 0 _) hrz1 ty
      have HB : Hid _ := B1
      have HP : Hid _ := happ
      have HZ : Hid (p.zs.length = n3) := hn3
      rw [hrd]
      generalize hGP : RdA w (if u = true then some p.zs else none) = P
      have HGP : Hid _ := hGP
      clear hrd hrk hpj ht B0 B1 hrp hd hd2 hc2 hrz hrz1 happ ha2 hu hn2 hn3 htz hGP htp hpl
      go_enter Tryd.func24, Tryd.ntmps24
      go_wp2_with fail
      refine hh.mono ?_
      rintro e w1 ⟨rfl, hw⟩
      obtain rfl := hw.symm
      go_wp2_with fail
      refine hp.mono ?_
      rintro e w1 ⟨rfl, hw⟩
      obtain rfl := hw.symm
      cases u
      · go_wp2
        rw [← HGP.out]
        exact ⟨⟨.slice none 0 0, rfl, ownV_nil 0 _, fun g hg => by simp [Value.ownBlock] at hg⟩, HB.out⟩
      · go_wp2_with (at_builtin; refine wpList_appAny _ rfl (.const (.slice none 0 0)) (.tmp 38) 25 rfl (.slice none 0 0) (.slice p.a n3 p.cap) _ rfl rfl HP.out ?_; intro v' W' hap)
        rw [← HGP.out]
        have hbl := HB.out
        have hz := HZ.out
        refine ⟨⟨v', rfl, ?_, fun g hg => ?_⟩, hbl.trans ((hap.below rfl).mono hbl.size)⟩
        · have := hap.own
          rw [Nat.zero_add, List.nil_append, ← hz] at this
          exact this
        · have h5 := hbl.size
          rcases hap.at_ with h4 | h4
          · rw [hg] at h4; simp [Value.ownBlock] at h4
          · rw [hg] at h4; simp at h4; simp at h5; omega
    · have hd2 : (decide (0 ≤ y) && decide (y < (r.ps.length : Int))) = false := by
        rw [← Bool.not_eq_true]; intro h; simp at h; exact hy h
      rw [hd2] at hp
      have hrd := readD_pg hrk hy
      rw [hrd]
      generalize hGP : RdA w none = P
      have HGP : Hid _ := hGP
      obtain ⟨n2, hn2⟩ : ∃ n2, r.ps.length = n2 := ⟨_, rfl⟩
      rw [hn2] at x0 hp
      clear hrd hrk ht hrp hd hd2 hGP hn2 hy hpl htp
      go_enter Tryd.func24, Tryd.ntmps24
      go_wp2_with fail
      refine hh.mono ?_
      rintro e w1 ⟨rfl, hw⟩
      obtain rfl := hw.symm
      go_wp2_with fail
      refine hp.mono ?_
      rintro e w1 ⟨rfl, hw⟩
      obtain rfl := hw.symm
      go_wp2
      rw [← HGP.out]
      exact ⟨⟨.slice none 0 0, rfl, ownV_nil 0 _, fun g hg => by simp [Value.ownBlock] at hg⟩, B0⟩
  · have hd : (decide (0 ≤ x) && decide (x < (n : Int))) = false := by
      rw [← Bool.not_eq_true]; intro h; simp at h; exact hx h
    rw [hd] at hh
    have hrd : readD (bs.map BkR.D) x y = none := readD_bk (by simpa [ht.len] using hx)
    rw [hrd]
    generalize hGP : RdA w none = P
    have HGP : Hid _ := hGP
    clear hrd ht hd hGP hx
    go_enter Tryd.func24, Tryd.ntmps24
    go_wp2_with fail
    refine hh.mono ?_
    rintro e w1 ⟨rfl, hw⟩
    obtain rfl := hw.symm
    go_wp2
    rw [← HGP.out]
    exact ⟨⟨.slice none 0 0, rfl, ownV_nil 0 _, fun g hg => by simp [Value.ownBlock] at hg⟩, B0⟩
end

section
open Go.RowKit
theorem next_put {ps : List PgD} (hu : ∀ (i : Nat) (p : PgD), ps[i]? = some p → p.used = decide (i < nextP ps)) (hn : nextP ps < ps.length) (zs : List Int) : nextP (ps.set (nextP ps) ⟨true, zs⟩) = nextP ps + 1 := by
  obtain ⟨p, hp⟩ : ∃ p, ps[nextP ps]? = some p := ⟨_, List.getElem?_eq_getElem hn⟩
  have hpu : p.used = false := by rw [hu _ p hp]; simp
  obtain ⟨e1, e2⟩ := split_at hp (⟨true, zs⟩ : PgD)
  obtain ⟨m, hm⟩ : ∃ m, nextP ps = m := ⟨_, rfl⟩
  rw [hm] at e1 e2 ⊢
  have h1 : nextP ps = ((ps.take m).filter PgD.used).length + ((ps.drop (m + 1)).filter PgD.used).length := by
    unfold nextP
    conv => lhs; rw [e1]
    rw [List.filter_append, List.length_append, List.filter_cons_of_neg (by rw [hpu]; simp)]
  have h2 : nextP (ps.set m ⟨true, zs⟩) = ((ps.take m).filter PgD.used).length + (((ps.drop (m + 1)).filter PgD.used).length + 1) := by
    unfold nextP
    rw [e2, List.filter_append, List.length_append, List.filter_cons_of_pos (by rfl), List.length_cons]
  omega
theorem ok_page {b : BkD} (h : BkOk b) (hn : nextP b.ps < 8) {zs : List Int} (hz : zs.length ≤ 400) : BkOk ⟨b.ps.set (nextP b.ps) ⟨true, zs⟩, b.wear, b.bad⟩ := by
  have hnp := next_put (fun i p hp => (h.2.2.2 i p hp).2) (by rw [h.1]; exact hn) zs
  refine ⟨by rw [List.length_set]; exact h.1, h.2.1, h.2.2.1, fun i p hp => ?_⟩
  dsimp only at hp ⊢
  rw [hnp]
  rw [List.getElem?_set] at hp
  split at hp
  · rename_i e
    subst e
    split at hp
    · simp at hp
      subst hp
      exact ⟨by simp [pgOk, hz], by simp⟩
    · simp at hp
  · rename_i e
    obtain ⟨h1, h2⟩ := h.2.2.2 i p hp
    refine ⟨h1, ?_⟩
    rw [h2]
    by_cases h3 : i < nextP b.ps
    · rw [decide_eq_true h3, decide_eq_true (by omega)]
    · rw [decide_eq_false h3, decide_eq_false (by omega)]
theorem ok_set {ds : List BkD} {k : Nat} {b : BkD} (h : ChOk ds) (hb : BkOk b) : ChOk (ds.set k b) :=
  ⟨by rw [List.length_set]; exact h.1, by rw [List.length_set]; exact h.2.1, fun d hd => by
    rcases List.mem_or_eq_of_mem_set hd with h1 | h1
    · exact h.2.2 d h1
    · subst h1; exact hb⟩
theorem ok_prog {ds : List BkD} (h : ChOk ds) (x : Int) (zs : List Int) : ChOk (programD true ds x zs) := by
  unfold programD
  split
  · rename_i hc
    unfold codeP at hc
    split at hc
    · omega
    · rename_i h4
      unfold progAt
      split
      · rename_i b hb
        unfold mayD at hc
        split at hc
        · omega
        · rename_i hx
          obtain ⟨k, rfl⟩ : ∃ k : Nat, x = (k : Int) := ⟨x.toNat, by omega⟩
          rw [Int.toNat_natCast] at hb
          simp only [Int.toNat_natCast, hb, Option.map_some, Option.getD_some] at hc
          split at hc
          · omega
          · split at hc
            · omega
            · rename_i h8
              have hnd : nextD ds (k : Int) = (nextP b.ps : Nat) := by unfold nextD; rw [if_pos (by omega)]; simp [hb]
              rw [hnd] at h8
              have hok := h.2.2 b (List.mem_of_getElem? hb)
              have hle := nextP_le b.ps
              rw [hok.1] at hle
              have hlt : nextP b.ps < 8 := by simp at h8; omega
              exact ok_set h (ok_page hok hlt (by omega))
      · exact h
  · exact h
theorem ok_erase {ds : List BkD} (h : ChOk ds) (x : Int) : ChOk (eraseD true ds x) := by
  unfold eraseD
  split
  · rename_i hc
    unfold codeE mayD at hc
    split at hc
    · omega
    · rename_i hx
      obtain ⟨k, rfl⟩ : ∃ k : Nat, x = (k : Int) := ⟨x.toNat, by omega⟩
      split at hc
      · omega
      · split at hc
        · omega
        · rename_i hw
          unfold eraseAt
          split
          · rename_i b hb
            rw [Int.toNat_natCast] at hb ⊢
            have hok := h.2.2 b (List.mem_of_getElem? hb)
            have hww : b.wear < 100000 := by
              unfold wornAt at hw
              simp [hb] at hw
              exact hw
            refine ok_set h ⟨rfl, by have := hok.2.1; dsimp only; omega, by dsimp only; omega, fun i p hp => ?_⟩
            have hp' : (List.replicate 8 (⟨false, []⟩ : PgD))[i]? = some p := hp
            rw [List.getElem?_replicate] at hp'
            split at hp'
            · simp at hp'
              subst hp'
              exact ⟨rfl, by show false = decide (i < 0); simp⟩
            · simp at hp'
          · exact h
  · exact h
theorem ok_new {x : Int} (h : 3 ≤ x ∧ x ≤ 24) : ChOk (newD x) := by
  unfold newD
  rw [if_pos h]
  refine ⟨by simp; omega, by simp; omega, fun b hb => ?_⟩
  rw [List.mem_replicate] at hb
  rw [hb.2]
  refine ⟨rfl, by decide, by decide, fun i p hp => ?_⟩
  have hp' : (List.replicate 8 (⟨false, []⟩ : PgD))[i]? = some p := hp
  rw [List.getElem?_replicate] at hp'
  split at hp'
  · simp at hp'
    subst hp'
    exact ⟨rfl, by show false = decide (i < 0); simp⟩
  · simp at hp'
theorem ok_tot {ds : List BkD} (h : ChOk ds) : totB ds ≤ 1048576 := by
  have hb : ∀ b ∈ ds, totP b.ps ≤ 3208 := fun b hb => by
    have h1 := h.2.2 b hb
    have h2 := totP_bound b.ps (fun p hp => by
      obtain ⟨i, hi⟩ := List.mem_iff_getElem?.1 hp
      have := (h1.2.2.2 i p hi).1
      unfold pgOk at this
      simp at this
      exact this.1)
    rw [h1.1] at h2
    omega
  have h3 := totB_bound ds hb
  have h4 := h.2.1
  omega
/-- One page more. -/
theorem turn_step {ds : List BkD} {k : Nat} {b : BkD} (h : ChOk ds) (hb : ds[k]? = some b) (hbad : b.bad = false) (hn : nextP b.ps < 8) (z : Int) :
    codeP true ds (k : Int) 1 = 0 ∧ programD true ds (k : Int) [z] = ds.set k ⟨b.ps.set (nextP b.ps) ⟨true, [z]⟩, b.wear, b.bad⟩ ∧ readD (ds.set k ⟨b.ps.set (nextP b.ps) ⟨true, [z]⟩, b.wear, b.bad⟩) (k : Int) (nextP b.ps : Nat) = some [z] ∧ nextP (b.ps.set (nextP b.ps) ⟨true, [z]⟩) = nextP b.ps + 1 := by
  have hl := (List.getElem?_eq_some_iff.1 hb).1
  have hok := h.2.2 b (List.mem_of_getElem? hb)
  have hnd : nextD ds (k : Int) = (nextP b.ps : Nat) := by unfold nextD; rw [if_pos (by omega)]; simp [hb]
  have hc : codeP true ds (k : Int) 1 = 0 := by
    unfold codeP
    rw [if_neg (by omega), hnd]
    unfold mayD
    rw [if_neg (by simp; omega)]
    simp only [Int.toNat_natCast, hb, Option.map_some, Option.getD_some, hbad]
    rw [if_neg (by simp), if_neg (by simp; omega)]
  refine ⟨hc, ?_, ?_, next_put (fun i p hp => (hok.2.2.2 i p hp).2) (by rw [hok.1]; exact hn) _⟩
  · unfold programD
    rw [show ([z] : List Int).length = 1 from rfl, if_pos hc]
    unfold progAt
    rw [Int.toNat_natCast, hb]
  · unfold readD
    rw [if_pos (by omega)]
    simp only [Int.toNat_natCast]
    rw [List.getElem?_set_self hl]
    dsimp only
    rw [List.getElem?_set_self (by rw [hok.1]; exact hn)]
    rfl
/-- At the end. -/
theorem turn_end {ds : List BkD} {k : Nat} {b : BkD} (hb : ds[k]? = some b) (hx : b.bad = true ∨ nextP b.ps = 8) : codeP true ds (k : Int) 1 = if b.bad then 2 else 5 := by
  have hl := (List.getElem?_eq_some_iff.1 hb).1
  have hnd : nextD ds (k : Int) = (nextP b.ps : Nat) := by unfold nextD; rw [if_pos (by omega)]; simp [hb]
  unfold codeP
  rw [if_neg (by omega), hnd]
  unfold mayD
  rw [if_neg (by simp; omega)]
  simp only [Int.toNat_natCast, hb, Option.map_some, Option.getD_some]
  cases hbb : b.bad with
  | true => simp
  | false =>
    have h8 : nextP b.ps = 8 := by
      rcases hx with h1 | h1
      · rw [hbb] at h1; simp at h1
      · exact h1
    simp [h8]
end

section
open Go.RowKit
theorem i64_and255 (n : Int) : bits .and .i64 n 255 = n % 256 := by
  have h255 : (BitVec.ofInt 64 255).toNat = 2 ^ 8 - 1 := by decide
  have key : (BitVec.ofInt 64 n &&& BitVec.ofInt 64 255).toNat = (n % ((2 ^ 64 : Nat) : Int)).toNat % 2 ^ 8 := by
    rw [BitVec.toNat_and, BitVec.toNat_ofInt, h255, Nat.and_two_pow_sub_one_eq_mod]
  show IntKind.i64.wrap ((BitVec.ofInt 64 n &&& BitVec.ofInt 64 255).toNat : Nat) = n % 256
  rw [key, IntKind.wrap_i64]
  omega
/-- The cursor gc over the slice (a, n, cap). -/
def Cur (w : World) (gc : Nat) (a : Option Addr) (n cap : Nat) : Prop :=
  ∃ (i : Nat) (h : Int), i ≤ n ∧ w.heap[gc]? = some (.cells #[.slice a n cap, .int .i64 i, .int .i64 h] 98 (0, 0))
theorem Cur.kept {w w' : World} {gc n cap g : Nat} {a : Option Addr} (h : Cur w gc a n cap) (hg : w.grownBy w' (some g)) (hne : gc ≠ g) : Cur w' gc a n cap := by
  obtain ⟨i, hh, hi, hb⟩ := h
  exact ⟨i, hh, hi, by rw [hg.block gc (Array.getElem?_eq_some_iff.1 hb).1 (by simpa using hne)]; exact hb⟩
theorem Cur.keep {w w' : World} {gc n cap B : Nat} {a : Option Addr} (h : Cur w gc a n cap) (hb : Below B w w') (hg : gc < B) : Cur w' gc a n cap := by
  obtain ⟨i, hh, hi, hbk⟩ := h
  exact ⟨i, hh, hi, by rw [hb.block gc hg]; exact hbk⟩
theorem Cur.lt {w : World} {gc n cap : Nat} {a : Option Addr} (h : Cur w gc a n cap) : gc < w.heap.size := by
  obtain ⟨i, hh, hi, hb⟩ := h
  exact (Array.getElem?_eq_some_iff.1 hb).1
theorem cur_set2 {w : World} {gc : Nat} {v0 v1 v2 v : Value} {e : TypeId} (hb : w.heap[gc]? = some (.cells #[v0, v1, v2] e (0, 0))) : (w.setCell ⟨gc, 2, none⟩ v).heap[gc]? = some (.cells #[v0, v1, v] e (0, 0)) := heap_setCell_same w gc 2 _ e v hb
theorem cur_set1 {w : World} {gc : Nat} {v0 v1 v2 v : Value} {e : TypeId} (hb : w.heap[gc]? = some (.cells #[v0, v1, v2] e (0, 0))) : (w.setCell ⟨gc, 1, none⟩ v).heap[gc]? = some (.cells #[v0, v, v2] e (0, 0)) := heap_setCell_same w gc 1 _ e v hb
theorem gr_set (w : World) (gc j : Nat) (v : Value) : w.grownBy (w.setCell ⟨gc, j, none⟩ v) (some gc) :=
  ⟨rfl, rfl, rfl, by simp [World.setCell], fun k _ hk => heap_setCell_other w ⟨gc, j, none⟩ k v (fun e => hk (by simp [e]))⟩
theorem gr_drewN {w w' : World} {r : Option Nat} (h : w.grownBy w' r) (n : Nat) : w.grownBy (w'.drewN n) r := ⟨h.os, h.tape, h.output, h.size, h.block⟩
set_option maxHeartbeats 800000 in
theorem l1Byte_any (gc n cap : Nat) (a : Option Addr) (zs : List Int) (w : World) (hn : zs.length = n) (hs : n ≤ 4000000) (hc : Cur w gc a n cap) (hr : Rd w a zs) (hby : Byt zs) (hne : zs ≠ [] → ∀ b off, a = some ⟨b, off, none⟩ → b ≠ gc) :
    Calls Tryd.prog 74 #[.pointer (some ⟨gc, 0, none⟩)] w fun e w' => ∃ x : Nat, e = .returned (.int .i64 x) ∧ x ≤ 255 ∧ Cur w' gc a n cap ∧ w.grownBy w' (some gc) := by
  obtain ⟨i, h, hi, hb⟩ := hc
  have c0 : w.cell? ⟨gc, 0, none⟩ = some (.slice a n cap) := by rw [cell_of_row w gc 0 _ 98 (0, 0) hb]; rfl
  have c1 : w.cell? ⟨gc, 1, none⟩ = some (.int .i64 i) := by rw [cell_of_row w gc 1 _ 98 (0, 0) hb]; rfl
  have c2 : w.cell? ⟨gc, 2, none⟩ = some (.int .i64 h) := by rw [cell_of_row w gc 2 _ 98 (0, 0) hb]; rfl
  have f1 := frozen_of_row w gc 1 _ 98 hb
  have f2 := frozen_of_row w gc 2 _ 98 hb
  have h255 := i64_and255
  have HB : Hid (w.heap[gc]? = some (.cells #[.slice a n cap, .int .i64 i, .int .i64 h] 98 (0, 0))) := hb
  clear hb
  by_cases hin : i < n
  · have hin' : (i : Int) < (n : Int) := by omega
    obtain ⟨b, off, rfl, hlt, hcl⟩ := hr.lt (by intro h; subst h; simp at hn; omega)
    have hcx := hcl i (by omega)
    obtain ⟨Z, hZ, hZ1⟩ := byt_at hby i
    rw [hZ] at hcx
    have hbn := hne (by intro h; subst h; simp at hn; omega) b off rfl
    clear hZ hn hr hne hcl
    go_enter Tryd.func74, Tryd.ntmps74
    go_wp2
    go_quiet (fail)
    go_wp2
    go_quiet (fail)
    go_wp2
    go_quiet (fail)
    go_wp2
    go_ret
    refine ⟨_, ret_int (Int.toNat_of_nonneg (Int.emod_nonneg _ (by omega))).symm, by omega, ?_, ?_⟩
    · exact ⟨i + 1, _, by omega, cur_set1 (cur_set2 HB.out)⟩
    · exact gr_drewN ((gr_set w gc 2 _).trans (gr_set _ gc 1 _)) _
  · have hin' : ¬ (i : Int) < (n : Int) := by omega
    go_enter Tryd.func74, Tryd.ntmps74
    go_wp2
    go_quiet (fail)
    go_wp2
    go_quiet (fail)
    go_wp2
    go_ret
    refine ⟨_, ret_int (Int.toNat_of_nonneg (Int.emod_nonneg _ (by omega))).symm, by omega, ?_, ?_⟩
    · exact ⟨i, _, hi, cur_set2 HB.out⟩
    · exact gr_drewN (gr_drewN (gr_set w gc 2 _) _) _
theorem Rd.kept {w w' : World} {a : Option Addr} {zs : List Int} {g : Nat} (h : Rd w a zs) (hg : w.grownBy w' (some g)) (hne : zs ≠ [] → ∀ b off, a = some ⟨b, off, none⟩ → b ≠ g) : Rd w' a zs := by
  by_cases hz : zs = []
  · exact .inl hz
  · obtain ⟨b, off, rfl, hlt, hc⟩ := h.lt hz
    refine .inr ⟨b, off, rfl, fun i hi => ?_⟩
    have := hne hz b off rfl
    exact hg.cell (hc i hi) (by simpa using this)
/-- What a step of the cursor needs: the cursor, and the bytes that it reads, apart from it. -/
structure Src (w : World) (gc n cap : Nat) (a : Option Addr) (zs : List Int) : Prop where
  len : zs.length = n
  small : n ≤ 1048576
  cur : Cur w gc a n cap
  rd : Rd w a zs
  byt : Byt zs
  ne : zs ≠ [] → ∀ b off, a = some ⟨b, off, none⟩ → b < gc
theorem Src.step {w w' : World} {gc n cap : Nat} {a : Option Addr} {zs : List Int} (h : Src w gc n cap a zs) (hc : Cur w' gc a n cap) (hg : w.grownBy w' (some gc)) : Src w' gc n cap a zs :=
  ⟨h.len, h.small, hc, h.rd.kept hg (fun hz b off e => Nat.ne_of_lt (h.ne hz b off e)), h.byt, h.ne⟩
theorem Src.keep {w w' : World} {gc n cap : Nat} {a : Option Addr} {zs : List Int} (h : Src w gc n cap a zs) (hb : Below w.heap.size w w') : Src w' gc n cap a zs :=
  ⟨h.len, h.small, h.cur.keep hb h.cur.lt, h.rd.keep hb, h.byt, h.ne⟩
theorem byte_step (gc n cap : Nat) (a : Option Addr) (zs : List Int) (w : World) (h : Src w gc n cap a zs) :
    Calls Tryd.prog 74 #[.pointer (some ⟨gc, 0, none⟩)] w fun e w' => ∃ x : Nat, e = .returned (.int .i64 x) ∧ x ≤ 255 ∧ Src w' gc n cap a zs ∧ w.grownBy w' (some gc) :=
  (l1Byte_any gc n cap a zs w h.len (by have := h.small; omega) h.cur h.rd h.byt (fun hz b off e => Nat.ne_of_lt (h.ne hz b off e))).mono fun _ _ ⟨x, he, hx, hc, hg⟩ => ⟨x, he, hx, h.step hc hg, hg⟩
set_option maxHeartbeats 800000 in
theorem below_step (gc n cap : Nat) (a : Option Addr) (zs : List Int) (m : Nat) (w : World) (h : Src w gc n cap a zs) (hm : 1 ≤ m) (hm2 : m ≤ 10000000) :
    Calls Tryd.prog 47 #[.pointer (some ⟨gc, 0, none⟩), .int .i64 m] w fun e w' => ∃ x : Nat, e = .returned (.int .i64 x) ∧ x < m ∧ Src w' gc n cap a zs ∧ w.grownBy w' (some gc) := by
  have h1 : ¬ (m : Int) ≤ 0 := by omega
  by_cases h2 : m ≤ 256
  · have h2' : (m : Int) ≤ 256 := by omega
    go_enter Tryd.func47, Tryd.ntmps47
    go_wp2_with fail
    refine (byte_step gc n cap a zs w h).mono ?_
    rintro e w1 ⟨x, rfl, hx, hs1, hg1⟩
    go_wp2
    go_ret
    exact ⟨x % m, ret_int (by omega), Nat.mod_lt _ (by omega), hs1, hg1⟩
  · have h2' : ¬ (m : Int) ≤ 256 := by omega
    go_enter Tryd.func47, Tryd.ntmps47
    go_wp2_with fail
    refine (byte_step gc n cap a zs w h).mono ?_
    rintro e w1 ⟨x, rfl, hx, hs1, hg1⟩
    go_wp2_with fail
    refine (byte_step gc n cap a zs w1 hs1).mono ?_
    rintro e w2 ⟨y, rfl, hy, hs2, hg2⟩
    go_wp2_with fail
    refine (byte_step gc n cap a zs w2 hs2).mono ?_
    rintro e w3 ⟨z, rfl, hz, hs3, hg3⟩
    go_wp2
    go_ret
    exact ⟨(x * 65536 + y * 256 + z) % m, ret_int (by simp), Nat.mod_lt _ (by omega), hs3, (hg1.trans hg2).trans hg3⟩
set_option maxHeartbeats 800000 in
theorem int_step (gc n cap : Nat) (a : Option Addr) (zs : List Int) (gl L : Nat) (vs : List Int) (w : World) (h : Src w gc n cap a zs) (hL : vs.length = L) (hL1 : 1 ≤ L) (hL2 : L ≤ 256) (hne : gl ≠ gc)
    (hv : ∀ j, j < L → w.cell? ⟨gl, j, none⟩ = some (.int .i64 (vs.getD j 0))) :
    Calls Tryd.prog 73 #[.pointer (some ⟨gc, 0, none⟩), .slice (some ⟨gl, 0, none⟩) L L] w fun e w' => ∃ k : Nat, e = .returned (.int .i64 (vs.getD k 0)) ∧ k < L ∧ Src w' gc n cap a zs ∧ w.grownBy w' (some gc) := by
  have hL' : Hid (vs.length = L) := hL
  clear hL
  go_enter Tryd.func73, Tryd.ntmps73
  go_wp2_with fail
  refine (below_step gc n cap a zs L w h hL1 (by omega)).mono ?_
  rintro e w1 ⟨x, rfl, hx, hs1, hg1⟩
  have hcx := hg1.cell (hv x hx) (by simpa using hne)
  have hx1 : (x : Int) < (L : Int) := by omega
  go_wp2
  go_ret
  exact ⟨x, by simp, hx, hs1, hg1⟩
theorem Byt.snoc {ys : List Int} {x : Nat} (h : Byt ys) (hx : x ≤ 255) : Byt (ys ++ [(x : Int)]) := by
  intro z hz
  simp only [List.mem_append, List.mem_cons, List.not_mem_nil, or_false] at hz
  rcases hz with hz | hz
  · exact h z hz
  · omega
theorem gr_mono {w wr w' : World} {g0 g : Nat} (h : w.grownBy wr (some g0)) (hg : g = g0 ∨ w.heap.size ≤ g) (k : wr.grownBy w' (some g)) : w.grownBy w' (some g0) := by
  refine ⟨k.os.trans h.os, k.tape.trans h.tape, k.output.trans h.output, Nat.le_trans h.size k.size, fun i hi hne => ?_⟩
  rw [k.block i (by have := h.size; omega) (by intro e; simp at e; rcases hg with hg | hg <;> (try subst hg) <;> first | omega | exact hne (by rw [e])), h.block i hi hne]
theorem Src.alloc {w : World} {gc n cap : Nat} {a : Option Addr} {zs : List Int} (h : Src w gc n cap a zs) (o : Obj) : Src (w.alloc o) gc n cap a zs := h.keep ((Below.refl _ _).alloc (Nat.le_refl _) o)
theorem Src.other {w w' : World} {gc n cap g : Nat} {a : Option Addr} {zs : List Int} (h : Src w gc n cap a zs) (hg : w.grownBy w' (some g)) (h1 : gc < g) : Src w' gc n cap a zs :=
  ⟨h.len, h.small, h.cur.kept hg (Nat.ne_of_lt h1), h.rd.kept hg (fun hz b off e => Nat.ne_of_lt (Nat.lt_trans (h.ne hz b off e) h1)), h.byt, h.ne⟩
theorem Src.drew {w : World} {gc n cap : Nat} {a : Option Addr} {zs : List Int} (h : Src w gc n cap a zs) : Src w.drew gc n cap a zs := h.keep (Below.refl _ _).drew
set_option maxHeartbeats 800000 in
theorem bytes_step (gc n cap : Nat) (a : Option Addr) (zs : List Int) (m : Nat) (w : World) (h : Src w gc n cap a zs) (hm : m ≤ 1000000) :
    Calls Tryd.prog 72 #[.pointer (some ⟨gc, 0, none⟩), .int .i64 m] w fun e w' => ∃ (g c : Nat) (ys : List Int), e = .returned (.slice (some ⟨g, 0, none⟩) m c) ∧ w.heap.size ≤ g ∧ Byt ys ∧ Own w' g m c ys ∧ Src w' gc n cap a zs ∧ w.grownBy w' (some gc) := by
  have hgc := h.cur.lt
  go_enter Tryd.func72, Tryd.ntmps72
  go_wp2
  go_loopw [5, 6] (fun v i wr => ∃ (k g c : Nat) (ys : List Int), k ≤ m ∧ i = .int .i64 k ∧ v = .slice (some ⟨g, 0, none⟩) k c ∧ w.heap.size ≤ g ∧ Byt ys ∧ Own wr g k c ys ∧ Src wr gc n cap a zs ∧ w.grownBy wr (some gc)) (fun _ i _ => m - (intOf i).toNat)
  case atStart => exact ⟨0, w.heap.size, 0, [], Nat.zero_le _, rfl, rfl, Nat.le_refl _, by intro z hz; simp at hz, own_empty w, h.alloc _, World.grownBy_alloc w _ _⟩
  case round =>
    obtain ⟨k, g, c, ys, hk, rfl, rfl, hg, hby, ho, hs1, hgr⟩ := hrel
    by_cases hkm : k < m
    · go_wp2_with fail
      refine (byte_step gc n cap a zs wr hs1).mono ?_
      rintro e w1 ⟨x, rfl, hx, hs2, hg2⟩
      have ho2 := ho.kept hg2 (by omega)
      have hgr2 := hgr.trans hg2
      clear ho hs1 hgr hg2
      go_wp2_with (at_builtin; refine wpList_app _ rfl (.tmp 13) (.tmp 17) rfl g k c ys rfl (World.ownsRow.alloc ho2 _) ⟨w1.heap.size, 0, none⟩ 1 1 [(x : Int)] rfl rfl (one_news w1 _) (by omega) (w1.heap.size + 1) (by simp) ?_; intro g3 c3 w3 ho3 hg3 ha3)
      go_roundw
      case rel =>
        have hsz := hgr2.size
        exact ⟨k + 1, g3, c3, ys ++ [(x : Int)], by omega, by go_num, rfl, by omega, hby.snoc hx, ho3, (hs2.alloc _).other hg3 (by omega), gr_mono (gr_mono hgr2 (.inl rfl) (World.grownBy_alloc w1 _ _)) (.inr hg) hg3⟩
      case measure => simp [intOf]; omega
    · go_wp2
      go_ret
      obtain rfl : k = m := by omega
      exact ⟨g, c, ys, rfl, hg, hby, ho, hs1, hgr⟩
theorem Rd.at {w : World} {a : Option Addr} {zs : List Int} (h : Rd w a zs) : zs ≠ [] → ∀ b off, a = some ⟨b, off, none⟩ → b < w.heap.size := by
  intro hz b off e
  obtain ⟨b', off', e', hlt, _⟩ := h.lt hz
  rw [e] at e'
  simp at e'
  omega
set_option maxHeartbeats 800000 in
theorem new_step (a : Option Addr) (n cap : Nat) (zs : List Int) (w : World) (hn : zs.length = n) (hs : n ≤ 1048576) (hr : Rd w a zs) (hb : Byt zs) :
    Calls Tryd.prog 44 #[.slice a n cap] w fun e w' => e = .returned (.pointer (some ⟨w.heap.size, 0, none⟩)) ∧ Src w' w.heap.size n cap a zs ∧ Below w.heap.size w w' := by
  have hlt := hr.at
  have hn' : Hid (zs.length = n) := hn
  clear hn
  have hcx : ∀ k, k < n → ∃ b off, ∃ Z : Nat, a = some ⟨b, off, none⟩ ∧ w.cell? ⟨b, off + k, none⟩ = some (.int .u8 Z) := by
    intro k hk
    obtain ⟨b, off, e, _, hc⟩ := hr.lt (by intro h; have := hn'.out; subst h; simp at this; omega)
    obtain ⟨Z, hZ, _⟩ := byt_at hb k
    exact ⟨b, off, Z, e, by rw [hc k (by rw [hn'.out]; exact hk), hZ]⟩
  have fin : ∀ h : Int, Src (w.alloc (.cells #[.slice a n cap, .int .i64 0, .int .i64 h] 98)) w.heap.size n cap a zs ∧ Below w.heap.size w (w.alloc (.cells #[.slice a n cap, .int .i64 0, .int .i64 h] 98)) := by
    intro h
    have hB := (Below.refl w.heap.size w).alloc (Nat.le_refl _) (.cells #[.slice a n cap, .int .i64 0, .int .i64 h] 98)
    exact ⟨⟨hn'.out, hs, ⟨0, h, Nat.zero_le _, heap_alloc_new w _⟩, hr.keep hB, hb, fun hz b off e => by have := hlt hz b off e; omega⟩, hB⟩
  have Fin := fin
  by_cases h0 : n = 0
  · subst h0
    go_enter Tryd.func44, Tryd.ntmps44
    go_wp2
    refine wp_loop_rounds 1 ?_; rw [rounds_succ]
    go_wp2
    go_ret
    exact ⟨rfl, fin _⟩
  · obtain ⟨b, off, _, rfl, _⟩ := hcx 0 (by omega)
    have hcy : ∀ k, k < n → ∃ Z : Nat, w.cell? ⟨b, off + k, none⟩ = some (.int .u8 Z) := by
      intro k hk
      obtain ⟨b', off', Z, e, hc⟩ := hcx k hk
      simp only [Option.some.injEq, Addr.mk.injEq, and_true] at e
      obtain ⟨rfl, rfl⟩ := e
      exact ⟨Z, hc⟩
    have HC : Hid (∀ k, k < n → ∃ Z : Nat, w.cell? ⟨b, off + k, none⟩ = some (.int .u8 Z)) := hcy
    have HF : Hid (∀ h : Int, Src (w.alloc (.cells #[.slice (some ⟨b, off, none⟩) n cap, .int .i64 0, .int .i64 h] 98)) w.heap.size n cap (some ⟨b, off, none⟩) zs ∧ Below w.heap.size w (w.alloc (.cells #[.slice (some ⟨b, off, none⟩) n cap, .int .i64 0, .int .i64 h] 98))) := fin
    clear hcx hcy fin Fin hlt
    go_enter Tryd.func44, Tryd.ntmps44
    go_wp2
    go_loop [3, 4] (fun x i => ∃ (k : Nat) (h : Int), k ≤ n ∧ i = .int .i64 k ∧ x = .int .i64 h) (fun _ i => n - (intOf i).toNat)
    case atStart => exact ⟨0, _, Nat.zero_le _, rfl, rfl⟩
    case round =>
      obtain ⟨k, h, hk, rfl, rfl⟩ := hrel
      by_cases hkn : k < n
      · have hkn' : (k : Int) < (n : Int) := by omega
        by_cases hk4 : k < 4000
        · have hk4' : (k : Int) < 4000 := by omega
          obtain ⟨Z, hcx⟩ := HC.out k hkn
          go_wp2
          go_round
          case rel => exact ⟨k + 1, _, by omega, by go_num, rfl⟩
          case measure => simp [intOf]; omega
        · have hk4' : ¬ (k : Int) < 4000 := by omega
          go_wp2
          go_ret
          exact ⟨rfl, HF.out _⟩
      · have hkn' : ¬ (k : Int) < (n : Int) := by omega
        go_wp2
        go_ret
        exact ⟨rfl, HF.out _⟩
theorem ints_cells (w : World) (vs : List Int) (t : TypeId) : ∀ j, j < vs.length → (w.alloc (.cells (vs.map (Value.int .i64)).toArray t)).cell? ⟨w.heap.size, j, none⟩ = some (.int .i64 (vs.getD j 0)) := by
  intro j hj
  rw [cell_of_row _ w.heap.size j _ t (0, 0) (heap_alloc_new w _)]
  simp [hj]
set_option maxHeartbeats 800000 in
theorem some_step (gc n cap : Nat) (a : Option Addr) (zs : List Int) (w : World) (h : Src w gc n cap a zs) :
    Calls Tryd.prog 45 #[.pointer (some ⟨gc, 0, none⟩)] w fun e w' => ∃ (g m c : Nat) (ys : List Int), e = .returned (.slice (some ⟨g, 0, none⟩) m c) ∧ m ≤ 9 ∧ w.heap.size ≤ g ∧ Byt ys ∧ Own w' g m c ys ∧ Src w' gc n cap a zs ∧ w.grownBy w' (some gc) := by
  have hgc := h.cur.lt
  have hcells := ints_cells w [0, 1, 2, 5, 9] 3
  have hcl : Hid (∀ j, j < 5 → (w.alloc (.cells #[.int .i64 0, .int .i64 1, .int .i64 2, .int .i64 5, .int .i64 9] 3)).cell? ⟨w.heap.size, j, none⟩ = some (.int .i64 (([0, 1, 2, 5, 9] : List Int).getD j 0))) := hcells
  clear hcells
  go_enter Tryd.func45, Tryd.ntmps45
  go_wp2_with fail
  refine (int_step gc n cap a zs w.heap.size 5 [0, 1, 2, 5, 9] _ (h.alloc _) rfl (by omega) (by omega) (by omega) hcl.out).mono ?_
  rintro e w1 ⟨k, rfl, hk, hs1, hg1⟩
  obtain ⟨m, hm, hm9⟩ : ∃ m : Nat, ([0, 1, 2, 5, 9] : List Int).getD k 0 = (m : Int) ∧ m ≤ 9 := by
    rcases (show k = 0 ∨ k = 1 ∨ k = 2 ∨ k = 3 ∨ k = 4 by omega) with rfl | rfl | rfl | rfl | rfl
    · exact ⟨0, rfl, by omega⟩
    · exact ⟨1, rfl, by omega⟩
    · exact ⟨2, rfl, by omega⟩
    · exact ⟨5, rfl, by omega⟩
    · exact ⟨9, rfl, by omega⟩
  rw [hm]
  clear hm
  go_wp2_with fail
  have hsz := hg1.size
  simp only [World.size_alloc] at hsz
  refine (bytes_step gc n cap a zs m _ hs1 (by omega)).mono ?_
  rintro e w2 ⟨g, c, ys, rfl, hg, hby, ho, hs2, hg2⟩
  go_wp2
  go_ret
  exact ⟨g, m, c, ys, rfl, hm9, by omega, hby, ho, hs2, (gr_mono (World.grownBy_alloc w _ _) (.inl rfl) hg1).trans hg2⟩
end

section
open Go.RowKit
set_option maxHeartbeats 400000 in
theorem once_step (gc n cap : Nat) (a : Option Addr) (zs : List Int) (m : Nat) (w : World) (h : Src w gc n cap a zs) (hm : 1 ≤ m) (hm2 : m ≤ 10000000) :
    Calls Tryd.prog 46 #[.pointer (some ⟨gc, 0, none⟩), .int .i64 m] w fun e w' => ∃ B : Bool, e = .returned (.bool B) ∧ Src w' gc n cap a zs ∧ w.grownBy w' (some gc) := by
  go_enter Tryd.func46, Tryd.ntmps46
  go_wp2_with fail
  refine (below_step gc n cap a zs m w h hm hm2).mono ?_
  rintro e w1 ⟨x, rfl, hx, hs1, hg1⟩
  go_wp2
  go_ret
  exact ⟨_, rfl, hs1, hg1⟩
end

section
open Go.RowKit
theorem RdE.news {α : Type} {E : El α} {rd : α → Prop} {W : World} {a : Option Addr} {rs : List α} (h : RdE E rd W a rs) : rs = [] ∨ ∃ ad, a = some ad ∧ ∀ j u, (E.xv rs)[j]? = some u → W.cell? (ad.add j) = some u := by
  rcases h with h | ⟨b, off, rfl, hc⟩
  · exact .inl h
  · refine .inr ⟨_, rfl, fun j u hj => ?_⟩
    have hp := E.pos
    have hl : j < rs.length * E.k := by
      have := (List.getElem?_eq_some_iff.1 hj).1
      rw [E.xv_length] at this
      exact this
    have hi : j / E.k < rs.length := (Nat.div_lt_iff_lt_mul hp).2 hl
    have hr : rs[j / E.k]? = some rs[j / E.k] := List.getElem?_eq_getElem hi
    have hm : j % E.k < E.k := Nat.mod_lt _ hp
    have hjj : j / E.k * E.k + j % E.k = j := by rw [Nat.mul_comm]; exact Nat.div_add_mod j E.k
    have h1 := (hc _ _ hr).1 _ hm
    rw [Nat.add_assoc, hjj] at h1
    have h2 := E.xv_at rs _ _ _ hr hm
    rw [hjj] at h2
    rw [show (⟨b, off, none⟩ : Addr).add j = ⟨b, off + j, none⟩ by simp [Addr.add], h1, ← h2]
    exact hj
end

section
open Go.RowKit
theorem FO.other {w0 wr w' : World} {F G n X : Nat} {ks : List FkR} (h : FO w0 wr F G n ks) (hs : Sv [X] wr w') (hX : w0.heap.size ≤ X) (hf : X ≠ F) (hg : X ≠ G) : FO w0 w' F G n ks :=
  ⟨Below.svs h.bel hs (fun g hg => by simp at hg; omega) (Nat.le_refl _), Blk.svs h.f hs (by simp; omega), h.g.block fun j hj => by
    simp [Value.ownBlock] at hj
    subst hj
    exact hs.block _ (h.g.lt (g := G) rfl) (by simp; omega), h.fn, h.gn, h.ne⟩
end

section
open Go.RowKit
theorem NewBs.cr {w : World} {B n c : Nat} {a : Option Addr} {ds : List BkD} {qs : List BkR} (h : NewBs w B (.slice a n c) ds qs) (hl : qs.length = n) (ht : totB ds ≤ 1048576) : CR w a n qs := ⟨hl, by rw [h.D]; exact ht, h.rd⟩
end

section
open Go.RowKit
/-- What a changed block takes. -/
theorem fp_put {v : Value} {qs : List BkR} {k S : Nat} {q q' : BkR} (hk : qs[k]? = some q) (h : ∀ g ∈ fpPs q'.v q'.ps, g ∈ fpPs q.v q.ps ∨ S ≤ g) : ∀ g ∈ fpBs v (qs.set k q'), g ∈ fpBs v qs ∨ S ≤ g := fun g hg => by
  rcases List.mem_append.1 hg with h1 | h1
  · exact .inl (List.mem_append_left _ h1)
  · obtain ⟨y, hy, hyf⟩ := List.mem_flatMap.1 h1
    rcases mem_set hy with rfl | ⟨i, _, hyi⟩
    · rcases h g hyf with h2 | h2
      · exact .inl (fpBs_bk (List.mem_of_getElem? hk) h2)
      · exact .inr h2
    · exact .inl (fpBs_bk (List.mem_of_getElem? hyi) hyf)
/-- The block k turned bad. -/
theorem NewBs.bad {W : World} {B g n c k : Nat} {ds : List BkD} {bs : List BkR} {b : BkR} (h : NewBs W B (.slice (some ⟨g, 0, none⟩) n c) ds bs) (hn : bs.length = n) (hb : bs[k]? = some b) (y : Bool) :
    NewBs (W.setCell ⟨g, k * 3 + 2, none⟩ (.bool y)) B (.slice (some ⟨g, 0, none⟩) n c) (ds.set k ⟨b.ps.map PgR.D, b.wear, y⟩) (bs.set k ⟨b.a, b.cap, b.ps, b.wear, y⟩) := by
  have hr := h.row
  have hset : ∀ j, j ≠ g → (W.setCell ⟨g, k * 3 + 2, none⟩ (.bool y)).heap[j]? = W.heap[j]? := fun j hj => Below.heap_setCell _ _ _ _ hj
  have hown : OwnE bkE 50 W (.slice (some ⟨g, 0, none⟩) n c) n bs := by have := h.own.1; rw [hn] at this; exact this
  have s := hown.set k 2 b ⟨b.a, b.cap, b.ps, b.wear, y⟩ (.bool y) hb (by decide) rfl
  have hfx : ∀ j ∈ bkK.fps bs, j ≠ g := fun j hj e => by subst e; exact hr.1 hj
  have hbm : b ∈ bs := List.mem_of_getElem? hb
  have hin := h.inn.put (w' := W.setCell ⟨g, k * 3 + 2, none⟩ (.bool y)) (S := W.heap.size) (q := (⟨b.a, b.cap, b.ps, b.wear, y⟩ : BkR)) hb (fun j hj => h.inn.lt j hj) (by have := h.own.lt g (fpBs_row rfl); have := hr.2; omega) (by
      show OwnPs _ b.v b.ps
      exact (h.own.2 b hbm).block fun j hj => hset j (hfx j (List.mem_flatMap.2 ⟨b, hbm, hj⟩))) (fun j hj => .inl hj) (show (fpPs b.v b.ps).Nodup from flat_nodup' (f := bkK.fp) h.inn.nd hbm) (fun j hj _ => hset j (hfx j hj))
  refine hin.newBs (by rw [List.length_set, hn]; exact s) (Nat.le_refl _) (fun j hj => ?_)
  simp [Value.ownBlock] at hj
  subst hj
  refine ⟨hr.2, fun hf => ?_⟩
  obtain ⟨x, hx, hxf⟩ := List.mem_flatMap.1 hf
  rcases mem_set hx with rfl | ⟨j, hj, hxj⟩
  · exact hr.1 (List.mem_flatMap.2 ⟨b, hbm, hxf⟩)
  · exact hr.1 (List.mem_flatMap.2 ⟨x, List.mem_of_getElem? hxj, hxf⟩)
end

section
open Go.RowKit
/-- A drawn chip in its box X. -/
structure DC (w0 wr : World) (X : Nat) (ds : List BkD) (va : Option Addr) (vn vc : Nat) (qs : List BkR) : Prop where
  bs : NewBs wr w0.heap.size (.slice va vn vc) ds qs
  n : qs.length = vn
  ok : ChOk ds
  x : Blk wr X 29 #[.slice va vn vc]
  xf : X ∉ fpBs (.slice va vn vc) qs
  xn : w0.heap.size ≤ X
theorem DC.svs {w0 wr w' : World} {X g : Nat} {ds : List BkD} {va : Option Addr} {vn vc : Nat} {qs : List BkR} (h : DC w0 wr X ds va vn vc qs) (hs : Sv [g] wr w') (hg : g < w0.heap.size) : DC w0 w' X ds va vn vc qs :=
  ⟨h.bs.svs hs (fun j hj hf => by have := h.bs.new j hj; simp at hf; omega), h.n, h.ok, Blk.svs h.x hs (by have := h.xn; simp; omega), h.xf, h.xn⟩
theorem DC.keep {w0 wr w' : World} {X : Nat} {ds : List BkD} {va : Option Addr} {vn vc : Nat} {qs : List BkR} (h : DC w0 wr X ds va vn vc qs) (hb : Below wr.heap.size wr w') : DC w0 w' X ds va vn vc qs := ⟨h.bs.keep hb, h.n, h.ok, h.x.keep hb, h.xf, h.xn⟩
theorem DC.len {w0 wr : World} {X : Nat} {ds : List BkD} {va : Option Addr} {vn vc : Nat} {qs : List BkR} (h : DC w0 wr X ds va vn vc qs) : ds.length = vn := by rw [← h.bs.len, h.n]
theorem DC.cr {w0 wr : World} {X : Nat} {ds : List BkD} {va : Option Addr} {vn vc : Nat} {qs : List BkR} (h : DC w0 wr X ds va vn vc qs) : CR wr va vn qs := ⟨h.n, by rw [h.bs.D]; exact ok_tot h.ok, h.bs.rd⟩
theorem DC.some {w0 wr : World} {X : Nat} {ds : List BkD} {va : Option Addr} {vn vc : Nat} {qs : List BkR} (h : DC w0 wr X ds va vn vc qs) : ∃ g, va = .some ⟨g, 0, none⟩ := by
  rcases (show OwnE bkE 50 wr (.slice va vn vc) qs.length qs from h.bs.own.1).cases with ⟨_, _, h0⟩ | ⟨g, c, h0, _⟩
  · have := h.len
    have h1 := h.ok.1
    have h2 := h.n
    rw [h0] at h2
    simp at h2
    omega
  · simp only [Value.slice.injEq] at h0
    exact ⟨g, h0.1⟩
/-- The cells of the block k. -/
theorem DC.bk {w0 wr : World} {X g : Nat} {ds : List BkD} {vn vc : Nat} {qs : List BkR} (h : DC w0 wr X ds (Option.some ⟨g, 0, none⟩) vn vc qs) (k : Nat) (hk : k < vn) : ∃ b, qs[k]? = Option.some b ∧ wr.cell? ⟨g, k * 3 + 2, none⟩ = Option.some (.bool b.bad) ∧ wr.frozen? ⟨g, k * 3 + 2, none⟩ = false ∧ wr.cell? ⟨X, 0, none⟩ = Option.some (.slice (Option.some ⟨g, 0, none⟩) vn vc) := by
  have hOw : OwnE bkE 50 wr (.slice (Option.some ⟨g, 0, none⟩) vn vc) vn qs := by
    have := h.bs.own.1
    rw [h.n] at this
    exact this
  have x0 := h.x.cell 0
  simp at x0
  exact ⟨_, List.getElem?_eq_getElem (by have := h.n; omega), hOw.cell k 2 _ (List.getElem?_eq_getElem (by have := h.n; omega)) (by decide), hOw.frozen (k * 3 + 2), x0⟩
/-- Another chip was stored in its place. -/
theorem DC.put {w0 wr w' : World} {X : Nat} {ds ds' : List BkD} {va va' : Option Addr} {vn vc vn' vc' : Nat} {qs qs' : List BkR} (h : DC w0 wr X ds va vn vc qs) (hb : Below wr.heap.size wr w') (hq : NewBs w' wr.heap.size (.slice va' vn' vc') ds' qs') (hn : qs'.length = vn') (hok : ChOk ds') : DC w0 (w'.setCell ⟨X, 0, none⟩ (.slice va' vn' vc')) X ds' va' vn' vc' qs' := by
  have hX := h.x.lt
  have hnX : X ∉ fpBs (.slice va' vn' vc') qs' := fun hf => by have := hq.new X hf; omega
  have hw : w0.heap.size ≤ wr.heap.size := by have := h.xn; omega
  exact ⟨(hq.set_below hX).wider hw, hn, hok, by have := (h.x.keep hb).set 0 (.slice va' vn' vc'); simpa using this, hnX, h.xn⟩
theorem sv_new {F : List Nat} {w W : World} {X i : Nat} {v : Value} (h : Sv F w W) (hX : w.heap.size ≤ X) : Sv F w (W.setCell ⟨X, i, none⟩ v) :=
  ⟨h.os, h.tape, h.output, by rw [size_setC]; exact h.size, fun k hk hn => (Below.heap_setCell _ _ _ _ (by show k ≠ X; omega)).trans (h.block k hk hn)⟩
theorem Own.len2 {w : World} {g m c : Nat} {ys : List Int} (h : Own w g m c ys) : ys.length = m := OwnV.len h
/-- What l10Draw answers. -/
def DrA (w : World) (gc n cap : Nat) (a : Option Addr) (zs : List Int) (e : Ending) (w' : World) : Prop := ∃ va vn vc qs ds, e = .returned (.agg #[.slice va vn vc]) ∧ NewBs w' w.heap.size (.slice va vn vc) ds qs ∧ qs.length = vn ∧ ChOk ds ∧ Src w' gc n cap a zs ∧ Sv [gc] w w'
theorem sv_grown {w w' : World} {gc : Nat} (h : w.grownBy w' (some gc)) : Sv [gc] w w' := Sv.gr h (fun g hg => by simp at hg; simp [hg])
theorem Src.set {w : World} {gc n cap X i : Nat} {a : Option Addr} {zs : List Int} {v : Value} (h : Src w gc n cap a zs) (hX : gc < X) : Src (w.setCell ⟨X, i, none⟩ v) gc n cap a zs := h.other (gr_setC w X i v) hX
set_option maxRecDepth 100000 in
set_option maxHeartbeats 16000000 in
theorem l10DrawS (gc n cap : Nat) (a : Option Addr) (zs : List Int) (w : World) (h : Src w gc n cap a zs) :
    Calls Tryd.prog 55 #[.pointer (some ⟨gc, 0, none⟩)] w (DrA w gc n cap a zs) := by
  have hgc := h.cur.lt
  have B0 : Below w.heap.size w (w.alloc (.cells #[.slice none 0 0] 29)) := (Below.refl _ w).alloc (Nat.le_refl _) _
  have z0 := Blk.new w 29 #[.slice none 0 0]
  have h0 := h.keep B0
  generalize hGP : DrA w gc n cap a zs = P
  have HGP : Hid _ := hGP
  clear hGP h
  obtain ⟨H, hH⟩ : ∃ H, w.heap.size = H := ⟨_, rfl⟩
  have HH : Hid _ := hH
  rw [hH] at z0
  go_enter Tryd.func55, Tryd.ntmps55
  go_wp2_with fail
  obtain ⟨W0, hW0⟩ : ∃ W, w.alloc (.cells #[.slice none 0 0] 29) = W := ⟨_, rfl⟩
  rw [hW0] at B0 z0 h0 ⊢
  try rw [hH]
  clear hW0
  have hgH : gc < H := by omega
  have HB0 : Hid (Below w.heap.size w W0) := B0
  have hW0s : H < W0.heap.size := z0.lt
  clear B0 hH
  refine (below_step gc n cap a zs 3 W0 h0 (by omega) (by omega)).mono ?_
  rintro e w1 ⟨y, rfl, hy, h1, gr1⟩
  have sv1 := sv_grown gr1
  have z1 := Blk.svs z0 sv1 (by simp; omega)
  clear h0 z0 gr1
  have hyi : (y : Int) < 3 := by omega
  go_wp2_with fail
  refine (chipNewS _ w1).mono ?_
  rintro e w2 ⟨va, vn, vc, qs, rfl, hq, hql, b2⟩
  have h2 := h1.keep b2
  have z2 := z1.keep b2
  have hok : ChOk (newD (3 + (y : Int))) := ok_new (by omega)
  have b3 : Below w2.heap.size w2 (w2.alloc (.cells #[.slice va vn vc] 29)) := (Below.refl _ _).alloc (Nat.le_refl _) _
  have zX := Blk.new w2 29 #[.slice va vn vc]
  have hW1 : w1.heap.size ≤ w2.heap.size := b2.size
  have hXf : w2.heap.size ∉ fpBs (.slice va vn vc) qs := fun hf => by have := hq.own.lt _ hf; omega
  obtain ⟨X, hX⟩ : ∃ X, w2.heap.size = X := ⟨_, rfl⟩
  have hs1 := sv1.size
  have dc3 : DC W0 (w2.alloc (.cells #[.slice va vn vc] 29)) X (newD (3 + (y : Int))) va vn vc qs := ⟨(hq.keep b3).wider (by have := HB0.out.size; omega), hql, hok, by rw [← hX]; exact zX, by rw [← hX]; exact hXf, by have := HB0.out.size; omega⟩
  have h3 := h2.keep b3
  have z3 := z2.keep b3
  have svw : Sv [gc] w (w2.alloc (.cells #[.slice va vn vc] 29)) := ((Below.sv HB0.out _).trans sv1).trans ((Below.sv b2 _).trans (Below.sv b3 _))
  have hXH : H < X := by have := HH.out; have := HB0.out.size; omega
  clear zX hq hql b2 h1 h2 z1 z2 hXf hok
  go_wp2_with fail
  obtain ⟨W3, hW3⟩ : ∃ W, w2.alloc (.cells #[.slice va vn vc] 29) = W := ⟨_, rfl⟩
  rw [hW3] at dc3 h3 z3 svw b3 ⊢
  try rw [hX]
  clear hW3 b3 hX sv1
  refine (below_step gc n cap a zs 20 W3 h3 (by omega) (by omega)).mono ?_
  rintro e w4 ⟨y2, rfl, hy2, h4, gr4⟩
  have HST : Hid (∃ ds va vn vc qs, DC W0 w4 X ds va vn vc qs ∧ Src w4 gc n cap a zs ∧ Blk w4 H 29 #[.slice none 0 0] ∧ Sv [gc] w w4) := ⟨_, _, _, _, _, dc3.svs (sv_grown gr4) (by omega), h4, Blk.svs z3 (sv_grown gr4) (by simp; omega), svw.trans (sv_grown gr4)⟩
  clear dc3 h3 z3 svw h4 gr4
  go_wp2
  go_loopw [4] (fun i wr => ∃ j : Nat, j ≤ 20 ∧ i = .int .i64 j ∧ Hid (∃ ds va vn vc qs, DC W0 wr X ds va vn vc qs ∧ Src wr gc n cap a zs ∧ Blk wr H 29 #[.slice none 0 0] ∧ Sv [gc] w wr)) (fun i _ => (intOf i).toNat)
  case atStart => exact ⟨y2, by omega, rfl, HST⟩
  case round =>
    obtain ⟨j, hj, rfl, hst⟩ := hrel
    clear HST
    obtain ⟨ds, va, vn, vc, qs, dc, hs, zr, sv⟩ := hst.out
    clear hst
    have hvn : 3 ≤ vn ∧ vn ≤ 24 := by have := dc.len; have := dc.ok.1; have := dc.ok.2.1; omega
    by_cases hj0 : 0 < j
    · have hji : (0 : Int) < (j : Int) := by omega
      obtain ⟨i, rfl⟩ : ∃ i, j = i + 1 := ⟨j - 1, by omega⟩
      have hwi : IntKind.i64.wrap (i : Int) = (i : Int) := wrap_small _ (by omega) (by omega)
      have x0 := dc.x.cell 0
      simp at x0
      go_wp2_with fail
      refine (below_step gc n cap a zs vn wr hs (by omega) (by omega)).mono ?_
      rintro e w5 ⟨k, rfl, hk, hs5, gr5⟩
      have dc5 := dc.svs (sv_grown gr5) (by omega)
      have zr5 := Blk.svs zr (sv_grown gr5) (by simp; omega)
      have sv5 := sv.trans (sv_grown gr5)
      clear dc zr sv hs gr5 x0
      go_wp2_with fail
      refine (once_step gc n cap a zs 6 w5 hs5 (by omega) (by omega)).mono ?_
      rintro e w6 ⟨B, rfl, hs6, gr6⟩
      have dc6 := dc5.svs (sv_grown gr6) (by omega)
      have zr6 := Blk.svs zr5 (sv_grown gr6) (by simp; omega)
      have sv6 := sv5.trans (sv_grown gr6)
      clear dc5 zr5 sv5 hs5 gr6
      have hok6 : chipOkB (qs.map BkR.D) = true := by rw [dc6.bs.D]; exact (chipOkB_iff _).2 dc6.ok
      have x6 := dc6.x.cell 0
      simp at x6
      cases B with
      | true =>
        have hcall := eraseS va vn vc qs (k : Int) w6 dc6.cr
        rw [hok6, dc6.bs.D] at hcall
        go_wp2_with fail
        refine hcall.mono ?_
        rintro e w7 ⟨va', vn', vc', qs', rfl, hq7, hl7, b7⟩
        have u0 := (dc6.x.keep b7).cell 0
        have f0 := (dc6.x.keep b7).frozen 0
        simp at u0
        have HN : Hid (∃ ds va vn vc qs, DC W0 (w7.setCell ⟨X, 0, none⟩ (.slice va' vn' vc')) X ds va vn vc qs ∧ Src (w7.setCell ⟨X, 0, none⟩ (.slice va' vn' vc')) gc n cap a zs ∧ Blk (w7.setCell ⟨X, 0, none⟩ (.slice va' vn' vc')) H 29 #[.slice none 0 0] ∧ Sv [gc] w (w7.setCell ⟨X, 0, none⟩ (.slice va' vn' vc'))) := ⟨_, _, _, _, _, dc6.put b7 hq7 hl7 (ok_erase dc6.ok _), (hs6.keep b7).set (by omega), (zr6.keep b7).other (B' := X) (by omega) 0 _, sv_new (sv6.trans (Below.sv b7 _)) (by have := dc6.xn; have := HH.out; omega)⟩
        clear hcall dc6 zr6 sv6 hs6 hq7 hl7 b7 x6 hok6
        go_wp2
        go_roundw
        case rel => exact ⟨i, by omega, by go_num, HN⟩
        case measure => simp [intOf]
      | false =>
        have x6d : w6.drew.cell? ⟨X, 0, none⟩ = some (.slice va vn vc) := x6
        have dc6d := dc6.keep (Below.refl w6.heap.size w6).drew
        have hs6d := hs6.keep (Below.refl w6.heap.size w6).drew
        have zr6d := zr6.keep (Below.refl w6.heap.size w6).drew
        have sv6d := sv6.trans (Below.sv (Below.refl w6.heap.size w6).drew [gc])
        go_wp2
        go_region_with (first
          | (go_at_call 45; (with_reducible refine (some_step gc n cap a zs w6.drew hs6d).mono ?_); rintro e w7 ⟨gy, my, cy, ys, rfl, hmy, hgy, _, oy, hs7, gr7⟩; have dc7 := dc6d.svs (sv_grown gr7) (by omega); have x7 := dc7.x.cell 0; simp at x7)
          | (go_at_call 9; (with_reducible refine (programS va vn vc qs (k : Int) (some ⟨gy, 0, none⟩) my cy ys w7 oy.len2 (by omega) dc7.cr oy.rd).mono ?_); rintro e w8 ⟨va', vn', vc', qs', rfl, hq8, hl8, b8⟩; have u0 := (dc7.x.keep b8).cell 0; have f0 := (dc7.x.keep b8).frozen 0; simp at u0))
        all_goals (
          rw [hok6, dc7.bs.D] at hq8
          have HN : Hid (∃ ds va vn vc qs, DC W0 (w8.setCell ⟨X, 0, none⟩ (.slice va' vn' vc')) X ds va vn vc qs ∧ Src (w8.setCell ⟨X, 0, none⟩ (.slice va' vn' vc')) gc n cap a zs ∧ Blk (w8.setCell ⟨X, 0, none⟩ (.slice va' vn' vc')) H 29 #[.slice none 0 0] ∧ Sv [gc] w (w8.setCell ⟨X, 0, none⟩ (.slice va' vn' vc'))) := ⟨_, _, _, _, _, dc7.put b8 hq8 hl8 (ok_prog dc7.ok _ _), (hs7.keep b8).set (by omega), ((Blk.svs zr6d (sv_grown gr7) (by simp; omega)).keep b8).other (B' := X) (by omega) 0 _, sv_new ((sv6d.trans (sv_grown gr7)).trans (Below.sv b8 _)) (by have := dc7.xn; have := HH.out; omega)⟩
          clear dc6 zr6 sv6 hs6 dc6d hs6d zr6d sv6d dc7 hq8 hl8 b8 x6 x6d hok6 oy hs7 gr7
          go_wp2
          go_roundw)
        all_goals first
          | (case rel => exact ⟨i, by omega, by go_num, HN⟩)
          | (case measure => simp [intOf])
    · have hji : ¬ (0 : Int) < (j : Int) := by omega
      have x0 := dc.x.cell 0
      simp at x0
      go_wp2_with fail
      refine (once_step gc n cap a zs 3 wr hs (by omega) (by omega)).mono ?_
      rintro e w5 ⟨B, rfl, hs5, gr5⟩
      have dc5 := dc.svs (sv_grown gr5) (by omega)
      have zr5 := Blk.svs zr (sv_grown gr5) (by simp; omega)
      have sv5 := sv.trans (sv_grown gr5)
      clear dc zr sv hs gr5 x0
      have x5 := dc5.x.cell 0
      simp at x5
      obtain ⟨g, rfl⟩ := dc5.some
      cases B with
      | true =>
        have x5d : w5.drew.cell? ⟨X, 0, none⟩ = some (.slice (some ⟨g, 0, none⟩) vn vc) := x5
        have dc5d := dc5.keep (Below.refl w5.heap.size w5).drew
        have hs5d := hs5.keep (Below.refl w5.heap.size w5).drew
        have zr5d := zr5.keep (Below.refl w5.heap.size w5).drew
        have sv5d := sv5.trans (Below.sv (Below.refl w5.heap.size w5).drew [gc])
        go_wp2
        go_region_with (
          (go_at_call 47; (with_reducible refine (below_step gc n cap a zs vn w5.drew hs5d (by omega) (by omega)).mono ?_); rintro e w6 ⟨k, rfl, hk, hs6, gr6⟩; have dc6 := dc5d.svs (sv_grown gr6) (by omega); have hki : (k : Int) < (vn : Int) := (by omega); obtain ⟨b, hb, v0, vf, x6⟩ := dc6.bk k hk; skip))
        all_goals (
          have hgn := dc6.bs.new g (fpBs_row rfl)
          have hgX : X ≠ g := fun e => dc6.xf (e ▸ fpBs_row rfl)
          have hbd : BkOk (⟨b.ps.map PgR.D, b.wear, true⟩ : BkD) := by
            have hb1 : BkOk b.D := dc6.ok.2.2 _ (by rw [← dc6.bs.D]; exact List.mem_map_of_mem (List.mem_of_getElem? hb))
            exact hb1
          have dc7 : DC W0 (w6.setCell ⟨g, k * 3 + 2, none⟩ (.bool true)) X (ds.set k ⟨b.ps.map PgR.D, b.wear, true⟩) (some ⟨g, 0, none⟩) vn vc (qs.set k ⟨b.a, b.cap, b.ps, b.wear, true⟩) := ⟨dc6.bs.bad dc6.n hb true, by rw [List.length_set]; exact dc6.n, ok_set dc6.ok hbd, dc6.x.other (B' := g) (by omega) _ _, fun hf => by
              rcases fp_put (S := X + 1) (q' := ⟨b.a, b.cap, b.ps, b.wear, true⟩) hb (fun i hi => .inl hi) X hf with h1 | h1
              · exact dc6.xf h1
              · omega, dc6.xn⟩
          have zr7 := ((Blk.svs zr5d (sv_grown gr6) (by simp; omega))).other (B' := g) (by omega) (k * 3 + 2) (.bool true)
          have hs7 := hs6.set (X := g) (i := k * 3 + 2) (v := .bool true) (by omega)
          have sv7 := sv_new (X := g) (i := k * 3 + 2) (v := .bool true) (sv5d.trans (sv_grown gr6)) (by have := HB0.out.size; omega)
          clear dc5d hs5d zr5d sv5d dc6 hs6 gr6 x5d v0 vf x6
          obtain ⟨W7, hW7⟩ : ∃ W, w6.setCell ⟨g, k * 3 + 2, none⟩ (.bool true) = W := ⟨_, rfl⟩
          rw [hW7] at dc7 zr7 hs7 sv7 ⊢
          clear hW7
          have fX := dc7.x.cell 0
          simp at fX
          have fH := zr7.cell 0
          have fF := zr7.frozen 0
          simp at fH
          have d0 := (zr7.set 0 (.slice (some ⟨g, 0, none⟩) vn vc)).cell 0
          simp at d0
          have HE : Hid (DrA w gc n cap a zs (.returned (.agg #[.slice (some ⟨g, 0, none⟩) vn vc])) (W7.setCell ⟨H, 0, none⟩ (.slice (some ⟨g, 0, none⟩) vn vc))) := ⟨_, _, _, _, _, rfl, (dc7.bs.set_below (j := H) (by omega)).wider HB0.out.size, dc7.n, dc7.ok, hs7.set (by omega), sv_new sv7 (by have := HH.out; omega)⟩
          clear dc5 zr5 sv5 hs5 x5
          go_wp2
          refine bodyPost_ret (v := .agg #[.slice (some ⟨g, 0, none⟩) vn vc]) (by simp [results, Tryd.f55, go_sem, d0]) rfl ?_
          rw [← HGP.out]
          exact HE.out)
      | false =>
        have fX := dc5.x.cell 0
        simp at fX
        have fH := zr5.cell 0
        have fF := zr5.frozen 0
        simp at fH
        have d0 := (zr5.set 0 (.slice (some ⟨g, 0, none⟩) vn vc)).cell 0
        simp at d0
        have HE : Hid (DrA w gc n cap a zs (.returned (.agg #[.slice (some ⟨g, 0, none⟩) vn vc])) (w5.setCell ⟨H, 0, none⟩ (.slice (some ⟨g, 0, none⟩) vn vc))) := ⟨_, _, _, _, _, rfl, (dc5.bs.set_below (j := H) (by omega)).wider HB0.out.size, dc5.n, dc5.ok, hs5.set (by omega), sv_new sv5 (by have := HH.out; omega)⟩
        clear dc5 zr5 sv5 hs5 x5
        go_wp2
        refine bodyPost_ret (v := .agg #[.slice (some ⟨g, 0, none⟩) vn vc]) (by simp [results, Tryd.f55, go_sem, d0]) rfl ?_
        rw [← HGP.out]
        exact HE.out
end

section
open Go.RowKit
theorem gr_below {w w1 w2 : World} {B g : Nat} (h : Below B w w1) (k : w1.grownBy w2 (some g)) (hB : B ≤ w1.heap.size) (hg : B ≤ g) : Below B w w2 :=
  h.grown k hB (by intro i hi; simp at hi; omega)
set_option maxHeartbeats 400000 in
theorem big_any (a : Option Addr) (n cap : Nat) (w : World) : Calls Tryd.prog 20 #[.slice a n cap] w fun e w' => e = .returned (.bool (decide ((1048576 : Int) < (n : Int)))) ∧ w' = w := by
  go_enter Tryd.func20, Tryd.ntmps20
  go_wp2
  go_ret
  exact ⟨rfl, rfl⟩
theorem Own.cap {w : World} {g n c : Nat} {zs : List Int} (h : Own w g n c zs) : n ≤ c := by
  rcases h.2 with ⟨h', _⟩ | ⟨g', cap', cur, h', _, _, hc, _⟩
  · simp at h'
  · simp only [Value.slice.injEq, Option.some.injEq, Addr.mk.injEq, and_true, true_and] at h'
    omega
theorem Byt.append {a b : List Int} (ha : Byt a) (hb : Byt b) : Byt (a ++ b) := by
  intro z hz
  rcases List.mem_append.1 hz with h | h
  · exact ha z h
  · exact hb z h
theorem Rd.take {w : World} {a : Option Addr} {zs : List Int} (h : Rd w a zs) (k : Nat) : Rd w a (zs.take k) := by
  rcases h with h | ⟨b, off, rfl, hc⟩
  · left; simp [h]
  · refine .inr ⟨b, off, rfl, fun i hi => ?_⟩
    simp only [List.length_take] at hi
    rw [hc i (by omega)]
    simp [show i < k by omega]
end

section
open Go.RowKit
set_option maxRecDepth 100000 in
set_option maxHeartbeats 4000000 in
theorem drawChipS (a : Option Addr) (n cap : Nat) (zs : List Int) (w : World) (hn : zs.length = n) (hs : n ≤ 1048576) (hr : Rd w a zs) (hb : Byt zs) :
    Calls Tryd.prog 29 #[.slice a n cap] w fun e w' => ∃ va vn vc qs ds, ∃ k : Nat, e = .returned (.tuple #[.agg #[.slice va vn vc], .int .i64 k]) ∧ NewBs w' w.heap.size (.slice va vn vc) ds qs ∧ qs.length = vn ∧ ChOk ds ∧ k < vn ∧ Below w.heap.size w w' := by
  have B0 : Below w.heap.size w (w.alloc (.cells #[.slice none 0 0] 29)) := (Below.refl _ w).alloc (Nat.le_refl _) _
  have z0 := Blk.new w 29 #[.slice none 0 0]
  have hr0 := hr.keep B0
  generalize hGP : (fun (e : Ending) (w' : World) => ∃ va vn vc qs ds, ∃ k : Nat, e = .returned (.tuple #[.agg #[.slice va vn vc], .int .i64 k]) ∧ NewBs w' w.heap.size (.slice va vn vc) ds qs ∧ qs.length = vn ∧ ChOk ds ∧ k < vn ∧ Below w.heap.size w w') = P
  have HGP : Hid _ := hGP
  clear hGP hr
  obtain ⟨H, hH⟩ : ∃ H, w.heap.size = H := ⟨_, rfl⟩
  have HH : Hid _ := hH
  rw [hH] at z0
  go_enter Tryd.func29, Tryd.ntmps29
  go_wp2_with fail
  obtain ⟨W0, hW0⟩ : ∃ W, w.alloc (.cells #[.slice none 0 0] 29) = W := ⟨_, rfl⟩
  rw [hW0] at B0 z0 hr0 ⊢
  try rw [hH]
  clear hW0
  have HB0 : Hid (Below w.heap.size w W0) := B0
  have hW0s : H < W0.heap.size := z0.lt
  clear B0 hH
  refine (new_step a n cap zs W0 hn hs hr0 hb).mono ?_
  rintro e w1 ⟨rfl, hs1, hb1⟩
  obtain ⟨gc, hgc⟩ : ∃ g, W0.heap.size = g := ⟨_, rfl⟩
  have HG : Hid _ := hgc
  rw [hgc] at hs1 hW0s ⊢
  have hz1 := hb1.size
  have z1 := z0.keep hb1
  go_wp2_with fail
  refine (l10DrawS _ n cap a zs w1 hs1).mono ?_
  rintro e w2 ⟨va, vn, vc, qs, ds, rfl, hq, hl, hok, hs2, sv2⟩
  have z2 := Blk.svs z1 sv2 (by simp; omega)
  have B2 : Below w.heap.size w w2 := by
    have b0 := HB0.out
    have e0 := HH.out
    have s0 := b0.size
    exact ⟨sv2.os.trans (hb1.os.trans b0.os), sv2.tape.trans (hb1.tape.trans b0.tape), sv2.output.trans (hb1.output.trans b0.output), by have := sv2.size; omega, fun i hi => (sv2.block i (by omega) (by simp; omega)).trans ((hb1.block i (by omega)).trans (b0.block i hi))⟩
  have hvn : 3 ≤ vn ∧ vn ≤ 24 := by
    have h1 := hok.1
    have h2 := hok.2.1
    have h3 := hq.len
    omega
  have b3 : Below w2.heap.size w2 (w2.alloc (.cells #[.slice va vn vc] 29)) := (Below.refl _ _).alloc (Nat.le_refl _) _
  have zX := Blk.new w2 29 #[.slice va vn vc]
  have hs2d := (hs2.keep b3).drew
  have z2d := (z2.keep b3).keep (Below.refl _ _).drew
  have zXd := zX.keep (Below.refl _ _).drew
  have hqd := (hq.keep b3).keep (Below.refl _ _).drew
  have B3 := (B2.trans (b3.mono (by have := B2.size; omega))).drew
  have hgX : gc < w2.heap.size := hs2.cur.lt
  obtain ⟨X, hX⟩ : ∃ X, w2.heap.size = X := ⟨_, rfl⟩
  clear z0 z1 z2 zX hs2 hq b3 sv2 hb1
  go_wp2
  obtain ⟨W3, hW3⟩ : ∃ W, w2.alloc (.cells #[.slice va vn vc] 29) = W := ⟨_, rfl⟩
  rw [hW3] at hs2d z2d zXd hqd B3 ⊢
  rw [hX] at zXd hgX
  try rw [hX]
  clear hW3
  have x3 := zXd.cell 0
  simp at x3
  go_region_with (
    (go_at_call 47; (with_reducible refine (below_step _ n cap a zs vn W3.drew hs2d (by omega) (by omega)).mono ?_); rintro e w3 ⟨k, rfl, hk, hs3, gr3⟩; have z3 := Blk.svs z2d (sv_grown gr3) (by simp; omega); have c3 := z3.cell 0; have f3 := z3.frozen 0; simp at c3; have zX3 := Blk.svs zXd (sv_grown gr3) (by simp; omega); have y3 := zX3.cell 0; simp at y3))
  all_goals (
    have d0 := (z3.set 0 (.slice va vn vc)).cell 0
    simp at d0
    have hgw := hs1.cur.lt
    have e0 := HH.out
    have hq3 := hqd.svs (sv_grown gr3) (fun j hj hf => by have := hqd.new j hj; simp at hf; omega)
    have B4 := (gr_below B3 gr3 B3.size (by omega)).setCell (p := ⟨H, 0, none⟩) (by simp only; omega) (.slice va vn vc)
    try go_wp2
    refine bodyPost_ret (v := .tuple #[.agg #[.slice va vn vc], .int .i64 k]) (by simp [results, Tryd.f29, go_sem, d0]) rfl ?_
    rw [← HGP.out]
    exact ⟨va, vn, vc, qs, ds, k, rfl, (hq3.set_below (j := H) (by omega)).wider (by omega), hl, hok, hk, B4⟩)
end

section
open Go.RowKit
/-- The chip of the law, in its box C. -/
structure IT (w0 wr : World) (C k i : Nat) : Prop where
  st : ∃ g vn vc qs ds, ∃ b : BkD, NewBs wr w0.heap.size (.slice (some ⟨g, 0, none⟩) vn vc) ds qs ∧ qs.length = vn ∧ ChOk ds ∧ ds[k]? = some b ∧ nextP b.ps = i ∧ Blk wr C 29 #[.slice (some ⟨g, 0, none⟩) vn vc] ∧ C ∉ fpBs (.slice (some ⟨g, 0, none⟩) vn vc) qs
  bel : Below w0.heap.size w0 wr
def ByteRow (w : World) (a : Option Addr) (len cap : Nat) (zs : List Int) : Prop :=
  (a = none ∧ len = 0 ∧ cap = 0 ∧ zs = []) ∨ ∃ x, a = some x ∧ len ≤ cap ∧ cap ≤ maxLen ∧ zs.length = cap ∧ (∀ i, i < zs.length → w.cell? (x.add i) = some (.int .u8 (zs.getD i 0))) ∧ ∀ n ∈ zs, (Lit.int .u8 n).wf = true
theorem slice_some {w : World} {B : Nat} {va : Option Addr} {vn vc : Nat} {ds : List BkD} {qs : List BkR} (h : NewBs w B (.slice va vn vc) ds qs) (hn : qs.length = vn) (h3 : 3 ≤ vn) : ∃ g, va = .some ⟨g, 0, none⟩ := by
  rcases (show OwnE bkE 50 w (.slice va vn vc) qs.length qs from h.own.1).cases with ⟨_, _, h0⟩ | ⟨g, c, h0, _⟩
  · rw [h0] at hn
    simp at hn
    omega
  · simp only [Value.slice.injEq] at h0
    exact ⟨g, h0.1⟩
theorem bad_cell {W : World} {B g vn vc k : Nat} {ds : List BkD} {qs : List BkR} {b : BkD} (hq : NewBs W B (.slice (some ⟨g, 0, none⟩) vn vc) ds qs) (hl : qs.length = vn) (hb : ds[k]? = some b) : W.cell? ⟨g, k * 3 + 2, none⟩ = some (.bool b.bad) := by
  have hOw : OwnE bkE 50 W (.slice (some ⟨g, 0, none⟩) vn vc) vn qs := by
    have := hq.own.1
    rw [hl] at this
    exact this
  rw [← hq.D, List.getElem?_map] at hb
  obtain ⟨r, hr, rfl⟩ := Option.map_eq_some_iff.1 hb
  exact hOw.cell k 2 r hr (by decide)
theorem one_row (W : World) (x : Int) : Rd (W.alloc (.cells #[.int .u8 x] 5)) (some ⟨W.heap.size, 0, none⟩) [x] := by
  refine .inr ⟨_, 0, rfl, fun i hi => ?_⟩
  obtain rfl : i = 0 := by simp at hi; omega
  simp
theorem own_one {w : World} {v : Value} {x : Int} (h : OwnV 0 w v (([x] : List Int)).length [x]) : ∃ g c, v = .slice (some ⟨g, 0, none⟩) 1 c ∧ w.cell? ⟨g, 0, none⟩ = some (.int .u8 x) := by
  rcases h.2 with ⟨_, h0⟩ | ⟨g, cap, cur, rfl, hb, hg, _⟩
  · simp at h0
  · exact ⟨g, cap, rfl, by have := World.ownsRow.cellAt h 0 (by simp); simpa using this⟩
set_option maxRecDepth 100000 in
set_option maxHeartbeats 16000000 in
theorem walkFnInTurn (a0 : Option Addr) (len0 cap0 : Nat) (z0 : List Int) (w : World) (hbr : ByteRow w a0 len0 cap0 z0) (hg : EtCell w) :
    Calls Tryd.prog 7 #[.slice a0 len0 cap0] w fun e w' => e = .returned (.bool true) ∧ Below w.heap.size w w' := by
  obtain ⟨zs, hn, hr, hb⟩ := rd_of_row hbr
  clear hbr
  by_cases hbig : 1048576 < len0
  · have hd : decide ((1048576 : Int) < (len0 : Int)) = true := by simp; omega
    go_enter Tryd.func7, Tryd.ntmps7
    go_wp2_with fail
    refine (big_any a0 len0 cap0 w).mono ?_
    rintro e w1 ⟨rfl, hw⟩
    obtain rfl := hw.symm
    rw [hd]
    go_wp2
    go_ret
    exact ⟨rfl, Below.refl _ _⟩
  have hd : decide ((1048576 : Int) < (len0 : Int)) = false := by simp; omega
  have hcD := drawChipS a0 len0 cap0 zs w hn (by omega) hr hb
  clear hn hr hb
  go_enter Tryd.func7, Tryd.ntmps7
  go_wp2_with fail
  refine (big_any a0 len0 cap0 w).mono ?_
  rintro e w1 ⟨rfl, hw⟩
  obtain rfl := hw.symm
  rw [hd]
  clear hd hbig
  go_wp2_with fail
  (with_reducible refine hcD.mono ?_)
  rintro e w1 ⟨va, vn, vc, qs, ds, k, rfl, hq, hl, hok, hk, b1⟩
  clear hcD
  have hdl : ds.length = vn := by rw [← hq.len, hl]
  have hvn : 3 ≤ vn ∧ vn ≤ 24 := by have := hok.1; have := hok.2.1; omega
  obtain ⟨g, rfl⟩ := slice_some hq hl hvn.1
  have b2 : Below w1.heap.size w1 (w1.alloc (.cells #[.slice (some ⟨g, 0, none⟩) vn vc] 29)) := (Below.refl _ _).alloc (Nat.le_refl _) _
  have zC := Blk.new w1 29 #[.slice (some ⟨g, 0, none⟩) vn vc]
  have hCf : w1.heap.size ∉ fpBs (.slice (some ⟨g, 0, none⟩) vn vc) qs := fun hf => by have := hq.own.lt _ hf; omega
  have hq2 := hq.keep b2
  have hg2 := (hg.keep b1).keep b2
  have B2 := b1.trans (b2.mono b1.size)
  obtain ⟨C, hC⟩ : ∃ C, w1.heap.size = C := ⟨_, rfl⟩
  have hkd : ∃ b, ds[k]? = some b := ⟨_, List.getElem?_eq_getElem (by omega)⟩
  obtain ⟨b, hbk⟩ := hkd
  have hnx : nextD (qs.map BkR.D) (k : Int) = (nextP b.ps : Nat) := by
    rw [hq.D]
    unfold nextD
    rw [if_pos (by omega)]
    simp [hbk]
  have hcr : CR (w1.alloc (.cells #[.slice (some ⟨g, 0, none⟩) vn vc] 29)) (some ⟨g, 0, none⟩) vn qs := ⟨hl, by rw [hq.D]; exact ok_tot hok, hq2.rd⟩
  have hWw := b1.size
  have HGW : Hid (EtCell w) := hg
  clear hq b1 b2 hg
  go_wp2_with fail
  obtain ⟨W2, hW2⟩ : ∃ W, w1.alloc (.cells #[.slice (some ⟨g, 0, none⟩) vn vc] 29) = W := ⟨_, rfl⟩
  rw [hW2] at zC hq2 hg2 B2 hcr ⊢
  rw [hC] at zC hCf
  try rw [hC]
  clear hW2
  refine (nextI _ vn vc qs k W2 hcr).mono ?_
  rintro e w3 ⟨rfl, b3⟩
  rw [hnx]
  have HIT : Hid (IT w w3 C k (nextP b.ps)) := ⟨⟨g, vn, vc, qs, ds, b, hq2.keep b3, hl, hok, hbk, rfl, zC.keep b3, hCf⟩, B2.trans (b3.mono B2.size)⟩
  clear zC hq2 hg2 B2 hcr b3 hnx hCf
  go_wp2
  have hk24 : k < 24 := by omega
  have HC : Hid (w.heap.size ≤ C) := by show _ ≤ _; rw [← hC]; exact hWw
  clear hl hok hk hdl hvn hbk hC
  go_loopw [6] (fun i wr => ∃ j : Nat, i = .int .i64 j ∧ Hid (IT w wr C k j)) (fun i _ => (8 - intOf i).toNat)
  case atStart => exact ⟨_, rfl, HIT⟩
  case round =>
    obtain ⟨j, rfl, hit⟩ := hrel
    clear HIT
    obtain ⟨⟨g, vn, vc, qs, ds, b, hq, hl, hok, hbk, hj, zC, _⟩, B⟩ := hit.out
    have hE := HGW.out.keep B
    clear hit
    have hdl : ds.length = vn := by rw [← hq.len, hl]
    have hvn : 3 ≤ vn ∧ vn ≤ 24 := by have := hok.1; have := hok.2.1; omega
    have hk : k < vn := by have := (List.getElem?_eq_some_iff.1 hbk).1; omega
    have hki : (k : Int) < (vn : Int) := by omega
    have hbok := hok.2.2 b (List.mem_of_getElem? hbk)
    have hj8 : j ≤ 8 := by rw [← hj]; exact Nat.le_trans (nextP_le _) (by rw [hbok.1]; exact Nat.le_refl _)
    have v0 := bad_cell hq hl hbk
    have c0 := zC.cell 0
    have f0 := zC.frozen 0
    simp at c0
    obtain ⟨bd, hbd⟩ : ∃ x, b.bad = x := ⟨_, rfl⟩
    rw [hbd] at v0
    by_cases hgo : j < 8 ∧ bd = false
    · obtain ⟨hj9, rfl⟩ := hgo
      have hji : (j : Int) < 8 := by omega
      have hwj : IntKind.i64.wrap ((j : Int) + 1) = (j : Int) + 1 := wrap_small _ (by omega) (by omega)
      have hw8 : IntKind.u8.wrap (j : Int) = (j : Int) := by rw [IntKind.wrap_u8]; omega
      have b4 : Below wr.heap.size wr (wr.alloc (.cells #[.int .u8 (j : Int)] 5)) := (Below.refl _ _).alloc (Nat.le_refl _) _
      have r4 := one_row wr (j : Int)
      have hCw : C < wr.heap.size := zC.lt
      have hokB : chipOkB (qs.map BkR.D) = true := by rw [hq.D]; exact (chipOkB_iff _).2 hok
      have ht := turn_step hok hbk hbd (by omega) (j : Int)
      rw [hj] at ht
      obtain ⟨ht1, ht2, ht3, ht4⟩ := ht
      have hok' := ok_prog hok (k : Int) [(j : Int)]
      rw [ht2] at hok'
      have hcr : CR wr (some ⟨g, 0, none⟩) vn qs := ⟨hl, by rw [hq.D]; exact ok_tot hok, hq.rd⟩
      have hp := programI (some ⟨g, 0, none⟩) vn vc qs (k : Int) (some ⟨wr.heap.size, 0, none⟩) 1 1 [(j : Int)] _ rfl (by omega) (hcr.keep b4) r4 (hE.keep b4)
      rw [hokB, hq.D, show ([(j : Int)] : List Int).length = 1 from rfl, ht1, ht2] at hp
      obtain ⟨ds', hds'⟩ : ∃ x, ds.set k ⟨b.ps.set j ⟨true, [(j : Int)]⟩, b.wear, b.bad⟩ = x := ⟨_, rfl⟩
      have hbk' : ds'[k]? = some ⟨b.ps.set j ⟨true, [(j : Int)]⟩, b.wear, b.bad⟩ := by rw [← hds']; exact List.getElem?_set_self (by omega)
      have hdl' : ds'.length = vn := by rw [← hds', List.length_set]; exact hdl
      rw [hds'] at ht3 hok' hp
      have hnx : nextD ds' (k : Int) = (j : Int) + 1 := by
        unfold nextD
        rw [if_pos (by omega)]
        simp only [Int.toNat_natCast, hbk', ht4]
        omega
      have B4 := B.trans (b4.mono B.size)
      have zC4 := zC.keep b4
      have hE4 := hE.keep b4
      have hCb : C < (wr.alloc (.cells #[.int .u8 (j : Int)] 5)).heap.size := by have := b4.size; omega
      clear hcr r4 hq hok hokB ht1 ht2 hds' zC hE B
      go_wp2_with fail
      obtain ⟨W4, hW4⟩ : ∃ W, wr.alloc (.cells #[.int .u8 (j : Int)] 5) = W := ⟨_, rfl⟩
      rw [hW4] at hp B4 zC4 hE4 hCb ⊢
      clear hW4 b4 v0 c0 f0
      refine hp.mono ?_
      rintro e w5 ⟨a', n', c', qs', rfl, hq5, hl5, b5⟩
      clear hp
      obtain rfl : n' = vn := by rw [← hl5, hq5.len, hdl']
      have b6 : Below w5.heap.size w5 (w5.alloc (.cells #[.slice a' n' c'] 29)) := (Below.refl _ _).alloc (Nat.le_refl _) _
      have zX := Blk.new w5 29 #[.slice a' n' c']
      have hC5 : C < w5.heap.size := by have := b5.size; omega
      have hCf' : C ∉ fpBs (.slice a' n' c') qs' := fun hf => by have := hq5.new C hf; omega
      have hB4 := B4.size
      have hq6 := hq5.keep b6
      have B6 := (B4.trans (b5.mono B4.size)).trans (b6.mono (B4.trans (b5.mono B4.size)).size)
      have zC6 := (zC4.keep b5).keep b6
      have hE6 := (hE4.keep b5).keep b6
      obtain ⟨X, hX⟩ : ∃ X, w5.heap.size = X := ⟨_, rfl⟩
      clear hq5 b5 B4 zC4 hE4
      go_wp2_with fail
      obtain ⟨W6, hW6⟩ : ∃ W, w5.alloc (.cells #[.slice a' n' c'] 29) = W := ⟨_, rfl⟩
      rw [hW6] at zX hq6 B6 zC6 hE6 ⊢
      rw [hX] at zX hC5
      try rw [hX]
      clear hW6 b6
      have hcr : ∀ W, Below W6.heap.size W6 W → CR W a' n' qs' := fun W hW => ⟨hl5, by rw [hq6.D]; exact ok_tot hok', (hq6.keep hW).rd⟩
      have hr6 := readI a' n' c' qs' (k : Int) (j : Int) W6 (hcr _ (Below.refl _ _))
      rw [hq6.D, ht3] at hr6
      refine hr6.mono ?_
      rintro e w7 ⟨⟨v, rfl, hv, _⟩, b7⟩
      clear hr6
      obtain ⟨gb, cb, rfl, hv0⟩ := own_one hv
      clear hv
      have x7 := (zX.keep b7).cell 0
      simp at x7
      have hn7 := nextI a' n' c' qs' (k : Int) w7 (hcr _ b7)
      rw [hq6.D, hnx] at hn7
      go_wp2_with fail
      refine hn7.mono ?_
      rintro e w8 ⟨rfl, b8⟩
      have b78 : Below W6.heap.size W6 w8 := b7.trans (b8.mono b7.size)
      have zC8 := zC6.keep b78
      have x8 := (zX.keep b78).cell 0
      have c8 := zC8.cell 0
      have f8 := zC8.frozen 0
      simp at x8 c8
      obtain ⟨g', rfl⟩ := slice_some hq6 hl5 hvn.1
      have hCn : w.heap.size ≤ C := HC.out
      have HN : Hid (IT w (w8.setCell ⟨C, 0, none⟩ (.slice (some ⟨g', 0, none⟩) n' c')) C k (j + 1)) := by
        have hz := zC8.set 0 (.slice (some ⟨g', 0, none⟩) n' c')
        refine ⟨⟨g', n', c', qs', ds', _, ((hq6.keep b78).set_below (j := C) hCb).wider hB4, hl5, hok', hbk', ht4, by simpa using hz, hCf'⟩, (B6.trans (b78.mono B6.size)).setCell (p := ⟨C, 0, none⟩) hCn _⟩
      clear hn7 zX x7 hv0 hcr hq6 hok' hbk' ht4 zC6 zC8 hE6 B6 b7 b8 b78 ht3 hnx
      go_wp2
      go_roundw
      case rel => exact ⟨j + 1, by go_num, HN⟩
      case measure => simp [intOf]; omega
    · have b4 : Below wr.heap.size wr (wr.alloc (.cells #[.int .u8 1] 5)) := (Below.refl _ _).alloc (Nat.le_refl _) _
      have r4 := one_row wr 1
      have hokB : chipOkB (qs.map BkR.D) = true := by rw [hq.D]; exact (chipOkB_iff _).2 hok
      have hcr : ∀ W, Below wr.heap.size wr W → CR W (some ⟨g, 0, none⟩) vn qs := fun W hW => ⟨hl, by rw [hq.D]; exact ok_tot hok, (hq.keep hW).rd⟩
      have hte := turn_end hbk (by
        rcases Nat.lt_or_ge j 8 with h1 | h1
        · left
          cases bd with
          | true => exact hbd
          | false => exact absurd ⟨h1, rfl⟩ hgo
        · right
          omega)
      rw [hbd] at hte
      have hp := programI (some ⟨g, 0, none⟩) vn vc qs (k : Int) (some ⟨wr.heap.size, 0, none⟩) 1 1 [(1 : Int)] _ rfl (by omega) (hcr _ b4) r4 (hE.keep b4)
      rw [hokB, hq.D, show ([(1 : Int)] : List Int).length = 1 from rfl, hte] at hp
      have hk4 := fun W hW => chipOkI (some ⟨g, 0, none⟩) vn vc qs W (hcr W hW)
      rw [hokB] at hk4
      have hfin : ∀ W, Below wr.heap.size wr W → W.cell? ⟨C, 0, none⟩ = some (.slice (some ⟨g, 0, none⟩) vn vc) ∧ W.cell? ⟨g, k * 3 + 2, none⟩ = some (.bool bd) := fun W hW => by
        have h1 := (zC.keep hW).cell 0
        simp at h1
        have h2 := bad_cell (hq.keep hW) hl hbk
        rw [hbd] at h2
        exact ⟨h1, h2⟩
      clear r4 hcr hte hokB hq hok hl hE zC
      cases bd with
      | true =>
        by_cases hj9 : j < 8
        · have hji : (j : Int) < 8 := by omega
          go_wp2_with fail
          obtain ⟨W4, hW4⟩ : ∃ W, wr.alloc (.cells #[.int .u8 1] 5) = W := ⟨_, rfl⟩
          rw [hW4] at hp b4 ⊢
          clear hW4
          refine hp.mono ?_
          rintro e w5 ⟨a', n', c', qs', rfl, _, _, b5⟩
          have b45 := b4.trans (b5.mono b4.size)
          have b6 : Below w5.heap.size w5 (w5.alloc (.cells #[.slice a' n' c'] 29)) := (Below.refl _ _).alloc (Nat.le_refl _) _
          have b46 := b45.trans (b6.mono b45.size)
          have d1 := hfin _ b46
          obtain ⟨d1, d2⟩ := d1
          clear c0 f0 v0 hp b6 b5 b45 b4
          go_wp2_with fail
          obtain ⟨W6, hW6⟩ : ∃ W, w5.alloc (.cells #[.slice a' n' c'] 29) = W := ⟨_, rfl⟩
          rw [hW6] at b46 d1 d2 ⊢
          clear hW6
          refine (hk4 W6 b46).mono ?_
          rintro e w7 ⟨rfl, b7⟩
          have b47 := b46.trans (b7.mono b46.size)
          have e1 := hfin _ b47
          obtain ⟨e1, e2⟩ := e1
          have HZ : Hid (Below w.heap.size w w7) := B.trans (b47.mono B.size)
          clear d1 d2 hk4 hfin
          go_wp2
          go_ret
          exact ⟨rfl, HZ.out⟩
        · have hji : ¬ (j : Int) < 8 := by omega
          go_wp2_with fail
          obtain ⟨W4, hW4⟩ : ∃ W, wr.alloc (.cells #[.int .u8 1] 5) = W := ⟨_, rfl⟩
          rw [hW4] at hp b4 ⊢
          clear hW4
          refine hp.mono ?_
          rintro e w5 ⟨a', n', c', qs', rfl, _, _, b5⟩
          have b45 := b4.trans (b5.mono b4.size)
          have b6 : Below w5.heap.size w5 (w5.alloc (.cells #[.slice a' n' c'] 29)) := (Below.refl _ _).alloc (Nat.le_refl _) _
          have b46 := b45.trans (b6.mono b45.size)
          have d1 := hfin _ b46
          obtain ⟨d1, d2⟩ := d1
          clear c0 f0 v0 hp b6 b5 b45 b4
          go_wp2_with fail
          obtain ⟨W6, hW6⟩ : ∃ W, w5.alloc (.cells #[.slice a' n' c'] 29) = W := ⟨_, rfl⟩
          rw [hW6] at b46 d1 d2 ⊢
          clear hW6
          refine (hk4 W6 b46).mono ?_
          rintro e w7 ⟨rfl, b7⟩
          have b47 := b46.trans (b7.mono b46.size)
          have e1 := hfin _ b47
          obtain ⟨e1, e2⟩ := e1
          have HZ : Hid (Below w.heap.size w w7) := B.trans (b47.mono B.size)
          clear d1 d2 hk4 hfin
          go_wp2
          go_ret
          exact ⟨rfl, HZ.out⟩
      | false =>
        have hj9 : ¬ j < 8 := fun h => hgo ⟨h, rfl⟩
        have hji : ¬ (j : Int) < 8 := by omega
        go_wp2_with fail
        obtain ⟨W4, hW4⟩ : ∃ W, wr.alloc (.cells #[.int .u8 1] 5) = W := ⟨_, rfl⟩
        rw [hW4] at hp b4 ⊢
        clear hW4
        refine hp.mono ?_
        rintro e w5 ⟨a', n', c', qs', rfl, _, _, b5⟩
        have b45 := b4.trans (b5.mono b4.size)
        have b6 : Below w5.heap.size w5 (w5.alloc (.cells #[.slice a' n' c'] 29)) := (Below.refl _ _).alloc (Nat.le_refl _) _
        have b46 := b45.trans (b6.mono b45.size)
        have d1 := hfin _ b46
        obtain ⟨d1, d2⟩ := d1
        clear c0 f0 v0 hp b6 b5 b45 b4
        go_wp2_with fail
        obtain ⟨W6, hW6⟩ : ∃ W, w5.alloc (.cells #[.slice a' n' c'] 29) = W := ⟨_, rfl⟩
        rw [hW6] at b46 d1 d2 ⊢
        clear hW6
        refine (hk4 W6 b46).mono ?_
        rintro e w7 ⟨rfl, b7⟩
        have b47 := b46.trans (b7.mono b46.size)
        have e1 := hfin _ b47
        obtain ⟨e1, e2⟩ := e1
        have HZ : Hid (Below w.heap.size w w7) := B.trans (b47.mono B.size)
        clear d1 d2 hk4 hfin
        go_wp2
        go_ret
        exact ⟨rfl, HZ.out⟩
end
end Go.Proofs.YtkhgafmhbibikaaDoor
