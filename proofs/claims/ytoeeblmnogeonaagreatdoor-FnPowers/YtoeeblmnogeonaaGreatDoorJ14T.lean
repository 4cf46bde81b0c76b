/-
  Joined: AscT, AscF, DvT, DvF.
-/
import Derived.Test.YtoeeblmnogeonaaGreatDoorJ05T
import Derived.Test.YtoeeblmnogeonaaGreatDoorEntsOkT
import Derived.Maps.OwnSet
import Derived.Maps.OwnOps
namespace Go.Proofs.YtoeeblmnogeonaaGreatDoor
section
open Go.RowKit
/-- All ascend from the second one on. -/
def ascN (xs : List Int) : Bool := (List.range xs.length).all fun i => decide (i = 0) || decide (xs.getD (i - 1) 0 < xs.getD i 0)
end

section
open Go.RowKit
def tmsF (rs : List FtD) : List Int := rs.map FtD.tm
theorem tmsF_length (rs : List FtD) : (tmsF rs).length = rs.length := by simp [tmsF]
theorem tmsF_at {rs : List FtD} {k : Nat} {r : FtD} (h : rs[k]? = some r) : (tmsF rs).getD k 0 = r.tm := by simp [tmsF, List.getD_eq_getElem?_getD, h]
theorem faultTime_any (t k m : Int) (w : World) : Calls Tryz.prog 111 #[.agg #[.int .i64 t, .int .i64 k, .int .i64 m]] w fun e w' => e = .returned (.int .i64 t) ∧ Below w.heap.size w w' := by
  go_enter Tryz.func111, Tryz.ntmps111
  go_wp2
  go_ret
  exact ⟨rfl, (Below.refl _ w).alloc (Nat.le_refl _) _⟩
set_option maxRecDepth 100000 in
set_option maxHeartbeats 4000000 in
theorem ascF_any (a : Option Addr) (n cap : Nat) (rs : List FtD) (w : World) (hn : rs.length = n) (hs : n ≤ 4000000) (hr : RdFa w a rs) :
    Calls Tryz.prog 110 #[.slice a n cap, .func (.func 111) #[] #[]] w fun e w' => e = .returned (.bool (ascN (tmsF rs))) ∧ Below w.heap.size w w' := by
  have hlast : ascN (tmsF rs) = (List.range n).all fun i => decide (i = 0) || decide ((tmsF rs).getD (i - 1) 0 < (tmsF rs).getD i 0) := by unfold ascN; rw [tmsF_length, hn]
  by_cases h0 : n ≤ 1
  · have hfin : Hid (ascN (tmsF rs) = true) := by
      show _ = _
      rw [hlast]
      exact all_range_true (fun k hk => by obtain rfl := (show k = 0 by omega); rfl)
    have h01 : ¬ (1 : Int) < (n : Int) := by omega
    go_enter Tryz.func110, Tryz.ntmps110
    go_wp2
    refine wp_loop_rounds 1 ?_; rw [rounds_succ]
    go_wp2
    go_ret
    exact ⟨ret_bool hfin.out.symm, Below.refl _ _⟩
  · obtain ⟨b, off, rfl, hlt, hc⟩ := hr.lt (by intro h; subst h; simp at hn; omega)
    have HC : Hid _ := hc
    have hn' : Hid (rs.length = n) := hn
    have HL : Hid _ := hlast
    clear hr hc hn hlast
    go_enter Tryz.func110, Tryz.ntmps110
    go_wp2
    go_loopw [5] (fun i wr => ∃ k : Nat, k + 1 ≤ n ∧ i = .int .i64 ((k + 1 : Nat) : Int) ∧ Below w.heap.size w wr ∧ Hid (∀ j, j < k + 1 → (decide (j = 0) || decide ((tmsF rs).getD (j - 1) 0 < (tmsF rs).getD j 0)) = true)) (fun i _ => n - (intOf i).toNat)
    case atStart => exact ⟨0, by omega, rfl, Below.refl _ _, fun j hj => by obtain rfl := (show j = 0 by omega); rfl⟩
    case round =>
      obtain ⟨k, hk, rfl, hB, hall⟩ := hrel
      have hbs := hB.size
      by_cases hkn : k + 1 < n
      · have hki : ((k + 1 : Nat) : Int) < (n : Int) := by omega
        have hki0 : (k : Int) < (n : Int) := by omega
        have hk0 : (0 : Int) ≤ (k : Int) := by omega
        have hki2 : (k : Int) + 1 < (n : Int) := by omega
        have hk02 : (0 : Int) ≤ (k : Int) + 1 := by omega
        have hk03 : ((k : Int) + 1).toNat = k + 1 := by omega
        have hwk : IntKind.i64.wrap (k : Int) = (k : Int) := wrap_small _ hk0 (by omega)
        obtain ⟨r, hrk⟩ : ∃ r, rs[k]? = some r := ⟨_, List.getElem?_eq_getElem (by rw [hn'.out]; omega)⟩
        obtain ⟨t, htk⟩ : ∃ r, rs[k + 1]? = some r := ⟨_, List.getElem?_eq_getElem (by rw [hn'.out]; exact hkn)⟩
        have x6 := HC.out k r hrk
        have y6 := HC.out (k + 1) t htk
        have hX0 := fun (W : World) (hW : Below w.heap.size w W) => x6.keep hW hlt
        have hY0 := fun (W : World) (hW : Below w.heap.size w W) => y6.keep hW hlt
        have HX : Hid (∀ W : World, Below w.heap.size w W → W.cell? ⟨b, off + k * 3, none⟩ = some (.int .i64 r.tm) ∧ W.cell? ⟨b, off + k * 3 + 1, none⟩ = some (.int .i64 r.kd) ∧ W.cell? ⟨b, off + k * 3 + 2, none⟩ = some (.int .i64 r.kp) ∧ W.cell? ⟨b, off + (k + 1) * 3, none⟩ = some (.int .i64 t.tm) ∧ W.cell? ⟨b, off + (k + 1) * 3 + 1, none⟩ = some (.int .i64 t.kd) ∧ W.cell? ⟨b, off + (k + 1) * 3 + 2, none⟩ = some (.int .i64 t.kp)) := fun W hW => ⟨(hX0 W hW).c0, (hX0 W hW).c1, (hX0 W hW).c2, (hY0 W hW).c0, (hY0 W hW).c1, (hY0 W hW).c2⟩
        have HAT : Hid ((decide (k + 1 = 0) || decide ((tmsF rs).getD (k + 1 - 1) 0 < (tmsF rs).getD (k + 1) 0)) = decide (r.tm < t.tm)) := by
          show _ = _
          rw [Nat.add_sub_cancel, tmsF_at hrk, tmsF_at htk]
          simp
        generalize r.tm = i1 at HX HAT
        generalize t.tm = j1 at HX HAT
        clear hX0 hY0 x6 y6 hrk htk
        obtain ⟨p0, p1, p2, q0, q1, q2⟩ := HX.out wr hB
        have cI := fun (W : World) => faultTime_any i1 r.kd r.kp W
        have cJ := fun (W : World) => faultTime_any j1 t.kd t.kp W
        go_upto_region 4 with fail
        go_cut [25] (fun s wx => s = .bool (decide (j1 ≤ i1)) ∧ Below w.heap.size w wx)
        case first =>
          go_region_held3 (fun W : World => W.cell? ⟨b, off + k * 3, none⟩ = some (.int .i64 i1) ∧ W.cell? ⟨b, off + k * 3 + 1, none⟩ = some (.int .i64 r.kd) ∧ W.cell? ⟨b, off + k * 3 + 2, none⟩ = some (.int .i64 r.kp) ∧ W.cell? ⟨b, off + (k + 1) * 3, none⟩ = some (.int .i64 j1) ∧ W.cell? ⟨b, off + (k + 1) * 3 + 1, none⟩ = some (.int .i64 t.kd) ∧ W.cell? ⟨b, off + (k + 1) * 3 + 2, none⟩ = some (.int .i64 t.kp)) (go_keep) (first
            | (go_at_call 111; (with_reducible refine (cI wr.drew).mono ?_); rintro e w1 ⟨rfl, b1⟩; have B1 := hB.drew.trans (b1.mono hbs); obtain ⟨e0, e1, e2, f0, f1, f2⟩ := HX.out w1 B1)
            | (go_at_call 111; (with_reducible refine (cJ w1).mono ?_); rintro e w2 ⟨rfl, b2⟩; have B2 := B1.trans (b2.mono B1.size); obtain ⟨e0, e1, e2, f0, f1, f2⟩ := HX.out w2 B2)
            | (go_at_call 111; (with_reducible refine (cJ wr.drew).mono ?_); rintro e w3 ⟨rfl, b1⟩; have B1 := hB.drew.trans (b1.mono hbs); obtain ⟨e0, e1, e2, f0, f1, f2⟩ := HX.out w3 B1)
            | (go_at_call 111; (with_reducible refine (cI w3).mono ?_); rintro e w2 ⟨rfl, b2⟩; have B2 := B1.trans (b2.mono B1.size); obtain ⟨e0, e1, e2, f0, f1, f2⟩ := HX.out w2 B2))
          all_goals (go_wp2_with fail; go_meet; exact ⟨rfl, B2⟩)
        case rest =>
        obtain ⟨rfl, B2⟩ := hcut
        clear p0 p1 p2 q0 q1 q2 cI cJ
        by_cases hless : i1 < j1
        · have hle : decide (j1 ≤ i1) = false := by simp; omega
          have hnx : Hid (∀ j, j < k + 1 + 1 → (decide (j = 0) || decide ((tmsF rs).getD (j - 1) 0 < (tmsF rs).getD j 0)) = true) := by
            intro j hj
            rcases (show j < k + 1 ∨ j = k + 1 by omega) with hj | rfl
            · exact hall.out j hj
            · rw [HAT.out, decide_eq_true hless]
          rw [hle]
          clear HAT hall HL hle
          go_wp2
          go_roundw
          all_goals first
            | (case rel => exact ⟨k + 1, by omega, by go_num, B2, hnx⟩)
            | (case rel => (repeat apply Exists.intro); exact ⟨⟨k + 1, by omega, by go_num, B2, hnx⟩, rfl⟩)
            | (case measure => simp [intOf]; omega)
        · have hle : decide (j1 ≤ i1) = true := by simp; omega
          have hfin : Hid (ascN (tmsF rs) = false) := by show _ = _; rw [HL.out]; exact all_range_false hkn (by rw [HAT.out, decide_eq_false hless])
          rw [hle]
          clear HAT hall HL hle
          go_wp2
          go_ret
          exact ⟨ret_bool hfin.out.symm, B2⟩
      · have hki : ¬ ((k + 1 : Nat) : Int) < (n : Int) := by omega
        obtain rfl : k + 1 = n := by omega
        have hfin : Hid (ascN (tmsF rs) = true) := by show _ = _; rw [HL.out]; exact all_range_true hall.out
        go_wp2
        go_ret
        exact ⟨ret_bool hfin.out.symm, hB⟩
end

section
open Go.RowKit
/-- What a device says. -/
structure DvD where
  ds : List BkD
  ops : Int
  fs : List FtD
  down : Bool
/-- A device of the call's own, new since B. -/
structure NewDv (w : World) (B : Nat) (a : Option Addr) (n c : Nat) (fa : Option Addr) (m fc : Nat) (ds : List BkD) (fs : List FtD) (qs : List BkR) : Prop where
  bs : NewBs w B (.slice a n c) ds qs
  fs : OwnFa w (.slice fa m fc) m fs
  new : ∀ g, (Value.slice fa m fc).ownBlock = some g → B ≤ g ∧ g ∉ fpBs (.slice a n c) qs
/-- The blocks of memory that it takes. -/
def fpDv (a : Option Addr) (n c : Nat) (fa : Option Addr) (m fc : Nat) (qs : List BkR) : List Nat := fpBs (.slice a n c) qs ++ (Value.slice fa m fc).ownBlock.toList
theorem fpDv_bs {a : Option Addr} {n c : Nat} {fa : Option Addr} {m fc : Nat} {qs : List BkR} {g : Nat} (h : g ∈ fpBs (.slice a n c) qs) : g ∈ fpDv a n c fa m fc qs := List.mem_append_left _ h
theorem fpDv_fs {a : Option Addr} {n c : Nat} {fa : Option Addr} {m fc : Nat} {qs : List BkR} {g : Nat} (h : (Value.slice fa m fc).ownBlock = some g) : g ∈ fpDv a n c fa m fc qs := List.mem_append_right _ (by simp [h])
theorem NewDv.keep {w w' : World} {B n c m fc : Nat} {a fa : Option Addr} {ds : List BkD} {fs : List FtD} {qs : List BkR} (h : NewDv w B a n c fa m fc ds fs qs) (hb : Below w.heap.size w w') : NewDv w' B a n c fa m fc ds fs qs := ⟨h.bs.keep hb, OwnE.keep h.fs hb, h.new⟩
theorem NewDv.lt {w : World} {B n c m fc : Nat} {a fa : Option Addr} {ds : List BkD} {fs : List FtD} {qs : List BkR} (h : NewDv w B a n c fa m fc ds fs qs) : ∀ g ∈ fpDv a n c fa m fc qs, g < w.heap.size := fun g hg => by
  rcases List.mem_append.1 hg with h1 | h1
  · exact h.bs.own.lt g h1
  · exact OwnE.lt h.fs (by simpa using h1)
theorem NewDv.from {w : World} {B n c m fc : Nat} {a fa : Option Addr} {ds : List BkD} {fs : List FtD} {qs : List BkR} (h : NewDv w B a n c fa m fc ds fs qs) : ∀ g ∈ fpDv a n c fa m fc qs, B ≤ g := fun g hg => by
  rcases List.mem_append.1 hg with h1 | h1
  · exact h.bs.new g h1
  · exact (h.new g (by simpa using h1)).1
theorem NewDv.svs {w w' : World} {B n c m fc : Nat} {a fa : Option Addr} {ds : List BkD} {fs : List FtD} {qs : List BkR} {F : List Nat} (h : NewDv w B a n c fa m fc ds fs qs) (k : Sv F w w') (hd : ∀ g ∈ fpDv a n c fa m fc qs, g ∉ F) : NewDv w' B a n c fa m fc ds fs qs :=
  ⟨h.bs.svs k fun g hg => hd g (fpDv_bs hg), OwnE.block h.fs fun g hg => k.block g (OwnE.lt h.fs hg) (hd g (fpDv_fs hg)), h.new⟩
theorem NewDv.wider {w : World} {B B' n c m fc : Nat} {a fa : Option Addr} {ds : List BkD} {fs : List FtD} {qs : List BkR} (h : NewDv w B a n c fa m fc ds fs qs) (hB : B' ≤ B) : NewDv w B' a n c fa m fc ds fs qs := ⟨h.bs.wider hB, h.fs, fun g hg => ⟨Nat.le_trans hB (h.new g hg).1, (h.new g hg).2⟩⟩
theorem NewDv.set_below {W : World} {B n c m fc j i : Nat} {a fa : Option Addr} {ds : List BkD} {fs : List FtD} {qs : List BkR} {u : Value} (h : NewDv W B a n c fa m fc ds fs qs) (hj : j < B) : NewDv (W.setCell ⟨j, i, none⟩ u) B a n c fa m fc ds fs qs :=
  ⟨h.bs.set_below hj, OwnE.block h.fs fun g hg => Below.heap_setCell _ _ _ _ (by have := (h.new g hg).1; show g ≠ j; omega), h.new⟩
theorem OwnFa.fr {w : World} {a : Option Addr} {c m : Nat} {fs : List FtD} (h : OwnFa w (.slice a m c) m fs) (hm : m ≤ 1048576) : FR w a m fs := ⟨OwnE.len h, hm, h.rd⟩
/-- A new device was answered. -/
def DvA (w : World) (D : DvD) (e : Ending) (w' : World) : Prop := ∃ a n c fa m fc qs, e = .returned (.agg #[.slice a n c, .int .i64 D.ops, .slice fa m fc, .bool D.down]) ∧ NewDv w' w.heap.size a n c fa m fc D.ds D.fs qs ∧ qs.length = n ∧ Below w.heap.size w w'
end

section
open Go.RowKit
/-- A fault that is right. -/
def ftOk (f : FtD) : Bool := (decide (0 ≤ f.tm) && decide (f.tm ≤ 100000)) && (decide (1 ≤ f.kd) && decide (f.kd ≤ 2)) && (decide (0 ≤ f.kp) && decide (f.kp ≤ 400))
/-- The i-th one is right beside the one ahead of it. -/
def ftAt (fs : List FtD) (i : Nat) : Bool := ftOk (fs.getD i ftZ) && (decide (i = 0) || decide ((fs.getD (i - 1) ftZ).tm < (fs.getD i ftZ).tm))
def faultsB (fs : List FtD) : Bool := (List.range fs.length).all (ftAt fs) && decide (fs.length ≤ 20)
theorem ftAt_at {fs : List FtD} {k : Nat} {r : FtD} (h : fs[k]? = some r) : ftAt fs k = (ftOk r && (decide (k = 0) || decide ((fs.getD (k - 1) ftZ).tm < r.tm))) := by
  unfold ftAt
  have e : fs.getD k ftZ = r := by simp [List.getD_eq_getElem?_getD, h]
  rw [e]
theorem faultsB_asc (fs : List FtD) : faultsB fs = (decide (fs.length ≤ 20) && (fs.all ftOk && ascN (tmsF fs))) := by
  rw [Bool.eq_iff_iff]
  unfold faultsB ascN
  rw [tmsF_length]
  simp only [Bool.and_eq_true, List.all_eq_true, List.mem_range, decide_eq_true_eq]
  have hg : ∀ i : Nat, (tmsF fs).getD i 0 = (fs.getD i ftZ).tm := fun i => by
    cases h : fs[i]? with
    | none => simp [tmsF, List.getD_eq_getElem?_getD, h, ftZ]
    | some r => simp [tmsF, List.getD_eq_getElem?_getD, h]
  constructor
  · rintro ⟨h1, h2⟩
    refine ⟨h2, fun f hf => ?_, fun i hi => ?_⟩
    · obtain ⟨i, hi⟩ := List.mem_iff_getElem?.1 hf
      have := h1 i (List.getElem?_eq_some_iff.1 hi).1
      rw [ftAt_at hi] at this
      simp only [Bool.and_eq_true] at this
      exact this.1
    · have := h1 i hi
      unfold ftAt at this
      simp only [Bool.and_eq_true] at this
      rw [hg, hg]
      exact this.2
  · rintro ⟨h2, h1, h3⟩
    refine ⟨fun i hi => ?_, h2⟩
    obtain ⟨r, hr⟩ : ∃ r, fs[i]? = some r := ⟨_, List.getElem?_eq_getElem hi⟩
    have := h3 i hi
    rw [hg, hg] at this
    unfold ftAt
    simp only [Bool.and_eq_true]
    refine ⟨?_, this⟩
    have e : fs.getD i ftZ = r := by simp [List.getD_eq_getElem?_getD, hr]
    rw [e]
    exact h1 r (List.mem_of_getElem? hr)
set_option maxHeartbeats 1600000 in
theorem opsOkI (x : Int) (w : World) :
    Calls Tryz.prog 57 #[.int .i64 x] w fun e w' => e = .returned (.bool (decide (0 ≤ x) && decide (x ≤ 100000))) ∧ w' = w := by
  go_enter Tryz.func57, Tryz.ntmps57
  by_cases h1 : 0 ≤ x
  · by_cases h2 : x ≤ 100000
    · go_wp2
      go_ret
      exact ⟨by simp [h1, h2], rfl⟩
    · go_wp2
      go_ret
      exact ⟨by simp [h2], rfl⟩
  · go_wp2
    go_ret
    exact ⟨by simp; omega, rfl⟩
set_option maxHeartbeats 3200000 in
theorem faultOkI (t u v : Int) (w : World) :
    Calls Tryz.prog 109 #[.agg #[.int .i64 t, .int .i64 u, .int .i64 v]] w fun e w' => e = .returned (.bool (ftOk ⟨t, u, v⟩)) ∧ Below w.heap.size w w' := by
  have B0 : Below w.heap.size w (w.alloc (.cells #[.int .i64 t, .int .i64 u, .int .i64 v] 51)) := (Below.refl _ w).alloc (Nat.le_refl _) _
  have hcall := opsOkI t (w.alloc (.cells #[.int .i64 t, .int .i64 u, .int .i64 v] 51))
  have hfo : ftOk ⟨t, u, v⟩ = ((decide (0 ≤ t) && decide (t ≤ 100000)) && (decide (u = 1) || decide (u = 2)) && (decide (0 ≤ v) && decide (v ≤ 400))) := by
    have : (decide (1 ≤ u) && decide (u ≤ 2)) = (decide (u = 1) || decide (u = 2)) := by
      rw [Bool.eq_iff_iff]; simp; omega
    unfold ftOk
    rw [this]
  rw [hfo]
  have HB : Hid _ := B0
  clear hfo B0
  generalize (decide (0 ≤ t) && decide (t ≤ 100000)) = p at hcall
  go_enter Tryz.func109, Tryz.ntmps109
  go_wp2_with fail
  refine hcall.mono ?_
  rintro e w1 ⟨rfl, hw⟩
  obtain rfl := hw.symm
  clear hcall
  cases p
  · go_wp2
    go_ret
    exact ⟨rfl, HB.out⟩
  · by_cases h1 : u = 1
    · subst h1
      by_cases h3 : 0 ≤ v
      · by_cases h4 : v ≤ 400
        · go_wp2
          go_ret
          exact ⟨by simp, HB.out⟩
        · go_wp2
          go_ret
          exact ⟨by simp, HB.out⟩
      · go_wp2
        go_ret
        exact ⟨by simp; omega, HB.out⟩
    · by_cases h2 : u = 2
      · subst h2
        by_cases h3 : 0 ≤ v
        · by_cases h4 : v ≤ 400
          · go_wp2
            go_ret
            exact ⟨by simp, HB.out⟩
          · go_wp2
            go_ret
            exact ⟨by simp, HB.out⟩
        · go_wp2
          go_ret
          exact ⟨by simp; omega, HB.out⟩
      · have e1 : (u == 1) = false := by simpa using h1
        have e2 : (u == 2) = false := by simpa using h2
        go_wp2
        go_ret
        exact ⟨by simp [h1, h2], HB.out⟩
set_option maxRecDepth 100000 in
set_option maxHeartbeats 4000000 in
theorem faultsOkI (a : Option Addr) (n cap : Nat) (fs : List FtD) (w : World) (hf : FR w a n fs) :
    Calls Tryz.prog 58 #[.slice a n cap] w fun e w' => e = .returned (.bool (faultsB fs)) ∧ Below w.heap.size w w' := by
  rw [faultsB_asc, hf.len]
  have hs := hf.tot
  by_cases h20 : n ≤ 20
  · have hd : ¬ (20 : Int) < (n : Int) := by omega
    rw [decide_eq_true h20, Bool.true_and]
    have HR : Hid (FR w a n fs) := hf
    have hln : Hid (fs.length = n) := hf.len
    obtain ⟨R, hR⟩ : ∃ R, (fs.all ftOk && ascN (tmsF fs)) = R := ⟨_, rfl⟩
    have HRR : Hid _ := hR
    rw [hR]
    clear hf hR
    go_enter Tryz.func58, Tryz.ntmps58
    go_wp2
    go_loopw [10] (fun i wr => ∃ (k : Nat), k ≤ n ∧ i = .int .i64 k ∧ Hid (∀ (j : Nat) (b : FtD), j < k → fs[j]? = some b → ftOk b = true) ∧ Hid (Below w.heap.size w wr)) (fun i _ => n - (intOf i).toNat)
    case atStart => exact ⟨0, Nat.zero_le _, rfl, fun j b hj => by omega, Below.refl _ _⟩
    case round =>
      obtain ⟨k, hk, rfl, hall, hB⟩ := hrel
      by_cases hkn : k < n
      · have hki : (k : Int) < (n : Int) := by omega
        obtain ⟨b, off, r, rfl, hlt, hrk, x0, x1, x2⟩ := (HR.out.keep hB.out).some hkn
        have hB2 : Hid (Below w.heap.size w (wr.alloc (.cells #[.int .i64 r.tm, .int .i64 r.kd, .int .i64 r.kp] 51))) := hB.out.alloc hB.out.size _
        have hcall := faultOkI r.tm r.kd r.kp (wr.alloc (.cells #[.int .i64 r.tm, .int .i64 r.kd, .int .i64 r.kp] 51))
        have hmem : Hid (ftOk r = false → R = false) := fun h => by
          rw [← HRR.out]
          have : fs.all ftOk = false := by
            rw [List.all_eq_false]
            exact ⟨r, List.mem_of_getElem? hrk, by simp [h]⟩
          rw [this]; rfl
        have hnx : Hid (ftOk r = true → ∀ (j : Nat) (b : FtD), j < k + 1 → fs[j]? = some b → ftOk b = true) := fun h j b hj hb => by
          rcases (show j < k ∨ j = k by omega) with h1 | rfl
          · exact hall.out j b h1 hb
          · rw [hrk] at hb
            simp at hb
            subst hb
            exact h
        obtain ⟨t, u, v⟩ := r
        dsimp only at x0 x1 x2 hB2 hcall
        obtain ⟨G, hG⟩ : ∃ G, ftOk ⟨t, u, v⟩ = G := ⟨_, rfl⟩
        rw [hG] at hcall hmem hnx
        clear hrk hall hG
        cases G
        · have hR0 : R = false := hmem.out rfl
          subst hR0
          go_wp2_with fail
          refine hcall.mono ?_
          rintro e w2 ⟨rfl, b2⟩
          clear hcall x0 x1 x2
          go_wp2
          go_ret
          exact ⟨rfl, hB2.out.trans (b2.mono hB2.out.size)⟩
        · have hA : Hid _ := hnx.out rfl
          go_wp2_with fail
          refine hcall.mono ?_
          rintro e w2 ⟨rfl, b2⟩
          clear hcall x0 x1 x2
          go_wp2
          go_roundw
          case rel => exact ⟨k + 1, by omega, by go_num, hA, hB2.out.trans (b2.mono hB2.out.size)⟩
          case measure => simp [intOf]; omega
      · have hki : ¬ (k : Int) < (n : Int) := by omega
        have hall1 : fs.all ftOk = true := by
          rw [List.all_eq_true]
          intro f hf
          obtain ⟨j, hj⟩ := List.mem_iff_getElem?.1 hf
          exact hall.out j f (by have := (List.getElem?_eq_some_iff.1 hj).1; have := hln.out; omega) hj
        have hcall := ascF_any a n cap fs wr hln.out (by omega) (HR.out.keep hB.out).rd
        have hRa : Hid (ascN (tmsF fs) = R) := by show _ = _; rw [← HRR.out, hall1]; rfl
        rw [hRa.out] at hcall
        clear hall1
        go_wp2_with fail
        refine hcall.mono ?_
        rintro e w2 ⟨rfl, b2⟩
        clear hcall
        go_wp2
        go_ret
        exact ⟨rfl, hB.out.trans (b2.mono hB.out.size)⟩
  · have hd : (20 : Int) < (n : Int) := by omega
    rw [decide_eq_false h20, Bool.false_and]
    go_enter Tryz.func58, Tryz.ntmps58
    go_wp2
    go_ret
    exact ⟨rfl, Below.refl _ _⟩
end
end Go.Proofs.YtoeeblmnogeonaaGreatDoor
