/-
  Joined: AscT, AscF, DvT.
-/
import Derived.Test.YtpejfkgbfdkdnaaJ05B
import Derived.Test.YtpejfkgbfdkdnaaEntsOkB
import Derived.Maps.OwnSet
import Derived.Maps.OwnOps
namespace Go.Proofs.Ytpejfkgbfdkdnaa
section
open Go.RowKit
/-- All ascend from the second one on. -/
def ascN (xs : List Int) : Bool := (List.range xs.length).all fun i => decide (i = 0) || decide (xs.getD (i - 1) 0 < xs.getD i 0)
end

section
open Go.RowKit
def tmsF (rs : List FtD) : List Int := rs.map FtD.tm
theorem tmsF_length (rs : List FtD) : (tmsF rs).length = rs.length := by simp [tmsF]
theorem tmsF_at {rs : List FtD} {k : Nat} {r : FtD} (h : rs[k]? = some r) : (tmsF rs).getD k 0 = r.tm := by simp [tmsF, List.getD_eq_getElem?_getD, h]
theorem faultTime_any (t k m : Int) (w : World) : Calls Try.prog 72 #[.agg #[.int .i64 t, .int .i64 k, .int .i64 m]] w fun e w' => e = .returned (.int .i64 t) ∧ Below w.heap.size w w' := by
  go_enter Try.func72, Try.ntmps72
  go_wp2
  go_ret
  exact ⟨rfl, (Below.refl _ w).alloc (Nat.le_refl _) _⟩
set_option maxRecDepth 100000 in
set_option maxHeartbeats 4000000 in
theorem ascF_any (a : Option Addr) (n cap : Nat) (rs : List FtD) (w : World) (hn : rs.length = n) (hs : n ≤ 4000000) (hr : RdFa w a rs) :
    Calls Try.prog 71 #[.slice a n cap, .func (.func 72) #[] #[]] w fun e w' => e = .returned (.bool (ascN (tmsF rs))) ∧ Below w.heap.size w w' := by
  have hlast : ascN (tmsF rs) = (List.range n).all fun i => decide (i = 0) || decide ((tmsF rs).getD (i - 1) 0 < (tmsF rs).getD i 0) := by unfold ascN; rw [tmsF_length, hn]
  by_cases h0 : n ≤ 1
  · have hfin : Hid (ascN (tmsF rs) = true) := by
      show _ = _
      rw [hlast]
      exact all_range_true (fun k hk => by obtain rfl := (show k = 0 by omega); rfl)
    have h01 : ¬ (1 : Int) < (n : Int) := by omega
    go_enter Try.func71, Try.ntmps71
    go_wp2
    refine wp_loop_rounds 1 ?_; rw [rounds_succ]
    go_wp2
    go_ret
    exact ⟨ret_bool hfin.out.symm, Below.refl _ _⟩
  · obtain ⟨b, off, rfl, hlt, hc⟩ := hr.lt (by intro h; subst h; simp at hn; omega)
    have HC : Hid _ := hc
    have hn' : Hid (rs.length = n) := hn
    have HL : Hid _ := hlast
    clear hr hc hn hlast
    go_enter Try.func71, Try.ntmps71
    go_wp2
    go_loopw [5] (fun i wr => ∃ k : Nat, k + 1 ≤ n ∧ i = .int .i64 ((k + 1 : Nat) : Int) ∧ Below w.heap.size w wr ∧ Hid (∀ j, j < k + 1 → (decide (j = 0) || decide ((tmsF rs).getD (j - 1) 0 < (tmsF rs).getD j 0)) = true)) (fun i _ => n - (intOf i).toNat)
    case atStart => exact ⟨0, by omega, rfl, Below.refl _ _, fun j hj => by obtain rfl := (show j = 0 by omega); rfl⟩
    case round =>
      obtain ⟨k, hk, rfl, hB, hall⟩ := hrel
      have hbs := hB.size
      by_cases hkn : k + 1 < n
      · have hki : ((k + 1 : Nat) : Int) < (n : Int) := by omega
        have hki0 : (k : Int) < (n : Int) := by omega
        have hk0 : (0 : Int) ≤ (k : Int) := by omega
        have hki2 : (k : Int) + 1 < (n : Int) := by omega
        have hk02 : (0 : Int) ≤ (k : Int) + 1 := by omega
        have hk03 : ((k : Int) + 1).toNat = k + 1 := by omega
        have hwk : IntKind.i64.wrap (k : Int) = (k : Int) := wrap_small _ hk0 (by omega)
        obtain ⟨r, hrk⟩ : ∃ r, rs[k]? = some r := ⟨_, List.getElem?_eq_getElem (by rw [hn'.out]; omega)⟩
        obtain ⟨t, htk⟩ : ∃ r, rs[k + 1]? = some r := ⟨_, List.getElem?_eq_getElem (by rw [hn'.out]; exact hkn)⟩
        have x6 := HC.out k r hrk
        have y6 := HC.out (k + 1) t htk
        have hX0 := fun (W : World) (hW : Below w.heap.size w W) => x6.keep hW hlt
        have hY0 := fun (W : World) (hW : Below w.heap.size w W) => y6.keep hW hlt
        have HX : Hid (∀ W : World, Below w.heap.size w W → W.cell? ⟨b, off + k * 3, none⟩ = some (.int .i64 r.tm) ∧ W.cell? ⟨b, off + k * 3 + 1, none⟩ = some (.int .i64 r.kd) ∧ W.cell? ⟨b, off + k * 3 + 2, none⟩ = some (.int .i64 r.kp) ∧ W.cell? ⟨b, off + (k + 1) * 3, none⟩ = some (.int .i64 t.tm) ∧ W.cell? ⟨b, off + (k + 1) * 3 + 1, none⟩ = some (.int .i64 t.kd) ∧ W.cell? ⟨b, off + (k + 1) * 3 + 2, none⟩ = some (.int .i64 t.kp)) := fun W hW => ⟨(hX0 W hW).c0, (hX0 W hW).c1, (hX0 W hW).c2, (hY0 W hW).c0, (hY0 W hW).c1, (hY0 W hW).c2⟩
        have HAT : Hid ((decide (k + 1 = 0) || decide ((tmsF rs).getD (k + 1 - 1) 0 < (tmsF rs).getD (k + 1) 0)) = decide (r.tm < t.tm)) := by
          show _ = _
          rw [Nat.add_sub_cancel, tmsF_at hrk, tmsF_at htk]
          simp
        generalize r.tm = i1 at HX HAT
        generalize t.tm = j1 at HX HAT
        clear hX0 hY0 x6 y6 hrk htk
        obtain ⟨p0, p1, p2, q0, q1, q2⟩ := HX.out wr hB
        have cI := fun (W : World) => faultTime_any i1 r.kd r.kp W
        have cJ := fun (W : World) => faultTime_any j1 t.kd t.kp W
        go_upto_region 4 with fail
        go_cut [25] (fun s wx => s = .bool (decide (j1 ≤ i1)) ∧ Below w.heap.size w wx)
        case first =>
          go_region_held3 (fun W : World => W.cell? ⟨b, off + k * 3, none⟩ = some (.int .i64 i1) ∧ W.cell? ⟨b, off + k * 3 + 1, none⟩ = some (.int .i64 r.kd) ∧ W.cell? ⟨b, off + k * 3 + 2, none⟩ = some (.int .i64 r.kp) ∧ W.cell? ⟨b, off + (k + 1) * 3, none⟩ = some (.int .i64 j1) ∧ W.cell? ⟨b, off + (k + 1) * 3 + 1, none⟩ = some (.int .i64 t.kd) ∧ W.cell? ⟨b, off + (k + 1) * 3 + 2, none⟩ = some (.int .i64 t.kp)) (go_keep) (first
            | (go_at_call 72; (with_reducible refine (cI wr.drew).mono ?_); rintro e w1 ⟨rfl, b1⟩; have B1 := hB.drew.trans (b1.mono hbs); obtain ⟨e0, e1, e2, f0, f1, f2⟩ := HX.out w1 B1)
            | (go_at_call 72; (with_reducible refine (cJ w1).mono ?_); rintro e w2 ⟨rfl, b2⟩; have B2 := B1.trans (b2.mono B1.size); obtain ⟨e0, e1, e2, f0, f1, f2⟩ := HX.out w2 B2)
            | (go_at_call 72; (with_reducible refine (cJ wr.drew).mono ?_); rintro e w3 ⟨rfl, b1⟩; have B1 := hB.drew.trans (b1.mono hbs); obtain ⟨e0, e1, e2, f0, f1, f2⟩ := HX.out w3 B1)
            | (go_at_call 72; (with_reducible refine (cI w3).mono ?_); rintro e w2 ⟨rfl, b2⟩; have B2 := B1.trans (b2.mono B1.size); obtain ⟨e0, e1, e2, f0, f1, f2⟩ := HX.out w2 B2))
          all_goals (go_wp2_with fail; go_meet; exact ⟨rfl, B2⟩)
        case rest =>
        obtain ⟨rfl, B2⟩ := hcut
        clear p0 p1 p2 q0 q1 q2 cI cJ
        by_cases hless : i1 < j1
        · have hle : decide (j1 ≤ i1) = false := by simp; omega
          have hnx : Hid (∀ j, j < k + 1 + 1 → (decide (j = 0) || decide ((tmsF rs).getD (j - 1) 0 < (tmsF rs).getD j 0)) = true) := by
            intro j hj
            rcases (show j < k + 1 ∨ j = k + 1 by omega) with hj | rfl
            · exact hall.out j hj
            · rw [HAT.out, decide_eq_true hless]
          rw [hle]
          clear HAT hall HL hle
          go_wp2
          go_roundw
          all_goals first
            | (case rel => exact ⟨k + 1, by omega, by go_num, B2, hnx⟩)
            | (case rel => (repeat apply Exists.intro); exact ⟨⟨k + 1, by omega, by go_num, B2, hnx⟩, rfl⟩)
            | (case measure => simp [intOf]; omega)
        · have hle : decide (j1 ≤ i1) = true := by simp; omega
          have hfin : Hid (ascN (tmsF rs) = false) := by show _ = _; rw [HL.out]; exact all_range_false hkn (by rw [HAT.out, decide_eq_false hless])
          rw [hle]
          clear HAT hall HL hle
          go_wp2
          go_ret
          exact ⟨ret_bool hfin.out.symm, B2⟩
      · have hki : ¬ ((k + 1 : Nat) : Int) < (n : Int) := by omega
        obtain rfl : k + 1 = n := by omega
        have hfin : Hid (ascN (tmsF rs) = true) := by show _ = _; rw [HL.out]; exact all_range_true hall.out
        go_wp2
        go_ret
        exact ⟨ret_bool hfin.out.symm, hB⟩
end

section
open Go.RowKit
/-- What a device says. -/
structure DvD where
  ds : List BkD
  ops : Int
  fs : List FtD
  down : Bool
/-- A device of the call's own, new since B. -/
structure NewDv (w : World) (B : Nat) (a : Option Addr) (n c : Nat) (fa : Option Addr) (m fc : Nat) (ds : List BkD) (fs : List FtD) (qs : List BkR) : Prop where
  bs : NewBs w B (.slice a n c) ds qs
  fs : OwnFa w (.slice fa m fc) m fs
  new : ∀ g, (Value.slice fa m fc).ownBlock = some g → B ≤ g ∧ g ∉ fpBs (.slice a n c) qs
/-- The blocks of memory that it takes. -/
def fpDv (a : Option Addr) (n c : Nat) (fa : Option Addr) (m fc : Nat) (qs : List BkR) : List Nat := fpBs (.slice a n c) qs ++ (Value.slice fa m fc).ownBlock.toList
theorem fpDv_bs {a : Option Addr} {n c : Nat} {fa : Option Addr} {m fc : Nat} {qs : List BkR} {g : Nat} (h : g ∈ fpBs (.slice a n c) qs) : g ∈ fpDv a n c fa m fc qs := List.mem_append_left _ h
theorem fpDv_fs {a : Option Addr} {n c : Nat} {fa : Option Addr} {m fc : Nat} {qs : List BkR} {g : Nat} (h : (Value.slice fa m fc).ownBlock = some g) : g ∈ fpDv a n c fa m fc qs := List.mem_append_right _ (by simp [h])
theorem NewDv.keep {w w' : World} {B n c m fc : Nat} {a fa : Option Addr} {ds : List BkD} {fs : List FtD} {qs : List BkR} (h : NewDv w B a n c fa m fc ds fs qs) (hb : Below w.heap.size w w') : NewDv w' B a n c fa m fc ds fs qs := ⟨h.bs.keep hb, OwnE.keep h.fs hb, h.new⟩
theorem NewDv.lt {w : World} {B n c m fc : Nat} {a fa : Option Addr} {ds : List BkD} {fs : List FtD} {qs : List BkR} (h : NewDv w B a n c fa m fc ds fs qs) : ∀ g ∈ fpDv a n c fa m fc qs, g < w.heap.size := fun g hg => by
  rcases List.mem_append.1 hg with h1 | h1
  · exact h.bs.own.lt g h1
  · exact OwnE.lt h.fs (by simpa using h1)
theorem NewDv.from {w : World} {B n c m fc : Nat} {a fa : Option Addr} {ds : List BkD} {fs : List FtD} {qs : List BkR} (h : NewDv w B a n c fa m fc ds fs qs) : ∀ g ∈ fpDv a n c fa m fc qs, B ≤ g := fun g hg => by
  rcases List.mem_append.1 hg with h1 | h1
  · exact h.bs.new g h1
  · exact (h.new g (by simpa using h1)).1
theorem NewDv.svs {w w' : World} {B n c m fc : Nat} {a fa : Option Addr} {ds : List BkD} {fs : List FtD} {qs : List BkR} {F : List Nat} (h : NewDv w B a n c fa m fc ds fs qs) (k : Sv F w w') (hd : ∀ g ∈ fpDv a n c fa m fc qs, g ∉ F) : NewDv w' B a n c fa m fc ds fs qs :=
  ⟨h.bs.svs k fun g hg => hd g (fpDv_bs hg), OwnE.block h.fs fun g hg => k.block g (OwnE.lt h.fs hg) (hd g (fpDv_fs hg)), h.new⟩
theorem NewDv.wider {w : World} {B B' n c m fc : Nat} {a fa : Option Addr} {ds : List BkD} {fs : List FtD} {qs : List BkR} (h : NewDv w B a n c fa m fc ds fs qs) (hB : B' ≤ B) : NewDv w B' a n c fa m fc ds fs qs := ⟨h.bs.wider hB, h.fs, fun g hg => ⟨Nat.le_trans hB (h.new g hg).1, (h.new g hg).2⟩⟩
theorem NewDv.set_below {W : World} {B n c m fc j i : Nat} {a fa : Option Addr} {ds : List BkD} {fs : List FtD} {qs : List BkR} {u : Value} (h : NewDv W B a n c fa m fc ds fs qs) (hj : j < B) : NewDv (W.setCell ⟨j, i, none⟩ u) B a n c fa m fc ds fs qs :=
  ⟨h.bs.set_below hj, OwnE.block h.fs fun g hg => Below.heap_setCell _ _ _ _ (by have := (h.new g hg).1; show g ≠ j; omega), h.new⟩
theorem OwnFa.fr {w : World} {a : Option Addr} {c m : Nat} {fs : List FtD} (h : OwnFa w (.slice a m c) m fs) (hm : m ≤ 1048576) : FR w a m fs := ⟨OwnE.len h, hm, h.rd⟩
/-- A new device was answered. -/
def DvA (w : World) (D : DvD) (e : Ending) (w' : World) : Prop := ∃ a n c fa m fc qs, e = .returned (.agg #[.slice a n c, .int .i64 D.ops, .slice fa m fc, .bool D.down]) ∧ NewDv w' w.heap.size a n c fa m fc D.ds D.fs qs ∧ qs.length = n ∧ Below w.heap.size w w'
end
end Go.Proofs.Ytpejfkgbfdkdnaa
