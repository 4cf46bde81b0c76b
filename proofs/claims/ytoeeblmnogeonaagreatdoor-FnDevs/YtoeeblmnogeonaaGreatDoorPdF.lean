/-
  Joined: LdK, ErM, DrPf, PdM, SamL, DrSm, PdW, PdZ.
-/
import Derived.Test.YtoeeblmnogeonaaGreatDoorJ00T
import Derived.Test.YtoeeblmnogeonaaGreatDoorJ01T
import Derived.Test.YtoeeblmnogeonaaGreatDoorJ02T
import Derived.Test.YtoeeblmnogeonaaGreatDoorJ03T
import Derived.Test.YtoeeblmnogeonaaGreatDoorJ04T
import Derived.Test.YtoeeblmnogeonaaGreatDoorJ05T
import Derived.Test.YtoeeblmnogeonaaGreatDoorJ06T
import Derived.Test.YtoeeblmnogeonaaGreatDoorJ07T
import Derived.Test.YtoeeblmnogeonaaGreatDoorJ08T
import Derived.Test.YtoeeblmnogeonaaGreatDoorJ09T
import Derived.Test.YtoeeblmnogeonaaGreatDoorJ10T
import Derived.Test.YtoeeblmnogeonaaGreatDoorJ11T
import Derived.Test.YtoeeblmnogeonaaGreatDoorJ12T
import Derived.Test.YtoeeblmnogeonaaGreatDoorEntsOkT
import Derived.Test.YtoeeblmnogeonaaGreatDoorJ14T
import Derived.Test.YtoeeblmnogeonaaGreatDoorJ15T
import Derived.Test.YtoeeblmnogeonaaGreatDoorJ16T
import Derived.Test.YtoeeblmnogeonaaGreatDoorJ17T
import Derived.Test.YtoeeblmnogeonaaGreatDoorJ18T
import Derived.Test.YtoeeblmnogeonaaGreatDoorJ19T
import Derived.Test.YtoeeblmnogeonaaGreatDoorJ20T
import Derived.Test.YtoeeblmnogeonaaGreatDoorJ21T
import Derived.Test.YtoeeblmnogeonaaGreatDoorJ22T
import Derived.Test.YtoeeblmnogeonaaGreatDoorJ23T
import Derived.Test.YtoeeblmnogeonaaGreatDoorJ24T
import Derived.Test.YtoeeblmnogeonaaGreatDoorJ25T
import Derived.Test.YtoeeblmnogeonaaGreatDoorJ26T
import Derived.Test.YtoeeblmnogeonaaGreatDoorJ27T
import Derived.Test.YtoeeblmnogeonaaGreatDoorJ28T
import Derived.Test.YtoeeblmnogeonaaGreatDoorJ29T
import Derived.Test.YtoeeblmnogeonaaGreatDoorJ30T
import Derived.Test.YtoeeblmnogeonaaGreatDoorJ31T
import Derived.Test.YtoeeblmnogeonaaGreatDoorErE
import Derived.WalkKit
import Derived.WalkSpells
import Derived.WalkLawsBesides
import Derived.Deep.QuietTactic
import Derived.BigQuiet
import Derived.OpenShut
import Derived.Laws.BitsAllLaws
import Derived.Maps.AppendAt
import Derived.Lib.SliceRun
import Derived.Lib.Strings
import Derived.Deep.RegionWith
import Derived.Laws.IdiomStrings
import Derived.Deep.Slices
import Derived.ProofKit
import Derived.ChangeOld
import Derived.Below
import Derived.Deep.DeepCutAuto
import Derived.Lib.AppendStr
import Derived.Lib.ConvBytes
import Derived.Deep.RegionHeld3
import Derived.Deep.AppendLies
import Derived.Deep.AppendSrc
import Derived.Deep.RegionLaw
import Derived.Deep.MidRow
import Derived.Deep.WholeRow
import Derived.Deep.RegionHeld
import Derived.LaidEql
import Derived.Stop.Asserts
import Derived.RowKitTokens
import Derived.Maps.OwnSet
import Derived.Maps.OwnOps
import Derived.Defers
import Derived.Recover
import Derived.WalkMore
import Derived.Laws.StructEq
import Derived.Laws.BytesString
import Derived.ArgAppend
import Derived.Laws.BitsLemmas
import Derived.Deep.OwnRows
import Derived.Deep.CutBlock
import Derived.Deep.DrawnRows
namespace Go.Proofs.YtoeeblmnogeonaaGreatDoor
section
open Go.RowKit
theorem len_bad (ds : List BkD) (k : Nat) : (badD ds k).length = ds.length := by
  unfold badD
  split
  · simp
  · rfl
end

section
open Go.RowKit
theorem evC_zero {ds : List BkD} {ops : Int} {fs : List FtD} {down : Bool} {c : Int} (h : evCode ds ops fs down c = 0) : devB ds ops fs = true ∧ down = false ∧ ops < 100000 ∧ c = 0 := by
  unfold evCode at h
  split at h
  · omega
  · rename_i h1
    split at h
    · omega
    · rename_i h2
      refine ⟨by simpa using h1, ?_, by omega, h⟩
      cases down
      · rfl
      · exact absurd (.inl rfl) h2
end

section
/-- The block behind a program. -/
def bkP1 (b : BkD) (zs : List Int) : BkD := ⟨b.ps.set (nextP b.ps) ⟨true, zs⟩, b.wear, b.bad⟩
structure Progd (ds : List BkD) (x : Int) (zs : List Int) (k : Nat) (b : BkD) : Prop where
  ok : ChOk ds
  xk : x = (k : Int)
  at_ : ds[k]? = some b
  free : nextP b.ps < 8
  short : zs.length ≤ 400
  new : programD (chipOkB ds) ds x zs = ds.set k (bkP1 b zs)
  ok2 : ChOk (ds.set k (bkP1 b zs))
theorem progd_of {ds : List BkD} {x : Int} {zs : List Int} (h : codeP (chipOkB ds) ds x zs.length = 0) : ∃ k b, Progd ds x zs k b := by
  have h0 := h
  unfold codeP at h
  split at h
  · omega
  · rename_i hz
    unfold mayD at h
    split at h
    · omega
    · rename_i h1
      have hc : chipOkB ds = true := by
        cases hb : chipOkB ds with
        | true => rfl
        | false => exact absurd (.inl hb) h1
      have hok : ChOk ds := (chipOkB_iff ds).1 hc
      have hx : 0 ≤ x ∧ x < (ds.length : Int) := by
        have a1 : ¬ x < 0 := fun e => h1 (.inr (.inl e))
        have a2 : ¬ (ds.length : Int) ≤ x := fun e => h1 (.inr (.inr e))
        omega
      obtain ⟨k, rfl⟩ : ∃ k : Nat, x = (k : Int) := ⟨x.toNat, by omega⟩
      have hk : k < ds.length := by omega
      have hat : ds[k]? = some ds[k] := List.getElem?_eq_getElem hk
      have hnd : nextD ds (k : Int) = (nextP ds[k].ps : Nat) := by unfold nextD; rw [if_pos (by omega)]; simp [hat]
      have hbo := hok.2.2 ds[k] (List.getElem_mem hk)
      have hlt : nextP ds[k].ps < 8 := by
        split at h
        · omega
        · split at h
          · omega
          · rename_i h8
            rw [hnd] at h8
            have hle := nextP_le ds[k].ps
            rw [hbo.1] at hle
            simp at h8
            omega
      have hn : programD (chipOkB ds) ds (k : Int) zs = ds.set k (bkP1 ds[k] zs) := by
        unfold programD
        rw [if_pos h0]
        unfold progAt
        rw [show ((k : Int)).toNat = k by omega, hat]
        rfl
      refine ⟨k, ds[k], hok, rfl, hat, hlt, by omega, hn, ?_⟩
      rw [← hn, hc]
      exact ok_prog hok _ _
theorem Progd.len {ds : List BkD} {x : Int} {zs : List Int} {k : Nat} {b : BkD} (h : Progd ds x zs k b) : k < ds.length := (List.getElem?_eq_some_iff.1 h.at_).1
theorem Progd.bk {ds : List BkD} {x : Int} {zs : List Int} {k : Nat} {b : BkD} (h : Progd ds x zs k b) : BkOk b := h.ok.2.2 b (List.mem_of_getElem? h.at_)
theorem Progd.next {ds : List BkD} {x : Int} {zs : List Int} {k : Nat} {b : BkD} (h : Progd ds x zs k b) : nextD ds (k : Int) = (nextP b.ps : Nat) ∧ nextD (ds.set k (bkP1 b zs)) (k : Int) = (nextP b.ps : Nat) + 1 := by
  have e : (ds.set k (bkP1 b zs))[k]? = some (bkP1 b zs) := List.getElem?_set_self h.len
  have hp := next_put (fun i p hp => (h.bk.2.2.2 i p hp).2) (by rw [h.bk.1]; exact h.free) zs
  constructor
  · unfold nextD
    rw [if_pos (by omega), show ((k : Int)).toNat = k by omega, h.at_]
  · unfold nextD
    rw [if_pos (by omega), show ((k : Int)).toNat = k by omega, e]
    show ((nextP (b.ps.set (nextP b.ps) ⟨true, zs⟩) : Nat) : Int) = _
    rw [hp]
    omega
theorem Progd.other {ds : List BkD} {x : Int} {zs : List Int} {k i j : Nat} {b : BkD} (h : Progd ds x zs k b) (hi : i ≠ k ∨ j ≠ nextP b.ps) : readD (ds.set k (bkP1 b zs)) (i : Int) (j : Int) = readD ds (i : Int) (j : Int) := by
  unfold readD
  rw [if_pos (by omega), if_pos (by omega)]
  simp only [Int.toNat_natCast]
  by_cases hk : i = k
  · subst hk
    rw [List.getElem?_set_self h.len, h.at_]
    dsimp only [bkP1]
    rw [List.getElem?_set_ne (by rcases hi with e | e <;> omega)]
  · rw [List.getElem?_set_ne (Ne.symm hk)]
end

section
open Go.RowKit
theorem readD_prog {ds : List BkD} {k : Nat} {b : BkD} {ys : List Int} (hb : ds[k]? = some b) (hn : nextP b.ps < b.ps.length) : readD (progAt ds k ys) (k : Int) ((nextP b.ps : Nat) : Int) = some ys := by
  have hkl : k < ds.length := (List.getElem?_eq_some_iff.1 hb).1
  unfold progAt readD
  rw [hb]
  dsimp only
  rw [if_pos (by omega)]
  simp only [Int.toNat_natCast]
  rw [List.getElem?_set_self hkl]
  dsimp only
  rw [List.getElem?_set_self hn]
  rfl
/-- What DevProgram leaves and answers. -/
def PrP (ds : List BkD) (ops : Int) (fs : List FtD) (down : Bool) (x : Int) (zs : List Int) (ds' : List BkD) (ops' : Int) (down' : Bool) (code : Int) : Prop :=
  (ds' = ds ∧ ops' = ops ∧ down' = down ∧ code ≠ 0) ∨
  (ops' = ops + 1 ∧ devB ds' ops' fs = true ∧ ∃ (k : Nat) (b : BkD), x = (k : Int) ∧ ds[k]? = some b ∧ nextD ds (k : Int) = ((nextP b.ps : Nat) : Int) ∧
    ((code = 0 ∧ down' = false ∧ readD ds' (k : Int) ((nextP b.ps : Nat) : Int) = some zs) ∨ (code = 2 ∧ down' = false ∧ ds' = badD ds k ∧ readD ds' (k : Int) ((nextP b.ps : Nat) : Int) = none) ∨ (code = 10 ∧ down' = true ∧ ∃ t : Nat, readD ds' (k : Int) ((nextP b.ps : Nat) : Int) = some (zs.take t))))
theorem pr_out (ds : List BkD) (ops : Int) (fs : List FtD) (down : Bool) (x : Int) (nb : Nat) (zs : List Int) (hz : zs.length = nb) :
    PrP ds ops fs down x zs (outDs (evCode ds ops fs down (codeP true ds x nb)) (faD ops fs) ds (progAt ds x.toNat zs) (badD ds x.toNat) (fun t => progAt ds x.toNat (zs.take t.toNat))) (outOps (evCode ds ops fs down (codeP true ds x nb)) ops) (outDown (evCode ds ops fs down (codeP true ds x nb)) (faD ops fs) down) (outCode (evCode ds ops fs down (codeP true ds x nb)) (faD ops fs)) := by
  by_cases hc : evCode ds ops fs down (codeP true ds x nb) = 0
  · obtain ⟨hd, hdn, hop, hce⟩ := evC_zero hc
    have hk := prog_keep (down := down) (x := x) hz hd
    have hch := (devB_parts.1 hd).1
    obtain ⟨k, b, hP⟩ := progd_of (ds := ds) (x := x) (zs := zs) (by rw [(chipOkB_iff ds).2 hch, hz]; exact hce)
    have hx := hP.xk
    subst hx
    have hb := hP.at_
    have hkl : k < ds.length := hP.len
    have hb8 := hP.bk
    have hn8 : nextP b.ps < b.ps.length := by rw [hb8.1]; exact hP.free
    have hND := hP.next.1
    right
    rw [hc] at hk ⊢
    refine ⟨rfl, hk, k, b, rfl, hb, hND, ?_⟩
    unfold outDs outDown outCode
    simp only [if_true, Int.toNat_natCast]
    cases faD ops fs with
    | none =>
      left
      exact ⟨rfl, hdn, readD_prog hb hn8⟩
    | some f =>
      dsimp only
      by_cases hf : f.kd = 1
      · right; left
        rw [if_pos hf, if_pos hf, if_pos hf]
        refine ⟨rfl, hdn, rfl, ?_⟩
        obtain ⟨p, hp⟩ : ∃ p, b.ps[nextP b.ps]? = some p := ⟨_, List.getElem?_eq_getElem hn8⟩
        have hu : p.used = false := by rw [(hb8.2.2.2 _ p hp).2]; simp
        unfold badD readD
        rw [hb]
        dsimp only
        rw [if_pos (by omega)]
        simp only [Int.toNat_natCast]
        rw [List.getElem?_set_self hkl]
        dsimp only
        rw [hp]
        dsimp only
        rw [hu]
        rfl
      · right; right
        rw [if_neg hf, if_neg hf, if_neg hf]
        exact ⟨rfl, rfl, f.kp.toNat, readD_prog hb hn8⟩
  · left
    unfold outDs outOps outDown outCode
    rw [if_neg hc, if_neg hc, if_neg hc, if_neg hc]
    exact ⟨rfl, rfl, rfl, hc⟩
end

section
open Go.RowKit
set_option maxHeartbeats 1000000 in
theorem sameLb_any (a a' : Option Addr) (n m cap cap' : Nat) (zs ys : List Int) (w : World) (hn : zs.length = n) (hm : ys.length = m) (hs : n ≤ 4000000) (hs' : m ≤ 4000000) (hr : Rd w a zs) (hr' : Rd w a' ys) :
    Calls Tryz.prog 16 #[.slice a n cap, .slice a' m cap'] w fun e w' => e = .returned (.bool (decide (zs = ys))) ∧ ∃ d, w' = w.drewN d := by
  by_cases hnm : n = m
  · subst hnm
    by_cases h0 : n = 0
    · subst h0
      obtain rfl : zs = [] := List.length_eq_zero_iff.1 hn
      obtain rfl : ys = [] := List.length_eq_zero_iff.1 hm
      go_enter Tryz.func16, Tryz.ntmps16
      go_wp2
      refine wp_loop_rounds 1 ?_; rw [rounds_succ]
      go_wp2
      go_ret
      exact ⟨rfl, 0, rfl⟩
    · obtain ⟨b, off, rfl, hlt, hc⟩ := hr.lt (by intro h; subst h; simp at hn; omega)
      obtain ⟨b', off', rfl, hlt', hc'⟩ := hr'.lt (by intro h; subst h; simp at hm; omega)
      have HC : Hid _ := hc
      have HC' : Hid _ := hc'
      have hn' : Hid (zs.length = n) := hn
      have hm' : Hid (ys.length = n) := hm
      clear hr hr' hc hc' hn hm
      go_enter Tryz.func16, Tryz.ntmps16
      go_wp2
      go_loopw [5] (fun i wr => ∃ k d : Nat, k ≤ n ∧ i = .int .i64 k ∧ wr = w.drewN d ∧ Hid (∀ j, j < k → zs.getD j 0 = ys.getD j 0)) (fun i _ => n - (intOf i).toNat)
      case atStart => exact ⟨0, 0, Nat.zero_le _, rfl, rfl, fun j hj => by omega⟩
      case round =>
        obtain ⟨k, d, hk, rfl, hwr0, hall⟩ := hrel
        have hwr : Hid (wr = w.drewN d) := hwr0
        have hcells : ∀ p, wr.cell? p = w.cell? p := fun p => by rw [hwr0]; rfl
        clear hwr0
        by_cases hkn : k < n
        · have hki : (k : Int) < (n : Int) := by omega
          have x1 := HC.out k (by rw [hn'.out]; exact hkn)
          have y1 := HC'.out k (by rw [hm'.out]; exact hkn)
          rw [← hcells] at x1 y1
          have hyes : zs.getD k 0 = ys.getD k 0 → ∀ j, j < k + 1 → zs.getD j 0 = ys.getD j 0 := by
            intro e j hj
            rcases (show j < k ∨ j = k by omega) with hj | rfl
            · exact hall.out j hj
            · exact e
          have hno : zs.getD k 0 ≠ ys.getD k 0 → decide (zs = ys) = false := fun e => decide_eq_false (fun e' => e (by rw [e']))
          obtain ⟨z, hz⟩ : ∃ z, zs.getD k 0 = z := ⟨_, rfl⟩
          obtain ⟨y, hy⟩ : ∃ y, ys.getD k 0 = y := ⟨_, rfl⟩
          rw [hz] at x1 hyes hno
          rw [hy] at y1 hyes hno
          by_cases heq : z = y
          · have heq' : (z == y) = true := by simp [heq]
            have hnx : Hid _ := hyes heq
            clear hyes hno heq hz hy hcells hall
            go_wp2
            go_quiet (fail)
            go_wp2
            go_roundw
            case rel => exact ⟨k + 1, d + nq, by omega, by go_num, by rw [hwr.out, World.drewN_drewN], hnx⟩
            case measure => simp [intOf]; omega
          · have heq' : (z == y) = false := by simp [heq]
            have hfin : Hid _ := hno heq
            clear hyes hno heq hz hy hcells hall
            go_wp2
            go_quiet (fail)
            go_wp2
            go_ret
            exact ⟨ret_bool hfin.out.symm, d + nq, by rw [hwr.out, World.drewN_drewN]⟩
        · have hki : ¬ (k : Int) < (n : Int) := by omega
          have hfin : Hid (decide (zs = ys) = true) := decide_eq_true (List.ext_getElem (by rw [hn'.out, hm'.out]) (fun j h h' => by
            have := hall.out j (by rw [hn'.out] at h; omega)
            simpa [h, h'] using this))
          clear hcells hall
          go_wp2
          go_ret
          exact ⟨ret_bool hfin.out.symm, d, hwr.out⟩
  · have hne : Hid (decide (zs = ys) = false) := decide_eq_false (fun e => hnm (by rw [← hn, ← hm, e]))
    have hnm' : ((n : Int) == (m : Int)) = false := by simp; omega
    clear hr hr' hn hm hnm
    go_enter Tryz.func16, Tryz.ntmps16
    go_wp2
    go_ret
    exact ⟨ret_bool hne.out.symm, 0, rfl⟩
end

section
open Go.RowKit
theorem bk_same {ts ts' : List BkR} {k : Nat} {r r' : BkR} (h : ts.map BkR.D = ts'.map BkR.D) (hr : ts[k]? = some r) (hr' : ts'[k]? = some r') : r.ps.map PgR.D = r'.ps.map PgR.D ∧ r.wear = r'.wear ∧ r.bad = r'.bad := by
  have h1 : (ts.map BkR.D)[k]? = some r.D := by rw [List.getElem?_map, hr]; rfl
  rw [h, List.getElem?_map, hr'] at h1
  simp only [Option.map_some, Option.some.injEq, BkR.D, BkD.mk.injEq] at h1
  exact ⟨h1.1.symm, h1.2.1.symm, h1.2.2.symm⟩
theorem pg_same {ps ps' : List PgR} {k : Nat} {p p' : PgR} (h : ps.map PgR.D = ps'.map PgR.D) (hr : ps[k]? = some p) (hr' : ps'[k]? = some p') : p.used = p'.used ∧ p.zs = p'.zs := by
  have h1 : (ps.map PgR.D)[k]? = some p.D := by rw [List.getElem?_map, hr]; rfl
  rw [h, List.getElem?_map, hr'] at h1
  simp only [Option.map_some, Option.some.injEq, PgR.D, PgD.mk.injEq] at h1
  exact ⟨h1.1.symm, h1.2.symm⟩
theorem totP_len' (ps : List PgD) : ps.length ≤ totP ps := by
  induction ps with
  | nil => simp [totP]
  | cons d ds ih => rw [totP_cons, List.length_cons]; omega
set_option maxRecDepth 100000 in
set_option maxHeartbeats 8000000 in
theorem sameChip_same (a a' : Option Addr) (n c c' : Nat) (ts ts' : List BkR) (w : World) (h : CR w a n ts) (h' : CR w a' n ts') (he : ts.map BkR.D = ts'.map BkR.D) :
    Calls Tryz.prog 14 #[.agg #[.slice a n c], .agg #[.slice a' n c']] w fun e w' => e = .returned (.bool true) ∧ Below w.heap.size w w' := by
  have hnn := h.n
  have B0 : Below w.heap.size w ((w.alloc (.cells #[.slice a n c] 26)).alloc (.cells #[.slice a' n c'] 26)) := ((Below.refl _ w).alloc (Nat.le_refl _) _).alloc (by simp) _
  have z0 := (Blk.new w 26 #[.slice a n c]).alloc (.cells #[.slice a' n c'] 26)
  have z1 := Blk.new (w.alloc (.cells #[.slice a n c] 26)) 26 #[.slice a' n c']
  simp only [World.size_alloc] at z1
  obtain ⟨H, hH⟩ : ∃ H, w.heap.size = H := ⟨_, rfl⟩
  rw [hH] at z0 z1
  obtain ⟨W0, hW0⟩ : ∃ W, (w.alloc (.cells #[.slice a n c] 26)).alloc (.cells #[.slice a' n c'] 26) = W := ⟨_, rfl⟩
  rw [hW0] at B0 z0 z1
  have HB0 : Hid (Below w.heap.size w W0) := B0
  have HZ0 : Hid (Blk W0 H 26 #[.slice a n c]) := z0
  have HZ1 : Hid (Blk W0 (H + 1) 26 #[.slice a' n c']) := z1
  have HC : Hid (CR W0 a n ts) := h.keep B0
  have HC' : Hid (CR W0 a' n ts') := h'.keep B0
  have HE : Hid (ts.map BkR.D = ts'.map BkR.D) := he
  have hnf : ((n : Int) != (n : Int)) = false := by simp
  have q0 := z0.cell 0
  have q1 := z1.cell 0
  simp at q0 q1
  clear h h' he B0 z0 z1
  go_enter Tryz.func14, Tryz.ntmps14
  go_wp2_with fail
  try rw [hH]
  try rw [hW0]
  clear hW0
  go_wp2
  go_loopw [5] (fun i wr => ∃ k : Nat, k ≤ n ∧ i = .int .i64 k ∧ Hid (Below W0.heap.size W0 wr)) (fun i _ => n - (intOf i).toNat)
  case atStart => exact ⟨0, Nat.zero_le _, rfl, Below.refl _ _⟩
  case round =>
    obtain ⟨k, hk, rfl, hB⟩ := hrel
    clear q0 q1
    have q0 := (HZ0.out.keep hB.out).cell 0
    have q1 := (HZ1.out.keep hB.out).cell 0
    simp at q0 q1
    by_cases hkn : k < n
    · have hki : (k : Int) < (n : Int) := by omega
      obtain ⟨b, off, r, rfl, hlt, hrk, ⟨x0, x1, x2⟩, hrp, htp⟩ := (HC.out.keep hB.out).some hkn
      obtain ⟨b', off', r', rfl, hlt', hrk', ⟨y0, y1, y2⟩, hrp', htp'⟩ := (HC'.out.keep hB.out).some hkn
      obtain ⟨e1, e2, e3⟩ := bk_same HE.out hrk hrk'
      obtain ⟨ra, rc, ps, wear, bad⟩ := r
      obtain ⟨ra', rc', ps', wear', bad'⟩ := r'
      dsimp only at x0 x1 x2 y0 y1 y2 hrp hrp' htp htp' e1 e2 e3
      subst e2 e3
      have hml : ps'.length = ps.length := by have := congrArg List.length e1; simp at this; omega
      rw [hml] at y0
      have hmt : ps.length ≤ 1048576 := by have := totP_len' (ps.map PgR.D); simp at this; omega
      obtain ⟨m, hm⟩ : ∃ m, ps.length = m := ⟨_, rfl⟩
      rw [hm] at x0 y0 hmt
      have HM : Hid (ps.length = m) := hm
      have HM' : Hid (ps'.length = m) := hml.trans hm
      have HPS : Hid (ps.map PgR.D = ps'.map PgR.D) := e1
      have HTP : Hid (totP (ps.map PgR.D) ≤ 1048576) := htp
      have hsz := hB.out.size
      have bA : Below wr.heap.size wr ((wr.alloc (.cells #[.slice ra m rc, .int .i64 wear, .bool bad] 42)).alloc (.cells #[.slice ra' m rc', .int .i64 wear, .bool bad] 42)) := ((Below.refl _ wr).alloc (Nat.le_refl _) _).alloc (by simp) _
      have u0 := (Blk.new wr 42 #[.slice ra m rc, .int .i64 wear, .bool bad]).alloc (.cells #[.slice ra' m rc', .int .i64 wear, .bool bad] 42)
      have u1 := Blk.new (wr.alloc (.cells #[.slice ra m rc, .int .i64 wear, .bool bad] 42)) 42 #[.slice ra' m rc', .int .i64 wear, .bool bad]
      simp only [World.size_alloc] at u1
      have y0' : (wr.alloc (.cells #[.slice ra m rc, .int .i64 wear, .bool bad] 42)).cell? ⟨b', off' + k * 3, none⟩ = _ := Lib.cell?_alloc_some _ y0
      have y1' : (wr.alloc (.cells #[.slice ra m rc, .int .i64 wear, .bool bad] 42)).cell? ⟨b', off' + k * 3 + 1, none⟩ = _ := Lib.cell?_alloc_some _ y1
      have y2' : (wr.alloc (.cells #[.slice ra m rc, .int .i64 wear, .bool bad] 42)).cell? ⟨b', off' + k * 3 + 2, none⟩ = _ := Lib.cell?_alloc_some _ y2
      have q1' : (wr.alloc (.cells #[.slice ra m rc, .int .i64 wear, .bool bad] 42)).cell? ⟨H + 1, 0, none⟩ = _ := Lib.cell?_alloc_some _ q1
      obtain ⟨V, hV⟩ : ∃ V, (wr.alloc (.cells #[.slice ra m rc, .int .i64 wear, .bool bad] 42)).alloc (.cells #[.slice ra' m rc', .int .i64 wear, .bool bad] 42) = V := ⟨_, rfl⟩
      obtain ⟨G, hG⟩ : ∃ G, wr.heap.size = G := ⟨_, rfl⟩
      rw [hV] at bA u0 u1
      rw [hG] at u0 u1
      have HU0 : Hid (Blk V G 42 #[.slice ra m rc, .int .i64 wear, .bool bad]) := u0
      have HU1 : Hid (Blk V (G + 1) 42 #[.slice ra' m rc', .int .i64 wear, .bool bad]) := u1
      have HRP : Hid (RdPs V ra ps) := hrp.keep bA
      have HRP' : Hid (RdPs V ra' ps') := hrp'.keep bA
      have HBV : Hid (Below W0.heap.size W0 V) := hB.out.trans (bA.mono hsz)
      have hwf : (wear != wear) = false := by simp
      have hbf : (bad != bad) = false := by simp
      have hmf : ((m : Int) != (m : Int)) = false := by simp
      obtain ⟨v0, v1, v2⟩ : _ ∧ _ ∧ _ := ⟨u0.cell 0, u0.cell 1, u0.cell 2⟩
      obtain ⟨t0, t1, t2⟩ : _ ∧ _ ∧ _ := ⟨u1.cell 0, u1.cell 1, u1.cell 2⟩
      simp at v0 v1 v2 t0 t1 t2
      clear hrk hrk' hrp hrp' htp htp' e1 hml hm bA u0 u1 hsz
      go_upto_region 8 with fail
      try rw [hV]
      try rw [hG]
      clear hV hG x0 x1 x2 y0 y1 y2 y0' y1' y2' q0 q1 q1'
      go_wp2
      go_loopw [8] (fun i wr => ∃ j : Nat, j ≤ m ∧ i = .int .i64 j ∧ Hid (Below V.heap.size V wr)) (fun i _ => m - (intOf i).toNat)
      case atStart => exact ⟨0, Nat.zero_le _, rfl, Below.refl _ _⟩
      case round =>
        obtain ⟨j, hj, rfl, hBi⟩ := hrel
        clear v0 v1 v2 t0 t1 t2
        have v0 := (HU0.out.keep hBi.out).cell 0
        have t0 := (HU1.out.keep hBi.out).cell 0
        simp at v0 t0
        by_cases hjm : j < m
        · have hji : (j : Int) < (m : Int) := by omega
          obtain ⟨p, hp⟩ : ∃ p, ps[j]? = some p := ⟨_, List.getElem?_eq_getElem (by rw [HM.out]; exact hjm)⟩
          obtain ⟨p', hp'⟩ : ∃ p, ps'[j]? = some p := ⟨_, List.getElem?_eq_getElem (by rw [HM'.out]; exact hjm)⟩
          obtain ⟨e1, e2⟩ := pg_same HPS.out hp hp'
          obtain ⟨pb, po, rfl, plt, pc⟩ := (HRP.out.keep hBi.out).lt (by intro e; subst e; simp at hp)
          obtain ⟨pb', po', rfl, plt', pc'⟩ := (HRP'.out.keep hBi.out).lt (by intro e; subst e; simp at hp')
          obtain ⟨⟨p0, p1⟩, pr⟩ := pc j p hp
          obtain ⟨⟨r0, r1⟩, prr⟩ := pc' j p' hp'
          have hzl : p.zs.length ≤ 1048576 := by
            have h1 : p.D ∈ ps.map PgR.D := List.mem_map_of_mem (List.mem_of_getElem? hp)
            have := totP_mem h1
            have h2 := HTP.out
            have h3 : p.D.zs = p.zs := rfl
            rw [h3] at this
            omega
          obtain ⟨us, pa, pcap, zs⟩ := p
          obtain ⟨us', pa', pcap', zs'⟩ := p'
          dsimp only at p0 p1 pr r0 r1 prr e1 e2 hzl
          subst e1 e2
          obtain ⟨l, hl⟩ : ∃ l, zs.length = l := ⟨_, rfl⟩
          rw [hl] at p1 r1 hzl
          have HL : Hid (zs.length = l) := hl
          have huf : (us != us) = false := by simp
          have hcall := sameLb_any pa pa' l l pcap pcap' zs zs wr.drew HL.out HL.out (by omega) (by omega) (pr.keep (Below.refl _ _).drew) (prr.keep (Below.refl _ _).drew)
          rw [show decide (zs = zs) = true by simp] at hcall
          have HPC : Hid (∀ d, (wr.drew.drewN d).cell? ⟨G, 0, none⟩ = some (.slice (some ⟨pb, po, none⟩) m rc) ∧ (wr.drew.drewN d).cell? ⟨G + 1, 0, none⟩ = some (.slice (some ⟨pb', po', none⟩) m rc') ∧ (wr.drew.drewN d).cell? ⟨pb, po + j * 2, none⟩ = some (.bool us) ∧ (wr.drew.drewN d).cell? ⟨pb, po + j * 2 + 1, none⟩ = some (.slice pa l pcap) ∧ (wr.drew.drewN d).cell? ⟨pb', po' + j * 2, none⟩ = some (.bool us) ∧ (wr.drew.drewN d).cell? ⟨pb', po' + j * 2 + 1, none⟩ = some (.slice pa' l pcap')) := fun d => ⟨v0, t0, p0, p1, r0, r1⟩
          have HBI : Hid (Below V.heap.size V wr.drew) := hBi.out.drew
          clear hp hp' pc pc' pr prr hl plt plt'
          go_upto_region 13 with fail
          refine wp_region_noPanic ?_
          refine wp_region_held_drew (S := fun W : World => W.cell? ⟨G, 0, none⟩ = some (.slice (some ⟨pb, po, none⟩) m rc) ∧ W.cell? ⟨G + 1, 0, none⟩ = some (.slice (some ⟨pb', po', none⟩) m rc') ∧ W.cell? ⟨pb, po + j * 2, none⟩ = some (.bool us) ∧ W.cell? ⟨pb, po + j * 2 + 1, none⟩ = some (.slice pa l pcap) ∧ W.cell? ⟨pb', po' + j * 2, none⟩ = some (.bool us) ∧ W.cell? ⟨pb', po' + j * 2 + 1, none⟩ = some (.slice pa' l pcap')) (by kernel_rfl) (by go_keep) (fun hS => ?_)
          refine wpAnyH_take (i := 0) (v := ?gv1) rfl (by kernel_rfl) (by kernel_rfl) (by kernel_rfl) (fun _ _ _ h => h) (Or.inl ⟨by kernel_rfl, ?gy1⟩) (by assumption) ?gr1
          case gy1 => (intro w' hSw; (try dsimp only at hSw); go_simp; (try with_reducible rfl))
          try simp only [Act.put, List.setIfInBounds_toArray, List.set_cons_zero, List.set_cons_succ, List.getElem_toArray, List.getElem_cons_zero]
          refine wpAnyH_take (i := 1) (v := ?gv2) rfl (by kernel_rfl) (by kernel_rfl) (by kernel_rfl) (fun _ _ _ h => h) (Or.inl ⟨by kernel_rfl, ?gy2⟩) (by assumption) ?gr2
          case gy2 => (intro w' hSw; (try dsimp only at hSw); go_simp; (try with_reducible rfl))
          try simp only [Act.put, List.setIfInBounds_toArray, List.set_cons_zero, List.set_cons_succ, List.getElem_toArray, List.getElem_cons_succ, List.getElem_cons_zero]
          refine wpAnyH_take (i := 2) (v := ?gv3) rfl (by kernel_rfl) (by kernel_rfl) (by kernel_rfl) (fun _ _ _ h => h) (Or.inl ⟨by kernel_rfl, ?gy3⟩) (by assumption) ?gr3
          case gy3 => (intro w' hSw; (try dsimp only at hSw); go_simp; (try with_reducible rfl))
          try simp only [Act.put, List.setIfInBounds_toArray, List.set_cons_zero, List.set_cons_succ, List.getElem_toArray, List.getElem_cons_succ, List.getElem_cons_zero]
          refine wpAnyH_take (i := 3) (v := ?gv4) rfl (by kernel_rfl) (by kernel_rfl) (by kernel_rfl) (fun _ _ _ h => h) (Or.inl ⟨by kernel_rfl, ?gy4⟩) (by assumption) ?gr4
          case gy4 => (intro w' hSw; (try dsimp only at hSw); go_simp; (try with_reducible rfl))
          try simp only [Act.put, List.setIfInBounds_toArray, List.set_cons_zero, List.set_cons_succ, List.getElem_toArray, List.getElem_cons_succ, List.getElem_cons_zero]
          refine wpAnyH_take (i := 4) (v := ?gv5) rfl (by kernel_rfl) (by kernel_rfl) (by kernel_rfl) (fun _ _ _ h => h) (Or.inl ⟨by kernel_rfl, ?gy5⟩) (by assumption) ?gr5
          case gy5 => (intro w' hSw; (try dsimp only at hSw); go_simp; (try with_reducible rfl))
          try simp only [Act.put, List.setIfInBounds_toArray, List.set_cons_zero, List.set_cons_succ, List.getElem_toArray, List.getElem_cons_succ, List.getElem_cons_zero]
          refine wpAnyH_take (i := 5) (v := ?gv6) rfl (by kernel_rfl) (by kernel_rfl) (by kernel_rfl) (fun _ _ _ h => h) (Or.inl ⟨by kernel_rfl, ?gy6⟩) (by assumption) ?gr6
          case gy6 => (intro w' hSw; (try dsimp only at hSw); go_simp; (try with_reducible rfl))
          try simp only [Act.put, List.setIfInBounds_toArray, List.set_cons_zero, List.set_cons_succ, List.getElem_toArray, List.getElem_cons_succ, List.getElem_cons_zero]
          refine wpAnyH_take (i := 6) (v := ?gv7) rfl (by kernel_rfl) (by kernel_rfl) (by kernel_rfl) (fun _ _ _ h => h) (Or.inl ⟨by kernel_rfl, ?gy7⟩) (by assumption) ?gr7
          case gy7 => (intro w' hSw; (try dsimp only at hSw); go_simp; (try with_reducible rfl))
          try simp only [Act.put, List.setIfInBounds_toArray, List.set_cons_zero, List.set_cons_succ, List.getElem_toArray, List.getElem_cons_succ, List.getElem_cons_zero]
          refine wpAnyH_take (i := 7) (v := ?gv8) rfl (by kernel_rfl) (by kernel_rfl) (by kernel_rfl) (fun _ _ _ h => h) (Or.inl ⟨by kernel_rfl, ?gy8⟩) (by assumption) ?gr8
          case gy8 => (intro w' hSw; (try dsimp only at hSw); go_simp; (try with_reducible rfl))
          try simp only [Act.put, List.setIfInBounds_toArray, List.set_cons_zero, List.set_cons_succ, List.getElem_toArray, List.getElem_cons_succ, List.getElem_cons_zero]
          refine wpAnyH_take (i := 8) (v := ?gv9) rfl (by kernel_rfl) (by kernel_rfl) (by kernel_rfl) (fun _ _ _ h => h) (Or.inl ⟨by kernel_rfl, ?gy9⟩) (by assumption) ?gr9
          case gy9 => (intro w' hSw; (try dsimp only at hSw); go_simp; (try with_reducible rfl))
          try simp only [Act.put, List.setIfInBounds_toArray, List.set_cons_zero, List.set_cons_succ, List.getElem_toArray, List.getElem_cons_succ, List.getElem_cons_zero]
          refine wpAnyH_take (i := 9) (v := ?gv10) rfl (by kernel_rfl) (by kernel_rfl) (by kernel_rfl) (fun _ _ _ h => h) (Or.inl ⟨by kernel_rfl, ?gy10⟩) (by assumption) ?gr10
          case gy10 => (intro w' hSw; (try dsimp only at hSw); go_simp; (try with_reducible rfl))
          try simp only [Act.put, List.setIfInBounds_toArray, List.set_cons_zero, List.set_cons_succ, List.getElem_toArray, List.getElem_cons_succ, List.getElem_cons_zero]
          refine wpAnyH_take (i := 10) (v := ?gv11) rfl (by kernel_rfl) (by kernel_rfl) (by kernel_rfl) (fun _ _ _ h => h) (Or.inl ⟨by kernel_rfl, ?gy11⟩) (by assumption) ?gr11
          case gy11 => (intro w' hSw; (try dsimp only at hSw); go_simp; (try with_reducible rfl))
          try simp only [Act.put, List.setIfInBounds_toArray, List.set_cons_zero, List.set_cons_succ, List.getElem_toArray, List.getElem_cons_succ, List.getElem_cons_zero]
          refine wpAnyH_take (i := 11) (v := ?gv12) rfl (by kernel_rfl) (by kernel_rfl) (by kernel_rfl) (fun _ _ _ h => h) (Or.inl ⟨by kernel_rfl, ?gy12⟩) (by assumption) ?gr12
          case gy12 => (intro w' hSw; (try dsimp only at hSw); go_simp; (try with_reducible rfl))
          try simp only [Act.put, List.setIfInBounds_toArray, List.set_cons_zero, List.set_cons_succ, List.getElem_toArray, List.getElem_cons_succ, List.getElem_cons_zero]
          refine wpAnyH_take (i := 12) (v := ?gv13) rfl (by kernel_rfl) (by kernel_rfl) (by kernel_rfl) (fun _ _ _ h => h) (Or.inl ⟨by kernel_rfl, ?gy13⟩) (by assumption) ?gr13
          case gy13 => (intro w' hSw; (try dsimp only at hSw); go_simp; (try with_reducible rfl))
          try simp only [Act.put, List.setIfInBounds_toArray, List.set_cons_zero, List.set_cons_succ, List.getElem_toArray, List.getElem_cons_succ, List.getElem_cons_zero]
          refine wpAnyH_take (i := 13) (v := ?gv14) rfl (by kernel_rfl) (by kernel_rfl) (by kernel_rfl) (fun _ _ _ h => h) (Or.inl ⟨by kernel_rfl, ?gy14⟩) (by assumption) ?gr14
          case gy14 => (intro w' hSw; (try dsimp only at hSw); go_simp; (try with_reducible rfl))
          try simp only [Act.put, List.setIfInBounds_toArray, List.set_cons_zero, List.set_cons_succ, List.getElem_toArray, List.getElem_cons_succ, List.getElem_cons_zero]
          refine wpAnyH_take (i := 14) (v := ?gv15) rfl (by kernel_rfl) (by kernel_rfl) (by kernel_rfl) (fun _ _ _ h => h) (Or.inl ⟨by kernel_rfl, ?gy15⟩) (by assumption) ?gr15
          case gy15 => (intro w' hSw; (try dsimp only at hSw); go_simp; (try with_reducible rfl))
          try simp only [Act.put, List.setIfInBounds_toArray, List.set_cons_zero, List.set_cons_succ, List.getElem_toArray, List.getElem_cons_succ, List.getElem_cons_zero]
          refine wpAnyH_take (i := 15) (v := ?gv16) rfl (by kernel_rfl) (by kernel_rfl) (by kernel_rfl) (fun _ _ _ h => h) (Or.inl ⟨by kernel_rfl, ?gy16⟩) (by assumption) ?gr16
          case gy16 => (intro w' hSw; (try dsimp only at hSw); go_simp; (try with_reducible rfl))
          try simp only [Act.put, List.setIfInBounds_toArray, List.set_cons_zero, List.set_cons_succ, List.getElem_toArray, List.getElem_cons_succ, List.getElem_cons_zero]
          refine wpAnyH_take (i := 16) (v := ?gv17) rfl (by kernel_rfl) (by kernel_rfl) (by kernel_rfl) (fun _ _ _ h => h) (Or.inl ⟨by kernel_rfl, ?gy17⟩) (by assumption) ?gr17
          case gy17 => (intro w' hSw; (try dsimp only at hSw); go_simp; (try with_reducible rfl))
          try simp only [Act.put, List.setIfInBounds_toArray, List.set_cons_zero, List.set_cons_succ, List.getElem_toArray, List.getElem_cons_succ, List.getElem_cons_zero]
          refine wpAnyH_take (i := 17) (v := ?gv18) rfl (by kernel_rfl) (by kernel_rfl) (by kernel_rfl) (fun _ _ _ h => h) (Or.inl ⟨by kernel_rfl, ?gy18⟩) (by assumption) ?gr18
          case gy18 => (intro w' hSw; (try dsimp only at hSw); go_simp; (try with_reducible rfl))
          try simp only [Act.put, List.setIfInBounds_toArray, List.set_cons_zero, List.set_cons_succ, List.getElem_toArray, List.getElem_cons_succ, List.getElem_cons_zero]
          refine wpAnyH_take (i := 18) (v := ?gv19) rfl (by kernel_rfl) (by kernel_rfl) (by kernel_rfl) (fun _ _ _ h => h) (Or.inl ⟨by kernel_rfl, ?gy19⟩) (by assumption) ?gr19
          case gy19 => (intro w' hSw; (try dsimp only at hSw); go_simp; (try with_reducible rfl))
          try simp only [Act.put, List.setIfInBounds_toArray, List.set_cons_zero, List.set_cons_succ, List.getElem_toArray, List.getElem_cons_succ, List.getElem_cons_zero]
          refine wpAnyH_take (i := 19) (v := ?gv20) rfl (by kernel_rfl) (by kernel_rfl) (by kernel_rfl) (fun _ _ _ h => h) (Or.inl ⟨by kernel_rfl, ?gy20⟩) (by assumption) ?gr20
          case gy20 => (intro w' hSw; (try dsimp only at hSw); go_simp; (try with_reducible rfl))
          try simp only [Act.put, List.setIfInBounds_toArray, List.set_cons_zero, List.set_cons_succ, List.getElem_toArray, List.getElem_cons_succ, List.getElem_cons_zero]
          refine wpAnyH_take (i := 20) (v := ?gv21) rfl (by kernel_rfl) (by kernel_rfl) (by kernel_rfl) (fun _ _ _ h => h) (Or.inl ⟨by kernel_rfl, ?gy21⟩) (by assumption) ?gr21
          case gy21 => (intro w' hSw; (try dsimp only at hSw); go_simp; (try with_reducible rfl))
          try simp only [Act.put, List.setIfInBounds_toArray, List.set_cons_zero, List.set_cons_succ, List.getElem_toArray, List.getElem_cons_succ, List.getElem_cons_zero]
          refine wpAnyH_take (i := 21) (v := ?gv22) rfl (by kernel_rfl) (by kernel_rfl) (by kernel_rfl) (fun _ _ _ h => h) (Or.inl ⟨by kernel_rfl, ?gy22⟩) (by assumption) ?gr22
          case gy22 => (intro w' hSw; (try dsimp only at hSw); go_simp; (try with_reducible rfl))
          try simp only [Act.put, List.setIfInBounds_toArray, List.set_cons_zero, List.set_cons_succ, List.getElem_toArray, List.getElem_cons_succ, List.getElem_cons_zero]
          refine wpAnyH_take (i := 22) (v := ?gv23) rfl (by kernel_rfl) (by kernel_rfl) (by kernel_rfl) (fun _ _ _ h => h) (Or.inl ⟨by kernel_rfl, ?gy23⟩) (by assumption) ?gr23
          case gy23 => (intro w' hSw; (try dsimp only at hSw); go_simp; (try with_reducible rfl))
          try simp only [Act.put, List.setIfInBounds_toArray, List.set_cons_zero, List.set_cons_succ, List.getElem_toArray, List.getElem_cons_succ, List.getElem_cons_zero]
          refine wpAnyH_take (i := 23) (v := ?gv24) rfl (by kernel_rfl) (by kernel_rfl) (by kernel_rfl) (fun _ _ _ h => h) (Or.inl ⟨by kernel_rfl, ?gy24⟩) (by assumption) ?gr24
          case gy24 => (intro w' hSw; (try dsimp only at hSw); go_simp; (try with_reducible rfl))
          try simp only [Act.put, List.setIfInBounds_toArray, List.set_cons_zero, List.set_cons_succ, List.getElem_toArray, List.getElem_cons_succ, List.getElem_cons_zero]
          refine wpAnyH_take (i := 24) (v := ?gv25) rfl (by kernel_rfl) (by kernel_rfl) (by kernel_rfl) (fun _ _ _ h => h) (Or.inl ⟨by kernel_rfl, ?gy25⟩) (by assumption) ?gr25
          case gy25 => (intro w' hSw; (try dsimp only at hSw); go_simp; (try with_reducible rfl))
          try simp only [Act.put, List.setIfInBounds_toArray, List.set_cons_zero, List.set_cons_succ, List.getElem_toArray, List.getElem_cons_succ, List.getElem_cons_zero]
          refine wpAnyH_take (i := 25) (v := ?gv26) rfl (by kernel_rfl) (by kernel_rfl) (by kernel_rfl) (fun _ _ _ h => h) (Or.inl ⟨by kernel_rfl, ?gy26⟩) (by assumption) ?gr26
          case gy26 => (intro w' hSw; (try dsimp only at hSw); go_simp; (try with_reducible rfl))
          try simp only [Act.put, List.setIfInBounds_toArray, List.set_cons_zero, List.set_cons_succ, List.getElem_toArray, List.getElem_cons_succ, List.getElem_cons_zero]
          refine wpAnyH_ready (rs := [26]) (by kernel_rfl) (by simp) ?_
          refine AllReadyH.cons rfl (fun K hK => ?_) AllReadyH.nil
          go_simp
          (with_reducible refine hcall.mono ?_)
          rintro e u26 ⟨rfl, dd, rfl⟩
          have q26 := HPC.out dd
          clear hS
          dsimp only
          refine Shut.out hK _ _ (q26) (fun hS => ?_)
          try simp only [Act.put, List.setIfInBounds_toArray, List.set_cons_zero, List.set_cons_succ, List.getElem_toArray, List.getElem_cons_succ, List.getElem_cons_zero]
          refine wpAnyH_take (i := 27) (v := ?gv27) rfl (by kernel_rfl) (by kernel_rfl) (by kernel_rfl) (fun _ _ _ h => h) (Or.inl ⟨by kernel_rfl, ?gy27⟩) (by assumption) ?gr27
          case gy27 => (intro w' hSw; (try dsimp only at hSw); go_simp; (try with_reducible rfl))
          try simp only [Act.put, List.setIfInBounds_toArray, List.set_cons_zero, List.set_cons_succ, List.getElem_toArray, List.getElem_cons_succ, List.getElem_cons_zero]
          refine wpAnyH_take (i := 28) (v := ?gv28) rfl (by kernel_rfl) (by kernel_rfl) (by kernel_rfl) (fun _ _ _ h => h) (Or.inl ⟨by kernel_rfl, ?gy28⟩) (by assumption) ?gr28
          case gy28 => (intro w' hSw; (try dsimp only at hSw); go_simp; (try with_reducible rfl))
          try simp only [Act.put, List.setIfInBounds_toArray, List.set_cons_zero, List.set_cons_succ, List.getElem_toArray, List.getElem_cons_succ, List.getElem_cons_zero]
          refine wpAnyH_done (by kernel_rfl) (NoPanic.normal ?_) _
          have HBN : Hid (Below V.heap.size V (wr.drewN (1 + dd))) := below_drewN hBi.out (1 + dd)
          clear hcall v0 t0 p0 p1 r0 r1
          go_wp2
          go_roundw
          all_goals first
            | (case rel => exact ⟨j + 1, by omega, by go_num, HBN⟩)
            | (case rel => (repeat apply Exists.intro); exact ⟨⟨j + 1, by omega, by go_num, HBN⟩, rfl⟩)
            | (case measure => simp [intOf]; omega)
        · have hji : ¬ (j : Int) < (m : Int) := by omega
          have HBI : Hid (Below W0.heap.size W0 wr) := HBV.out.trans (hBi.out.mono HBV.out.size)
          clear t0 hBi
          go_wp2
          go_roundw
          all_goals first
            | (case rel => exact ⟨k + 1, by omega, by go_num, HBI⟩)
            | (case rel => (repeat apply Exists.intro); exact ⟨⟨k + 1, by omega, by go_num, HBI⟩, rfl⟩)
            | (case measure => simp [intOf]; omega)
    · have hki : ¬ (k : Int) < (n : Int) := by omega
      go_wp2
      go_ret
      exact ⟨rfl, by have h9 := HB0.out.trans (hB.out.mono HB0.out.size); first | exact h9 | (rw [← hH]; exact h9)⟩
end

section
open Go.RowKit
/-- A device that can be read, and its box. -/
structure DKp (W : World) (X : Nat) (va : Option Addr) (vn vc : Nat) (op : Int) (fa : Option Addr) (m fc : Nat) (dn : Bool) (qs : List BkR) (fs : List FtD) : Prop where
  c : CR W va vn qs
  f : FR W fa m fs
  b : Blk W X 29 #[.slice va vn vc, .int .i64 op, .slice fa m fc, .bool dn]
theorem DKp.keep {W W' : World} {X : Nat} {va : Option Addr} {vn vc : Nat} {op : Int} {fa : Option Addr} {m fc : Nat} {dn : Bool} {qs : List BkR} {fs : List FtD} (h : DKp W X va vn vc op fa m fc dn qs fs) (hb : Below W.heap.size W W') : DKp W' X va vn vc op fa m fc dn qs fs := ⟨h.c.keep hb, h.f.keep hb, h.b.keep hb⟩
theorem below_p {w w1 w2 : World} (h : Below w.heap.size w w1) (h2 : Below w1.heap.size w1 w2) : Below w.heap.size w w2 := h.trans (h2.mono h.size)
set_option maxRecDepth 100000 in
set_option maxHeartbeats 8000000 in
theorem walkDevs (a0 : Option Addr) (len0 cap0 : Nat) (zs : List Int) (w : World) (hn : zs.length = len0) (hr : Rd w a0 zs) (hb : Byt zs) (hg : EtCell w) :
    Calls Tryz.prog 3 #[.slice a0 len0 cap0] w fun e w' => e = .returned (.bool true) ∧ Below w.heap.size w w' := by
  by_cases hbig : 1048576 < len0
  · have hd : decide ((1048576 : Int) < (len0 : Int)) = true := by simp; omega
    go_enter Tryz.func3, Tryz.ntmps3
    go_wp2_with fail
    refine (big_any a0 len0 cap0 w).mono ?_
    rintro e w1 ⟨rfl, hw⟩
    obtain rfl := hw.symm
    rw [hd]
    go_wp2
    go_ret
    exact ⟨rfl, Below.refl _ _⟩
  have hd : decide ((1048576 : Int) < (len0 : Int)) = false := by simp; omega
  have hcL := drawDevProg_any a0 len0 cap0 zs w hn (by omega) hr hb
  have HG : Hid (EtCell w) := hg
  clear hn hr hb hg
  go_enter Tryz.func3, Tryz.ntmps3
  go_wp2_with fail
  refine (big_any a0 len0 cap0 w).mono ?_
  rintro e w1 ⟨rfl, hw⟩
  obtain rfl := hw.symm
  rw [hd]
  clear hd hbig
  go_wp2_with fail
  refine hcL.mono ?_
  rintro e w1 ⟨va, vn, vc, op, fa, m, fc, dn, x, gb, nb, cb, ys, qs, fs, rfl, hx, ac, hpv, af, hm, hmb, hby, oy, hgb, b1⟩
  have b2 : Below w1.heap.size w1 (w1.alloc (.cells #[.slice va vn vc, .int .i64 op, .slice fa m fc, .bool dn] 29)) := (Below.refl _ _).alloc (Nat.le_refl _) _
  have d2 : DKp (w1.alloc (.cells #[.slice va vn vc, .int .i64 op, .slice fa m fc, .bool dn] 29)) w1.heap.size va vn vc op fa m fc dn qs fs := ⟨ac.cr.keep b2, FR.keep (af w1 (fun _ _ _ => rfl)) b2, Blk.new w1 _ _⟩
  have B2 := below_p b1 b2
  obtain ⟨ds, hds⟩ : ∃ d, qs.map BkR.D = d := ⟨_, rfl⟩
  have hyl : ys.length = nb := oy.len2
  have hcb := oy.capE
  have HO := pr_out ds op fs dn x nb ys hyl
  have CI := fun (W : World) (hc : CR W va vn qs) (hf : FR W fa m fs) (hr : Rd W (some ⟨gb, 0, none⟩) ys) (hE : EtCell W) => devPrI va vn vc qs op fa m fc fs dn x gb nb cb ys W hc hf hyl ⟨hcb, by omega⟩ hr hE
  have CS := fun (W : World) (hc : CR W va vn qs) (hf : FR W fa m fs) (hr : Rd W (some ⟨gb, 0, none⟩) ys) => devPrS va vn vc qs op fa m fc fs dn x gb nb cb ys W hc hf hyl ⟨hcb, by omega⟩ hr
  have C0 := nextI va vn vc qs x _ d2.c
  have o2 := oy.keep b2 oy.lt
  rw [hds] at CI CS C0
  obtain ⟨N0, hN0⟩ : ∃ d, nextD ds x = d := ⟨_, rfl⟩
  rw [hN0] at C0
  have HN0 : Hid (nextD ds x = N0) := hN0
  obtain ⟨ds', hds'⟩ : ∃ d, outDs (evCode ds op fs dn (codeP true ds x nb)) (faD op fs) ds (progAt ds x.toNat ys) (badD ds x.toNat) (fun t => progAt ds x.toNat (ys.take t.toNat)) = d := ⟨_, rfl⟩
  obtain ⟨op', hop'⟩ : ∃ d, outOps (evCode ds op fs dn (codeP true ds x nb)) op = d := ⟨_, rfl⟩
  obtain ⟨dn', hdn'⟩ : ∃ d, outDown (evCode ds op fs dn (codeP true ds x nb)) (faD op fs) dn = d := ⟨_, rfl⟩
  obtain ⟨cd, hcd⟩ : ∃ d, outCode (evCode ds op fs dn (codeP true ds x nb)) (faD op fs) = d := ⟨_, rfl⟩
  rw [hds', hop', hdn', hcd] at HO CI CS
  have HER : Hid _ := HO
  have HCI : Hid _ := CI
  have HCS : Hid _ := CS
  have HDS : Hid (qs.map BkR.D = ds) := hds
  have htot : totB ds ≤ 1048576 := by rw [← hds]; exact d2.c.tot
  obtain ⟨q0, q1, q2, q3⟩ := d2.b.dev
  clear hcL hds hds' hop' hdn' hcd HO CI CS ac af b1 b2 hN0 oy
  go_wp2_with fail
  obtain ⟨W2, hW2⟩ : ∃ W, w1.alloc (.cells #[.slice va vn vc, .int .i64 op, .slice fa m fc, .bool dn] 29) = W := ⟨_, rfl⟩
  obtain ⟨X, hX⟩ : ∃ X, w1.heap.size = X := ⟨_, rfl⟩
  rw [hW2, hX] at d2
  rw [hW2] at B2 C0 o2
  try rw [hW2]
  try rw [hX]
  clear hW2 hX q0 q1 q2 q3
  refine C0.mono ?_
  rintro e w2' ⟨rfl, b2'⟩
  have d2' := d2.keep b2'
  have o2' := o2.keep b2' o2.lt
  have B2' := below_p B2 b2'
  clear d2 o2 B2 b2' C0
  obtain ⟨q0, q1, q2, q3⟩ := d2'.b.dev
  go_wp2_with fail
  refine (HCI.out w2' d2'.c d2'.f o2'.rd (EtCell.keep HG.out B2')).mono ?_
  rintro e w3 ⟨a3, n3, c3, fa3, m3, fc3, qs3, rfl, hnd3, hql3, b3⟩
  dsimp only at hnd3 ⊢
  have d3 := d2'.keep b3
  have o3 := o2'.keep b3 o2'.lt
  have B3 := below_p B2' b3
  clear q0 q1 q2 q3
  have htot' : totB ds' ≤ 1048576 := by
    rcases HER.out with ⟨h, _⟩ | ⟨_, h, _⟩
    · rw [h]; exact htot
    · exact devB_tot h
  have hfl := d2'.f.len
  have hD3 : qs3.map BkR.D = ds' := hnd3.bs.D
  have c3' : CR w3 a3 n3 qs3 := hnd3.cr hql3 htot'
  have f3' : FR w3 fa3 m3 fs := OwnFa.fr hnd3.fs (by have := OwnE.len hnd3.fs; omega)
  have b4 : Below w3.heap.size w3 (w3.alloc (.cells #[.slice a3 n3 c3, .int .i64 op', .slice fa3 m3 fc3, .bool dn'] 29)) := (Below.refl _ _).alloc (Nat.le_refl _) _
  have x4 : DKp (w3.alloc (.cells #[.slice a3 n3 c3, .int .i64 op', .slice fa3 m3 fc3, .bool dn'] 29)) w3.heap.size a3 n3 c3 op' fa3 m3 fc3 dn' qs3 fs := ⟨c3'.keep b4, f3'.keep b4, Blk.new w3 _ _⟩
  have d4 := d3.keep b4
  have o4 := o3.keep b4 o3.lt
  have B4 := below_p B3 b4
  clear d2' d3 o2' o3 B2' B3 b3 b4 hnd3 hql3 c3' f3'
  obtain ⟨q0, q1, q2, q3⟩ := d4.b.dev
  go_wp2_with fail
  obtain ⟨W4, hW4⟩ : ∃ W, w3.alloc (.cells #[.slice a3 n3 c3, .int .i64 op', .slice fa3 m3 fc3, .bool dn'] 29) = W := ⟨_, rfl⟩
  obtain ⟨Y, hY⟩ : ∃ X, w3.heap.size = X := ⟨_, rfl⟩
  rw [hW4, hY] at x4
  rw [hW4] at B4 d4 o4
  try rw [hW4]
  try rw [hY]
  clear hW4 hY q0 q1 q2 q3
  refine (HCS.out W4 d4.c d4.f o4.rd).mono ?_
  rintro e w5 ⟨a5, n5, c5, fa5, m5, fc5, qs5, rfl, hnd5, hql5, b5⟩
  dsimp only at hnd5 ⊢
  have hD5 : qs5.map BkR.D = ds' := hnd5.bs.D
  have c5' : CR w5 a5 n5 qs5 := hnd5.cr hql5 htot'
  have b6 : Below w5.heap.size w5 (w5.alloc (.cells #[.slice a5 n5 c5, .int .i64 op', .slice fa5 m5 fc5, .bool dn'] 29)) := (Below.refl _ _).alloc (Nat.le_refl _) _
  have x6 := (x4.keep b5).keep b6
  have d6 := (d4.keep b5).keep b6
  have o5 := o4.keep b5 o4.lt
  have o6 := o5.keep b6 o5.lt
  have y6 := Blk.new w5 29 #[.slice a5 n5 c5, .int .i64 op', .slice fa5 m5 fc5, .bool dn']
  have c6 := c5'.keep b6
  have B6 := below_p (below_p B4 b5) b6
  have hn35 : n3 = n5 := by
    have h1 := x4.c.len
    have h2 := c5'.len
    have h3 : (qs3.map BkR.D).length = (qs5.map BkR.D).length := by rw [hD3, hD5]
    simp at h3
    omega
  subst hn35
  clear x4 d4 o4 o5 B4 b5 b6 hnd5 hql5 c5'
  obtain ⟨q0, q1, q2, q3⟩ := x6.b.dev
  obtain ⟨p0, p1, p2, p3⟩ := y6.dev
  go_wp2_with fail
  obtain ⟨W6, hW6⟩ : ∃ W, w5.alloc (.cells #[.slice a5 n3 c5, .int .i64 op', .slice fa5 m5 fc5, .bool dn'] 29) = W := ⟨_, rfl⟩
  obtain ⟨Z, hZ⟩ : ∃ X, w5.heap.size = X := ⟨_, rfl⟩
  rw [hW6] at x6 d6 c6 B6 y6 o6
  rw [hZ] at y6
  try rw [hW6]
  try rw [hZ]
  clear hW6 hZ q0 q1 q2 q3 p0 p1 p2 p3
  refine (sameChip_same a3 a5 n3 c3 c5 qs3 qs5 W6 x6.c c6 (hD3.trans hD5.symm)).mono ?_
  rintro e w7 ⟨rfl, b7⟩
  have x7 := x6.keep b7
  have d7 := d6.keep b7
  have y7 := y6.keep b7
  have o7 := o6.keep b7 o6.lt
  have B7 := below_p B6 b7
  clear x6 d6 y6 c6 o6 B6 b7
  obtain ⟨q0, q1, q2, q3⟩ := x7.b.dev
  obtain ⟨p0, p1, p2, p3⟩ := y7.dev
  obtain ⟨r0, r1, r2, r3⟩ := d7.b.dev
  have hrd := readI a3 n3 c3 qs3 x N0 w7 x7.c
  rw [hD3] at hrd
  go_wp2_with fail
  refine hrd.mono ?_
  rintro e w8 ⟨⟨rv, rfl, hov, _⟩, b8⟩
  obtain ⟨ra, rc, rfl, _, hrr⟩ := OwnV.slc hov
  have x8 := x7.keep b8
  have d8 := d7.keep b8
  have o8 := o7.keep b8 o7.lt
  have B8 := below_p B7 b8
  clear x7 d7 y7 o7 B7 b8 q0 q1 q2 q3 p0 p1 p2 p3 r0 r1 r2 r3 hrd hov hD5
  obtain ⟨q0, q1, q2, q3⟩ := x8.b.dev
  obtain ⟨r0, r1, r2, r3⟩ := d8.b.dev
  rcases HER.out with ⟨hds, hop, hdn, hcd⟩ | ⟨hop, hok, k, b, hxk, hb, hnd, hcase⟩
  · have hcb2 : (cd != 0) = true := by simpa using hcd
    subst hop
    have hn3 : n3 = vn := by
      have h1 := x8.c.len
      have h2 := d8.c.len
      have h3 : (qs3.map BkR.D).length = (qs.map BkR.D).length := by rw [hD3, HDS.out, hds]
      simp at h3
      omega
    subst hn3
    go_wp2_with fail
    refine (sameChip_same a3 va n3 c3 vc qs3 qs w8 x8.c d8.c (by rw [hD3, HDS.out, hds])).mono ?_
    rintro e w9 ⟨rfl, b9⟩
    go_wp2
    go_ret
    exact ⟨by simp, below_p B8 b9⟩
  · have hopb : (op' == op) = false := by simp; omega
    subst hxk
    clear hop
    have hNk : N0 = ((nextP b.ps : Nat) : Int) := by rw [← HN0.out]; exact hnd
    have CD := fun (W : World) (h : CR W a3 n3 qs3) (hf : FR W fa3 m3 fs) => devOkI a3 n3 c3 qs3 op' fa3 m3 fc3 fs dn' W h hf
    rw [hD3, hok] at CD
    have hkl : k < ds.length := (List.getElem?_eq_some_iff.1 hb).1
    rw [← hNk] at hcase
    clear hnd hNk
    obtain ⟨rd, hrd⟩ : ∃ z, readD ds' (k : Int) N0 = z := ⟨_, rfl⟩
    rw [hrd] at hcase hrr ⊢
    clear hrd
    rcases hcase with ⟨hcd, hdn, hro⟩ | ⟨hcd, hdn, hbd, hro⟩ | ⟨hcd, hdn, t, hro⟩
    · subst hcd hdn hro
      simp only [Option.getD_some, Option.isSome_some] at hrr ⊢
      have hsb := sameLb_any ra (some ⟨gb, 0, none⟩) nb nb rc cb ys ys w8 hyl hyl (by omega) (by omega) hrr o8.rd
      rw [hyl]
      go_wp2_with fail
      refine hsb.mono ?_
      rintro e w9 ⟨rfl, d, rfl⟩
      have b9 : Below w8.heap.size w8 (w8.drewN d) := below_drewN (Below.refl _ w8) d
      have x9 := x8.keep b9
      have B9 := below_p B8 b9
      simp only [decide_true]
      clear q0 q1 q2 q3 r0 r1 r2 r3
      obtain ⟨q0, q1, q2, q3⟩ := x9.b.dev
      go_wp2_with fail
      refine (CD _ x9.c x9.f).mono ?_
      rintro e w10 ⟨rfl, b10⟩
      go_wp2
      go_ret
      exact ⟨rfl, below_p B9 b10⟩
    · subst hcd hdn hro
      have HBD : Hid _ := hbd
      clear hbd
      simp only [Option.getD_none, Option.isSome_none, List.length_nil] at hrr ⊢
      have hk3 : k < n3 := by
        have h1 := x8.c.len
        have h3 : (qs3.map BkR.D).length = ds.length := by rw [hD3, HBD.out, len_bad]
        simp at h3
        omega
      obtain ⟨bb, bo, r, ha3, _, hr, h3b, _, _⟩ := x8.c.some hk3
      subst ha3
      have hbad : r.bad = true := by
        have h1 : (qs3.map BkR.D)[k]? = some r.D := by rw [List.getElem?_map, hr]; rfl
        rw [hD3, HBD.out] at h1
        unfold badD at h1
        rw [hb] at h1
        dsimp only at h1
        rw [List.getElem?_set_self hkl] at h1
        have h2 := Option.some.inj h1
        have h4 : r.D.bad = true := by rw [← h2]
        exact h4
      have hki : (0 : Int) ≤ (k : Int) ∧ (k : Int) < (n3 : Int) := by omega
      have x0 := h3b.c2
      rw [hbad] at x0
      clear h3b hr hb hbad HBD
      go_wp2_with fail
      refine (CD w8 x8.c x8.f).mono ?_
      rintro e w9 ⟨rfl, b9⟩
      go_wp2
      go_ret
      exact ⟨rfl, below_p B8 b9⟩
    · subst hcd hdn hro
      simp only [Option.getD_some, Option.isSome_some] at hrr ⊢
      obtain ⟨L, hL⟩ : ∃ L, (ys.take t).length = L := ⟨_, rfl⟩
      have hLn : L ≤ nb := by rw [← hL, List.length_take, hyl]; omega
      have htk : ys.take L = ys.take t := by
        by_cases ht : t ≤ ys.length
        · rw [← hL, List.length_take, Nat.min_eq_left ht]
        · rw [← hL, List.length_take, Nat.min_eq_right (by omega), List.take_of_length_le (Nat.le_refl _), List.take_of_length_le (by omega)]
      have hr2 : Rd w8 (some ⟨gb, 0, none⟩) (ys.take t) := by rw [← htk]; exact Rd.takeB o8.rd L
      have hsb := sameLb_any ra (some ⟨gb, 0, none⟩) L L rc cb (ys.take t) (ys.take t) w8 hL hL (by omega) (by omega) hrr hr2
      rw [hL]
      have hLi : (L : Int) ≤ (nb : Int) := by omega
      have hLc : (L : Int) ≤ (cb : Int) := by omega
      have hLc2 : L ≤ cb := by omega
      have hL0 : (0 : Int) ≤ (L : Int) := by omega
      clear htk hL hr2 o8
      go_wp2_with fail
      refine hsb.mono ?_
      rintro e w9 ⟨rfl, d, rfl⟩
      have b9 : Below w8.heap.size w8 (w8.drewN d) := below_drewN (Below.refl _ w8) d
      have x9 := x8.keep b9
      have B9 := below_p B8 b9
      simp only [decide_true]
      clear q0 q1 q2 q3 r0 r1 r2 r3
      obtain ⟨q0, q1, q2, q3⟩ := x9.b.dev
      go_wp2_with fail
      refine (CD _ x9.c x9.f).mono ?_
      rintro e w10 ⟨rfl, b10⟩
      go_wp2
      go_ret
      exact ⟨by first | rfl | simp [hLn], below_p B9 b10⟩
end

section
open Go.RowKit
def ByteRow (w : World) (a : Option Addr) (len cap : Nat) (zs : List Int) : Prop :=
  (a = none ∧ len = 0 ∧ cap = 0 ∧ zs = []) ∨ ∃ x, a = some x ∧ len ≤ cap ∧ cap ≤ maxLen ∧ zs.length = cap ∧ (∀ i, i < zs.length → w.cell? (x.add i) = some (.int .u8 (zs.getD i 0))) ∧ ∀ n ∈ zs, (Lit.int .u8 n).wf = true
theorem walkFnDevs (a0 : Option Addr) (len0 cap0 : Nat) (z0 : List Int) (w : World) (hbr : ByteRow w a0 len0 cap0 z0) (hg : EtCell w) :
    Calls Tryz.prog 3 #[.slice a0 len0 cap0] w fun e w' => e = .returned (.bool true) ∧ Below w.heap.size w w' := by
  obtain ⟨zs, hn, hr, hb⟩ := rd_of_row hbr
  exact walkDevs a0 len0 cap0 zs w hn hr hb hg
end
end Go.Proofs.YtoeeblmnogeonaaGreatDoor


