/-
  Joined: ChFn, DvS, DvSE, ChPi, ChPn, DvY, DvZ, ChQi, DvBP, ChPs, ChPr, DvSP, RowX, FnExactDevProgramW.
-/
import Derived.Test.YtkhgafmhbibikaaGreatDoorJ00Y
import Derived.Test.YtkhgafmhbibikaaGreatDoorJ01Y
import Derived.Test.YtkhgafmhbibikaaGreatDoorJ02Y
import Derived.Test.YtkhgafmhbibikaaGreatDoorJ03Y
import Derived.Test.YtkhgafmhbibikaaGreatDoorJ04Y
import Derived.Test.YtkhgafmhbibikaaGreatDoorJ05Y
import Derived.Test.YtkhgafmhbibikaaGreatDoorJ06Y
import Derived.Test.YtkhgafmhbibikaaGreatDoorJ07Y
import Derived.Test.YtkhgafmhbibikaaGreatDoorDvMY
import Derived.Test.YtkhgafmhbibikaaGreatDoorEntsOkY
import Derived.Test.YtkhgafmhbibikaaGreatDoorJ10Y
import Derived.Test.YtkhgafmhbibikaaGreatDoorJ11Y
import Derived.Test.YtkhgafmhbibikaaGreatDoorJ12Y
import Derived.Test.YtkhgafmhbibikaaGreatDoorJ13Y
import Derived.Test.YtkhgafmhbibikaaGreatDoorJ14Y
import Derived.Test.YtkhgafmhbibikaaGreatDoorJ15Y
import Derived.Test.YtkhgafmhbibikaaGreatDoorJ16Y
import Derived.Test.YtkhgafmhbibikaaGreatDoorJ17Y
import Derived.Test.YtkhgafmhbibikaaGreatDoorJ18Y
import Derived.Test.YtkhgafmhbibikaaGreatDoorJ19Y
import Derived.Test.YtkhgafmhbibikaaGreatDoorJ20Y
import Derived.Test.YtkhgafmhbibikaaGreatDoorJ21Y
import Derived.Test.YtkhgafmhbibikaaGreatDoorJ22Y
import Derived.Test.YtkhgafmhbibikaaGreatDoorJ23Y
import Derived.Test.YtkhgafmhbibikaaGreatDoorJ25Y
import Derived.WalkKit
import Derived.WalkSpells
import Derived.WalkLawsBesides
import Derived.Deep.QuietTactic
import Derived.BigQuiet
import Derived.OpenShut
import Derived.Laws.BitsAllLaws
import Derived.Maps.AppendAt
import Derived.Lib.SliceRun
import Derived.Lib.Strings
import Derived.Deep.RegionWith
import Derived.Laws.IdiomStrings
import Derived.Deep.Slices
import Derived.ProofKit
import Derived.ChangeOld
import Derived.Below
import Derived.Deep.DeepCutAuto
import Derived.Lib.AppendStr
import Derived.Lib.ConvBytes
import Derived.Deep.RegionHeld3
import Derived.Deep.AppendLies
import Derived.Maps.OwnSet
import Derived.Maps.OwnOps
import Derived.Deep.AppendSrc
import Derived.Deep.RegionHeld
import Derived.Deep.RegionLaw
import Derived.Deep.MidRow
import Derived.Deep.WholeRow
import Derived.LaidEql
import Derived.Stop.Asserts
import Derived.RowKitTokens
import Derived.Defers
import Derived.Recover
namespace Go.Proofs.YtkhgafmhbibikaaGreatDoor
section
open Go.RowKit
set_option maxRecDepth 100000 in
set_option maxHeartbeats 4000000 in
theorem l10NextS (a : Option Addr) (n cap : Nat) (wear : Int) (bad : Bool) (ps : List PgR) (w : World) (hn : ps.length = n) (hs : totP (ps.map PgR.D) ≤ 1048576) (hr : RdPs w a ps) :
    Calls Tryz.prog 118 #[.agg #[.slice a n cap, .int .i64 wear, .bool bad]] w fun e w' => e = .returned (.int .i64 (nextP (ps.map PgR.D) : Nat)) ∧ Below w.heap.size w w' := by
  have B0 : Below w.heap.size w (w.alloc (.cells #[.slice a n cap, .int .i64 wear, .bool bad] 57)) := (Below.refl _ w).alloc (Nat.le_refl _) _
  have z0 := Blk.new w 57 #[.slice a n cap, .int .i64 wear, .bool bad]
  have HT : Hid (RdPs (w.alloc (.cells #[.slice a n cap, .int .i64 wear, .bool bad] 57)) a ps) := hr.keep B0
  have HB : Hid _ := B0
  have hl := totP_len (ps.map PgR.D)
  have hn1 : n ≤ 1048576 := by simp at hl; omega
  have hln : Hid (ps.length = n) := hn
  clear hr B0 hs hl hn
  obtain ⟨H, hH⟩ : ∃ H, w.heap.size = H := ⟨_, rfl⟩
  rw [hH] at z0
  go_enter Tryz.func118, Tryz.ntmps118
  go_wp2
  obtain ⟨W0, hW0⟩ : ∃ W, w.alloc (.cells #[.slice a n cap, .int .i64 wear, .bool bad] 57) = W := ⟨_, rfl⟩
  rw [hW0] at z0 HB HT ⊢
  clear hW0
  try rw [hH]
  go_loopw [3, 4] (fun c i wr => ∃ (k : Nat) (m : Nat), k ≤ n ∧ i = .int .i64 k ∧ c = .int .i64 m ∧ m ≤ k ∧ Hid (nextP ((ps.take k).map PgR.D) = m) ∧ wr = W0) (fun _ i _ => n - (intOf i).toNat)
  case atStart => exact ⟨0, 0, Nat.zero_le _, rfl, rfl, Nat.le_refl _, rfl, rfl⟩
  case round =>
    obtain ⟨k, m, hk, rfl, rfl, hmk, hm, hw⟩ := hrel
    subst hw
    have t0 := z0.cell 0
    simp at t0
    by_cases hkn : k < n
    · have hki : (k : Int) < (n : Int) := by omega
      obtain ⟨r, hrk⟩ : ∃ r, ps[k]? = some r := ⟨_, List.getElem?_eq_getElem (by rw [hln.out]; exact hkn)⟩
      obtain ⟨b, off, rfl, hlt, hc⟩ := RdPs.lt HT.out (by intro h; rw [h] at hrk; simp at hrk)
      obtain ⟨⟨x0, x1⟩, _⟩ := hc k _ hrk
      have hnx := nextP_take hrk
      have hmm := hm.out
      cases hu : r.used
      · rw [hu] at x0 hnx
        have HN : Hid (nextP ((ps.take (k + 1)).map PgR.D) = m) := by show _ = _; rw [hnx, hmm]; rfl
        clear hnx hmm hrk x1 hu hc
        go_wp2
        go_roundw
        case rel => exact ⟨k + 1, m, by omega, by go_num, rfl, by omega, HN, trivial⟩
        case measure => simp [intOf]; omega
      · rw [hu] at x0 hnx
        have HN : Hid (nextP ((ps.take (k + 1)).map PgR.D) = m + 1) := by show _ = _; rw [hnx, hmm]; rfl
        clear hnx hmm hrk x1 hu hc
        go_wp2
        go_roundw
        case rel => exact ⟨k + 1, m + 1, by omega, by go_num, by go_num, by omega, HN, trivial⟩
        case measure => simp [intOf]; omega
    · have hki : ¬ (k : Int) < (n : Int) := by omega
      go_wp2
      go_ret
      have := hm.out
      rw [List.take_of_length_le (by rw [hln.out]; omega)] at this
      rw [← hH]
      exact ⟨by rw [this]; rfl, HB.out⟩
/-- What NextPage answers. -/
def nextD (ds : List BkD) (x : Int) : Int := if 0 ≤ x then (match ds[x.toNat]? with | some b => (nextP b.ps : Nat) | none => -1) else -1
theorem nextD_in {bs : List BkR} {k : Nat} {r : BkR} (h : bs[k]? = some r) : nextD (bs.map BkR.D) (k : Int) = (nextP (r.ps.map PgR.D) : Nat) := by
  unfold nextD
  rw [if_pos (by omega)]
  simp [h, BkR.D]
theorem nextD_out {ds : List BkD} {x : Int} (h : ¬ (0 ≤ x ∧ x < (ds.length : Int))) : nextD ds x = -1 := by
  unfold nextD
  split
  · rw [List.getElem?_eq_none (by omega)]
  · rfl
set_option maxRecDepth 100000 in
set_option maxHeartbeats 4000000 in
theorem nextS (a : Option Addr) (n cap : Nat) (bs : List BkR) (x : Int) (w : World) (ht : CR w a n bs) :
    Calls Tryz.prog 82 #[.agg #[.slice a n cap], .int .i64 x] w fun e w' => e = .returned (.int .i64 (nextD (bs.map BkR.D) x)) ∧ Below w.heap.size w w' := by
  have B0 : Below w.heap.size w (w.alloc (.cells #[.slice a n cap] 32)) := (Below.refl _ w).alloc (Nat.le_refl _) _
  have hn1 := ht.n
  by_cases hx : 0 ≤ x ∧ x < (n : Int)
  · obtain ⟨k, rfl⟩ : ∃ k : Nat, x = (k : Int) := ⟨x.toNat, by omega⟩
    have hkn : k < n := by omega
    have h1 : ¬ (k : Int) < 0 := by omega
    have h2 : ¬ (n : Int) ≤ (k : Int) := by omega
    have hki : (k : Int) < (n : Int) := by omega
    obtain ⟨b, off, r, rfl, hlt, hrk, x3, hrp, htp⟩ := (ht.keep B0).some hkn
    obtain ⟨x0, x1, x2⟩ := x3
    have hcall := l10NextS r.a r.ps.length r.cap r.wear r.bad r.ps _ rfl htp hrp
    have hnx := nextD_in hrk
    rw [hnx]
    obtain ⟨n1, hn1⟩ : ∃ n1, r.ps.length = n1 := ⟨_, rfl⟩
    rw [hn1] at x0 hcall
    have HB : Hid _ := B0
    clear hnx hrk hn1 ht B0 hrp
    go_enter Tryz.func82, Tryz.ntmps82
    go_wp2_with fail
    refine hcall.mono ?_
    rintro e w1 ⟨rfl, hb1⟩
    clear hcall x0 x1 x2
    go_wp2
    go_ret
    exact ⟨rfl, HB.out.trans (hb1.mono HB.out.size)⟩
  · have hnx : nextD (bs.map BkR.D) x = -1 := nextD_out (by simpa [ht.len] using hx)
    rw [hnx]
    by_cases h1 : x < 0
    · go_enter Tryz.func82, Tryz.ntmps82
      go_wp2
      go_ret
      exact ⟨rfl, B0⟩
    · have h2 : (n : Int) ≤ x := by omega
      go_enter Tryz.func82, Tryz.ntmps82
      go_wp2
      go_ret
      exact ⟨rfl, B0⟩
end

section
open Go.RowKit
theorem evCode_ok (ds : List BkD) (ops : Int) (fs : List FtD) (down : Bool) (f : Bool → Int) : evCode ds ops fs down (f (chipOkB ds)) = evCode ds ops fs down (f true) := by
  unfold evCode
  by_cases h : devB ds ops fs = false
  · rw [if_pos h, if_pos h]
  · rw [if_neg h, if_neg h]
    have : chipOkB ds = true := by
      unfold devB at h
      cases hc : chipOkB ds with
      | true => rfl
      | false => rw [hc] at h; simp at h
    rw [this]
set_option maxRecDepth 100000 in
set_option maxHeartbeats 4000000 in
theorem l11MayS (a : Option Addr) (n cap : Nat) (bs : List BkR) (ops : Int) (fa : Option Addr) (m fc : Nat) (fs : List FtD) (down : Bool) (c : Int) (w : World) (ht : CR w a n bs) (hf : FR w fa m fs) :
    Calls Tryz.prog 39 #[.agg #[.slice a n cap, .int .i64 ops, .slice fa m fc, .bool down], .int .i64 c] w fun e w' => e = .returned (.int .i64 (evCode (bs.map BkR.D) ops fs down c)) ∧ Below w.heap.size w w' := by
  have B0 : Below w.heap.size w (w.alloc (.cells #[.slice a n cap, .int .i64 ops, .slice fa m fc, .bool down] 35)) := (Below.refl _ w).alloc (Nat.le_refl _) _
  have z0 := Blk.new w 35 #[.slice a n cap, .int .i64 ops, .slice fa m fc, .bool down]
  have hcall := devOkS a n cap bs ops fa m fc fs down (w.alloc (.cells #[.slice a n cap, .int .i64 ops, .slice fa m fc, .bool down] 35)) (ht.keep B0) (hf.keep B0)
  unfold evCode
  generalize devB (bs.map BkR.D) ops fs = p at hcall ⊢
  have HB : Hid _ := B0
  clear ht hf B0
  cases p
  · rw [if_pos rfl]
    go_enter Tryz.func39, Tryz.ntmps39
    go_wp2_with fail
    refine hcall.mono ?_
    rintro e w1 ⟨rfl, hb1⟩
    clear hcall
    go_wp2
    go_ret
    exact ⟨rfl, HB.out.trans (hb1.mono HB.out.size)⟩
  · rw [if_neg (by simp)]
    by_cases hoff : down = true ∨ 100000 ≤ ops
    · rw [if_pos hoff]
      go_enter Tryz.func39, Tryz.ntmps39
      go_wp2_with fail
      refine hcall.mono ?_
      rintro e w1 ⟨rfl, hb1⟩
      clear hcall
      have y1 := (z0.keep hb1).cell 1
      have y3 := (z0.keep hb1).cell 3
      simp at y1 y3
      have B1 := HB.out.trans (hb1.mono HB.out.size)
      clear z0 hb1
      cases down with
      | true =>
        go_wp2
        go_ret
        exact ⟨rfl, B1⟩
      | false =>
        have h1 : 100000 ≤ ops := by simpa using hoff
        go_wp2
        go_ret
        exact ⟨rfl, B1⟩
    · rw [if_neg hoff]
      have hdn : down = false := by cases down; rfl; exact absurd (.inl rfl) hoff
      subst hdn
      have h1 : ¬ 100000 ≤ ops := fun h => hoff (.inr h)
      go_enter Tryz.func39, Tryz.ntmps39
      go_wp2_with fail
      refine hcall.mono ?_
      rintro e w1 ⟨rfl, hb1⟩
      clear hcall
      have y1 := (z0.keep hb1).cell 1
      have y3 := (z0.keep hb1).cell 3
      simp at y1 y3
      have B1 := HB.out.trans (hb1.mono HB.out.size)
      clear z0 hb1
      go_wp2
      go_ret
      exact ⟨rfl, B1⟩
/-- What a changed block takes. -/
theorem fp_put {v : Value} {qs : List BkR} {k S : Nat} {q q' : BkR} (hk : qs[k]? = some q) (h : ∀ g ∈ fpPs q'.v q'.ps, g ∈ fpPs q.v q.ps ∨ S ≤ g) : ∀ g ∈ fpBs v (qs.set k q'), g ∈ fpBs v qs ∨ S ≤ g := fun g hg => by
  rcases List.mem_append.1 hg with h1 | h1
  · exact .inl (List.mem_append_left _ h1)
  · obtain ⟨y, hy, hyf⟩ := List.mem_flatMap.1 h1
    rcases mem_set hy with rfl | ⟨i, _, hyi⟩
    · rcases h g hyf with h2 | h2
      · exact .inl (fpBs_bk (List.mem_of_getElem? hk) h2)
      · exact .inr h2
    · exact .inl (fpBs_bk (List.mem_of_getElem? hyi) hyf)
/-- The block k turned bad. -/
theorem NewBs.bad {W : World} {B g n c k : Nat} {ds : List BkD} {bs : List BkR} {b : BkR} (h : NewBs W B (.slice (some ⟨g, 0, none⟩) n c) ds bs) (hn : bs.length = n) (hb : bs[k]? = some b) (y : Bool) :
    NewBs (W.setCell ⟨g, k * 3 + 2, none⟩ (.bool y)) B (.slice (some ⟨g, 0, none⟩) n c) (ds.set k ⟨b.ps.map PgR.D, b.wear, y⟩) (bs.set k ⟨b.a, b.cap, b.ps, b.wear, y⟩) := by
  have hr := h.row
  have hset : ∀ j, j ≠ g → (W.setCell ⟨g, k * 3 + 2, none⟩ (.bool y)).heap[j]? = W.heap[j]? := fun j hj => Below.heap_setCell _ _ _ _ hj
  have hown : OwnE bkE 57 W (.slice (some ⟨g, 0, none⟩) n c) n bs := by have := h.own.1; rw [hn] at this; exact this
  have s := hown.set k 2 b ⟨b.a, b.cap, b.ps, b.wear, y⟩ (.bool y) hb (by decide) rfl
  have hfx : ∀ j ∈ bkK.fps bs, j ≠ g := fun j hj e => by subst e; exact hr.1 hj
  have hbm : b ∈ bs := List.mem_of_getElem? hb
  have hin := h.inn.put (w' := W.setCell ⟨g, k * 3 + 2, none⟩ (.bool y)) (S := W.heap.size) (q := (⟨b.a, b.cap, b.ps, b.wear, y⟩ : BkR)) hb (fun j hj => h.inn.lt j hj) (by have := h.own.lt g (fpBs_row rfl); have := hr.2; omega) (by
      show OwnPs _ b.v b.ps
      exact (h.own.2 b hbm).block fun j hj => hset j (hfx j (List.mem_flatMap.2 ⟨b, hbm, hj⟩))) (fun j hj => .inl hj) (show (fpPs b.v b.ps).Nodup from flat_nodup' (f := bkK.fp) h.inn.nd hbm) (fun j hj _ => hset j (hfx j hj))
  refine hin.newBs (by rw [List.length_set, hn]; exact s) (Nat.le_refl _) (fun j hj => ?_)
  simp [Value.ownBlock] at hj
  subst hj
  refine ⟨hr.2, fun hf => ?_⟩
  obtain ⟨x, hx, hxf⟩ := List.mem_flatMap.1 hf
  rcases mem_set hx with rfl | ⟨j, hj, hxj⟩
  · exact hr.1 (List.mem_flatMap.2 ⟨b, hbm, hxf⟩)
  · exact hr.1 (List.mem_flatMap.2 ⟨x, List.mem_of_getElem? hxj, hxf⟩)
/-- Of a new device. -/
theorem NewDv.bad {W : World} {B g n c k m fc : Nat} {fa : Option Addr} {ds : List BkD} {fs : List FtD} {bs : List BkR} {b : BkR} (h : NewDv W B (some ⟨g, 0, none⟩) n c fa m fc ds fs bs) (hn : bs.length = n) (hb : bs[k]? = some b) :
    NewDv (W.setCell ⟨g, k * 3 + 2, none⟩ (.bool true)) B (some ⟨g, 0, none⟩) n c fa m fc (ds.set k ⟨b.ps.map PgR.D, b.wear, true⟩) fs (bs.set k ⟨b.a, b.cap, b.ps, b.wear, true⟩) := by
  refine ⟨h.bs.bad hn hb true, OwnE.block h.fs fun j hj => Below.heap_setCell _ _ _ _ (fun e => ?_), fun j hj => ⟨(h.new j hj).1, fun hf => ?_⟩⟩
  · have e' : j = g := e
    subst e'
    exact (h.new j hj).2 (fpBs_row rfl)
  · rcases fp_put (S := j + 1) (q' := ⟨b.a, b.cap, b.ps, b.wear, true⟩) hb (fun g hg => .inl hg) j hf with h1 | h1
    · exact (h.new j hj).2 h1
    · omega
/-- Another chip in its place. -/
theorem NewDv.chip {W W' : World} {B n c m fc n' c' : Nat} {a fa a' : Option Addr} {ds ds' : List BkD} {fs : List FtD} {bs bs' : List BkR} (h : NewDv W B a n c fa m fc ds fs bs) (hb : Below W.heap.size W W') (hc : NewBs W' W.heap.size (.slice a' n' c') ds' bs') (hB : B ≤ W.heap.size) : NewDv W' B a' n' c' fa m fc ds' fs bs' :=
  ⟨hc.wider hB, OwnE.keep h.fs hb, fun g hg => ⟨(h.new g hg).1, fun hf => by have := hc.new g hf; have := OwnE.lt h.fs hg; omega⟩⟩
/-- A page of its block k written, with bytes that are new. -/
theorem NewDv.page {W W1 : World} {B g n c k q nq P m fc : Nat} {fa qa : Option Addr} {qc : Nat} {zs : List Int} {ds : List BkD} {fs : List FtD} {bs : List BkR} {b : BkR} (h : NewDv W B (some ⟨g, 0, none⟩) n c fa m fc ds fs bs) (hn : bs.length = n) (hb : bs[k]? = some b) (hba : b.a = some ⟨P, 0, none⟩) (hq : q < b.ps.length) (b1 : Below W.heap.size W W1) (hz : zs.length = nq)
    (hr : RowB W1 (.slice qa nq qc) nq zs) (hqn : ∀ j, (Value.slice qa nq qc).ownBlock = some j → W.heap.size ≤ j) :
    NewDv ((W1.setCell ⟨P, q * 2, none⟩ (.bool true)).setCell ⟨P, q * 2 + 1, none⟩ (.slice qa nq qc)) B (some ⟨g, 0, none⟩) n c fa m fc (ds.set k ⟨(b.ps.map PgR.D).set q ⟨true, zs⟩, b.wear, b.bad⟩) fs (bs.set k ⟨b.a, b.cap, b.ps.set q ⟨true, qa, qc, zs⟩, b.wear, b.bad⟩) := by
  have hbv : b.v = .slice (some ⟨P, 0, none⟩) b.ps.length b.cap := by unfold BkR.v; rw [hba]
  have hPf : P ∈ fpBs (.slice (some ⟨g, 0, none⟩) n c) bs := fpBs_bk (List.mem_of_getElem? hb) (fpPs_row (by rw [hbv]; rfl))
  have hjP : ∀ j, (Value.slice fa m fc).ownBlock = some j → j ≠ P := fun j hj e => by subst e; exact (h.new j hj).2 hPf
  refine ⟨h.bs.page hn hb hba hq b1 hz hr hqn, OwnE.block h.fs fun j hj => ?_, fun j hj => ⟨(h.new j hj).1, fun hf => ?_⟩⟩
  · exact ((Below.heap_setCell _ _ _ _ (hjP j hj)).trans (Below.heap_setCell _ _ _ _ (hjP j hj))).trans (b1.block j (OwnE.lt h.fs hj))
  · have hfb : ∀ x ∈ fpPs (BkR.v ⟨b.a, b.cap, b.ps.set q ⟨true, qa, qc, zs⟩, b.wear, b.bad⟩) (b.ps.set q ⟨true, qa, qc, zs⟩), x ∈ fpPs b.v b.ps ∨ W.heap.size ≤ x := fun x hx => by
      rcases List.mem_append.1 hx with h1 | h1
      · refine .inl (List.mem_append_left _ ?_)
        have : BkR.v ⟨b.a, b.cap, b.ps.set q ⟨true, qa, qc, zs⟩, b.wear, b.bad⟩ = b.v := by unfold BkR.v; rw [List.length_set]
        rw [this] at h1
        exact h1
      · obtain ⟨y, hy, hyf⟩ := List.mem_flatMap.1 h1
        rcases mem_set hy with rfl | ⟨i, _, hyi⟩
        · refine .inr (hqn x ?_)
          subst hz
          simpa [PgR.v] using hyf
        · exact .inl (List.mem_append_right _ (List.mem_flatMap.2 ⟨y, List.mem_of_getElem? hyi, hyf⟩))
    rcases fp_put (S := W.heap.size) (q' := ⟨b.a, b.cap, b.ps.set q ⟨true, qa, qc, zs⟩, b.wear, b.bad⟩) hb hfb j hf with h1 | h1
    · exact (h.new j hj).2 h1
    · have := OwnE.lt h.fs hj; omega
end

section
open Go.RowKit
theorem evCode_zero {ds : List BkD} {ops : Int} {fs : List FtD} {down : Bool} {c : Int} (h : evCode ds ops fs down c = 0) : devB ds ops fs = true ∧ down = false ∧ ops < 100000 ∧ c = 0 := by
  unfold evCode at h
  split at h
  · omega
  · rename_i h1
    split at h
    · omega
    · rename_i h2
      refine ⟨by simpa using h1, ?_, ?_, h⟩
      · cases down
        · rfl
        · exact absurd (.inl rfl) h2
      · exact Int.not_le.1 fun h3 => h2 (.inr h3)
theorem devB_ops {ds : List BkD} {ops : Int} {fs : List FtD} (h : devB ds ops fs = true) : chipOkB ds = true ∧ 0 ≤ ops ∧ ∀ t ∈ fs, ftOk t = true := by
  unfold devB at h
  simp only [Bool.and_eq_true, decide_eq_true_eq] at h
  refine ⟨h.1.1, h.1.2.1, ?_⟩
  have h2 := h.2
  rw [faultsB_asc] at h2
  simp only [Bool.and_eq_true] at h2
  exact List.all_eq_true.1 h2.2.1
end

section
open Go.RowKit
theorem FO.rdPs {w0 w : World} {F G n k : Nat} {fs : List FkR} {f : FkR} (h : FO w0 w F G n fs) (hf : fs[k]? = some f) (hr : ∀ p ∈ f.ps, Rd w p.a p.zs) : RdPs w (some ⟨G, k * 18, none⟩) f.ps := by
  refine .inr ⟨G, k * 18, rfl, fun i p hi => ⟨fun j hj => ?_, hr p (List.mem_of_getElem? hi)⟩⟩
  have hj2 : j < 2 := hj
  have hi8 : i < 8 := by have := (List.getElem?_eq_some_iff.1 hi).1; rw [f.h8] at this; exact this
  have h1 := h.cell hf (j := i * 2 + j) (by omega)
  show w.cell? ⟨G, k * 18 + i * 2 + j, none⟩ = _
  rw [Nat.add_assoc, h1]
  show (pgE.xv f.ps ++ [Value.int .i64 f.wear, Value.bool f.bad])[i * 2 + j]? = _
  rw [List.getElem?_append_left (by rw [xv16]; omega)]
  exact pgE.xv_at f.ps i j p hi hj
/-- How many of a flash's block's pages are written. -/
def fkN (f : FkR) : Nat := nextP (f.ps.map PgR.D)
/-- What program refuses; the flash behind it. -/
def prC (fs : List FkR) (x : Int) (nb : Nat) : Int := if 400 < nb then 1 else if btcC fs x = 0 then (if (fs[x.toNat]?).map fkN = some 8 then 5 else 0) else btcC fs x
def prAt (fs : List FkR) (k : Nat) (p : PgR) : List FkR := match fs[k]? with | some f => fs.set k (f.pg (fkN f) p) | none => fs
end

section
open Go.RowKit
set_option maxRecDepth 100000 in
set_option maxHeartbeats 4000000 in
theorem btpI (F G n : Nat) (fs : List FkR) (x : Int) (ba : Option Addr) (nb bc : Nat) (w0 w : World) (hn : n ≤ 1048576) (hnb : nb ≤ 1048576) (h : FO w0 w F G n fs) (hr : ∀ f ∈ fs, ∀ p ∈ f.ps, Rd w p.a p.zs) (ht : totB (fs.map FkR.D) ≤ 1048576) :
    Calls Tryz.prog 89 #[.pointer (some ⟨F, 0, none⟩), .int .i64 x, .slice ba nb bc] w fun e w' => e = .returned (.tuple #[if prC fs x nb = 0 then .pointer (some ⟨G, x.toNat * 18, none⟩) else .pointer none, errV (prC fs x nb)]) ∧ Below w.heap.size w w' := by
  have hcall := btcI F G n fs x w0 w hn h
  by_cases hb : 400 < nb
  · have hbi : (400 : Int) < (nb : Int) := by omega
    have HEE : prC fs x nb = 1 := by unfold prC; rw [if_pos hb]
    rw [HEE]
    clear h hr ht hcall HEE
    go_enter Tryz.func89, Tryz.ntmps89
    go_wp2
    refine bodyPost_ret (v := .tuple #[.pointer none, .iface 150 (.int .i64 1)]) (by simp [results, Tryz.f89, go_sem]) rfl ?_
    exact ⟨by simp [errV], Below.refl _ _⟩
  · have hbi : ¬ (400 : Int) < (nb : Int) := by omega
    by_cases hc : btcC fs x = 0
    · obtain ⟨k, f, rfl, hf⟩ := btc_zero hc
      have hrp := h.rdPs hf (hr f (List.mem_of_getElem? hf))
      have htp : totP (f.ps.map PgR.D) ≤ 1048576 := by
        have := totB_mem (b := f.D) (bs := fs.map FkR.D) (List.mem_map_of_mem (List.mem_of_getElem? hf))
        have h2 : f.D.ps = f.ps.map PgR.D := rfl
        rw [h2] at this
        omega
      have hwi := writtenI (some ⟨G, k * 18, none⟩) 8 8 f.ps w f.h8 htp hrp
      have hle : nextP (f.ps.map PgR.D) ≤ 8 := by have := nextP_le (f.ps.map PgR.D); simp [f.h8] at this; exact this
      rw [if_pos hc, hc, errV_zero, Int.toNat_natCast] at hcall
      have hee : prC fs (k : Int) nb = if nextP (f.ps.map PgR.D) = 8 then 5 else 0 := by unfold prC; rw [if_neg hb, if_pos hc]; simp [hf, fkN]
      rw [hee, Int.toNat_natCast]
      obtain ⟨m, hm⟩ : ∃ m, nextP (f.ps.map PgR.D) = m := ⟨_, rfl⟩
      rw [hm] at hwi hle ⊢
      clear h hf hc hr hrp htp hm hee ht
      by_cases h8 : m = 8
      · subst h8
        go_enter Tryz.func89, Tryz.ntmps89
        go_wp2_with fail
        refine hcall.mono ?_
        rintro e w1 ⟨rfl, hw⟩
        obtain rfl := hw.symm
        go_wp2_with fail
        refine hwi.mono ?_
        rintro e w2 ⟨rfl, b2⟩
        go_wp2
        refine bodyPost_ret (v := .tuple #[.pointer none, .iface 150 (.int .i64 5)]) (by simp [results, Tryz.f89, go_sem]) rfl ?_
        exact ⟨by simp [errV], b2⟩
      · have hmm : ((m : Int) == 8) = false := by simp; omega
        rw [if_neg h8]
        go_enter Tryz.func89, Tryz.ntmps89
        go_wp2_with fail
        refine hcall.mono ?_
        rintro e w1 ⟨rfl, hw⟩
        obtain rfl := hw.symm
        go_wp2_with fail
        refine hwi.mono ?_
        rintro e w2 ⟨rfl, b2⟩
        go_wp2
        refine bodyPost_ret (v := .tuple #[.pointer (some ⟨G, k * 18, none⟩), .nilIface]) (by simp [results, Tryz.f89, go_sem]) rfl ?_
        exact ⟨by simp [errV], b2⟩
    · rw [if_neg hc, errV_some hc] at hcall
      have hee : prC fs x nb = btcC fs x := by unfold prC; rw [if_neg hb, if_neg hc]
      rw [hee, if_neg hc, errV_some hc]
      generalize btcC fs x = c at hcall
      clear h hc hr ht hee
      go_enter Tryz.func89, Tryz.ntmps89
      go_wp2_with fail
      refine hcall.mono ?_
      rintro e w1 ⟨rfl, hw⟩
      obtain rfl := hw.symm
      go_wp2
      refine bodyPost_ret (v := .tuple #[.pointer none, .iface 150 (.int .i64 c)]) (by simp [results, Tryz.f89, go_sem]) rfl ?_
      exact ⟨rfl, Below.refl _ _⟩
set_option maxRecDepth 100000 in
set_option maxHeartbeats 8000000 in
theorem cProgI (F G n k : Nat) (fs : List FkR) (f : FkR) (ba : Option Addr) (nb bc : Nat) (zs : List Int) (w0 w : World) (hz : zs.length = nb) (h : FO w0 w F G n fs) (hf : fs[k]? = some f) (h8 : fkN f < 8) (hr : ∀ p ∈ f.ps, Rd w p.a p.zs) (htp : totP (f.ps.map PgR.D) ≤ 1048576) :
    Calls Tryz.prog 92 #[.pointer (some ⟨G, k * 18, none⟩), .slice ba nb bc] w (FOA w0 w F G n (prAt fs k ⟨true, ba, bc, zs⟩)) := by
  generalize hGP : FOA w0 w F G n (prAt fs k ⟨true, ba, bc, zs⟩) = P
  have HGP : Hid _ := hGP
  clear hGP
  have hwi := writtenI (some ⟨G, k * 18, none⟩) 8 8 f.ps w.drew f.h8 htp ((h.rdPs hf hr).keep (Below.refl _ _).drew)
  have HF : Hid (prAt fs k ⟨true, ba, bc, zs⟩ = fs.set k (f.pg (fkN f) ⟨true, ba, bc, zs⟩)) := by show _ = _; unfold prAt; rw [hf]
  have HFO : Hid (FO w0 w.drew F G n fs) := h.keep (Below.refl _ _).drew
  have HF2 : Hid (fs[k]? = some f) := hf
  have HZ : Hid (zs.length = nb) := hz
  unfold fkN at h8 HF
  obtain ⟨m, hm⟩ : ∃ m, nextP (f.ps.map PgR.D) = m := ⟨_, rfl⟩
  rw [hm] at hwi h8 HF
  have hmi : (m : Int) < 8 := by omega
  clear h hf hr htp hm hz
  go_enter Tryz.func92, Tryz.ntmps92
  go_upto_region 0 with fail
  refine wp_region_noPanic ?_
  refine wp_region_last (fun W : World => True) 11 (by kernel_rfl) (by kernel_rfl) (by go_keep) 11 (by kernel_rfl) (fun hS => ?_)
  refine wpAnyH_take (i := 0) (v := ?gv1) rfl (by kernel_rfl) (by kernel_rfl) (by kernel_rfl) (fun _ _ _ h => h) (Or.inl ⟨by kernel_rfl, ?gy1⟩) (by assumption) ?gr1
  case gy1 => (intro w' hSw; (try dsimp only at hSw); go_simp; (try with_reducible rfl))
  try simp only [Act.put, List.setIfInBounds_toArray, List.set_cons_zero, List.set_cons_succ, List.getElem_toArray, List.getElem_cons_zero]
  refine wpAnyH_take (i := 1) (v := ?gv2) rfl (by kernel_rfl) (by kernel_rfl) (by kernel_rfl) (fun _ _ _ h => h) (Or.inl ⟨by kernel_rfl, ?gy2⟩) (by assumption) ?gr2
  case gy2 => (intro w' hSw; (try dsimp only at hSw); go_simp; (try with_reducible rfl))
  try simp only [Act.put, List.setIfInBounds_toArray, List.set_cons_zero, List.set_cons_succ, List.getElem_toArray, List.getElem_cons_succ, List.getElem_cons_zero]
  refine wpAnyH_take (i := 2) (v := ?gv3) rfl (by kernel_rfl) (by kernel_rfl) (by kernel_rfl) (fun _ _ _ h => h) (Or.inl ⟨by kernel_rfl, ?gy3⟩) (by assumption) ?gr3
  case gy3 => (intro w' hSw; (try dsimp only at hSw); go_simp; (try with_reducible rfl))
  try simp only [Act.put, List.setIfInBounds_toArray, List.set_cons_zero, List.set_cons_succ, List.getElem_toArray, List.getElem_cons_succ, List.getElem_cons_zero]
  refine wpAnyH_take (i := 3) (v := ?gv4) rfl (by kernel_rfl) (by kernel_rfl) (by kernel_rfl) (fun _ _ _ h => h) (Or.inl ⟨by kernel_rfl, ?gy4⟩) (by assumption) ?gr4
  case gy4 => (intro w' hSw; (try dsimp only at hSw); go_simp; (try with_reducible rfl))
  try simp only [Act.put, List.setIfInBounds_toArray, List.set_cons_zero, List.set_cons_succ, List.getElem_toArray, List.getElem_cons_succ, List.getElem_cons_zero]
  refine wpAnyH_take (i := 4) (v := ?gv5) rfl (by kernel_rfl) (by kernel_rfl) (by kernel_rfl) (fun _ _ _ h => h) (Or.inl ⟨by kernel_rfl, ?gy5⟩) (by assumption) ?gr5
  case gy5 => (intro w' hSw; (try dsimp only at hSw); go_simp; (try with_reducible rfl))
  try simp only [Act.put, List.setIfInBounds_toArray, List.set_cons_zero, List.set_cons_succ, List.getElem_toArray, List.getElem_cons_succ, List.getElem_cons_zero]
  refine wpAnyH_take (i := 6) (v := ?gv6) rfl (by kernel_rfl) (by kernel_rfl) (by kernel_rfl) (fun _ _ _ h => h) (Or.inl ⟨by kernel_rfl, ?gy6⟩) (by assumption) ?gr6
  case gy6 => (intro w' hSw; (try dsimp only at hSw); go_simp; (try with_reducible rfl))
  try simp only [Act.put, List.setIfInBounds_toArray, List.set_cons_zero, List.set_cons_succ, List.getElem_toArray, List.getElem_cons_succ, List.getElem_cons_zero]
  refine wpAnyH_take (i := 7) (v := ?gv7) rfl (by kernel_rfl) (by kernel_rfl) (by kernel_rfl) (fun _ _ _ h => h) (Or.inl ⟨by kernel_rfl, ?gy7⟩) (by assumption) ?gr7
  case gy7 => (intro w' hSw; (try dsimp only at hSw); go_simp; (try with_reducible rfl))
  try simp only [Act.put, List.setIfInBounds_toArray, List.set_cons_zero, List.set_cons_succ, List.getElem_toArray, List.getElem_cons_succ, List.getElem_cons_zero]
  refine wpAnyH_take (i := 8) (v := ?gv8) rfl (by kernel_rfl) (by kernel_rfl) (by kernel_rfl) (fun _ _ _ h => h) (Or.inl ⟨by kernel_rfl, ?gy8⟩) (by assumption) ?gr8
  case gy8 => (intro w' hSw; (try dsimp only at hSw); go_simp; (try with_reducible rfl))
  try simp only [Act.put, List.setIfInBounds_toArray, List.set_cons_zero, List.set_cons_succ, List.getElem_toArray, List.getElem_cons_succ, List.getElem_cons_zero]
  refine wpAnyH_take (i := 9) (v := ?gv9) rfl (by kernel_rfl) (by kernel_rfl) (by kernel_rfl) (fun _ _ _ h => h) (Or.inl ⟨by kernel_rfl, ?gy9⟩) (by assumption) ?gr9
  case gy9 => (intro w' hSw; (try dsimp only at hSw); go_simp; (try with_reducible rfl))
  try simp only [Act.put, List.setIfInBounds_toArray, List.set_cons_zero, List.set_cons_succ, List.getElem_toArray, List.getElem_cons_succ, List.getElem_cons_zero]
  refine wpAnyH_ready (rs := [5]) (by kernel_rfl) (by simp) ?_
  refine AllReadyH.cons rfl (fun K hK => ?_) AllReadyH.nil
  go_simp
  (with_reducible refine hwi.mono ?_)
  rintro e w2 ⟨rfl, b2⟩
  have fo2 := HFO.out.keep b2
  obtain ⟨v0, p0⟩ := fo2.is HF2.out (j := m * 2) (by omega)
  obtain ⟨v1, p1⟩ := fo2.is HF2.out (j := m * 2 + 1) (by omega)
  have r0 : w2.cell? ⟨G, k * 18 + m * 2, none⟩ = some v0 := p0
  have r1 : w2.cell? ⟨G, k * 18 + m * 2 + 1, none⟩ = some v1 := p1
  have f0 := fo2.g.frozen (k * 18 + m * 2)
  have f1 := fo2.g.frozen (k * 18 + m * 2 + 1)
  obtain ⟨gs1, g1, foU, hgU⟩ := fo2.used (u := true) HF2.out h8
  obtain ⟨v2, p2⟩ := foU.is hgU (j := m * 2 + 1) (by omega)
  have r2 : (w2.setCell ⟨G, k * 18 + m * 2, none⟩ (.bool true)).cell? ⟨G, k * 18 + m * 2 + 1, none⟩ = some v2 := p2
  have f2 := foU.g.frozen (k * 18 + m * 2 + 1)
  have HFN : Hid _ := And.intro (fo2.page (p := ⟨true, ba, bc, zs⟩) HF2.out h8 HZ.out) b2
  clear p0 p1 p2 foU hgU fo2 b2
  clear hS
  try dsimp only
  refine Shut.out hK _ _ (trivial) (fun hS => ?_)
  try simp only [Act.put, List.setIfInBounds_toArray, List.set_cons_zero, List.set_cons_succ, List.getElem_toArray, List.getElem_cons_succ, List.getElem_cons_zero]
  refine wpAnyH_take (i := 10) (v := ?gv10) rfl (by kernel_rfl) (by kernel_rfl) (by kernel_rfl) (fun _ _ _ h => h) (Or.inl ⟨by kernel_rfl, ?gy10⟩) (by assumption) ?gr10
  case gy10 => (intro w' hSw; (try dsimp only at hSw); go_simp; (try with_reducible rfl))
  try simp only [Act.put, List.setIfInBounds_toArray, List.set_cons_zero, List.set_cons_succ, List.getElem_toArray, List.getElem_cons_succ, List.getElem_cons_zero]
  refine wpAnyH_done (by kernel_rfl) ?_ _
  refine wpOp_last rfl (fun K hK => ?_)
  clear hS
  go_simp
  refine Shut.out hK _ _ (NoPanic.normal ?_)
  try go_wp2
  try go_end0
  rw [← HGP.out]
  refine ⟨rfl, by rw [HF.out]; exact HFN.out.1, ?_⟩
  have b2 := HFN.out.2
  have hsv : Sv [G] w w2 := Below.sv ((Below.refl w.heap.size w).drew.trans b2) [G]
  exact hsv.trans (Sv.gr (gr_more (gr_setC w2 G (k * 18 + m * 2) _) _ _) (fun g hg => by simp at hg; simp [hg]))
theorem pr_zero {fs : List FkR} {x : Int} {nb : Nat} (h : prC fs x nb = 0) : ∃ (k : Nat) (f : FkR), x = (k : Int) ∧ fs[k]? = some f ∧ fkN f < 8 := by
  unfold prC at h
  split at h
  · omega
  · split at h
    · rename_i hb
      obtain ⟨k, f, rfl, hf⟩ := btc_zero hb
      refine ⟨k, f, rfl, hf, ?_⟩
      rw [Int.toNat_natCast, hf] at h
      simp only [Option.map_some, Option.some.injEq] at h
      have hle : fkN f ≤ 8 := by have := nextP_le (f.ps.map PgR.D); simp [f.h8] at this; exact this
      have : ¬ fkN f = 8 := fun h8 => by rw [if_pos h8] at h; omega
      omega
    · rename_i hb
      exact absurd h hb
end

section
open Go.RowKit
set_option maxRecDepth 100000 in
set_option maxHeartbeats 4000000 in
theorem cPrPartI (F G n k : Nat) (fs : List FkR) (f : FkR) (gb nb : Nat) (zs : List Int) (kp : Int) (w0 w : World) (hz : zs.length = nb) (h : FO w0 w F G n fs) (hf : fs[k]? = some f) (h8 : fkN f < 8) (hr : ∀ p ∈ f.ps, Rd w p.a p.zs) (htp : totP (f.ps.map PgR.D) ≤ 1048576) (_hnb : nb ≤ 1048576) (hk : 0 ≤ kp ∧ kp ≤ 400) :
    Calls Tryz.prog 94 #[.pointer (some ⟨G, k * 18, none⟩), .slice (some ⟨gb, 0, none⟩) nb nb, .int .i64 kp] w (FOA w0 w F G n (prAt fs k ⟨true, (some ⟨gb, 0, none⟩), nb, zs.take kp.toNat⟩)) := by
  obtain ⟨q, rfl⟩ : ∃ q : Nat, kp = (q : Int) := ⟨kp.toNat, by omega⟩
  rw [Int.toNat_natCast]
  by_cases hq : q ≤ nb
  · have hqi : (q : Int) ≤ (nb : Int) := by omega
    have hqj : ¬ (nb : Int) < (q : Int) := by omega
    have hmi : min (q : Int) (nb : Int) = (q : Int) := by omega
    have hzt : (zs.take q).length = q := by rw [List.length_take, hz]; omega
    have hcall := cProgI F G n k fs f (some ⟨gb, 0, none⟩) q nb (zs.take q) w0 w hzt h hf h8 hr htp
    generalize hGP : FOA w0 w F G n (prAt fs k ⟨true, (some ⟨gb, 0, none⟩), nb, zs.take q⟩) = P at hcall ⊢
    have HGP : Hid _ := hGP
    clear h hf h8 hr htp hzt hz hGP hk
    go_enter Tryz.func94, Tryz.ntmps94
    go_wp2_with fail
    refine hcall.mono ?_
    intro e w1 hA
    rw [← HGP.out] at hA
    obtain ⟨rfl, h1, h2⟩ := hA
    go_wp2
    try go_end0
    rw [← HGP.out]
    exact ⟨rfl, h1, h2⟩
  · have hqi : ¬ (q : Int) ≤ (nb : Int) := by omega
    have hqj : (nb : Int) < (q : Int) := by omega
    have hmi : min (q : Int) (nb : Int) = (nb : Int) := by omega
    have hzt : zs.length = nb := hz
    rw [List.take_of_length_le (by omega)]
    have hcall := cProgI F G n k fs f (some ⟨gb, 0, none⟩) nb nb (zs) w0 w hzt h hf h8 hr htp
    generalize hGP : FOA w0 w F G n (prAt fs k ⟨true, (some ⟨gb, 0, none⟩), nb, zs⟩) = P at hcall ⊢
    have HGP : Hid _ := hGP
    clear h hf h8 hr htp hzt hz hGP hk
    go_enter Tryz.func94, Tryz.ntmps94
    go_wp2_with fail
    refine hcall.mono ?_
    intro e w1 hA
    rw [← HGP.out] at hA
    obtain ⟨rfl, h1, h2⟩ := hA
    go_wp2
    try go_end0
    rw [← HGP.out]
    exact ⟨rfl, h1, h2⟩
set_option maxHeartbeats 1600000 in
theorem prC1I (F G n k K Q : Nat) (fs : List FkR) (f : FkR) (gb nb : Nat) (zs : List Int) (w0 w : World) (hz : zs.length = nb) (h : FO w0 w F G n fs) (hf : fs[k]? = some f) (h8 : fkN f < 8) (hr : ∀ p ∈ f.ps, Rd w p.a p.zs) (htp : totP (f.ps.map PgR.D) ≤ 1048576) (hK : Blk w K 119 #[.pointer (some ⟨G, k * 18, none⟩)]) (hQ : Blk w Q 28 #[.slice (some ⟨gb, 0, none⟩) nb nb]) :
    Calls Tryz.prog 91 #[.pointer (some ⟨K, 0, none⟩), .pointer (some ⟨Q, 0, none⟩)] w (FOA w0 w F G n (prAt fs k ⟨true, (some ⟨gb, 0, none⟩), nb, zs⟩)) := by
  have hcall := cProgI F G n k fs f (some ⟨gb, 0, none⟩) nb nb zs w0 w hz h hf h8 hr htp
  have x0 := hK.cell 0
  have x1 := hQ.cell 0
  simp at x0 x1
  generalize hGP : FOA w0 w F G n (prAt fs k ⟨true, (some ⟨gb, 0, none⟩), nb, zs⟩) = P at hcall ⊢
  have HGP : Hid _ := hGP
  clear hGP h hf h8 hr htp hK hQ hz
  go_enter Tryz.func91, Tryz.ntmps91
  go_wp2_with fail
  refine hcall.mono ?_
  intro e w1 hA
  rw [← HGP.out] at hA
  obtain ⟨rfl, h1, h2⟩ := hA
  go_wp2
  try go_end0
  rw [← HGP.out]
  exact ⟨rfl, h1, h2⟩
set_option maxHeartbeats 1600000 in
theorem prC2I (F G n k K Q : Nat) (fs : List FkR) (f : FkR) (gb nb : Nat) (zs : List Int) (kp : Int) (w0 w : World) (hz : zs.length = nb) (h : FO w0 w F G n fs) (hf : fs[k]? = some f) (h8 : fkN f < 8) (hr : ∀ p ∈ f.ps, Rd w p.a p.zs) (htp : totP (f.ps.map PgR.D) ≤ 1048576) (hnb : nb ≤ 1048576) (hk : 0 ≤ kp ∧ kp ≤ 400) (hK : Blk w K 119 #[.pointer (some ⟨G, k * 18, none⟩)]) (hQ : Blk w Q 28 #[.slice (some ⟨gb, 0, none⟩) nb nb]) :
    Calls Tryz.prog 93 #[.int .i64 kp, .pointer (some ⟨K, 0, none⟩), .pointer (some ⟨Q, 0, none⟩)] w (FOA w0 w F G n (prAt fs k ⟨true, (some ⟨gb, 0, none⟩), nb, zs.take kp.toNat⟩)) := by
  have hcall := cPrPartI F G n k fs f gb nb zs kp w0 w hz h hf h8 hr htp hnb hk
  have x0 := hK.cell 0
  have x1 := hQ.cell 0
  simp at x0 x1
  generalize hGP : FOA w0 w F G n (prAt fs k ⟨true, (some ⟨gb, 0, none⟩), nb, zs.take kp.toNat⟩) = P at hcall ⊢
  have HGP : Hid _ := hGP
  clear hGP h hf h8 hr htp hK hQ hz hk
  go_enter Tryz.func93, Tryz.ntmps93
  go_wp2_with fail
  refine hcall.mono ?_
  intro e w1 hA
  rw [← HGP.out] at hA
  obtain ⟨rfl, h1, h2⟩ := hA
  go_wp2
  try go_end0
  rw [← HGP.out]
  exact ⟨rfl, h1, h2⟩
set_option maxRecDepth 100000 in
set_option maxHeartbeats 8000000 in
theorem opPrI (X F G n k K Q gb nb : Nat) (zs : List Int) (ks : List FkR) (f : FkR) (ops : Int) (fa : Option Addr) (m fc : Nat) (fs : List FtD) (down : Bool) (w0 w : World) (h : DO w0 w X F G n ks ops fa m fc down) (hfr : FR w fa m fs) (ho : 0 ≤ ops ∧ ops < 100000) (hfs : ∀ t ∈ fs, ftOk t = true) (hf : ks[k]? = some f) (hz : zs.length = nb) (hnb : nb ≤ 1048576) (h8 : fkN f < 8) (hr : ∀ p ∈ f.ps, ∀ W : World, Below w0.heap.size w0 W → Rd W p.a p.zs) (htp : totP (f.ps.map PgR.D) ≤ 1048576) (hK : Blk w K 119 #[.pointer (some ⟨G, k * 18, none⟩)]) (hQ : Blk w Q 28 #[.slice (some ⟨gb, 0, none⟩) nb nb]) (hKX : K ≠ X) (hQX : Q ≠ X) :
    Calls Tryz.prog 90 #[.pointer (some ⟨X, 0, none⟩), .pointer (some ⟨G, k * 18, none⟩), .func (.func 91) #[] #[.pointer (some ⟨K, 0, none⟩), .pointer (some ⟨Q, 0, none⟩)], .func (.func 93) #[] #[.pointer (some ⟨K, 0, none⟩), .pointer (some ⟨Q, 0, none⟩)]] w (EvA w0 w X F G n 0 ks (prAt ks k ⟨true, (some ⟨gb, 0, none⟩), nb, zs⟩) (badAt ks k) (fun kp => prAt ks k ⟨true, (some ⟨gb, 0, none⟩), nb, zs.take kp.toNat⟩) (faD ops fs) ops fa m fc down) := by
  have hcall := beginI X F G n ks ops fa m fc fs down w0 w h hfr ho
  have C1 : Hid (∀ W : World, FO w0 W F G n ks → Blk W K 119 #[.pointer (some ⟨G, k * 18, none⟩)] → Blk W Q 28 #[.slice (some ⟨gb, 0, none⟩) nb nb] → Calls Tryz.prog 91 #[.pointer (some ⟨K, 0, none⟩), .pointer (some ⟨Q, 0, none⟩)] W (FOA w0 W F G n (prAt ks k ⟨true, (some ⟨gb, 0, none⟩), nb, zs⟩))) := fun W h1 h2 h3 => prC1I F G n k K Q ks f gb nb zs w0 W hz h1 hf h8 (fun p hp => hr p hp W h1.bel) htp h2 h3
  have C2 : Hid (∀ (W : World) (kp : Int), 0 ≤ kp ∧ kp ≤ 400 → FO w0 W F G n ks → Blk W K 119 #[.pointer (some ⟨G, k * 18, none⟩)] → Blk W Q 28 #[.slice (some ⟨gb, 0, none⟩) nb nb] → Calls Tryz.prog 93 (#[.int .i64 kp] ++ #[.pointer (some ⟨K, 0, none⟩), .pointer (some ⟨Q, 0, none⟩)]) W (FOA w0 W F G n (prAt ks k ⟨true, (some ⟨gb, 0, none⟩), nb, zs.take kp.toNat⟩))) := fun W kp hkp h1 h2 h3 => prC2I F G n k K Q ks f gb nb zs kp w0 W hz h1 hf h8 (fun p hp => hr p hp W h1.bel) htp hnb hkp h2 h3
  have hmem : ∀ t, faD ops fs = some t → 0 ≤ t.kp ∧ t.kp ≤ 400 := fun t ht => by
    have h1 := hfs t (List.mem_of_find?_eq_some ht)
    unfold ftOk at h1
    simp at h1
    omega
  obtain ⟨o, hoo⟩ : ∃ o, faD ops fs = o := ⟨_, rfl⟩
  rw [hoo] at hcall hmem ⊢
  have HKX : Hid _ := And.intro hKX hQX
  have HK : Hid _ := And.intro hK hQ
  have HF : Hid _ := hf
  have HDO : Hid _ := h
  have hXw := h.x.lt
  have hGw := h.fo.g.lt (g := G) rfl
  have HXG : Hid (X ≠ G) := h.xg
  clear hoo hfr hf hz hnb h8 hr htp hK hQ h hfs ho
  cases o with
  | none =>
    simp only [Option.getD_none, Option.isSome_none, ftZ] at hcall
    generalize hGP : EvA w0 w X F G n 0 ks (prAt ks k ⟨true, (some ⟨gb, 0, none⟩), nb, zs⟩) (badAt ks k) (fun kp => prAt ks k ⟨true, (some ⟨gb, 0, none⟩), nb, zs.take kp.toNat⟩) none ops fa m fc down = P
    have HGP : Hid _ := hGP
    clear hGP hmem
    go_enter Tryz.func90, Tryz.ntmps90
    go_wp2_with fail
    refine hcall.mono ?_
    rintro e w1 ⟨rfl, do1, sv1⟩
    have b2 : Below w1.heap.size w1 (w1.alloc (.cells #[.int .i64 0, .int .i64 0, .int .i64 0] 65)) := (Below.refl _ _).alloc (Nat.le_refl _) _
    have do2 := do1.keep b2
    have k2 := (Blk.svs HK.out.1 sv1 (by simp; exact HKX.out.1)).keep b2
    have q2 := (Blk.svs HK.out.2 sv1 (by simp; exact HKX.out.2)).keep b2

    have hc2 := C1.out _ do2.fo k2 q2
    have sv2 : Sv [X, G] w (w1.alloc (.cells #[.int .i64 0, .int .i64 0, .int .i64 0] 65)) := (sv1.wider (by simp)).trans (Below.sv b2 _)
    clear hcall do1 sv1 b2
    go_wp2_with fail
    refine hc2.mono ?_
    rintro e w3 ⟨rfl, fo3, sv3⟩
    have HN : Hid _ := And.intro (do2.row fo3 sv3) (sv2.trans (sv3.wider (by simp)))
    clear do2 fo3 sv3 sv2 hc2
    go_wp2
    rw [← HGP.out]
    exact ⟨rfl, HN.out.1, HN.out.2⟩
  | some t =>
    obtain ⟨ft, fk, fp⟩ := t
    simp only [Option.getD_some, Option.isSome_some] at hcall
    have hkp := hmem _ rfl
    dsimp only at hkp
    by_cases h1 : fk = 1
    · subst h1
      generalize hGP : EvA w0 w X F G n 0 ks (prAt ks k ⟨true, (some ⟨gb, 0, none⟩), nb, zs⟩) (badAt ks k) (fun kp => prAt ks k ⟨true, (some ⟨gb, 0, none⟩), nb, zs.take kp.toNat⟩) (some ⟨ft, 1, fp⟩) ops fa m fc down = P
      have HGP : Hid _ := hGP
      clear hGP hmem
      go_enter Tryz.func90, Tryz.ntmps90
      go_wp2_with fail
      refine hcall.mono ?_
      rintro e w1 ⟨rfl, do1, sv1⟩
      have b2 : Below w1.heap.size w1 (w1.alloc (.cells #[.int .i64 ft, .int .i64 1, .int .i64 fp] 65)) := (Below.refl _ _).alloc (Nat.le_refl _) _
      have do2 := do1.keep b2
      have sv2 : Sv [X, G] w (w1.alloc (.cells #[.int .i64 ft, .int .i64 1, .int .i64 fp] 65)) := (sv1.wider (by simp)).trans (Below.sv b2 _)
      obtain ⟨v0, p0⟩ := do2.fo.is HF.out (j := 17) (by omega)
      have g0 := do2.fo.g.frozen (k * 18 + 17)
      have fn := do2.fo.one (j := 17) (x := .bool true) HF.out (by omega) (en_bad f true)
      have hbk : badAt ks k = ks.set k (f.badTo true) := by unfold badAt; rw [HF.out]
      rw [← hbk] at fn
      have HN : Hid _ := And.intro (do2.row fn (sv_one _ _ _ _)) (sv2.trans ((sv_one _ G (k * 18 + 17) (.bool true)).wider (by simp)))
      clear do1 sv1 b2 do2 sv2 fn hbk hcall
      go_wp2
      rw [← HGP.out]
      exact ⟨rfl, HN.out.1, HN.out.2⟩
    · have h1b : (fk == 1) = false := by simpa using h1
      generalize hGP : EvA w0 w X F G n 0 ks (prAt ks k ⟨true, (some ⟨gb, 0, none⟩), nb, zs⟩) (badAt ks k) (fun kp => prAt ks k ⟨true, (some ⟨gb, 0, none⟩), nb, zs.take kp.toNat⟩) (some ⟨ft, fk, fp⟩) ops fa m fc down = P
      have HGP : Hid _ := hGP
      have H1 : Hid _ := h1
      clear hGP hmem h1
      go_enter Tryz.func90, Tryz.ntmps90
      go_wp2_with fail
      refine hcall.mono ?_
      rintro e w1 ⟨rfl, do1, sv1⟩
      have b2 : Below w1.heap.size w1 (w1.alloc (.cells #[.int .i64 ft, .int .i64 fk, .int .i64 fp] 65)) := (Below.refl _ _).alloc (Nat.le_refl _) _
      have do2 := do1.keep b2
      have k2 := (Blk.svs HK.out.1 sv1 (by simp; exact HKX.out.1)).keep b2
      have q2 := (Blk.svs HK.out.2 sv1 (by simp; exact HKX.out.2)).keep b2

      have hc2 := C2.out _ fp hkp do2.fo k2 q2
      have sv2 : Sv [X, G] w (w1.alloc (.cells #[.int .i64 ft, .int .i64 fk, .int .i64 fp] 65)) := (sv1.wider (by simp)).trans (Below.sv b2 _)
      clear hcall do1 sv1 b2
      go_wp2_with fail
      refine hc2.mono ?_
      rintro e w3 ⟨rfl, fo3, sv3⟩
      have HN : Hid _ := And.intro (do2.row fo3 sv3) (sv2.trans (sv3.wider (by simp)))
      clear do2 fo3 sv3 sv2 hc2
      go_wp2
      rw [← HGP.out]
      have h1 := H1.out
      have e1 : evEnd 0 (some ⟨ft, fk, fp⟩) = .panicked [{ v := .iface 150 (.int .i64 10), recovered := false }] := by
        unfold evEnd opEnd
        rw [if_pos rfl]
        dsimp only
        rw [if_neg h1]
      have e2 : opK (prAt ks k ⟨true, (some ⟨gb, 0, none⟩), nb, zs⟩) (badAt ks k) (fun kp => prAt ks k ⟨true, (some ⟨gb, 0, none⟩), nb, zs.take kp.toNat⟩) (some ⟨ft, fk, fp⟩) = prAt ks k ⟨true, (some ⟨gb, 0, none⟩), nb, zs.take fp.toNat⟩ := by
        unfold opK
        dsimp only
        rw [if_neg h1]
      refine ⟨rfl, e1.symm, ?_, HN.out.2⟩
      rw [if_pos rfl, if_pos rfl, e2]
      exact HN.out.1
end

section
open Go.RowKit
set_option maxRecDepth 100000 in
set_option maxHeartbeats 8000000 in
theorem dvPrI (X F G n gb nb : Nat) (zs : List Int) (ks : List FkR) (x : Int) (ops : Int) (fa : Option Addr) (m fc : Nat) (fs : List FtD) (down : Bool) (w0 w : World) (hn : n ≤ 1048576) (hz : zs.length = nb) (hnb : nb ≤ 1048576) (h : DO w0 w X F G n ks ops fa m fc down) (hfr : FR w fa m fs) (ho : 0 ≤ ops ∧ ops < 100000) (hfs : ∀ t ∈ fs, ftOk t = true) (hr : ∀ f ∈ ks, ∀ p ∈ f.ps, ∀ W : World, Below w0.heap.size w0 W → Rd W p.a p.zs) (ht : totB (ks.map FkR.D) ≤ 1048576) :
    Calls Tryz.prog 46 #[.pointer (some ⟨X, 0, none⟩), .int .i64 x, .slice (some ⟨gb, 0, none⟩) nb nb] w (EvA w0 w X F G n (prC ks x nb) ks (prAt ks x.toNat ⟨true, (some ⟨gb, 0, none⟩), nb, zs⟩) (badAt ks x.toNat) (fun kp => prAt ks x.toNat ⟨true, (some ⟨gb, 0, none⟩), nb, zs.take kp.toNat⟩) (faD ops fs) ops fa m fc down) := by
  have B0 : Below w.heap.size w (w.alloc (.cells #[.slice (some ⟨gb, 0, none⟩) nb nb] 28)) := (Below.refl _ w).alloc (Nat.le_refl _) _
  have zQ := Blk.new w 28 #[.slice (some ⟨gb, 0, none⟩) nb nb]
  obtain ⟨Q, hQ⟩ : ∃ Q, w.heap.size = Q := ⟨_, rfl⟩
  have hXQ : X < Q := by rw [← hQ]; exact h.x.lt
  rw [hQ] at zQ
  have hmf : ∀ (fn : Fn) (first cap : Array Value) (w : World), (Instr.makeFunc fn first cap).run Tryz.prog w = .ok (.func fn first cap) w := fun _ _ _ _ => rfl
  have hbt := fun (W : World) (hW : Below w.heap.size w W) => btpI F G n ks x (some ⟨gb, 0, none⟩) nb nb w0 W hn hnb (h.keep hW).fo (fun f hf p hp => hr f hf p hp W (h.keep hW).fo.bel) ht
  obtain ⟨po, hpo⟩ : ∃ po, (if prC ks x nb = 0 then Value.pointer (some ⟨G, x.toNat * 18, none⟩) else .pointer none) = .pointer po := by
    split
    · exact ⟨_, rfl⟩
    · exact ⟨_, rfl⟩
  obtain ⟨ev, hev⟩ : ∃ ev, errV (prC ks x nb) = ev := ⟨_, rfl⟩
  rw [hpo, hev] at hbt
  have HPO : Hid _ := And.intro hpo hev
  generalize hGP : EvA w0 w X F G n (prC ks x nb) ks (prAt ks x.toNat ⟨true, (some ⟨gb, 0, none⟩), nb, zs⟩) (badAt ks x.toNat) (fun kp => prAt ks x.toNat ⟨true, (some ⟨gb, 0, none⟩), nb, zs.take kp.toNat⟩) (faD ops fs) ops fa m fc down = P
  have HGP : Hid _ := hGP
  clear hpo hev hGP
  go_enter Tryz.func46, Tryz.ntmps46
  go_upto_region 1 with fail
  obtain ⟨W0, hW0⟩ : ∃ W, w.alloc (.cells #[.slice (some ⟨gb, 0, none⟩) nb nb] 28) = W := ⟨_, rfl⟩
  rw [hW0] at B0 zQ ⊢
  try rw [hQ]
  clear hW0
  have HD : Hid (Below w.heap.size w W0.drew) := B0.drew
  have HDO : Hid (∀ W : World, Below w.heap.size w W → DO w0 W X F G n ks ops fa m fc down) := fun W hW => h.keep hW
  have HZQ : Hid (Blk W0.drew Q 28 #[.slice (some ⟨gb, 0, none⟩) nb nb]) := zQ.keep (Below.refl _ _).drew
  have hall : Hid (∀ W : World, Below W0.drew.heap.size W0.drew W → W.cell? ⟨X, 0, none⟩ = some (.pointer (some ⟨F, 0, none⟩)) ∧ W.cell? ⟨Q, 0, none⟩ = some (.slice (some ⟨gb, 0, none⟩) nb nb)) := fun W hW => ⟨(HDO.out W (HD.out.trans (hW.mono HD.out.size))).x.cell 0, (Blk.keep HZQ.out hW).cell 0⟩
  have hc0 := hbt W0.drew HD.out
  have bA : Below W0.drew.heap.size W0.drew (W0.drew.alloc (.cells #[.pointer none] 119)) := (Below.refl _ _).alloc (Nat.le_refl _) _
  have hc1 : Calls Tryz.prog 89 #[.pointer (some ⟨F, 0, none⟩), .int .i64 x, .slice (some ⟨gb, 0, none⟩) nb nb] (W0.alloc (.cells #[.pointer none] 119)).drew _ := hbt _ (HD.out.trans (bA.mono HD.out.size))
  have HBA : Hid _ := bA
  have HFR : Hid (∀ W : World, Below w.heap.size w W → FR W fa m fs) := fun W hW => hfr.keep hW
  have HR : Hid _ := hr
  have HQQ : Hid (w.heap.size = Q) := hQ
  obtain ⟨s1, s2⟩ := hall.out W0.drew (Below.refl _ _)
  clear h hfr hr B0 zQ hQ hbt bA
  refine wp_region_noPanic ?_
  refine wp_region_last (fun W : World => W.cell? ⟨X, 0, none⟩ = some (.pointer (some ⟨F, 0, none⟩)) ∧ W.cell? ⟨Q, 0, none⟩ = some (.slice (some ⟨gb, 0, none⟩) nb nb)) 12 (by kernel_rfl) (by kernel_rfl) (by go_keep) 12 (by kernel_rfl) (fun hS => ?_)
  refine wpAnyH_take (i := 0) (v := ?gv1) rfl (by kernel_rfl) (by kernel_rfl) (by kernel_rfl) (fun _ _ _ h => h) (Or.inl ⟨by kernel_rfl, ?gy1⟩) (by assumption) ?gr1
  case gy1 => (intro w' hSw; (try dsimp only at hSw); go_simp; (try with_reducible rfl))
  try simp only [Act.put, List.setIfInBounds_toArray, List.set_cons_zero, List.set_cons_succ, List.getElem_toArray, List.getElem_cons_zero]
  refine wpAnyH_take (i := 1) (v := ?gv2) rfl (by kernel_rfl) (by kernel_rfl) (by kernel_rfl) (fun _ _ _ h => h) (Or.inl ⟨by kernel_rfl, ?gy2⟩) (by assumption) ?gr2
  case gy2 => (intro w' hSw; (try dsimp only at hSw); go_simp; (try with_reducible rfl))
  try simp only [Act.put, List.setIfInBounds_toArray, List.set_cons_zero, List.set_cons_succ, List.getElem_toArray, List.getElem_cons_succ, List.getElem_cons_zero]
  refine wpAnyH_take (i := 2) (v := ?gv3) rfl (by kernel_rfl) (by kernel_rfl) (by kernel_rfl) (fun _ _ _ h => h) (Or.inl ⟨by kernel_rfl, ?gy3⟩) (by assumption) ?gr3
  case gy3 => (intro w' hSw; (try dsimp only at hSw); go_simp; (try with_reducible rfl))
  try simp only [Act.put, List.setIfInBounds_toArray, List.set_cons_zero, List.set_cons_succ, List.getElem_toArray, List.getElem_cons_succ, List.getElem_cons_zero]
  refine wpAnyH_take (i := 3) (v := ?gv4) rfl (by kernel_rfl) (by kernel_rfl) (by kernel_rfl) (fun _ _ _ h => h) (Or.inl ⟨by kernel_rfl, ?gy4⟩) (by assumption) ?gr4
  case gy4 => (intro w' hSw; (try dsimp only at hSw); go_simp; (try with_reducible rfl))
  try simp only [Act.put, List.setIfInBounds_toArray, List.set_cons_zero, List.set_cons_succ, List.getElem_toArray, List.getElem_cons_succ, List.getElem_cons_zero]
  refine wpAnyH_take (i := 4) (v := ?gv5) rfl (by kernel_rfl) (by kernel_rfl) (by kernel_rfl) (fun _ _ _ h => h) (Or.inl ⟨by kernel_rfl, ?gy5⟩) (by assumption) ?gr5
  case gy5 => (intro w' hSw; (try dsimp only at hSw); go_simp; (try with_reducible rfl))
  try simp only [Act.put, List.setIfInBounds_toArray, List.set_cons_zero, List.set_cons_succ, List.getElem_toArray, List.getElem_cons_succ, List.getElem_cons_zero]
  refine wpAnyH_take (i := 5) (v := ?gv6) rfl (by kernel_rfl) (by kernel_rfl) (by kernel_rfl) (fun _ _ _ h => h) (Or.inl ⟨by kernel_rfl, ?gy6⟩) (by assumption) ?gr6
  case gy6 => (intro w' hSw; (try dsimp only at hSw); go_simp; (try with_reducible rfl))
  try simp only [Act.put, List.setIfInBounds_toArray, List.set_cons_zero, List.set_cons_succ, List.getElem_toArray, List.getElem_cons_succ, List.getElem_cons_zero]
  refine wpAnyH_ready (rs := [6, 10]) (by kernel_rfl) (by simp) ?_
  refine AllReadyH.cons rfl (fun K hK => ?_) (AllReadyH.cons rfl (fun K hK => ?_) AllReadyH.nil)
  go_simp
  (with_reducible refine hc0.mono ?_)
  rintro e W1 ⟨rfl, b1⟩
  have HB1 : Hid (Below W0.drew.heap.size W0.drew W1) := b1
  clear b1
  clear hS
  try dsimp only
  refine Shut.out hK _ _ (hall.out W1 HB1.out) (fun hS => ?_)
  try simp only [Act.put, List.setIfInBounds_toArray, List.set_cons_zero, List.set_cons_succ, List.getElem_toArray, List.getElem_cons_succ, List.getElem_cons_zero]
  refine wpAnyH_take (i := 7) (v := ?gv7) rfl (by kernel_rfl) (by kernel_rfl) (by kernel_rfl) (fun _ _ _ h => h) (Or.inl ⟨by kernel_rfl, ?gy7⟩) (by assumption) ?gr7
  case gy7 => (intro w' hSw; (try dsimp only at hSw); go_simp; (try with_reducible rfl))
  try simp only [Act.put, List.setIfInBounds_toArray, List.set_cons_zero, List.set_cons_succ, List.getElem_toArray, List.getElem_cons_succ, List.getElem_cons_zero]
  refine wpAnyH_take (i := 8) (v := ?gv8) rfl (by kernel_rfl) (by kernel_rfl) (by kernel_rfl) (fun _ _ _ h => h) (Or.inl ⟨by kernel_rfl, ?gy8⟩) (by assumption) ?gr8
  case gy8 => (intro w' hSw; (try dsimp only at hSw); go_simp; (try with_reducible rfl))
  try simp only [Act.put, List.setIfInBounds_toArray, List.set_cons_zero, List.set_cons_succ, List.getElem_toArray, List.getElem_cons_succ, List.getElem_cons_zero]
  refine wpAnyH_take (i := 9) (v := ?gv9) rfl (by kernel_rfl) (by kernel_rfl) (by kernel_rfl) (fun _ _ _ h => h) (Or.inl ⟨by kernel_rfl, ?gy9⟩) (by assumption) ?gr9
  case gy9 => (intro w' hSw; (try dsimp only at hSw); go_simp; (try with_reducible rfl))
  try simp only [Act.put, List.setIfInBounds_toArray, List.set_cons_zero, List.set_cons_succ, List.getElem_toArray, List.getElem_cons_succ, List.getElem_cons_zero]
  refine wpAnyH_ready (rs := [10]) (by kernel_rfl) (by simp) ?_
  refine AllReadyH.cons rfl (fun K hK => ?_) AllReadyH.nil
  go_simp
  have b2 : Below W1.heap.size W1 (W1.alloc (.cells #[.pointer none] 119)) := (Below.refl _ _).alloc (Nat.le_refl _) _
  have HB2 : Hid (Below W0.drew.heap.size W0.drew (W1.alloc (.cells #[.pointer none] 119))) := HB1.out.trans (b2.mono HB1.out.size)
  have zT := Blk.new W1 119 #[.pointer none]
  obtain ⟨Kb, hT⟩ : ∃ T, W1.heap.size = T := ⟨_, rfl⟩
  rw [hT] at zT
  have hTn : W0.drew.heap.size ≤ Kb := (by rw [← hT]; exact HB1.out.size)
  obtain ⟨W2, hW2⟩ : ∃ W, W1.alloc (.cells #[.pointer none] 119) = W := ⟨_, rfl⟩
  rw [hW2] at HB2 zT ⊢
  clear hW2 b2
  have HZT : Hid (Blk W2 Kb 119 #[.pointer none] ∧ W0.drew.heap.size ≤ Kb) := ⟨zT, hTn⟩
  clear zT hTn
  try rw [hT]
  clear hS
  try dsimp only
  refine Shut.out hK _ _ (hall.out _ HB2.out) (fun hS => ?_)
  try simp only [Act.put, List.setIfInBounds_toArray, List.set_cons_zero, List.set_cons_succ, List.getElem_toArray, List.getElem_cons_succ, List.getElem_cons_zero]
  refine wpAnyH_ready (rs := [11]) (by kernel_rfl) (by simp) ?_
  refine AllReadyH.cons rfl (fun K hK => ?_) AllReadyH.nil
  go_simp
  have zT := HZT.out.1
  have t0 := zT.cell 0
  have u0 := zT.frozen 0
  simp at t0
  clear zT
  go_simp
  clear hS
  try dsimp only
  refine Shut.out hK _ _ (hall.out (W2.setCell ⟨Kb, 0, none⟩ (.pointer po)) (HB2.out.setCell (p := ⟨Kb, 0, none⟩) HZT.out.2 _)) (fun hS => ?_)
  try simp only [Act.put, List.setIfInBounds_toArray, List.set_cons_zero, List.set_cons_succ, List.getElem_toArray, List.getElem_cons_succ, List.getElem_cons_zero]
  refine wpAnyH_done (by kernel_rfl) ?_ _
  refine wpOp_last rfl (fun K hK => ?_)
  clear hS
  go_simp
  refine Shut.out hK _ _ (NoPanic.normal ?_)
  rotate_left 1
  go_simp
  clear hS
  try dsimp only
  refine Shut.out hK _ _ (hall.out _ HBA.out) (fun hS => ?_)
  try simp only [Act.put, List.setIfInBounds_toArray, List.set_cons_zero, List.set_cons_succ, List.getElem_toArray, List.getElem_cons_succ, List.getElem_cons_zero]
  refine wpAnyH_ready (rs := [6]) (by kernel_rfl) (by simp) ?_
  refine AllReadyH.cons rfl (fun K hK => ?_) AllReadyH.nil
  go_simp
  (with_reducible refine hc1.mono ?_)
  rintro e W2 ⟨rfl, b1⟩
  have HB2 : Hid (Below W0.drew.heap.size W0.drew W2) := HBA.out.trans (b1.mono HBA.out.size)
  have zT := (Blk.new W0.drew 119 #[.pointer none]).keep b1
  obtain ⟨Kb, hT⟩ : ∃ T, W0.heap.size = T := ⟨_, rfl⟩
  have hT2 : W0.drew.heap.size = Kb := hT
  rw [hT2] at zT
  have HZT : Hid (Blk W2 Kb 119 #[.pointer none] ∧ W0.drew.heap.size ≤ Kb) := ⟨zT, by rw [hT2]; exact Nat.le_refl _⟩
  clear b1 zT hT2
  try rw [hT]
  clear hS
  try dsimp only
  refine Shut.out hK _ _ (hall.out W2 HB2.out) (fun hS => ?_)
  try simp only [Act.put, List.setIfInBounds_toArray, List.set_cons_zero, List.set_cons_succ, List.getElem_toArray, List.getElem_cons_succ, List.getElem_cons_zero]
  refine wpAnyH_take (i := 7) (v := ?gv10) rfl (by kernel_rfl) (by kernel_rfl) (by kernel_rfl) (fun _ _ _ h => h) (Or.inl ⟨by kernel_rfl, ?gy10⟩) (by assumption) ?gr10
  case gy10 => (intro w' hSw; (try dsimp only at hSw); go_simp; (try with_reducible rfl))
  try simp only [Act.put, List.setIfInBounds_toArray, List.set_cons_zero, List.set_cons_succ, List.getElem_toArray, List.getElem_cons_succ, List.getElem_cons_zero]
  refine wpAnyH_take (i := 8) (v := ?gv11) rfl (by kernel_rfl) (by kernel_rfl) (by kernel_rfl) (fun _ _ _ h => h) (Or.inl ⟨by kernel_rfl, ?gy11⟩) (by assumption) ?gr11
  case gy11 => (intro w' hSw; (try dsimp only at hSw); go_simp; (try with_reducible rfl))
  try simp only [Act.put, List.setIfInBounds_toArray, List.set_cons_zero, List.set_cons_succ, List.getElem_toArray, List.getElem_cons_succ, List.getElem_cons_zero]
  refine wpAnyH_take (i := 9) (v := ?gv12) rfl (by kernel_rfl) (by kernel_rfl) (by kernel_rfl) (fun _ _ _ h => h) (Or.inl ⟨by kernel_rfl, ?gy12⟩) (by assumption) ?gr12
  case gy12 => (intro w' hSw; (try dsimp only at hSw); go_simp; (try with_reducible rfl))
  try simp only [Act.put, List.setIfInBounds_toArray, List.set_cons_zero, List.set_cons_succ, List.getElem_toArray, List.getElem_cons_succ, List.getElem_cons_zero]
  refine wpAnyH_ready (rs := [11]) (by kernel_rfl) (by simp) ?_
  refine AllReadyH.cons rfl (fun K hK => ?_) AllReadyH.nil
  go_simp
  have zT := HZT.out.1
  have t0 := zT.cell 0
  have u0 := zT.frozen 0
  simp at t0
  clear zT
  go_simp
  clear hS
  try dsimp only
  refine Shut.out hK _ _ (hall.out (W2.setCell ⟨Kb, 0, none⟩ (.pointer po)) (HB2.out.setCell (p := ⟨Kb, 0, none⟩) HZT.out.2 _)) (fun hS => ?_)
  try simp only [Act.put, List.setIfInBounds_toArray, List.set_cons_zero, List.set_cons_succ, List.getElem_toArray, List.getElem_cons_succ, List.getElem_cons_zero]
  refine wpAnyH_done (by kernel_rfl) ?_ _
  refine wpOp_last rfl (fun K hK => ?_)
  clear hS
  go_simp
  refine Shut.out hK _ _ (NoPanic.normal ?_)
  rotate_left 1
  all_goals (
    clear t0 u0 s1 s2 hc0 hc1
    have hb3 : Below W0.drew.heap.size W0.drew (W2.setCell ⟨Kb, 0, none⟩ (.pointer po)) := HB2.out.setCell (p := ⟨Kb, 0, none⟩) HZT.out.2 _
    have zK := HZT.out.1.set 0 (.pointer po)
    have zQ := Blk.keep HZQ.out hb3
    have hKX : Kb ≠ X := by have := HZT.out.2; have := HZQ.out.lt; omega
    simp at zK
    obtain ⟨W3, hW3⟩ : ∃ W, W2.setCell ⟨Kb, 0, none⟩ (.pointer po) = W := ⟨_, rfl⟩
    rw [hW3] at hb3 zK zQ ⊢
    clear hW3
    have hb : Below w.heap.size w W3 := HD.out.trans (hb3.mono HD.out.size)
    obtain ⟨hpo, hev⟩ := HPO.out
    by_cases hc : prC ks x nb = 0
    · obtain ⟨k, f, rfl, hf, h8⟩ := pr_zero hc
      rw [if_pos hc, Int.toNat_natCast] at hpo
      rw [hc, errV_zero] at hev
      simp only [Value.pointer.injEq] at hpo
      subst hpo hev
      have htp : totP (f.ps.map PgR.D) ≤ 1048576 := by
        have := totB_mem (b := f.D) (bs := ks.map FkR.D) (List.mem_map_of_mem (List.mem_of_getElem? hf))
        have h2 : f.D.ps = f.ps.map PgR.D := rfl
        rw [h2] at this
        omega
      have hcall2 := opPrI X F G n k Kb Q gb nb zs ks f ops fa m fc fs down w0 W3 (HDO.out _ hb) (HFR.out _ hb) ho hfs hf hz hnb h8 (HR.out f (List.mem_of_getElem? hf)) htp zK zQ hKX (by omega)
      have HB3 : Hid _ := hb
      have HC : Hid (prC ks (k : Int) nb = 0) := hc
      have y0 := zK.cell 0
      simp at y0
      clear hc hf h8 htp hb hb3 zK zQ HPO HDO HFR HR HZT HB2 hall HZQ
      go_wp2_with fail
      refine hcall2.mono ?_
      rintro e w2 ⟨he, d2, sv2⟩
      have HA2 : Hid (P e w2) := by
        show P e w2
        rw [← HGP.out, HC.out, Int.toNat_natCast]
        exact ⟨he, d2, (Below.sv HB3.out _).trans sv2⟩
      clear d2 sv2 hcall2 HGP HC
      rcases evEnd_cases 0 (faD ops fs) with ⟨v, e1, (rfl | ⟨c, rfl⟩)⟩ | e1
      · rw [e1] at he
        subst he
        go_wp2
        exact HA2.out
      · rw [e1] at he
        subst he
        go_wp2
        exact HA2.out
      · rw [e1] at he
        subst he
        go_wp2
        first | exact HA2.out | exact ⟨rfl, HA2.out⟩
    · rw [errV_some hc] at hev
      have HN : Hid _ := And.intro (HDO.out _ hb) (Below.sv hb [X, G])
      have HC : Hid _ := And.intro hc hev
      obtain ⟨c, hcc⟩ : ∃ c, prC ks x nb = c := ⟨_, rfl⟩
      rw [hcc] at hev
      subst hev
      clear hb hb3 zK zQ HPO HDO HFR HR HZT HB2 hall HZQ hcc hc
      go_wp2
      rw [← HGP.out]
      obtain ⟨h1, h2⟩ := HC.out
      refine ⟨?_, ?_, HN.out.2⟩
      · unfold evEnd
        rw [if_neg h1, errV_some h1, h2]
        rfl
      · rw [if_neg h1, if_neg h1]
        exact HN.out.1)
set_option maxRecDepth 100000 in
set_option maxHeartbeats 4000000 in
theorem ev_throughP {X F G n B Q gb nb : Nat} {ks kA kB : List FkR} {kC : Int → List FkR} {x cd : Int} {o : Option FtD} {ops : Int} {fa : Option Addr} {m fc : Nat} {down : Bool} {w0 w : World} (x0 : w.cell? ⟨B, 0, none⟩ = some (.int .i64 x)) (x1 : w.cell? ⟨Q, 0, none⟩ = some (.slice (some ⟨gb, 0, none⟩) nb nb)) (hcall' : Calls Tryz.prog 46 #[.pointer (some ⟨X, 0, none⟩), .int .i64 x, .slice (some ⟨gb, 0, none⟩) nb nb] w (EvA w0 w X F G n cd ks kA kB kC o ops fa m fc down)) :
    Calls Tryz.prog 45 #[.pointer (some ⟨X, 0, none⟩), .pointer (some ⟨B, 0, none⟩), .pointer (some ⟨Q, 0, none⟩)] w (EvA w0 w X F G n cd ks kA kB kC o ops fa m fc down) := by
  generalize hGP : EvA w0 w X F G n cd ks kA kB kC o ops fa m fc down = P at hcall' ⊢
  have HGP : Hid _ := hGP
  clear hGP
  go_enter Tryz.func45, Tryz.ntmps45
  go_wp2_with fail
  refine hcall'.mono ?_
  intro e w1 hA
  have HA : Hid _ := hA
  rw [← HGP.out] at hA
  obtain ⟨he, _, _⟩ := hA
  clear HGP hcall'
  rcases evEnd_cases cd o with ⟨v, e1, (rfl | ⟨c, rfl⟩)⟩ | e1
  · rw [e1] at he
    subst he
    go_wp2
    exact HA.out
  · rw [e1] at he
    subst he
    go_wp2
    exact HA.out
  · rw [e1] at he
    subst he
    go_wp2
    first | exact HA.out | exact ⟨rfl, HA.out⟩
set_option maxHeartbeats 1600000 in
theorem dvPr1I (X F G n B Q gb nb : Nat) (zs : List Int) (ks : List FkR) (x : Int) (ops : Int) (fa : Option Addr) (m fc : Nat) (fs : List FtD) (down : Bool) (w0 w : World) (hn : n ≤ 1048576) (hz : zs.length = nb) (hnb : nb ≤ 1048576) (h : DO w0 w X F G n ks ops fa m fc down) (hfr : FR w fa m fs) (ho : 0 ≤ ops ∧ ops < 100000) (hfs : ∀ t ∈ fs, ftOk t = true) (hr : ∀ f ∈ ks, ∀ p ∈ f.ps, ∀ W : World, Below w0.heap.size w0 W → Rd W p.a p.zs) (ht : totB (ks.map FkR.D) ≤ 1048576) (hB : Blk w B 3 #[.int .i64 x]) (hQ : Blk w Q 28 #[.slice (some ⟨gb, 0, none⟩) nb nb]) :
    Calls Tryz.prog 45 #[.pointer (some ⟨X, 0, none⟩), .pointer (some ⟨B, 0, none⟩), .pointer (some ⟨Q, 0, none⟩)] w (EvA w0 w X F G n (prC ks x nb) ks (prAt ks x.toNat ⟨true, (some ⟨gb, 0, none⟩), nb, zs⟩) (badAt ks x.toNat) (fun kp => prAt ks x.toNat ⟨true, (some ⟨gb, 0, none⟩), nb, zs.take kp.toNat⟩) (faD ops fs) ops fa m fc down) := by
  have hcall := dvPrI X F G n gb nb zs ks x ops fa m fc fs down w0 w hn hz hnb h hfr ho hfs hr ht
  have x0 := hB.cell 0
  have x1 := hQ.cell 0
  simp at x0 x1
  exact ev_throughP x0 x1 hcall
end

section
open Go.RowKit
/-- The code of a program, and the chip behind it. -/
def codeP (ok : Bool) (ds : List BkD) (x : Int) (nb : Nat) : Int := if 400 < nb then 1 else mayD ok ds x (decide (nextD ds x = 8))
def progAt (ds : List BkD) (k : Nat) (zs : List Int) : List BkD := match ds[k]? with | some b => ds.set k ⟨b.ps.set (nextP b.ps) ⟨true, zs⟩, b.wear, b.bad⟩ | none => ds
def programD (ok : Bool) (ds : List BkD) (x : Int) (zs : List Int) : List BkD := if codeP ok ds x zs.length = 0 then progAt ds x.toNat zs else ds
theorem pr_code {bs : List BkR} {fs : List FkR} (h : FlOf bs fs) (x : Int) (nb : Nat) : prC fs x nb = codeP true (bs.map BkR.D) x nb := by
  unfold prC codeP
  split
  · rfl
  · by_cases hx : 0 ≤ x ∧ x < (bs.length : Int)
    · obtain ⟨k, rfl⟩ : ∃ k : Nat, x = (k : Int) := ⟨x.toNat, by omega⟩
      obtain ⟨r, hr⟩ : ∃ r, bs[k]? = some r := ⟨_, List.getElem?_eq_getElem (by omega)⟩
      obtain ⟨f, hf, h1, _, h3⟩ := h.2 k _ hr
      rw [mayD_in hr, nextD_in hr, btcC_in hf, ← h3, ← h1]
      cases f.bad with
      | true => simp
      | false =>
        simp only [Int.toNat_natCast, hf, Option.map_some, Option.some.injEq, fkN]
        by_cases h5 : nextP (f.ps.map PgR.D) = 8
        · simp [h5]
        · have h6 : ¬ ((nextP (f.ps.map PgR.D) : Nat) : Int) = 8 := by omega
          simp [h5, h6]
    · have h1 := h.1
      have hb : btcC fs x = 1 := by unfold btcC; rw [if_pos (by omega)]
      rw [hb, mayD_form (.inr (by simp; omega))]
      rfl
theorem totP_bound : ∀ (ps : List PgD), (∀ p ∈ ps, p.zs.length ≤ 400) → totP ps ≤ 401 * ps.length
  | [], _ => by simp [totP]
  | p :: ps, h => by
    have h1 := totP_bound ps (fun q hq => h q (List.mem_cons_of_mem _ hq))
    have h2 := h p List.mem_cons_self
    rw [totP_cons, List.length_cons]
    omega
theorem totB_bound : ∀ (ds : List BkD), (∀ b ∈ ds, totP b.ps ≤ 3208) → totB ds ≤ 3209 * ds.length
  | [], _ => by simp [totB]
  | b :: ds, h => by
    have h1 := totB_bound ds (fun q hq => h q (List.mem_cons_of_mem _ hq))
    have h2 := h b List.mem_cons_self
    rw [totB_cons, List.length_cons]
    omega
theorem totP_put : ∀ (ps : List PgD) (k : Nat) (q : PgD), totP (ps.set k q) ≤ totP ps + 1 + q.zs.length
  | [], _, _ => by simp [totP]
  | d :: ds, 0, q => by rw [List.set_cons_zero, totP_cons, totP_cons]; omega
  | d :: ds, k + 1, q => by
    have := totP_put ds k q
    rw [List.set_cons_succ, totP_cons, totP_cons]
    omega
theorem totB_put : ∀ (ds : List BkD) (k : Nat) (b : BkD), totB (ds.set k b) ≤ totB ds + 1 + totP b.ps
  | [], _, _ => by simp [totB]
  | d :: ds, 0, b => by rw [List.set_cons_zero, totB_cons, totB_cons]; omega
  | d :: ds, k + 1, b => by
    have := totB_put ds k b
    rw [List.set_cons_succ, totB_cons, totB_cons]
    omega
end

section
open Go.RowKit
theorem ok_small {ds : List BkD} (h : chipOkB ds = true) : (∀ b ∈ ds, totP b.ps ≤ 3208) ∧ totB ds ≤ 77016 := by
  rw [chipOkB_iff] at h
  have hb : ∀ b ∈ ds, totP b.ps ≤ 3208 := fun b hb => by
    have h1 := h.2.2 b hb
    have h2 := totP_bound b.ps (fun p hp => by
      obtain ⟨i, hi⟩ := List.mem_iff_getElem?.1 hp
      have := (h1.2.2.2 i p hi).1
      unfold pgOk at this
      simp at this
      exact this.1)
    rw [h1.1] at h2
    omega
  have h3 := totB_bound ds hb
  have h4 := h.2.1
  exact ⟨hb, by omega⟩
theorem Rd.take {w : World} {a : Option Addr} {zs : List Int} (h : Rd w a zs) (q : Nat) : Rd w a (zs.take q) := by
  rcases h with h | ⟨b, off, e, hc⟩
  · exact .inl (by rw [h]; simp)
  · refine .inr ⟨b, off, e, fun j hj => ?_⟩
    rw [List.length_take] at hj
    rw [hc j (by omega)]
    have hq : j < q := by omega
    simp [List.getD_eq_getElem?_getD, hq]
theorem prAt_D (ks : List FkR) (k : Nat) (ba : Option Addr) (c : Nat) (zs : List Int) : (prAt ks k ⟨true, ba, c, zs⟩).map FkR.D = progAt (ks.map FkR.D) k zs := by
  unfold prAt progAt
  rw [List.getElem?_map]
  cases hk : ks[k]? with
  | none => rfl
  | some f =>
    simp only [Option.map_some]
    rw [List.map_set]
    simp only [FkR.D, FkR.pg, fkN, List.map_set, PgR.D]
theorem pr_goodAt {w : World} {ks : List FkR} {k : Nat} {ba : Option Addr} {c : Nat} {zs : List Int} (h : FlGood w ks) (hs : (∀ b ∈ ks.map FkR.D, totP b.ps ≤ 3208) ∧ totB (ks.map FkR.D) ≤ 77016) (hz : zs.length ≤ 400) (hr : Rd w ba zs) : FlGood w (prAt ks k ⟨true, ba, c, zs⟩) := by
  refine ⟨fun f hf p hp => ?_, ?_⟩
  · unfold prAt at hf
    split at hf
    · rename_i g hg
      rcases List.mem_or_eq_of_mem_set hf with h1 | h1
      · exact h.1 f h1 p hp
      · subst h1
        have hp' : p ∈ g.ps.set (fkN g) ⟨true, ba, c, zs⟩ := hp
        rcases List.mem_or_eq_of_mem_set hp' with h2 | h2
        · exact h.1 g (List.mem_of_getElem? hg) p h2
        · subst h2; exact hr
    · exact h.1 f hf p hp
  · rw [prAt_D]
    unfold progAt
    split
    · rename_i b hb
      have h5 := totB_put (ks.map FkR.D) k ⟨b.ps.set (nextP b.ps) ⟨true, zs⟩, b.wear, b.bad⟩
      have h6 := totP_put b.ps (nextP b.ps) ⟨true, zs⟩
      have h7 := hs.1 b (List.mem_of_getElem? hb)
      have h8 := hs.2
      simp only at h5 h6
      omega
    · exact h.2
theorem pr_good {w : World} {ks : List FkR} {x : Int} {nb : Nat} {ba : Option Addr} {c : Nat} {zs : List Int} {o : Option FtD} (h : FlGood w ks) (hs : (∀ b ∈ ks.map FkR.D, totP b.ps ≤ 3208) ∧ totB (ks.map FkR.D) ≤ 77016) (hz : zs.length = nb) (hr : Rd w ba zs) : FlGood w (if prC ks x nb = 0 then opK (prAt ks x.toNat ⟨true, ba, c, zs⟩) (badAt ks x.toNat) (fun kp => prAt ks x.toNat ⟨true, ba, c, zs.take kp.toNat⟩) o else ks) := by
  by_cases hc : prC ks x nb = 0
  · have h4 : nb ≤ 400 := by
      unfold prC at hc
      split at hc
      · omega
      · omega
    have h0 := opK_all (P := FlGood w) 0 o (ks := ks) (a := prAt ks x.toNat ⟨true, ba, c, zs⟩) (c := fun kp => prAt ks x.toNat ⟨true, ba, c, zs.take kp.toNat⟩) h (pr_goodAt h hs (by omega) hr) (h.bad x.toNat) (fun t => pr_goodAt h hs (by rw [List.length_take]; omega) (hr.take _))
    rw [hc]
    exact h0
  · rw [if_neg hc]
    exact h
set_option maxRecDepth 100000 in
set_option maxHeartbeats 16000000 in
theorem behP (a : Option Addr) (n cap B : Nat) (bs : List BkR) (ops : Int) (fa : Option Addr) (m fc : Nat) (fs : List FtD) (down : Bool) (x : Int) (gb nb Q : Nat) (zs : List Int) (w : World) (ht : CR w a n bs) (hf : FR w fa m fs) (hB : Blk w B 3 #[.int .i64 x]) (hQ : Blk w Q 28 #[.slice (some ⟨gb, 0, none⟩) nb nb]) (hz : zs.length = nb) (hnb : nb ≤ 1048576) (hrz : Rd w (some ⟨gb, 0, none⟩) zs) (hE : EtCell w) :
    Calls Tryz.prog 44 #[.agg #[.slice a n cap, .int .i64 ops, .slice fa m fc, .bool down], .func (.func 45) #[] #[.pointer (some ⟨B, 0, none⟩), .pointer (some ⟨Q, 0, none⟩)]] w (DvCA w ⟨outDs (evCode (bs.map BkR.D) ops fs down (codeP true (bs.map BkR.D) x nb)) (faD ops fs) (bs.map BkR.D) (progAt (bs.map BkR.D) x.toNat zs) (badD (bs.map BkR.D) x.toNat) (fun t => progAt (bs.map BkR.D) x.toNat (zs.take t.toNat)), outOps (evCode (bs.map BkR.D) ops fs down (codeP true (bs.map BkR.D) x nb)) ops, fs, outDown (evCode (bs.map BkR.D) ops fs down (codeP true (bs.map BkR.D) x nb)) (faD ops fs) down⟩ (outCode (evCode (bs.map BkR.D) ops fs down (codeP true (bs.map BkR.D) x nb)) (faD ops fs))) := by
  have hnn := ht.n
  have B0 : Below w.heap.size w (((w.alloc (.cells #[.slice a n cap, .int .i64 ops, .slice fa m fc, .bool down] 35)).alloc (.cells #[.slice none 0 0, .int .i64 0, .slice none 0 0, .bool false] 35)).alloc (.cells #[.int .i64 0] 3)) := (((Below.refl _ w).alloc (Nat.le_refl _) _).alloc (by simp) _).alloc (by simp; omega) _
  have z0 := ((Blk.new w 35 #[.slice a n cap, .int .i64 ops, .slice fa m fc, .bool down]).alloc (.cells #[.slice none 0 0, .int .i64 0, .slice none 0 0, .bool false] 35)).alloc (.cells #[.int .i64 0] 3)
  have z1 := (Blk.new (w.alloc (.cells #[.slice a n cap, .int .i64 ops, .slice fa m fc, .bool down] 35)) 35 #[.slice none 0 0, .int .i64 0, .slice none 0 0, .bool false]).alloc (.cells #[.int .i64 0] 3)
  have z5 := Blk.new ((w.alloc (.cells #[.slice a n cap, .int .i64 ops, .slice fa m fc, .bool down] 35)).alloc (.cells #[.slice none 0 0, .int .i64 0, .slice none 0 0, .bool false] 35)) 3 #[.int .i64 0]
  simp only [World.size_alloc] at z1 z5
  have hws : (((w.alloc (.cells #[.slice a n cap, .int .i64 ops, .slice fa m fc, .bool down] 35)).alloc (.cells #[.slice none 0 0, .int .i64 0, .slice none 0 0, .bool false] 35)).alloc (.cells #[.int .i64 0] 3)).heap.size = w.heap.size + 1 + 1 + 1 := by simp
  obtain ⟨H, hH⟩ : ∃ H, w.heap.size = H := ⟨_, rfl⟩
  have HH : Hid (w.heap.size = H) := hH
  rw [hH] at z0 z1 z5 hws
  obtain ⟨CD, hCD⟩ : ∃ c, evCode (bs.map BkR.D) ops fs down (codeP true (bs.map BkR.D) x nb) = c := ⟨_, rfl⟩
  rw [hCD]
  have HCD0 : Hid _ := hCD
  generalize hGP : DvCA w ⟨outDs CD (faD ops fs) (bs.map BkR.D) (progAt (bs.map BkR.D) x.toNat zs) (badD (bs.map BkR.D) x.toNat) (fun t => progAt (bs.map BkR.D) x.toNat (zs.take t.toNat)), outOps CD ops, fs, outDown CD (faD ops fs) down⟩ (outCode CD (faD ops fs)) = P
  have HGP : Hid _ := hGP
  have hok := fun (W : World) (h1 : CR W a n bs) (h2 : FR W fa m fs) => devOkI a n cap bs ops fa m fc fs down W h1 h2
  obtain ⟨ok, hokk⟩ : ∃ ok, devB (bs.map BkR.D) ops fs = ok := ⟨_, rfl⟩
  rw [hokk] at hok
  have HOK : Hid _ := hokk
  have COK : Hid _ := hok
  have hmf : ∀ (fn : Fn) (first cap : Array Value) (w : World), (Instr.makeFunc fn first cap).run Tryz.prog w = .ok (.func fn first cap) w := fun _ _ _ _ => rfl
  clear hGP hCD hokk hok
  go_enter_defers Tryz.func44, Tryz.ntmps44
  go_upto_region 1 with fail
  obtain ⟨W0, hW0⟩ : ∃ W, ((w.alloc (.cells #[.slice a n cap, .int .i64 ops, .slice fa m fc, .bool down] 35)).alloc (.cells #[.slice none 0 0, .int .i64 0, .slice none 0 0, .bool false] 35)).alloc (.cells #[.int .i64 0] 3) = W := ⟨_, rfl⟩
  rw [hW0] at B0 z0 z1 z5 hws ⊢
  try rw [hH]
  clear hW0 hH
  have HW : Hid _ := hws
  have HT : Hid (CR W0 a n bs) := ht.keep B0
  have HF : Hid (FR W0 fa m fs) := hf.keep B0
  have HB0 : Hid (Below w.heap.size w W0) := B0
  have HZ0 : Hid (Blk W0 H 35 #[.slice a n cap, .int .i64 ops, .slice fa m fc, .bool down]) := z0
  have HZ1 : Hid (Blk W0 (H + 1) 35 #[.slice none 0 0, .int .i64 0, .slice none 0 0, .bool false]) := z1
  have HZ5 : Hid (Blk W0 (H + 1 + 1) 3 #[.int .i64 0]) := z5
  have HBB : Hid _ := And.intro (hB.keep B0) (And.intro (hQ.keep B0) (hrz.keep B0))
  have HE : Hid (EtCell W0) := hE.keep B0
  have x0 := z0.cell 0
  have x1 := z0.cell 1
  have x2 := z0.cell 2
  have x3 := z0.cell 3
  simp at x0 x1 x2 x3
  clear ht hf B0 z0 z1 z5 hB hE hQ hrz
  go_wp2_with fail
  refine (COK.out W0 HT.out HF.out).mono ?_
  rintro e w1 ⟨rfl, b1⟩
  have y0 := (Blk.keep HZ0.out b1).cell 0
  have y1 := (Blk.keep HZ0.out b1).cell 1
  have y2 := (Blk.keep HZ0.out b1).cell 2
  have y3 := (Blk.keep HZ0.out b1).cell 3
  simp at y0 y1 y2 y3
  clear x0 x1 x2 x3
  cases ok with
  | false =>
    have HCD : Hid (CD = 1) := by show _ = _; rw [← HCD0.out]; unfold evCode; rw [if_pos HOK.out]
    go_wp2_with fail
    refine (copyDevI a n cap bs ops fa m fc fs down w1 (HT.out.keep b1) (HF.out.keep b1)).mono ?_
    rintro e w2 ⟨aC, nC, cC, fC, mC, kC, tC, rfl, qC, hlC, b2⟩
    dsimp only at qC ⊢
    have B2 : Below W0.heap.size W0 w2 := b1.trans (b2.mono b1.size)
    have zr := Blk.keep HZ1.out B2
    have z5 := Blk.keep HZ5.out B2
    have r0 := zr.cell 0
    have r1 := zr.cell 1
    have r2 := zr.cell 2
    have r3 := zr.cell 3
    have f0 := zr.frozen 0
    have f1 := zr.frozen 1
    have f2 := zr.frozen 2
    have f3 := zr.frozen 3
    have zf := (((zr.set 0 (.slice aC nC cC)).set 1 (.int .i64 ops)).set 2 (.slice fC mC kC)).set 3 (.bool down)
    have t5 := (((z5.other (B' := H + 1) (by omega) 0 (.slice aC nC cC)).other (B' := H + 1) (by omega) 1 (.int .i64 ops)).other (B' := H + 1) (by omega) 2 (.slice fC mC kC)).other (B' := H + 1) (by omega) 3 (.bool down)
    have k0 := t5.cell 0
    have kf := t5.frozen 0
    have zf4 := zf.other (B' := H + 1 + 1) (by omega) 0 (.int .i64 1)
    have zf5 := t5.set 0 (.int .i64 1)
    have d0 := zf4.cell 0
    have d1 := zf4.cell 1
    have d2 := zf4.cell 2
    have d3 := zf4.cell 3
    have d4 := zf5.cell 0
    simp at r0 r1 r2 r3 k0 d0 d1 d2 d3 d4
    have HQ : Hid _ := And.intro qC (And.intro hlC B2)
    have HB1 : Hid (W0.heap.size ≤ w1.heap.size) := b1.size
    clear qC b1 b2 B2 zr zf hlC z5 t5 zf4 zf5 y0 y1 y2 y3
    go_wp2
    refine ⟨.tuple #[.agg #[.slice aC nC cC, .int .i64 ops, .slice fC mC kC, .bool down], .int .i64 1], by simp [results, Tryz.f44, go_sem, d0, d1, d2, d3, d4], ?_⟩
    rw [← HGP.out]
    have hcd := HCD.out
    have hw := HW.out
    have hH := HH.out
    obtain ⟨q, hl, B2⟩ := HQ.out
    have hb1 := HB1.out
    have bel : Below w.heap.size w w2 := HB0.out.trans (B2.mono HB0.out.size)
    rw [outs_no hcd (by decide)]
    have k : ∀ (W : World) (j i : Nat) (v : Value), j < w1.heap.size → NewDv W w1.heap.size aC nC cC fC mC kC (bs.map BkR.D) fs tC → NewDv (W.setCell ⟨j, i, none⟩ v) w1.heap.size aC nC cC fC mC kC (bs.map BkR.D) fs tC := fun W j i v hj h => h.set_below hj
    have s : ∀ (W : World) (j i : Nat) (v : Value), w.heap.size ≤ j → Below w.heap.size w W → Below w.heap.size w (W.setCell ⟨j, i, none⟩ v) := fun W j i v hj hb => hb.setCell (p := ⟨j, i, none⟩) hj v
    exact ⟨aC, nC, cC, fC, mC, kC, tC, rfl, (k _ _ _ _ (by omega) (k _ _ _ _ (by omega) (k _ _ _ _ (by omega) (k _ _ _ _ (by omega) (k _ _ _ _ (by omega) q))))).wider (by omega), hl, s _ _ _ _ (by omega) (s _ _ _ _ (by omega) (s _ _ _ _ (by omega) (s _ _ _ _ (by omega) (s _ _ _ _ (by omega) bel))))⟩
  | true =>
    have hdv := HOK.out
    unfold devB at hdv
    simp only [Bool.and_eq_true, decide_eq_true_eq] at hdv
    obtain ⟨⟨hck, hop0, hop1⟩, hfB⟩ := hdv
    by_cases hoff : down = true ∨ 100000 ≤ ops
    · have HCD : Hid (CD = 10) := by show _ = _; rw [← HCD0.out]; unfold evCode; rw [if_neg (by rw [HOK.out]; simp), if_pos hoff]
      have HOFF : Hid (down = true ∨ ops = 100000) := by rcases hoff with h | h; exact .inl h; exact .inr (by omega)
      clear hck hfB hoff hop0 hop1
      have hgo : (down = true) ∨ (down = false ∧ ops = 100000) := by
        rcases HOFF.out with h | h
        · exact .inl h
        · cases down
          · exact .inr ⟨rfl, h⟩
          · exact .inl rfl
      rcases hgo with hgo | ⟨hgo, hgo2⟩
      · subst hgo
        go_wp2_with fail
        refine (copyDevI a n cap bs ops fa m fc fs true w1 (HT.out.keep b1) (HF.out.keep b1)).mono ?_
        rintro e w2 ⟨aC, nC, cC, fC, mC, kC, tC, rfl, qC, hlC, b2⟩
        dsimp only at qC ⊢
        have B2 : Below W0.heap.size W0 w2 := b1.trans (b2.mono b1.size)
        have zr := Blk.keep HZ1.out B2
        have z5 := Blk.keep HZ5.out B2
        have r0 := zr.cell 0
        have r1 := zr.cell 1
        have r2 := zr.cell 2
        have r3 := zr.cell 3
        have f0 := zr.frozen 0
        have f1 := zr.frozen 1
        have f2 := zr.frozen 2
        have f3 := zr.frozen 3
        have zf := (((zr.set 0 (.slice aC nC cC)).set 1 (.int .i64 ops)).set 2 (.slice fC mC kC)).set 3 (.bool true)
        have t5 := (((z5.other (B' := H + 1) (by omega) 0 (.slice aC nC cC)).other (B' := H + 1) (by omega) 1 (.int .i64 ops)).other (B' := H + 1) (by omega) 2 (.slice fC mC kC)).other (B' := H + 1) (by omega) 3 (.bool true)
        have k0 := t5.cell 0
        have kf := t5.frozen 0
        have zf4 := zf.other (B' := H + 1 + 1) (by omega) 0 (.int .i64 10)
        have zf5 := t5.set 0 (.int .i64 10)
        have d0 := zf4.cell 0
        have d1 := zf4.cell 1
        have d2 := zf4.cell 2
        have d3 := zf4.cell 3
        have d4 := zf5.cell 0
        simp at r0 r1 r2 r3 k0 d0 d1 d2 d3 d4
        have HQ : Hid _ := And.intro qC (And.intro hlC B2)
        have HB1 : Hid (W0.heap.size ≤ w1.heap.size) := b1.size
        clear qC b1 b2 B2 zr zf hlC z5 t5 zf4 zf5 y0 y1 y2 y3
        go_wp2
        refine ⟨.tuple #[.agg #[.slice aC nC cC, .int .i64 ops, .slice fC mC kC, .bool true], .int .i64 10], by simp [results, Tryz.f44, go_sem, d0, d1, d2, d3, d4], ?_⟩
        rw [← HGP.out]
        have hcd := HCD.out
        have hw := HW.out
        have hH := HH.out
        obtain ⟨q, hl, B2⟩ := HQ.out
        have hb1 := HB1.out
        have bel : Below w.heap.size w w2 := HB0.out.trans (B2.mono HB0.out.size)
        rw [outs_no hcd (by decide)]
        have k : ∀ (W : World) (j i : Nat) (v : Value), j < w1.heap.size → NewDv W w1.heap.size aC nC cC fC mC kC (bs.map BkR.D) fs tC → NewDv (W.setCell ⟨j, i, none⟩ v) w1.heap.size aC nC cC fC mC kC (bs.map BkR.D) fs tC := fun W j i v hj h => h.set_below hj
        have s : ∀ (W : World) (j i : Nat) (v : Value), w.heap.size ≤ j → Below w.heap.size w W → Below w.heap.size w (W.setCell ⟨j, i, none⟩ v) := fun W j i v hj hb => hb.setCell (p := ⟨j, i, none⟩) hj v
        exact ⟨aC, nC, cC, fC, mC, kC, tC, rfl, (k _ _ _ _ (by omega) (k _ _ _ _ (by omega) (k _ _ _ _ (by omega) (k _ _ _ _ (by omega) (k _ _ _ _ (by omega) q))))).wider (by omega), hl, s _ _ _ _ (by omega) (s _ _ _ _ (by omega) (s _ _ _ _ (by omega) (s _ _ _ _ (by omega) (s _ _ _ _ (by omega) bel))))⟩
      · subst hgo hgo2
        go_wp2_with fail
        refine (copyDevI a n cap bs 100000 fa m fc fs false w1 (HT.out.keep b1) (HF.out.keep b1)).mono ?_
        rintro e w2 ⟨aC, nC, cC, fC, mC, kC, tC, rfl, qC, hlC, b2⟩
        dsimp only at qC ⊢
        have B2 : Below W0.heap.size W0 w2 := b1.trans (b2.mono b1.size)
        have zr := Blk.keep HZ1.out B2
        have z5 := Blk.keep HZ5.out B2
        have r0 := zr.cell 0
        have r1 := zr.cell 1
        have r2 := zr.cell 2
        have r3 := zr.cell 3
        have f0 := zr.frozen 0
        have f1 := zr.frozen 1
        have f2 := zr.frozen 2
        have f3 := zr.frozen 3
        have zf := (((zr.set 0 (.slice aC nC cC)).set 1 (.int .i64 100000)).set 2 (.slice fC mC kC)).set 3 (.bool false)
        have t5 := (((z5.other (B' := H + 1) (by omega) 0 (.slice aC nC cC)).other (B' := H + 1) (by omega) 1 (.int .i64 100000)).other (B' := H + 1) (by omega) 2 (.slice fC mC kC)).other (B' := H + 1) (by omega) 3 (.bool false)
        have k0 := t5.cell 0
        have kf := t5.frozen 0
        have zf4 := zf.other (B' := H + 1 + 1) (by omega) 0 (.int .i64 10)
        have zf5 := t5.set 0 (.int .i64 10)
        have d0 := zf4.cell 0
        have d1 := zf4.cell 1
        have d2 := zf4.cell 2
        have d3 := zf4.cell 3
        have d4 := zf5.cell 0
        simp at r0 r1 r2 r3 k0 d0 d1 d2 d3 d4
        have HQ : Hid _ := And.intro qC (And.intro hlC B2)
        have HB1 : Hid (W0.heap.size ≤ w1.heap.size) := b1.size
        clear qC b1 b2 B2 zr zf hlC z5 t5 zf4 zf5 y0 y1 y2 y3
        go_wp2
        refine ⟨.tuple #[.agg #[.slice aC nC cC, .int .i64 100000, .slice fC mC kC, .bool false], .int .i64 10], by simp [results, Tryz.f44, go_sem, d0, d1, d2, d3, d4], ?_⟩
        rw [← HGP.out]
        have hcd := HCD.out
        have hw := HW.out
        have hH := HH.out
        obtain ⟨q, hl, B2⟩ := HQ.out
        have hb1 := HB1.out
        have bel : Below w.heap.size w w2 := HB0.out.trans (B2.mono HB0.out.size)
        rw [outs_no hcd (by decide)]
        have k : ∀ (W : World) (j i : Nat) (v : Value), j < w1.heap.size → NewDv W w1.heap.size aC nC cC fC mC kC (bs.map BkR.D) fs tC → NewDv (W.setCell ⟨j, i, none⟩ v) w1.heap.size aC nC cC fC mC kC (bs.map BkR.D) fs tC := fun W j i v hj h => h.set_below hj
        have s : ∀ (W : World) (j i : Nat) (v : Value), w.heap.size ≤ j → Below w.heap.size w W → Below w.heap.size w (W.setCell ⟨j, i, none⟩ v) := fun W j i v hj hb => hb.setCell (p := ⟨j, i, none⟩) hj v
        exact ⟨aC, nC, cC, fC, mC, kC, tC, rfl, (k _ _ _ _ (by omega) (k _ _ _ _ (by omega) (k _ _ _ _ (by omega) (k _ _ _ _ (by omega) (k _ _ _ _ (by omega) q))))).wider (by omega), hl, s _ _ _ _ (by omega) (s _ _ _ _ (by omega) (s _ _ _ _ (by omega) (s _ _ _ _ (by omega) (s _ _ _ _ (by omega) bel))))⟩
    · have hdn : down = false := by cases down; rfl; exact absurd (.inl rfl) hoff
      subst hdn
      have hop : 0 ≤ ops ∧ ops < 100000 := by omega
      have hne : (ops == 100000) = false := by simp; omega
      obtain ⟨ks, hfl, hfw⟩ := ok_flash hck
      have HCD : Hid (CD = codeP true (bs.map BkR.D) x nb) := by show _ = _; rw [← HCD0.out]; unfold evCode; rw [if_neg (by rw [HOK.out]; simp), if_neg hoff]
      have hfsok : ∀ t ∈ fs, ftOk t = true := by
        rw [faultsB_asc] at hfB
        simp only [Bool.and_eq_true] at hfB
        exact List.all_eq_true.1 hfB.2.1
      have hck2 := hck
      clear hck hfB hoff hop0 hop1
      go_wp2_with fail
      refine (deviceOfI a n cap bs ks ops fa m fc false w1 (HT.out.keep b1) hfl).mono ?_
      rintro e w2 ⟨X, F, G, rfl, do2⟩
      clear y0 y1 y2 y3
      have b2 := do2.fo.bel
      have b3 : Below w2.heap.size w2 (w2.alloc (.cells #[.pointer (some ⟨X, 0, none⟩)] 76)) := (Below.refl _ _).alloc (Nat.le_refl _) _
      have z6 := Blk.new w2 76 #[.pointer (some ⟨X, 0, none⟩)]
      have do3 := do2.keep b3
      have hXP : X < w2.heap.size := do2.x.lt
      have hGP6 : G < w2.heap.size := do2.fo.g.lt (g := G) rfl
      obtain ⟨P6, hP6⟩ : ∃ P, w2.heap.size = P := ⟨_, rfl⟩
      have B13 := b2.trans (b3.mono b2.size)
      rw [hP6] at z6 hXP hGP6
      clear do2 b2
      go_upto_region 7 with fail
      obtain ⟨w3, hw3⟩ : ∃ W, w2.alloc (.cells #[.pointer (some ⟨X, 0, none⟩)] 76) = W := ⟨_, rfl⟩
      rw [hw3] at b3 z6 do3 B13 ⊢
      try rw [hP6]
      clear hw3 b3 hP6
      have x6 := z6.cell 0
      simp at x6
      have FR3 : FR w3 fa m fs := (HF.out.keep b1).keep B13
      have hB3 := (Blk.keep HBB.out.1 b1).keep B13
      have hQ3 := (Blk.keep HBB.out.2.1 b1).keep B13
      have hcall := dvPr1I X F G n B Q gb nb zs ks x ops fa m fc fs false w1 w3 hnn hz hnb do3 FR3 hop hfsok (fun f hf p hp W hW => (fl_rd (HT.out.keep b1) hfl f hf p hp).keep hW) (by rw [hfl.D]; exact HT.out.tot) hB3 hQ3
      have hcd : CD = prC ks x nb := HCD.out.trans (pr_code hfl x nb).symm
      have hg1 : FlGood w1 ks := ⟨fl_rd (HT.out.keep b1) hfl, by rw [hfl.D]; exact HT.out.tot⟩
      have hg : FlGood w1 (if prC ks x nb = 0 then opK (prAt ks x.toNat ⟨true, (some ⟨gb, 0, none⟩), nb, zs⟩) (badAt ks x.toNat) (fun kp => prAt ks x.toNat ⟨true, (some ⟨gb, 0, none⟩), nb, zs.take kp.toNat⟩) (faD ops fs) else ks) := pr_good hg1 (by rw [hfl.D]; exact ok_small hck2) hz (HBB.out.2.2.keep b1)
      have hD : (if prC ks x nb = 0 then opK (prAt ks x.toNat ⟨true, (some ⟨gb, 0, none⟩), nb, zs⟩) (badAt ks x.toNat) (fun kp => prAt ks x.toNat ⟨true, (some ⟨gb, 0, none⟩), nb, zs.take kp.toNat⟩) (faD ops fs) else ks).map FkR.D = outDs CD (faD ops fs) (bs.map BkR.D) (progAt (bs.map BkR.D) x.toNat zs) (badD (bs.map BkR.D) x.toNat) (fun t => progAt (bs.map BkR.D) x.toNat (zs.take t.toNat)) := by
        rw [opK_D, hcd]
        simp only [prAt_D, badAt_D, hfl.D]
      have hO : (if prC ks x nb = 0 then ops + 1 else ops) = outOps CD ops := by rw [hcd]; rfl
      have HFF : Hid (∀ W : World, Below w1.heap.size w1 W → FR W fa m fs) := fun W h => (HF.out.keep b1).keep h
      have HZ1w : Hid (Blk w1 (H + 1) 35 #[.slice none 0 0, .int .i64 0, .slice none 0 0, .bool false]) := Blk.keep HZ1.out b1
      have HZ5w : Hid (Blk w1 (H + 1 + 1) 3 #[.int .i64 0]) := Blk.keep HZ5.out b1
      have HEw : Hid (EtCell w1) := HE.out.keep b1
      have hsW : H + 1 + 1 + 1 ≤ w1.heap.size := by have := b1.size; have := HW.out; omega
      have HBw : Hid (Below w.heap.size w w1) := HB0.out.trans (b1.mono HB0.out.size)
      have hXn : w1.heap.size ≤ X := do3.xn
      have hHw : w.heap.size = H := HH.out
      clear b1 hg1 FR3 hB3 hQ3 hck2 HCD HCD0 HOK COK HT HF HB0 HZ0 HZ1 HZ5 HBB HE hop hfsok
      go_wp2_with fail
      refine hcall.mono ?_
      rintro e w4 ⟨he, do4, sv4⟩
      rw [hO] at do4
      generalize (if prC ks x nb = 0 then opK (prAt ks x.toNat ⟨true, (some ⟨gb, 0, none⟩), nb, zs⟩) (badAt ks x.toNat) (fun kp => prAt ks x.toNat ⟨true, (some ⟨gb, 0, none⟩), nb, zs.take kp.toNat⟩) (faD ops fs) else ks) = ks' at hg hD do4
      rw [← hcd] at he
      have B14 : Below w1.heap.size w1 w4 := do4.fo.bel
      have h6 := Blk.svs z6 sv4 (by simp; omega)
      have h4 := Blk.keep HZ1w.out B14
      have h5 := Blk.keep HZ5w.out B14
      have HDD : Hid _ := hD
      have HGG : Hid _ := hg
      clear hcall hO hD hg x6 z6 sv4 do3 hcd hfl hfw
      by_cases hp : panD CD (faD ops fs)
      · obtain ⟨e1, e2, e3⟩ := evEnd_pan hp
        rw [e1] at he
        subst he
        have HEQ : Hid _ := And.intro e2 e3
        have B15 : Below w1.heap.size w1 (w4.setCell ⟨X, 3, none⟩ (.bool true)) := B14.setCell (p := ⟨X, 3, none⟩) hXn _
        have hcat := catchI X F G n P6 (H + 1) (H + 1 + 1) ks' (outOps CD ops) fa m fc fs false 150 (.int .i64 10) [] w1 w4 do4 (HFF.out _ B15) (fun f hf p hp => (HGG.out.1 f hf p hp).keep B15) HGG.out.2 h6 h4 h5 (by omega) (by omega) (by omega) (by omega)
        have HB4 : Hid _ := B14
        clear e1 e2 e3 hp do4 h6 h4 h5 B15 B14
        go_wp2
        refine leaves_cons (f := 86) (args := #[.pointer (some ⟨P6, 0, none⟩), .pointer (some ⟨H + 1, 0, none⟩), .pointer (some ⟨H + 1 + 1, 0, none⟩)]) (by simp) (by simp [go_sem]) ?_
        refine hcat.mono ?_
        rintro e u' w5 ⟨rfl, rfl, aC, nC, cC, fC, mC, kC, tC, hd, hl, z4, z5, sv5⟩
        dsimp only at hd z4 ⊢
        have d0 := z4.cell 0
        have d1 := z4.cell 1
        have d2 := z4.cell 2
        have d3 := z4.cell 3
        have d4 := z5.cell 0
        simp at d0 d1 d2 d3 d4
        refine ⟨.tuple #[.agg #[.slice aC nC cC, .int .i64 (outOps CD ops), .slice fC mC kC, .bool true], .int .i64 10], by simp [results, Tryz.f44, go_sem, d0, d1, d2, d3, d4], ?_⟩
        rw [← HGP.out]
        obtain ⟨e2, e3⟩ := HEQ.out
        rw [e2, e3, ← HDD.out]
        have hb4 := HB4.out
        have hbw := HBw.out
        have bel4 : Below w.heap.size w w4 := hbw.trans (hb4.mono hbw.size)
        have bel : Below w.heap.size w w5 := Below.svs bel4 sv5 (fun g hg => by have := hbw.size; simp at hg; omega) (Nat.le_refl _)
        exact ⟨aC, nC, cC, fC, mC, kC, tC, rfl, hd.wider bel4.size, hl, bel⟩
      · obtain ⟨e1, e3⟩ := evEnd_ret hp
        rw [e1] at he
        subst he
        have HEQ : Hid _ := e3 false
        obtain ⟨c, hc⟩ : ∃ c, outCode CD (faD ops fs) = c := ⟨_, rfl⟩
        rw [hc]
        have HC : Hid _ := hc
        have hho := dvHandI X F G n ks' (outOps CD ops) fa m fc fs false w1 w4 do4 (HFF.out _ B14) (fun f hf p hp => (HGG.out.1 f hf p hp).keep B14) HGG.out.2
        have q6 := h6.cell 0
        simp at q6
        clear e1 e3 hp do4 hc h6
        go_wp2_with fail
        refine hho.mono ?_
        rintro e w5 ⟨aC, nC, cC, fC, mC, kC, tC, rfl, hd, hl, b5⟩
        dsimp only at hd ⊢
        have B15 := B14.trans (b5.mono B14.size)
        clear hho q6
        go_wp2_with fail
        refine (codeOfI c w5 (HEw.out.keep B15)).mono ?_
        rintro e w6 ⟨rfl, b6⟩
        have zr := (h4.keep b5).keep b6
        have z5 := (h5.keep b5).keep b6
        have r0 := zr.cell 0
        have r1 := zr.cell 1
        have r2 := zr.cell 2
        have r3 := zr.cell 3
        have f0 := zr.frozen 0
        have f1 := zr.frozen 1
        have f2 := zr.frozen 2
        have f3 := zr.frozen 3
        have zf := (((zr.set 0 (.slice aC nC cC)).set 1 (.int .i64 (outOps CD ops))).set 2 (.slice fC mC kC)).set 3 (.bool false)
        have t5 := (((z5.other (B' := H + 1) (by omega) 0 (.slice aC nC cC)).other (B' := H + 1) (by omega) 1 (.int .i64 (outOps CD ops))).other (B' := H + 1) (by omega) 2 (.slice fC mC kC)).other (B' := H + 1) (by omega) 3 (.bool false)
        have k0 := t5.cell 0
        have kf := t5.frozen 0
        have zf4 := zf.other (B' := H + 1 + 1) (by omega) 0 (.int .i64 c)
        have zf5 := t5.set 0 (.int .i64 c)
        have d0 := zf4.cell 0
        have d1 := zf4.cell 1
        have d2 := zf4.cell 2
        have d3 := zf4.cell 3
        have d4 := zf5.cell 0
        simp at r0 r1 r2 r3 k0 d0 d1 d2 d3 d4
        have HN : Hid (NewDv w6 w4.heap.size aC nC cC fC mC kC (ks'.map FkR.D) fs tC ∧ tC.length = nC ∧ Below w1.heap.size w1 w6 ∧ w1.heap.size ≤ w4.heap.size) := ⟨hd.keep b6, hl, B15.trans (b6.mono B15.size), B14.size⟩
        clear hd hl b5 b6 B14 B15 zr z5 zf t5 zf4 zf5 h4 h5
        go_wp2
        refine leaves_cons (f := 86) (args := #[.pointer (some ⟨P6, 0, none⟩), .pointer (some ⟨H + 1, 0, none⟩), .pointer (some ⟨H + 1 + 1, 0, none⟩)]) (by simp) (by simp [go_sem]) ?_
        refine (idleI P6 (H + 1) (H + 1 + 1) _).mono ?_
        rintro e u' w7 ⟨rfl, rfl, hw7⟩
        obtain rfl := hw7.symm
        refine ⟨.tuple #[.agg #[.slice aC nC cC, .int .i64 (outOps CD ops), .slice fC mC kC, .bool false], .int .i64 c], by simp [results, Tryz.f44, go_sem, d0, d1, d2, d3, d4], ?_⟩
        rw [← HGP.out, HEQ.out, HC.out, ← HDD.out]
        obtain ⟨q, hl, B16, hw4⟩ := HN.out
        have hbw := HBw.out
        have bel : Below w.heap.size w w6 := hbw.trans (B16.mono hbw.size)
        have k : ∀ (W : World) (j i : Nat) (v : Value), j < w4.heap.size → NewDv W w4.heap.size aC nC cC fC mC kC (ks'.map FkR.D) fs tC → NewDv (W.setCell ⟨j, i, none⟩ v) w4.heap.size aC nC cC fC mC kC (ks'.map FkR.D) fs tC := fun W j i v hj h => h.set_below hj
        have s : ∀ (W : World) (j i : Nat) (v : Value), w.heap.size ≤ j → Below w.heap.size w W → Below w.heap.size w (W.setCell ⟨j, i, none⟩ v) := fun W j i v hj hb => hb.setCell (p := ⟨j, i, none⟩) hj v
        exact ⟨aC, nC, cC, fC, mC, kC, tC, rfl, (k _ _ _ _ (by omega) (k _ _ _ _ (by omega) (k _ _ _ _ (by omega) (k _ _ _ _ (by omega) (k _ _ _ _ (by omega) q))))).wider (by omega), hl, s _ _ _ _ (by omega) (s _ _ _ _ (by omega) (s _ _ _ _ (by omega) (s _ _ _ _ (by omega) (s _ _ _ _ (by omega) bel))))⟩
set_option maxRecDepth 100000 in
set_option maxHeartbeats 4000000 in
theorem devPrI (a : Option Addr) (n cap : Nat) (bs : List BkR) (ops : Int) (fa : Option Addr) (m fc : Nat) (fs : List FtD) (down : Bool) (x : Int) (gb nb : Nat) (zs : List Int) (w : World) (ht : CR w a n bs) (hf : FR w fa m fs) (hz : zs.length = nb) (hnb : nb ≤ 1048576) (hrz : Rd w (some ⟨gb, 0, none⟩) zs) (hE : EtCell w) :
    Calls Tryz.prog 12 #[.agg #[.slice a n cap, .int .i64 ops, .slice fa m fc, .bool down], .int .i64 x, .slice (some ⟨gb, 0, none⟩) nb nb] w (DvCA w ⟨outDs (evCode (bs.map BkR.D) ops fs down (codeP true (bs.map BkR.D) x nb)) (faD ops fs) (bs.map BkR.D) (progAt (bs.map BkR.D) x.toNat zs) (badD (bs.map BkR.D) x.toNat) (fun t => progAt (bs.map BkR.D) x.toNat (zs.take t.toNat)), outOps (evCode (bs.map BkR.D) ops fs down (codeP true (bs.map BkR.D) x nb)) ops, fs, outDown (evCode (bs.map BkR.D) ops fs down (codeP true (bs.map BkR.D) x nb)) (faD ops fs) down⟩ (outCode (evCode (bs.map BkR.D) ops fs down (codeP true (bs.map BkR.D) x nb)) (faD ops fs))) := by
  have B0 : Below w.heap.size w ((((w.alloc (.cells #[.slice a n cap, .int .i64 ops, .slice fa m fc, .bool down] 35)).alloc (.cells #[.int .i64 x] 3)).alloc (.cells #[.slice (some ⟨gb, 0, none⟩) nb nb] 28)).alloc (.cells #[.slice none 0 0, .int .i64 0, .slice none 0 0, .bool false] 35)) := ((((Below.refl _ w).alloc (Nat.le_refl _) _).alloc (by simp) _).alloc (by simp; omega) _).alloc (by simp; omega) _
  have zK := ((Blk.new (w.alloc (.cells #[.slice a n cap, .int .i64 ops, .slice fa m fc, .bool down] 35)) 3 #[.int .i64 x]).alloc (.cells #[.slice (some ⟨gb, 0, none⟩) nb nb] 28)).alloc (.cells #[.slice none 0 0, .int .i64 0, .slice none 0 0, .bool false] 35)
  have zQ := (Blk.new ((w.alloc (.cells #[.slice a n cap, .int .i64 ops, .slice fa m fc, .bool down] 35)).alloc (.cells #[.int .i64 x] 3)) 28 #[.slice (some ⟨gb, 0, none⟩) nb nb]).alloc (.cells #[.slice none 0 0, .int .i64 0, .slice none 0 0, .bool false] 35)
  have z1 := Blk.new (((w.alloc (.cells #[.slice a n cap, .int .i64 ops, .slice fa m fc, .bool down] 35)).alloc (.cells #[.int .i64 x] 3)).alloc (.cells #[.slice (some ⟨gb, 0, none⟩) nb nb] 28)) 35 #[.slice none 0 0, .int .i64 0, .slice none 0 0, .bool false]
  have z0 := (((Blk.new w 35 #[.slice a n cap, .int .i64 ops, .slice fa m fc, .bool down]).alloc (.cells #[.int .i64 x] 3)).alloc (.cells #[.slice (some ⟨gb, 0, none⟩) nb nb] 28)).alloc (.cells #[.slice none 0 0, .int .i64 0, .slice none 0 0, .bool false] 35)
  simp only [World.size_alloc] at z1 zK zQ
  have hcall := behP a n cap (w.heap.size + 1) bs ops fa m fc fs down x gb nb (w.heap.size + 1 + 1) zs _ (ht.keep B0) (hf.keep B0) zK zQ hz hnb (hrz.keep B0) (hE.keep B0)
  generalize outDs (evCode (bs.map BkR.D) ops fs down (codeP true (bs.map BkR.D) x nb)) (faD ops fs) (bs.map BkR.D) (progAt (bs.map BkR.D) x.toNat zs) (badD (bs.map BkR.D) x.toNat) (fun t => progAt (bs.map BkR.D) x.toNat (zs.take t.toNat)) = DS at hcall ⊢
  generalize outOps (evCode (bs.map BkR.D) ops fs down (codeP true (bs.map BkR.D) x nb)) ops = OP at hcall ⊢
  generalize outDown (evCode (bs.map BkR.D) ops fs down (codeP true (bs.map BkR.D) x nb)) (faD ops fs) down = DN at hcall ⊢
  generalize outCode (evCode (bs.map BkR.D) ops fs down (codeP true (bs.map BkR.D) x nb)) (faD ops fs) = c at hcall ⊢
  generalize hGP : DvCA w ⟨DS, OP, fs, DN⟩ c = P
  have HGP : Hid _ := hGP
  have hmf : ∀ (fn : Fn) (first cap : Array Value) (w : World), (Instr.makeFunc fn first cap).run Tryz.prog w = .ok (.func fn first cap) w := fun _ _ _ _ => rfl
  obtain ⟨H, hH⟩ : ∃ H, w.heap.size = H := ⟨_, rfl⟩
  have HH : Hid (w.heap.size = H) := hH
  rw [hH] at hcall z1 z0
  clear hGP ht hf hE zK zQ hz hrz
  go_enter Tryz.func12, Tryz.ntmps12
  go_upto_region 1 with fail
  try rw [hH]
  obtain ⟨W0, hW0⟩ : ∃ W, (((w.alloc (.cells #[.slice a n cap, .int .i64 ops, .slice fa m fc, .bool down] 35)).alloc (.cells #[.int .i64 x] 3)).alloc (.cells #[.slice (some ⟨gb, 0, none⟩) nb nb] 28)).alloc (.cells #[.slice none 0 0, .int .i64 0, .slice none 0 0, .bool false] 35) = W := ⟨_, rfl⟩
  have hws : W0.heap.size = w.heap.size + 4 := by rw [← hW0]; simp
  rw [hW0] at B0 z1 z0 hcall ⊢
  clear hW0
  have HW : Hid _ := hws
  have HB0 : Hid _ := B0
  have HZ1 : Hid (Blk W0 (H + 1 + 1 + 1) 35 #[.slice none 0 0, .int .i64 0, .slice none 0 0, .bool false]) := z1
  have x0 := z0.cell 0
  have x1 := z0.cell 1
  have x2 := z0.cell 2
  have x3 := z0.cell 3
  simp at x0 x1 x2 x3
  clear B0 z1 z0 hH hws
  go_wp2_with fail
  refine hcall.mono ?_
  rintro e w1 ⟨aC, nC, cC, fC, mC, kC, tC, rfl, qC, hlC, b1⟩
  dsimp only at qC ⊢
  have zr := Blk.keep HZ1.out b1
  have r0 := zr.cell 0
  have r1 := zr.cell 1
  have r2 := zr.cell 2
  have r3 := zr.cell 3
  have f0 := zr.frozen 0
  have f1 := zr.frozen 1
  have f2 := zr.frozen 2
  have f3 := zr.frozen 3
  have zf := (((zr.set 0 (.slice aC nC cC)).set 1 (.int .i64 OP)).set 2 (.slice fC mC kC)).set 3 (.bool DN)
  have d0 := zf.cell 0
  have d1 := zf.cell 1
  have d2 := zf.cell 2
  have d3 := zf.cell 3
  simp at r0 r1 r2 r3 d0 d1 d2 d3
  have HQ : Hid _ := And.intro qC (And.intro hlC b1)
  clear qC b1 zr zf hlC x0 x1 x2 x3 hcall
  go_wp2
  refine bodyPost_ret (v := .tuple #[.agg #[.slice aC nC cC, .int .i64 OP, .slice fC mC kC, .bool DN], .int .i64 c]) (by simp [results, Tryz.f12, go_sem, d0, d1, d2, d3]) rfl ?_
  rw [← HGP.out]
  obtain ⟨q, hl, b1⟩ := HQ.out
  have hw := HW.out
  have hH := HH.out
  have bel : Below w.heap.size w w1 := HB0.out.trans (b1.mono HB0.out.size)
  have h1 : H + 1 + 1 + 1 < W0.heap.size := by omega
  have s : ∀ (W : World) (i : Nat) (v : Value), Below w.heap.size w W → Below w.heap.size w (W.setCell ⟨H + 1 + 1 + 1, i, none⟩ v) := fun W i v hb => hb.setCell (p := ⟨H + 1 + 1 + 1, i, none⟩) (by simp only; omega) v
  exact ⟨aC, nC, cC, fC, mC, kC, tC, rfl, ((((q.set_below h1).set_below h1).set_below h1).set_below h1).wider (by omega), hl, s _ _ _ (s _ _ _ (s _ _ _ (s _ _ _ bel)))⟩
end

section
open Go.RowKit
set_option maxRecDepth 100000 in
set_option maxHeartbeats 4000000 in
theorem l10ProgramS (a : Option Addr) (n cap : Nat) (bs : List BkR) (x : Int) (ba : Option Addr) (nb bc : Nat) (w : World) (hnb : nb ≤ 1048576) (ht : CR w a n bs) :
    Calls Tryz.prog 40 #[.agg #[.slice a n cap], .int .i64 x, .slice ba nb bc] w fun e w' => e = .returned (.int .i64 (codeP (chipOkB (bs.map BkR.D)) (bs.map BkR.D) x nb)) ∧ Below w.heap.size w w' := by
  have B0 : Below w.heap.size w (w.alloc (.cells #[.slice a n cap] 32)) := (Below.refl _ w).alloc (Nat.le_refl _) _
  have z0 := Blk.new w 32 #[.slice a n cap]
  by_cases hb : 400 < nb
  · have hbi : (400 : Int) < (nb : Int) := by omega
    have hc : codeP (chipOkB (bs.map BkR.D)) (bs.map BkR.D) x nb = 1 := by unfold codeP; rw [if_pos hb]
    rw [hc]
    have HB : Hid _ := B0
    clear hc z0 ht B0
    go_enter Tryz.func40, Tryz.ntmps40
    go_wp2
    go_ret
    exact ⟨rfl, HB.out⟩
  · have hbi : ¬ (400 : Int) < (nb : Int) := by omega
    have hc : codeP (chipOkB (bs.map BkR.D)) (bs.map BkR.D) x nb = mayD (chipOkB (bs.map BkR.D)) (bs.map BkR.D) x (decide (nextD (bs.map BkR.D) x = 8)) := by unfold codeP; rw [if_neg hb]
    rw [hc]
    have hnx := fun (W : World) (h : CR W a n bs) => nextS a n cap bs x W h
    have hmy := fun (W : World) (h : CR W a n bs) => mayS a n cap bs x (decide (nextD (bs.map BkR.D) x = 8)) W h
    obtain ⟨m, hm⟩ : ∃ m, nextD (bs.map BkR.D) x = m := ⟨_, rfl⟩
    rw [hm] at hnx hmy ⊢
    obtain ⟨u, hu⟩ : ∃ u, decide (m = 8) = u := ⟨_, rfl⟩
    have hmu : (m == 8) = u := by rw [← hu]; cases h : decide (m = 8) <;> simp_all
    rw [hu] at hmy ⊢
    obtain ⟨c, hcc⟩ : ∃ c, mayD (chipOkB (bs.map BkR.D)) (bs.map BkR.D) x u = c := ⟨_, rfl⟩
    rw [hcc] at hmy ⊢
    have HNX : Hid _ := hnx
    have HMY : Hid _ := hmy
    have HT : Hid (CR (w.alloc (.cells #[.slice a n cap] 32)) a n bs) := ht.keep B0
    clear hc hnx hmy hm hu hcc ht
    go_enter Tryz.func40, Tryz.ntmps40
    go_upto_region 3 with fail
    obtain ⟨W0, hW0⟩ : ∃ W, w.alloc (.cells #[.slice a n cap] 32) = W := ⟨_, rfl⟩
    rw [hW0] at B0 z0 HT ⊢
    clear hW0
    obtain ⟨H, hH⟩ : ∃ H, w.heap.size = H := ⟨_, rfl⟩
    rw [hH] at z0
    have HB : Hid (Below w.heap.size w W0) := B0
    try rw [hH]
    have zd : Blk W0.drew H 32 #[.slice a n cap] := Blk.keep z0 (Below.refl _ _).drew
    have x0 := zd.cell 0
    simp at x0
    have hcN := HNX.out W0.drew (HT.out.keep (Below.refl _ _).drew)
    have HZ : Hid (Blk W0.drew H 32 #[.slice a n cap]) := zd
    clear zd z0 B0
    refine wp_region_noPanic ?_
    refine wp_region_last (fun W : World => W.cell? ⟨H, 0, none⟩ = some (.slice a n cap)) 7 (by kernel_rfl) (by kernel_rfl) (by go_keep) 7 (by kernel_rfl) (fun hS => ?_)
    refine wpAnyH_take (i := 0) (v := ?gv1) rfl (by kernel_rfl) (by kernel_rfl) (by kernel_rfl) (fun _ _ _ h => h) (Or.inl ⟨by kernel_rfl, ?gy1⟩) (by assumption) ?gr1
    case gy1 => (intro w' hSw; (try dsimp only at hSw); go_simp; (try with_reducible rfl))
    try simp only [Act.put, List.setIfInBounds_toArray, List.set_cons_zero, List.set_cons_succ, List.getElem_toArray, List.getElem_cons_zero]
    refine wpAnyH_take (i := 1) (v := ?gv2) rfl (by kernel_rfl) (by kernel_rfl) (by kernel_rfl) (fun _ _ _ h => h) (Or.inl ⟨by kernel_rfl, ?gy2⟩) (by assumption) ?gr2
    case gy2 => (intro w' hSw; (try dsimp only at hSw); go_simp; (try with_reducible rfl))
    try simp only [Act.put, List.setIfInBounds_toArray, List.set_cons_zero, List.set_cons_succ, List.getElem_toArray, List.getElem_cons_succ, List.getElem_cons_zero]
    refine wpAnyH_take (i := 2) (v := ?gv3) rfl (by kernel_rfl) (by kernel_rfl) (by kernel_rfl) (fun _ _ _ h => h) (Or.inl ⟨by kernel_rfl, ?gy3⟩) (by assumption) ?gr3
    case gy3 => (intro w' hSw; (try dsimp only at hSw); go_simp; (try with_reducible rfl))
    try simp only [Act.put, List.setIfInBounds_toArray, List.set_cons_zero, List.set_cons_succ, List.getElem_toArray, List.getElem_cons_succ, List.getElem_cons_zero]
    refine wpAnyH_take (i := 3) (v := ?gv4) rfl (by kernel_rfl) (by kernel_rfl) (by kernel_rfl) (fun _ _ _ h => h) (Or.inl ⟨by kernel_rfl, ?gy4⟩) (by assumption) ?gr4
    case gy4 => (intro w' hSw; (try dsimp only at hSw); go_simp; (try with_reducible rfl))
    try simp only [Act.put, List.setIfInBounds_toArray, List.set_cons_zero, List.set_cons_succ, List.getElem_toArray, List.getElem_cons_succ, List.getElem_cons_zero]
    refine wpAnyH_ready (rs := [4]) (by kernel_rfl) (by simp) ?_
    refine AllReadyH.cons rfl (fun K hK => ?_) AllReadyH.nil
    go_simp
    (with_reducible refine hcN.mono ?_)
    rintro e W1 ⟨rfl, b1⟩
    have HX1 : Hid (W1.cell? ⟨H, 0, none⟩ = some (.slice a n cap)) := (by have := (Blk.keep HZ.out b1).cell 0; simp at this; exact this)
    have hcM := HMY.out W1 ((HT.out.keep (Below.refl _ _).drew).keep b1)
    clear hS
    try dsimp only
    refine Shut.out hK _ _ (HX1.out) (fun hS => ?_)
    try simp only [Act.put, List.setIfInBounds_toArray, List.set_cons_zero, List.set_cons_succ, List.getElem_toArray, List.getElem_cons_succ, List.getElem_cons_zero]
    refine wpAnyH_take (i := 5) (v := ?gv5) rfl (by kernel_rfl) (by kernel_rfl) (by kernel_rfl) (fun _ _ _ h => h) (Or.inl ⟨by kernel_rfl, ?gy5⟩) (by assumption) ?gr5
    case gy5 => (intro w' hSw; (try dsimp only at hSw); go_simp; (try with_reducible rfl))
    try simp only [Act.put, List.setIfInBounds_toArray, List.set_cons_zero, List.set_cons_succ, List.getElem_toArray, List.getElem_cons_succ, List.getElem_cons_zero]
    refine wpAnyH_ready (rs := [6]) (by kernel_rfl) (by simp) ?_
    refine AllReadyH.cons rfl (fun K hK => ?_) AllReadyH.nil
    go_simp
    (with_reducible refine hcM.mono ?_)
    rintro e W2 ⟨rfl, b2⟩
    have HX2 : Hid (W2.cell? ⟨H, 0, none⟩ = some (.slice a n cap)) := (by have := ((Blk.keep HZ.out b1).keep b2).cell 0; simp at this; exact this)
    clear hS
    try dsimp only
    refine Shut.out hK _ _ (HX2.out) (fun hS => ?_)
    try simp only [Act.put, List.setIfInBounds_toArray, List.set_cons_zero, List.set_cons_succ, List.getElem_toArray, List.getElem_cons_succ, List.getElem_cons_zero]
    refine wpAnyH_done (by kernel_rfl) ?_ _
    refine wpOp_last rfl (fun K hK => ?_)
    clear hS
    go_simp
    refine Shut.out hK _ _ (NoPanic.normal ?_)
    have bE : Below w.heap.size w W2 := by
      have h1 : Below W0.heap.size W0 W1 := (Below.refl W0.heap.size W0).drew.trans b1
      have h2 := h1.trans (b2.mono h1.size)
      exact HB.out.trans (h2.mono HB.out.size)
    have HBE : Hid _ := bE
    clear bE b1 b2 x0
    go_wp2
    go_ret
    rw [← hH]
    exact ⟨rfl, HBE.out⟩
end

section
open Go.RowKit
/-- Bytes appended to an empty row of one's own: new ones. -/
theorem app_new {w WE W10 : World} {E nb : Nat} {zs : List Int} {v : Value} (bE : Below w.heap.size w WE) (hE : w.heap.size ≤ E) (hap : AppB WE (.slice (some ⟨E, 0, none⟩) 0 0) nb zs v W10) : Below w.heap.size w W10 ∧ RowB W10 v nb zs ∧ ∀ j, v.ownBlock = some j → w.heap.size ≤ j := by
  refine ⟨bE.grown hap.gr bE.size (fun g hg => by simp [Value.ownBlock] at hg; omega), OwnV.rowB hap.own, fun j hj => ?_⟩
  rcases hap.at_ with e | e
  · rw [hj] at e; simp [Value.ownBlock] at e; omega
  · rw [hj] at e; simp at e; have := bE.size; omega
set_option maxRecDepth 100000 in
set_option maxHeartbeats 8000000 in
theorem programS (a : Option Addr) (n cap : Nat) (bs : List BkR) (x : Int) (ba : Option Addr) (nb bc : Nat) (zs : List Int) (w : World) (hz : zs.length = nb) (hnb : nb ≤ 1048576) (ht : CR w a n bs) (hrb : Rd w ba zs) :
    Calls Tryz.prog 41 #[.agg #[.slice a n cap], .int .i64 x, .slice ba nb bc] w (ChCA w (programD (chipOkB (bs.map BkR.D)) (bs.map BkR.D) x zs) (codeP (chipOkB (bs.map BkR.D)) (bs.map BkR.D) x zs.length)) := by
  have hnn := ht.n
  have B0 : Below w.heap.size w ((w.alloc (.cells #[.slice a n cap] 32)).alloc (.cells #[.slice none 0 0] 32)) := ((Below.refl _ w).alloc (Nat.le_refl _) _).alloc (by simp) _
  have z0 := (Blk.new w 32 #[.slice a n cap]).alloc (.cells #[.slice none 0 0] 32)
  have z1 := Blk.new (w.alloc (.cells #[.slice a n cap] 32)) 32 #[.slice none 0 0]
  simp only [World.size_alloc] at z1
  have hws : ((w.alloc (.cells #[.slice a n cap] 32)).alloc (.cells #[.slice none 0 0] 32)).heap.size = w.heap.size + 2 := by simp
  obtain ⟨H, hH⟩ : ∃ H, w.heap.size = H := ⟨_, rfl⟩
  rw [hH] at z0 z1 hws
  have cE := fun (W : World) (h : CR W a n bs) => l10ProgramS a n cap bs x ba nb bc W hnb h
  have cN := fun (W : World) (h : CR W a n bs) => nextS a n cap bs x W h
  generalize hok : chipOkB (bs.map BkR.D) = ok at cE
  obtain ⟨code, hcode⟩ : ∃ code, codeP ok (bs.map BkR.D) x nb = code := ⟨_, rfl⟩
  rw [hcode] at cE
  have CE : Hid _ := cE
  have CN : Hid _ := cN
  have HOK : Hid (chipOkB (bs.map BkR.D) = ok) := hok
  have HCE : Hid (codeP ok (bs.map BkR.D) x nb = code) := hcode
  have HZL : Hid (zs.length = nb) := hz
  have HD : Hid (programD ok (bs.map BkR.D) x zs = if code = 0 then progAt (bs.map BkR.D) x.toNat zs else bs.map BkR.D) := by show _ = _; unfold programD; rw [hz, hcode]
  rw [hz]
  clear cE cN hok hcode hz
  go_enter Tryz.func41, Tryz.ntmps41
  have x00 := z0.cell 0
  simp at x00
  go_upto_region 1 with fail
  obtain ⟨W0, hW0⟩ : ∃ W, (w.alloc (.cells #[.slice a n cap] 32)).alloc (.cells #[.slice none 0 0] 32) = W := ⟨_, rfl⟩
  rw [hW0] at B0 z0 z1 hws x00 ⊢
  clear hW0
  have HW : Hid _ := hws
  have HH : Hid (w.heap.size = H) := hH
  have HT : Hid (CR W0 a n bs) := ht.keep B0
  have HRB : Hid (Rd W0 ba zs) := Rd.keep hrb B0
  have HB0 : Hid (Below H w W0) := by rw [← hH]; exact B0
  have HZ0 : Hid (Blk W0 H 32 #[.slice a n cap]) := z0
  have HZ1 : Hid (Blk W0 (H + 1) 32 #[.slice none 0 0]) := z1
  have hln : Hid (bs.length = n) := ht.len
  clear ht B0 z0 z1 hH hrb
  go_wp2_with fail
  refine (copyChS a n cap bs W0 HT.out).mono ?_
  rintro e w1 ⟨aC, nC, cC, tC, rfl, qC, hlC, b1⟩
  obtain rfl : nC = n := by rw [← hlC, qC.len]; simp [hln.out]
  have b2 : Below w1.heap.size w1 (w1.alloc (.cells #[.slice aC nC cC] 32)) := (Below.refl _ w1).alloc (Nat.le_refl _) _
  have zX := Blk.new w1 32 #[.slice aC nC cC]
  have y0 := ((Blk.keep HZ0.out b1).keep b2).cell 0
  simp at y0
  clear x00
  go_wp2_with fail
  obtain ⟨W2, hW2⟩ : ∃ W, w1.alloc (.cells #[.slice aC nC cC] 32) = W := ⟨_, rfl⟩
  rw [hW2] at b2 zX y0 ⊢
  clear hW2
  obtain ⟨X, hX⟩ : ∃ X, w1.heap.size = X := ⟨_, rfl⟩
  have hX0 : W0.heap.size ≤ X := by rw [← hX]; exact b1.size
  rw [hX] at zX ⊢
  have hFX : Hid (∀ g ∈ fpBs (.slice aC nC cC) tC, g < X) := fun g hg => by rw [← hX]; exact qC.own.lt g hg
  have q2 := qC.keep b2
  have B2 : Below W0.heap.size W0 W2 := b1.trans (b2.mono b1.size)
  clear qC b1 b2 hX
  refine (CE.out W2 (HT.out.keep B2)).mono ?_
  rintro e w3 ⟨rfl, b3⟩
  have q3 := q2.keep b3
  have z3 := zX.keep b3
  have B3 : Below W0.heap.size W0 w3 := B2.trans (b3.mono B2.size)
  clear q2 zX B2 b3 y0
  by_cases hc0 : code = 0
  · subst hc0
    have hmay := HCE.out
    unfold codeP at hmay
    split at hmay
    · omega
    obtain ⟨hokt, k, r, hxk, hrk, hbad, hfull⟩ := code_zero hmay
    subst hxk
    have hkn : k < nC := by have := (List.getElem?_eq_some_iff.1 hrk).1; have := hln.out; omega
    have hki : (k : Int) < (nC : Int) := by omega
    obtain ⟨t, htk, hrt⟩ := same_at (f := BkR.D) (ps := bs) (qs := tC) q3.D hrk
    have hrow := q3.own.1
    rw [hlC] at hrow
    rcases hrow.cases with ⟨_, h0, _⟩ | ⟨g, c, hv, hgl⟩
    · omega
    · simp only [Value.slice.injEq] at hv
      obtain ⟨rfl, _, rfl⟩ := hv
      have hgX : g < X := hFX.out g (fpBs_row rfl)
      have hg0 : W0.heap.size ≤ g := q3.new g (fpBs_row rfl)
      have HDC : Hid (tC.map BkR.D = bs.map BkR.D) := q3.D
      have hD : t.ps.map PgR.D = r.ps.map PgR.D ∧ t.wear = r.wear ∧ t.bad = r.bad := by unfold BkR.D at hrt; simp only [BkD.mk.injEq] at hrt; exact hrt
      have h8 : t.ps.length = 8 := by
        have h1 := HOK.out
        rw [hokt, chipOkB_iff] at h1
        have h2 := (h1.2.2 r.D (List.mem_map_of_mem (List.mem_of_getElem? hrk))).1
        have h3 : r.ps.length = 8 := by simpa [BkR.D] using h2
        have h4 := congrArg List.length hD.1
        simp at h4
        omega
      obtain ⟨m, hm⟩ : ∃ m, nextP (r.ps.map PgR.D) = m := ⟨_, rfl⟩
      have hm8 : m < 8 := by
        have h1 := nextP_le (r.ps.map PgR.D)
        rw [← hD.1] at h1
        simp [h8] at h1
        rw [nextD_in hrk] at hfull
        simp at hfull
        rw [hD.1] at h1
        omega
      have hmi : (m : Int) < 8 := by omega
      have hmn : ¬ (m : Int) < 0 := by omega
      have hNX : Hid (∀ W : World, CR W a nC bs → Calls Tryz.prog 82 #[.agg #[.slice a nC cap], .int .i64 (k : Int)] W fun e w' => e = .returned (.int .i64 (m : Int)) ∧ Below W.heap.size W w') := fun W h => by
        have := CN.out W h
        rw [nextD_in hrk, hm] at this
        exact this
      have hOP : OwnPs w3 t.v t.ps := q3.own.2 t (List.mem_of_getElem? htk)
      rcases hOP.1.cases with ⟨_, h0, _⟩ | ⟨P, pc, hpv, hPl⟩
      · omega
      unfold BkR.v at hpv
      simp only [Value.slice.injEq] at hpv
      obtain ⟨hta, _, hpc⟩ := hpv
      subst hpc
      have hrw : OwnE pgE 85 w3 (.slice (some ⟨P, 0, none⟩) t.ps.length t.cap) t.ps.length t.ps := by have := hOP.1; unfold BkR.v at this; rw [hta] at this; exact this
      have hPX : P < X := hFX.out P (fpBs_bk (List.mem_of_getElem? htk) (fpPs_row (by unfold BkR.v; rw [hta]; rfl)))
      have hP0 : W0.heap.size ≤ P := q3.new P (fpBs_bk (List.mem_of_getElem? htk) (fpPs_row (by unfold BkR.v; rw [hta]; rfl)))
      have hgP : Hid (g ≠ P) := fun e => (NewBs.row q3).1 (List.mem_flatMap.2 ⟨t, List.mem_of_getElem? htk, by rw [e]; exact fpPs_row (by unfold BkR.v; rw [hta]; rfl)⟩)
      have hall : Hid (∀ W : World, Below w3.drew.heap.size w3.drew W → W.cell? ⟨X, 0, none⟩ = some (.slice (some ⟨g, 0, none⟩) nC cC) ∧ W.cell? ⟨g, k * 3, none⟩ = some (.slice (some ⟨P, 0, none⟩) 8 t.cap) ∧ W.cell? ⟨H, 0, none⟩ = some (.slice a nC cap)) := fun W hW => by
        have b3 : Below w3.heap.size w3 W := (Below.refl w3.heap.size w3).drew.trans hW
        refine ⟨by have := (z3.keep b3).cell 0; simp at this; exact this, ?_, by have := (Blk.keep HZ0.out (B3.trans (b3.mono B3.size))).cell 0; simp at this; exact this⟩
        have := (hrow.keep b3).cell k 0 t htk (by decide)
        rw [show (bkE.en t)[0]? = some (.slice t.a t.ps.length t.cap) from rfl, hta, h8] at this
        exact this
      have hpg : Hid (∀ W : World, Below w3.drew.heap.size w3.drew W → ∃ v0 v1, W.cell? ⟨P, m * 2, none⟩ = some v0 ∧ W.cell? ⟨P, m * 2 + 1, none⟩ = some v1 ∧ W.frozen? ⟨P, m * 2, none⟩ = false ∧ W.frozen? ⟨P, m * 2 + 1, none⟩ = false ∧ (∃ v2, (W.setCell ⟨P, m * 2, none⟩ (.bool true)).cell? ⟨P, m * 2 + 1, none⟩ = some v2) ∧ (W.setCell ⟨P, m * 2, none⟩ (.bool true)).frozen? ⟨P, m * 2 + 1, none⟩ = false) := fun W hW => by
        have b3 : Below w3.heap.size w3 W := (Below.refl w3.heap.size w3).drew.trans hW
        have hr := hrw.keep b3
        obtain ⟨p, hp⟩ : ∃ p, t.ps[m]? = some p := ⟨_, List.getElem?_eq_getElem (by omega)⟩
        have hs := hr.set m 0 p ⟨true, p.a, p.cap, p.zs⟩ (.bool true) hp (by decide) rfl
        have c0 := hr.cell m 0 p hp (by decide)
        have c1 := hr.cell m 1 p hp (by decide)
        have c2 := hs.cell m 1 ⟨true, p.a, p.cap, p.zs⟩ (get_set hp) (by decide)
        exact ⟨_, _, c0, c1, hr.frozen _, hr.frozen _, ⟨_, c2⟩, hs.frozen _⟩
      have hTd : CR w3.drew a nC bs := HT.out.keep (B3.drew)
      have bA : Below w3.drew.heap.size w3.drew (w3.drew.alloc (.cells #[] 5)) := (Below.refl _ _).alloc (Nat.le_refl _) _
      have hcN := hNX.out w3.drew hTd
      have hcM : Calls Tryz.prog 82 #[.agg #[.slice a nC cap], .int .i64 (k : Int)] (w3.alloc (.cells #[] 5)).drew fun e w' => e = .returned (.int .i64 (m : Int)) ∧ Below (w3.drew.alloc (.cells #[] 5)).heap.size (w3.drew.alloc (.cells #[] 5)) w' := hNX.out (w3.drew.alloc (.cells #[] 5)) (hTd.keep bA)
      have HRD : Hid (∀ W : World, Below w3.drew.heap.size w3.drew W → Rd W ba zs) := fun W hW => Rd.keep HRB.out (B3.trans (((Below.refl w3.heap.size w3).drew.trans hW).mono B3.size))
      have hcc0 : ((0 : Int) == 0) = true := rfl
      have HBA : Hid _ := bA
      have HPG : Hid (NewBs w3 W0.heap.size (.slice (some ⟨g, 0, none⟩) nC cC) (bs.map BkR.D) tC ∧ tC.length = nC ∧ tC[k]? = some t ∧ t.a = some ⟨P, 0, none⟩ ∧ m < t.ps.length) := ⟨q3, hlC, htk, hta, by omega⟩
      have HFIN : Hid (Blk w3 X 32 #[.slice (some ⟨g, 0, none⟩) nC cC] ∧ Below W0.heap.size W0 w3 ∧ X < w3.heap.size) := ⟨z3, B3, z3.lt⟩
      have HRR : Hid (bs[k]? = some r ∧ t.ps.map PgR.D = r.ps.map PgR.D ∧ t.wear = r.wear ∧ t.bad = r.bad ∧ nextP (r.ps.map PgR.D) = m) := ⟨hrk, hD.1, hD.2.1, hD.2.2, hm⟩
      obtain ⟨s1, s2, s3⟩ := hall.out w3.drew (Below.refl _ _)
      obtain ⟨tcap, htcap⟩ : ∃ tc, t.cap = tc := ⟨_, rfl⟩
      rw [htcap] at s2 hall
      clear hokt hmay hfull hrow hrw hOP q3 z3 hrt hD hm h8 hrk htk hlC hta hTd bA
      go_upto_region 4 with fail
      refine wp_region_noPanic ?_
      refine wp_region_last (fun W : World => W.cell? ⟨X, 0, none⟩ = some (.slice (some ⟨g, 0, none⟩) nC cC) ∧ W.cell? ⟨g, k * 3, none⟩ = some (.slice (some ⟨P, 0, none⟩) 8 tcap) ∧ W.cell? ⟨H, 0, none⟩ = some (.slice a nC cap)) 14 (by kernel_rfl) (by kernel_rfl) (by go_keep) 14 (by kernel_rfl) (fun hS => ?_)
      refine wpAnyH_take (i := 0) (v := ?gv1) rfl (by kernel_rfl) (by kernel_rfl) (by kernel_rfl) (fun _ _ _ h => h) (Or.inl ⟨by kernel_rfl, ?gy1⟩) (by assumption) ?gr1
      case gy1 => (intro w' hSw; (try dsimp only at hSw); go_simp; (try with_reducible rfl))
      try simp only [Act.put, List.setIfInBounds_toArray, List.set_cons_zero, List.set_cons_succ, List.getElem_toArray, List.getElem_cons_zero]
      refine wpAnyH_take (i := 1) (v := ?gv2) rfl (by kernel_rfl) (by kernel_rfl) (by kernel_rfl) (fun _ _ _ h => h) (Or.inl ⟨by kernel_rfl, ?gy2⟩) (by assumption) ?gr2
      case gy2 => (intro w' hSw; (try dsimp only at hSw); go_simp; (try with_reducible rfl))
      try simp only [Act.put, List.setIfInBounds_toArray, List.set_cons_zero, List.set_cons_succ, List.getElem_toArray, List.getElem_cons_succ, List.getElem_cons_zero]
      refine wpAnyH_take (i := 2) (v := ?gv3) rfl (by kernel_rfl) (by kernel_rfl) (by kernel_rfl) (fun _ _ _ h => h) (Or.inl ⟨by kernel_rfl, ?gy3⟩) (by assumption) ?gr3
      case gy3 => (intro w' hSw; (try dsimp only at hSw); go_simp; (try with_reducible rfl))
      try simp only [Act.put, List.setIfInBounds_toArray, List.set_cons_zero, List.set_cons_succ, List.getElem_toArray, List.getElem_cons_succ, List.getElem_cons_zero]
      refine wpAnyH_take (i := 3) (v := ?gv4) rfl (by kernel_rfl) (by kernel_rfl) (by kernel_rfl) (fun _ _ _ h => h) (Or.inl ⟨by kernel_rfl, ?gy4⟩) (by assumption) ?gr4
      case gy4 => (intro w' hSw; (try dsimp only at hSw); go_simp; (try with_reducible rfl))
      try simp only [Act.put, List.setIfInBounds_toArray, List.set_cons_zero, List.set_cons_succ, List.getElem_toArray, List.getElem_cons_succ, List.getElem_cons_zero]
      refine wpAnyH_take (i := 4) (v := ?gv5) rfl (by kernel_rfl) (by kernel_rfl) (by kernel_rfl) (fun _ _ _ h => h) (Or.inl ⟨by kernel_rfl, ?gy5⟩) (by assumption) ?gr5
      case gy5 => (intro w' hSw; (try dsimp only at hSw); go_simp; (try with_reducible rfl))
      try simp only [Act.put, List.setIfInBounds_toArray, List.set_cons_zero, List.set_cons_succ, List.getElem_toArray, List.getElem_cons_succ, List.getElem_cons_zero]
      refine wpAnyH_take (i := 5) (v := ?gv6) rfl (by kernel_rfl) (by kernel_rfl) (by kernel_rfl) (fun _ _ _ h => h) (Or.inl ⟨by kernel_rfl, ?gy6⟩) (by assumption) ?gr6
      case gy6 => (intro w' hSw; (try dsimp only at hSw); go_simp; (try with_reducible rfl))
      try simp only [Act.put, List.setIfInBounds_toArray, List.set_cons_zero, List.set_cons_succ, List.getElem_toArray, List.getElem_cons_succ, List.getElem_cons_zero]
      refine wpAnyH_take (i := 6) (v := ?gv7) rfl (by kernel_rfl) (by kernel_rfl) (by kernel_rfl) (fun _ _ _ h => h) (Or.inl ⟨by kernel_rfl, ?gy7⟩) (by assumption) ?gr7
      case gy7 => (intro w' hSw; (try dsimp only at hSw); go_simp; (try with_reducible rfl))
      try simp only [Act.put, List.setIfInBounds_toArray, List.set_cons_zero, List.set_cons_succ, List.getElem_toArray, List.getElem_cons_succ, List.getElem_cons_zero]
      refine wpAnyH_take (i := 7) (v := ?gv8) rfl (by kernel_rfl) (by kernel_rfl) (by kernel_rfl) (fun _ _ _ h => h) (Or.inl ⟨by kernel_rfl, ?gy8⟩) (by assumption) ?gr8
      case gy8 => (intro w' hSw; (try dsimp only at hSw); go_simp; (try with_reducible rfl))
      try simp only [Act.put, List.setIfInBounds_toArray, List.set_cons_zero, List.set_cons_succ, List.getElem_toArray, List.getElem_cons_succ, List.getElem_cons_zero]
      refine wpAnyH_take (i := 10) (v := ?gv9) rfl (by kernel_rfl) (by kernel_rfl) (by kernel_rfl) (fun _ _ _ h => h) (Or.inl ⟨by kernel_rfl, ?gy9⟩) (by assumption) ?gr9
      case gy9 => (intro w' hSw; (try dsimp only at hSw); go_simp; (try with_reducible rfl))
      try simp only [Act.put, List.setIfInBounds_toArray, List.set_cons_zero, List.set_cons_succ, List.getElem_toArray, List.getElem_cons_succ, List.getElem_cons_zero]
      refine wpAnyH_ready (rs := [8, 9]) (by kernel_rfl) (by simp) ?_
      refine AllReadyH.cons rfl (fun K hK => ?_) (AllReadyH.cons rfl (fun K hK => ?_) AllReadyH.nil)
      go_simp
      (with_reducible refine hcN.mono ?_)
      rintro e W8 ⟨rfl, b8⟩
      clear hS
      try dsimp only
      refine Shut.out hK _ _ (hall.out W8 b8) (fun hS => ?_)
      try simp only [Act.put, List.setIfInBounds_toArray, List.set_cons_zero, List.set_cons_succ, List.getElem_toArray, List.getElem_cons_succ, List.getElem_cons_zero]
      refine wpAnyH_ready (rs := [9]) (by kernel_rfl) (by simp) ?_
      refine AllReadyH.cons rfl (fun K hK => ?_) AllReadyH.nil
      go_simp
      have bE : Below w3.drew.heap.size w3.drew (W8.alloc (.cells #[] 5)) := b8.alloc b8.size _
      have HBE : Hid _ := bE
      have happ := (fun ty => app_bytes (W8.alloc (.cells #[] 5)) (.slice (some ⟨W8.heap.size, 0, none⟩) 0 0) 0 [] ba nb bc zs HZL.out (by omega) ownV_fresh (HRD.out _ bE) ty)
      rw [Nat.zero_add, List.nil_append] at happ
      have HAP : Hid _ := happ
      clear happ bE
      clear hS
      try dsimp only
      refine Shut.out hK _ _ (hall.out _ HBE.out) (fun hS => ?_)
      try simp only [Act.put, List.setIfInBounds_toArray, List.set_cons_zero, List.set_cons_succ, List.getElem_toArray, List.getElem_cons_succ, List.getElem_cons_zero]
      refine wpAnyH_ready (rs := [11]) (by kernel_rfl) (by simp) ?_
      refine AllReadyH.cons rfl (fun K hK => ?_) AllReadyH.nil
      refine step_appAny (W8.alloc (.cells #[] 5)) rfl (.tmp 27) (.tmp 28) 28 rfl (.slice (some ⟨W8.heap.size, 0, none⟩) 0 0) (.slice ba nb bc) _ rfl rfl HAP.out ?_
      intro v1 W10 hap
      obtain ⟨b10, rB, nB⟩ := app_new HBE.out b8.size hap
      obtain ⟨a1, c1, rfl, _⟩ := rB.form
      have HBR : Hid _ := And.intro b10 (And.intro rB nB)
      obtain ⟨u0, u1, e0, e1, e2, e3, ⟨u2, e4⟩, e5⟩ := hpg.out W10 b10
      clear b10 rB nB hap
      clear hS
      try dsimp only
      refine Shut.out hK _ _ (hall.out _ HBR.out.1) (fun hS => ?_)
      try simp only [Act.put, List.setIfInBounds_toArray, List.set_cons_zero, List.set_cons_succ, List.getElem_toArray, List.getElem_cons_succ, List.getElem_cons_zero]
      refine wpAnyH_take (i := 12) (v := ?gv10) rfl (by kernel_rfl) (by kernel_rfl) (by kernel_rfl) (fun _ _ _ h => h) (Or.inl ⟨by kernel_rfl, ?gy10⟩) (by assumption) ?gr10
      case gy10 => (intro w' hSw; (try dsimp only at hSw); go_simp; (try with_reducible rfl))
      try simp only [Act.put, List.setIfInBounds_toArray, List.set_cons_zero, List.set_cons_succ, List.getElem_toArray, List.getElem_cons_succ, List.getElem_cons_zero]
      refine wpAnyH_take (i := 13) (v := ?gv11) rfl (by kernel_rfl) (by kernel_rfl) (by kernel_rfl) (fun _ _ _ h => h) (Or.inl ⟨by kernel_rfl, ?gy11⟩) (by assumption) ?gr11
      case gy11 => (intro w' hSw; (try dsimp only at hSw); go_simp; (try with_reducible rfl))
      try simp only [Act.put, List.setIfInBounds_toArray, List.set_cons_zero, List.set_cons_succ, List.getElem_toArray, List.getElem_cons_succ, List.getElem_cons_zero]
      refine wpAnyH_done (by kernel_rfl) ?_ _
      refine wpOp_last rfl (fun K hK => ?_)
      clear hS
      go_simp
      refine Shut.out hK _ _ (NoPanic.normal ?_)
      rotate_left 1
      go_simp
      clear hS
      try dsimp only
      refine Shut.out hK _ _ (hall.out _ HBA.out) (fun hS => ?_)
      try simp only [Act.put, List.setIfInBounds_toArray, List.set_cons_zero, List.set_cons_succ, List.getElem_toArray, List.getElem_cons_succ, List.getElem_cons_zero]
      refine wpAnyH_ready (rs := [8]) (by kernel_rfl) (by simp) ?_
      refine AllReadyH.cons rfl (fun K hK => ?_) AllReadyH.nil
      go_simp
      (with_reducible refine hcM.mono ?_)
      rintro e W8 ⟨rfl, b8⟩
      have bE : Below w3.drew.heap.size w3.drew W8 := HBA.out.trans (b8.mono HBA.out.size)
      have HBE : Hid _ := bE
      have happ := (fun ty => app_bytes W8 (.slice (some ⟨w3.heap.size, 0, none⟩) 0 0) 0 [] ba nb bc zs HZL.out (by omega) (OwnV.keep (ownV_fresh (W := w3.drew)) b8) (HRD.out _ bE) ty)
      rw [Nat.zero_add, List.nil_append] at happ
      have HAP : Hid _ := happ
      clear happ bE
      clear hS
      try dsimp only
      refine Shut.out hK _ _ (hall.out _ HBE.out) (fun hS => ?_)
      try simp only [Act.put, List.setIfInBounds_toArray, List.set_cons_zero, List.set_cons_succ, List.getElem_toArray, List.getElem_cons_succ, List.getElem_cons_zero]
      refine wpAnyH_ready (rs := [11]) (by kernel_rfl) (by simp) ?_
      refine AllReadyH.cons rfl (fun K hK => ?_) AllReadyH.nil
      refine step_appAny W8 rfl (.tmp 27) (.tmp 28) 28 rfl (.slice (some ⟨w3.heap.size, 0, none⟩) 0 0) (.slice ba nb bc) _ rfl rfl HAP.out ?_
      intro v1 W10 hap
      obtain ⟨b10, rB, nB⟩ := app_new HBE.out (Nat.le_refl _) hap
      obtain ⟨a1, c1, rfl, _⟩ := rB.form
      have HBR : Hid _ := And.intro b10 (And.intro rB nB)
      obtain ⟨u0, u1, e0, e1, e2, e3, ⟨u2, e4⟩, e5⟩ := hpg.out W10 b10
      clear b10 rB nB hap
      clear hS
      try dsimp only
      refine Shut.out hK _ _ (hall.out _ HBR.out.1) (fun hS => ?_)
      try simp only [Act.put, List.setIfInBounds_toArray, List.set_cons_zero, List.set_cons_succ, List.getElem_toArray, List.getElem_cons_succ, List.getElem_cons_zero]
      refine wpAnyH_take (i := 12) (v := ?gv12) rfl (by kernel_rfl) (by kernel_rfl) (by kernel_rfl) (fun _ _ _ h => h) (Or.inl ⟨by kernel_rfl, ?gy12⟩) (by assumption) ?gr12
      case gy12 => (intro w' hSw; (try dsimp only at hSw); go_simp; (try with_reducible rfl))
      try simp only [Act.put, List.setIfInBounds_toArray, List.set_cons_zero, List.set_cons_succ, List.getElem_toArray, List.getElem_cons_succ, List.getElem_cons_zero]
      refine wpAnyH_take (i := 13) (v := ?gv13) rfl (by kernel_rfl) (by kernel_rfl) (by kernel_rfl) (fun _ _ _ h => h) (Or.inl ⟨by kernel_rfl, ?gy13⟩) (by assumption) ?gr13
      case gy13 => (intro w' hSw; (try dsimp only at hSw); go_simp; (try with_reducible rfl))
      try simp only [Act.put, List.setIfInBounds_toArray, List.set_cons_zero, List.set_cons_succ, List.getElem_toArray, List.getElem_cons_succ, List.getElem_cons_zero]
      refine wpAnyH_done (by kernel_rfl) ?_ _
      refine wpOp_last rfl (fun K hK => ?_)
      clear hS
      go_simp
      refine Shut.out hK _ _ (NoPanic.normal ?_)
      rotate_left 1
      all_goals (
        clear e0 e1 e2 e3 e4 e5 s1 s2 s3 b8 HBE HAP hcN hcM
        obtain ⟨q3, hlC, htk, hta, hml⟩ := HPG.out
        obtain ⟨b10, rB, nB⟩ := HBR.out
        obtain ⟨z3, B3', hX3⟩ := HFIN.out
        have hd3 := (Below.refl w3.heap.size w3).drew
        have b10' : Below w3.heap.size w3 W10 := hd3.trans b10
        have q5 := NewBs.page (q3.keep hd3) hlC htk hta hml b10 HZL.out rB nB
        have z5 : Blk ((W10.setCell ⟨P, m * 2, none⟩ (.bool true)).setCell ⟨P, m * 2 + 1, none⟩ (.slice a1 nb c1)) X 32 #[.slice (some ⟨g, 0, none⟩) nC cC] := ((z3.keep b10').other (B' := P) (by omega) (m * 2) (.bool true)).other (B' := P) (by omega) (m * 2 + 1) (.slice a1 nb c1)
        have B5 : Below W0.heap.size W0 ((W10.setCell ⟨P, m * 2, none⟩ (.bool true)).setCell ⟨P, m * 2 + 1, none⟩ (.slice a1 nb c1)) := ((B3'.trans (b10'.mono B3'.size)).setCell (p := ⟨P, m * 2, none⟩) hP0 _).setCell (p := ⟨P, m * 2 + 1, none⟩) hP0 _
        clear q3 b10 b10' rB nB z3 B3' hd3 HBR HPG HFIN htk hta hml B3
        obtain ⟨W5, hW5⟩ : ∃ W, (W10.setCell ⟨P, m * 2, none⟩ (.bool true)).setCell ⟨P, m * 2 + 1, none⟩ (.slice a1 nb c1) = W := ⟨_, rfl⟩
        rw [hW5] at q5 z5 B5 ⊢
        clear hW5
        have x0 := z5.cell 0
        have zr := Blk.keep HZ1.out B5
        have r0 := zr.cell 0
        have f0 := zr.frozen 0
        have zf := zr.set 0 (.slice (some ⟨g, 0, none⟩) nC cC)
        have d0 := zf.cell 0
        simp at x0 r0 d0
        have HQ : Hid _ := q5
        have HB6 : Hid (Below W0.heap.size W0 W5) := B5
        have HLL : Hid (tC.length = nC) := hlC
        clear q5 z5 B5 zr zf hlC
        go_wp2
        refine bodyPost_ret (v := .tuple #[.agg #[.slice (some ⟨g, 0, none⟩) nC cC], .int .i64 0]) (by simp [results, Tryz.f41, go_sem, d0]) rfl ?_
        have hw := HW.out
        have hH := HH.out
        have hbs := HB0.out
        have hb3 := HB6.out
        obtain ⟨e1, e2, e3, e4, e5⟩ := HRR.out
        have hfin : programD ok (bs.map BkR.D) (k : Int) zs = (bs.map BkR.D).set k ⟨(t.ps.map PgR.D).set m ⟨true, zs⟩, t.wear, t.bad⟩ := (by
          rw [HD.out, if_pos trivial]
          unfold progAt
          simp only [Int.toNat_natCast, List.getElem?_map, e1, Option.map_some]
          rw [e2, e3, e4, ← e5]
          rfl)
        rw [hfin, HCE.out]
        have bel : Below w.heap.size w W5 := (by rw [hH]; exact hbs.trans (hb3.mono (by omega)))
        exact ⟨some ⟨g, 0, none⟩, nC, cC, _, rfl, NewBs.wider (B := W0.heap.size) (NewBs.set_below (B := W0.heap.size) (j := H + 1) HQ.out (by omega)) (by omega), by rw [List.length_set]; exact HLL.out, bel.setCell (p := ⟨H + 1, 0, none⟩) (by simp only; omega) _⟩)
  · have hcb : (code == 0) = false := by simp [hc0]
    have x0 := z3.cell 0
    have zr := Blk.keep HZ1.out B3
    have r0 := zr.cell 0
    have f0 := zr.frozen 0
    have zf := zr.set 0 (.slice aC nC cC)
    have d0 := zf.cell 0
    simp at x0 r0 d0
    have HQ : Hid _ := q3
    have HB3 : Hid (Below W0.heap.size W0 w3) := B3
    have HL : Hid (tC.length = nC) := hlC
    have HC0 : Hid (¬ code = 0) := hc0
    clear q3 z3 B3 zr zf hlC hc0
    go_wp2
    refine bodyPost_ret (v := .tuple #[.agg #[.slice aC nC cC], .int .i64 code]) (by simp [results, Tryz.f41, go_sem, d0]) rfl ?_
    have hw := HW.out
    have hH := HH.out
    have hbs := HB0.out
    have hb3 := HB3.out
    rw [HD.out, if_neg HC0.out, HCE.out]
    have bel : Below w.heap.size w w3 := by rw [hH]; exact hbs.trans (hb3.mono (by omega))
    exact ⟨aC, nC, cC, tC, rfl, NewBs.wider (B := W0.heap.size) (NewBs.set_below (B := W0.heap.size) (j := H + 1) HQ.out (by omega)) (by omega), HL.out, bel.setCell (p := ⟨H + 1, 0, none⟩) (by simp only; omega) _⟩
end

section
open Go.RowKit
theorem progAt_len (ds : List BkD) (k : Nat) (zs : List Int) : (progAt ds k zs).length = ds.length := by
  unfold progAt
  split <;> simp
set_option maxRecDepth 100000 in
set_option maxHeartbeats 16000000 in
theorem devPrS (a : Option Addr) (n cap : Nat) (bs : List BkR) (ops : Int) (fa : Option Addr) (m fc : Nat) (fs : List FtD) (down : Bool) (x : Int) (gb nb : Nat) (zs : List Int) (w : World) (ht : CR w a n bs) (hf : FR w fa m fs) (hz : zs.length = nb) (hnb : nb ≤ 1048576) (hrz : Rd w (some ⟨gb, 0, none⟩) zs) :
    Calls Tryz.prog 9 #[.agg #[.slice a n cap, .int .i64 ops, .slice fa m fc, .bool down], .int .i64 x, .slice (some ⟨gb, 0, none⟩) nb nb] w (DvCA w ⟨outDs (evCode (bs.map BkR.D) ops fs down (codeP true (bs.map BkR.D) x nb)) (faD ops fs) (bs.map BkR.D) (progAt (bs.map BkR.D) x.toNat zs) (badD (bs.map BkR.D) x.toNat) (fun t => progAt (bs.map BkR.D) x.toNat (zs.take t.toNat)), outOps (evCode (bs.map BkR.D) ops fs down (codeP true (bs.map BkR.D) x nb)) ops, fs, outDown (evCode (bs.map BkR.D) ops fs down (codeP true (bs.map BkR.D) x nb)) (faD ops fs) down⟩ (outCode (evCode (bs.map BkR.D) ops fs down (codeP true (bs.map BkR.D) x nb)) (faD ops fs))) := by
  have hnn := ht.n
  have hmm := hf.tot
  have B0 : Below w.heap.size w ((w.alloc (.cells #[.slice a n cap, .int .i64 ops, .slice fa m fc, .bool down] 35)).alloc (.cells #[.slice none 0 0, .int .i64 0, .slice none 0 0, .bool false] 35)) := ((Below.refl _ w).alloc (Nat.le_refl _) _).alloc (by simp) _
  have z0 := (Blk.new w 35 #[.slice a n cap, .int .i64 ops, .slice fa m fc, .bool down]).alloc (.cells #[.slice none 0 0, .int .i64 0, .slice none 0 0, .bool false] 35)
  have z1 := Blk.new (w.alloc (.cells #[.slice a n cap, .int .i64 ops, .slice fa m fc, .bool down] 35)) 35 #[.slice none 0 0, .int .i64 0, .slice none 0 0, .bool false]
  simp only [World.size_alloc] at z1
  have hws : ((w.alloc (.cells #[.slice a n cap, .int .i64 ops, .slice fa m fc, .bool down] 35)).alloc (.cells #[.slice none 0 0, .int .i64 0, .slice none 0 0, .bool false] 35)).heap.size = w.heap.size + 2 := by simp
  obtain ⟨H, hH⟩ : ∃ H, w.heap.size = H := ⟨_, rfl⟩
  have HH : Hid (w.heap.size = H) := hH
  rw [hH] at z0 z1 hws
  obtain ⟨CD, hCD⟩ : ∃ c, evCode (bs.map BkR.D) ops fs down (codeP true (bs.map BkR.D) x nb) = c := ⟨_, rfl⟩
  rw [hCD]
  have HCD : Hid (evCode (bs.map BkR.D) ops fs down (codeP true (bs.map BkR.D) x nb) = CD) := hCD
  generalize hGP : DvCA w ⟨outDs CD (faD ops fs) (bs.map BkR.D) (progAt (bs.map BkR.D) x.toNat zs) (badD (bs.map BkR.D) x.toNat) (fun t => progAt (bs.map BkR.D) x.toNat (zs.take t.toNat)), outOps CD ops, fs, outDown CD (faD ops fs) down⟩ (outCode CD (faD ops fs)) = P
  have HGP : Hid _ := hGP
  clear hGP hCD
  go_enter Tryz.func9, Tryz.ntmps9
  have x0 := z0.cell 0
  have x1 := z0.cell 1
  have x2 := z0.cell 2
  have x3 := z0.cell 3
  simp at x0 x1 x2 x3
  go_upto_region 1 with fail
  obtain ⟨W0, hW0⟩ : ∃ W, (w.alloc (.cells #[.slice a n cap, .int .i64 ops, .slice fa m fc, .bool down] 35)).alloc (.cells #[.slice none 0 0, .int .i64 0, .slice none 0 0, .bool false] 35) = W := ⟨_, rfl⟩
  rw [hW0] at B0 z0 z1 hws x0 x1 x2 x3 ⊢
  try rw [hH]
  clear hW0 hH
  have HW : Hid _ := hws
  have HB0 : Hid (Below w.heap.size w W0) := B0
  have HT : Hid (∀ W : World, Below W0.heap.size W0 W → CR W a n bs ∧ FR W fa m fs) := fun W h => ⟨(ht.keep B0).keep h, (hf.keep B0).keep h⟩
  have HZ0 : Hid (Blk W0 H 35 #[.slice a n cap, .int .i64 ops, .slice fa m fc, .bool down]) := z0
  have HZ1 : Hid (Blk W0 (H + 1) 35 #[.slice none 0 0, .int .i64 0, .slice none 0 0, .bool false]) := z1
  have hln : Hid (bs.length = n) := ht.len
  have HRZ : Hid (∀ W : World, Below W0.heap.size W0 W → Rd W (some ⟨gb, 0, none⟩) zs) := fun W h => (hrz.keep B0).keep h
  clear ht hf B0 z0 z1 hrz
  go_wp2_with fail
  refine (copyDevS a n cap bs ops fa m fc fs down W0 (HT.out _ (Below.refl _ _)).1 (HT.out _ (Below.refl _ _)).2).mono ?_
  rintro e w1 ⟨a1, n1, c1, fa1, m1, fc1, qs, rfl, hd, hl, b1⟩
  dsimp only at hd ⊢
  clear x0 x1 x2 x3
  have hn1 : n1 = n := by rw [← hl, hd.bs.len]; simp [hln.out]
  subst hn1
  have zX := Blk.new w1 35 #[.slice a1 n1 c1, .int .i64 ops, .slice fa1 m1 fc1, .bool down]
  have b2 : Below w1.heap.size w1 (w1.alloc (.cells #[.slice a1 n1 c1, .int .i64 ops, .slice fa1 m1 fc1, .bool down] 35)) := (Below.refl _ _).alloc (Nat.le_refl _) _
  have hd2 := hd.keep b2
  have hlt : Hid (∀ g ∈ fpDv a1 n1 c1 fa1 m1 fc1 qs, g < w1.heap.size) := hd.lt
  have hW1 : W0.heap.size ≤ w1.heap.size := b1.size
  have B2 := b1.trans (b2.mono b1.size)
  obtain ⟨X, hX⟩ : ∃ X, w1.heap.size = X := ⟨_, rfl⟩
  rw [hX] at zX hlt hW1
  go_upto_region 2 with fail
  obtain ⟨W2, hW2⟩ : ∃ W, w1.alloc (.cells #[.slice a1 n1 c1, .int .i64 ops, .slice fa1 m1 fc1, .bool down] 35) = W := ⟨_, rfl⟩
  rw [hW2] at zX hd2 B2 b2 ⊢
  try rw [hX]
  clear hW2 b2 b1 hd hX
  have BD : Below W0.heap.size W0 W2.drew := B2.drew
  have hall : Hid (∀ W : World, Below W2.drew.heap.size W2.drew W → W.cell? ⟨H, 0, none⟩ = some (.slice a n1 cap) ∧ W.cell? ⟨H, 1, none⟩ = some (.int .i64 ops) ∧ W.cell? ⟨H, 2, none⟩ = some (.slice fa m fc) ∧ W.cell? ⟨H, 3, none⟩ = some (.bool down)) := fun W hW => by
    have := Blk.keep HZ0.out (BD.trans (hW.mono BD.size))
    exact ⟨this.cell 0, this.cell 1, this.cell 2, this.cell 3⟩
  have HBD : Hid _ := BD
  have hcE := l10ProgramS a n1 cap bs x (some ⟨gb, 0, none⟩) nb nb W2.drew hnb (HT.out _ BD).1
  have HMY : Hid (∀ W : World, Below W0.heap.size W0 W → ∀ c : Int, Calls Tryz.prog 39 #[.agg #[.slice a n1 cap, .int .i64 ops, .slice fa m fc, .bool down], .int .i64 c] W fun e w' => e = .returned (.int .i64 (evCode (bs.map BkR.D) ops fs down c)) ∧ Below W.heap.size W w') := fun W h c => l11MayS a n1 cap bs ops fa m fc fs down c W (HT.out _ h).1 (HT.out _ h).2
  have hce : evCode (bs.map BkR.D) ops fs down (codeP (chipOkB (bs.map BkR.D)) (bs.map BkR.D) x nb) = CD := by rw [← HCD.out]; exact evCode_ok _ _ _ _ (fun b => codeP b (bs.map BkR.D) x nb)
  obtain ⟨cc, hcc⟩ : ∃ cc, codeP (chipOkB (bs.map BkR.D)) (bs.map BkR.D) x nb = cc := ⟨_, rfl⟩
  rw [hcc] at hcE hce
  have HCE : Hid _ := hce
  obtain ⟨s0, s1, s2, s3⟩ := hall.out W2.drew (Below.refl _ _)
  clear BD hcc hce
  refine wp_region_noPanic ?_
  refine wp_region_last (fun W : World => W.cell? ⟨H, 0, none⟩ = some (.slice a n1 cap) ∧ W.cell? ⟨H, 1, none⟩ = some (.int .i64 ops) ∧ W.cell? ⟨H, 2, none⟩ = some (.slice fa m fc) ∧ W.cell? ⟨H, 3, none⟩ = some (.bool down)) 7 (by kernel_rfl) (by kernel_rfl) (by go_keep) 7 (by kernel_rfl) (fun hS => ?_)
  refine wpAnyH_take (i := 0) (v := ?gv1) rfl (by kernel_rfl) (by kernel_rfl) (by kernel_rfl) (fun _ _ _ h => h) (Or.inl ⟨by kernel_rfl, ?gy1⟩) (by assumption) ?gr1
  case gy1 => (intro w' hSw; (try dsimp only at hSw); go_simp; (try with_reducible rfl))
  try simp only [Act.put, List.setIfInBounds_toArray, List.set_cons_zero, List.set_cons_succ, List.getElem_toArray, List.getElem_cons_zero]
  refine wpAnyH_take (i := 1) (v := ?gv2) rfl (by kernel_rfl) (by kernel_rfl) (by kernel_rfl) (fun _ _ _ h => h) (Or.inl ⟨by kernel_rfl, ?gy2⟩) (by assumption) ?gr2
  case gy2 => (intro w' hSw; (try dsimp only at hSw); go_simp; (try with_reducible rfl))
  try simp only [Act.put, List.setIfInBounds_toArray, List.set_cons_zero, List.set_cons_succ, List.getElem_toArray, List.getElem_cons_succ, List.getElem_cons_zero]
  refine wpAnyH_take (i := 2) (v := ?gv3) rfl (by kernel_rfl) (by kernel_rfl) (by kernel_rfl) (fun _ _ _ h => h) (Or.inl ⟨by kernel_rfl, ?gy3⟩) (by assumption) ?gr3
  case gy3 => (intro w' hSw; (try dsimp only at hSw); go_simp; (try with_reducible rfl))
  try simp only [Act.put, List.setIfInBounds_toArray, List.set_cons_zero, List.set_cons_succ, List.getElem_toArray, List.getElem_cons_succ, List.getElem_cons_zero]
  refine wpAnyH_take (i := 3) (v := ?gv4) rfl (by kernel_rfl) (by kernel_rfl) (by kernel_rfl) (fun _ _ _ h => h) (Or.inl ⟨by kernel_rfl, ?gy4⟩) (by assumption) ?gr4
  case gy4 => (intro w' hSw; (try dsimp only at hSw); go_simp; (try with_reducible rfl))
  try simp only [Act.put, List.setIfInBounds_toArray, List.set_cons_zero, List.set_cons_succ, List.getElem_toArray, List.getElem_cons_succ, List.getElem_cons_zero]
  refine wpAnyH_take (i := 4) (v := ?gv5) rfl (by kernel_rfl) (by kernel_rfl) (by kernel_rfl) (fun _ _ _ h => h) (Or.inl ⟨by kernel_rfl, ?gy5⟩) (by assumption) ?gr5
  case gy5 => (intro w' hSw; (try dsimp only at hSw); go_simp; (try with_reducible rfl))
  try simp only [Act.put, List.setIfInBounds_toArray, List.set_cons_zero, List.set_cons_succ, List.getElem_toArray, List.getElem_cons_succ, List.getElem_cons_zero]
  refine wpAnyH_ready (rs := [5]) (by kernel_rfl) (by simp) ?_
  refine AllReadyH.cons rfl (fun K hK => ?_) AllReadyH.nil
  go_simp
  (with_reducible refine hcE.mono ?_)
  rintro e W3 ⟨rfl, b3⟩
  have HB3 : Hid (Below W2.drew.heap.size W2.drew W3) := b3
  have hcM := HMY.out W3 (HBD.out.trans (b3.mono HBD.out.size)) cc
  rw [HCE.out] at hcM
  clear b3
  clear hS
  try dsimp only
  refine Shut.out hK _ _ (hall.out W3 HB3.out) (fun hS => ?_)
  try simp only [Act.put, List.setIfInBounds_toArray, List.set_cons_zero, List.set_cons_succ, List.getElem_toArray, List.getElem_cons_succ, List.getElem_cons_zero]
  refine wpAnyH_ready (rs := [6]) (by kernel_rfl) (by simp) ?_
  refine AllReadyH.cons rfl (fun K hK => ?_) AllReadyH.nil
  go_simp
  (with_reducible refine hcM.mono ?_)
  rintro e W4 ⟨rfl, b4⟩
  have HB4 : Hid (Below W2.drew.heap.size W2.drew W4) := HB3.out.trans (b4.mono HB3.out.size)
  clear b4
  clear hS
  try dsimp only
  refine Shut.out hK _ _ (hall.out W4 HB4.out) (fun hS => ?_)
  try simp only [Act.put, List.setIfInBounds_toArray, List.set_cons_zero, List.set_cons_succ, List.getElem_toArray, List.getElem_cons_succ, List.getElem_cons_zero]
  refine wpAnyH_done (by kernel_rfl) ?_ _
  refine wpOp_last rfl (fun K hK => ?_)
  clear hS
  go_simp
  refine Shut.out hK _ _ (NoPanic.normal ?_)
  have b4 : Below W2.heap.size W2 W4 := (Below.refl _ _).drew.trans HB4.out
  have hd4 := hd2.keep b4
  have zX4 := zX.keep b4
  have B4 := B2.trans (b4.mono B2.size)
  have zr4 := Blk.keep HZ1.out B4
  have zH4 := Blk.keep HZ0.out B4
  clear s0 s1 s2 s3 hcE hcM HMY HCE HB3 HB4 hall HBD hd2 zX b4 B2
  by_cases hc0 : CD = 0
  · subst hc0
    obtain ⟨hdv, hdn, hop1, hcz⟩ := evCode_zero HCD.out
    obtain ⟨hok, hop0, hfok⟩ := devB_ops hdv
    subst hdn
    have h400 : nb ≤ 400 := by
      unfold codeP at hcz
      split at hcz <;> omega
    have hmy : mayD true (bs.map BkR.D) x (decide (nextD (bs.map BkR.D) x = 8)) = 0 := by
      unfold codeP at hcz
      rw [if_neg (by omega)] at hcz
      exact hcz
    obtain ⟨_, k, r, rfl, hrk, hrb, _⟩ := code_zero (bs := bs) hmy
    have hkn : k < n1 := by have := (List.getElem?_eq_some_iff.1 hrk).1; have := hln.out; omega
    have hki : (k : Int) < (n1 : Int) := by omega
    have hkk : ¬ (k : Int) < 0 := by omega
    obtain ⟨t, htk, htr⟩ := same_at (f := BkR.D) hd4.bs.D hrk
    have HRK : Hid (bs[k]? = some r ∧ chipOkB (bs.map BkR.D) = true ∧ codeP true (bs.map BkR.D) (k : Int) nb = 0) := ⟨hrk, hok, hcz⟩
    have HMY : Hid (∀ M : Nat, M ≤ 400 → codeP true (bs.map BkR.D) (k : Int) M = 0) := fun M hM => by unfold codeP; rw [if_neg (by omega)]; exact hmy
    have HTK : Hid (qs[k]? = some t ∧ t.D = r.D) := ⟨htk, htr⟩
    obtain ⟨g, ha1⟩ : ∃ g, a1 = some ⟨g, 0, none⟩ := by
      rcases (show OwnE bkE 57 W4 (.slice a1 n1 c1) qs.length qs from hd4.bs.own.1).cases with ⟨_, _, h0⟩ | ⟨g, c, h0, _⟩
      · rw [h0] at htk; simp at htk
      · simp only [Value.slice.injEq] at h0; exact ⟨g, h0.1⟩
    subst ha1
    have hgX : g < X := hlt.out g (fpDv_bs (fpBs_row rfl))
    have hwr : IntKind.i64.wrap (ops + 1) = ops + 1 := wrap_small _ (by omega) (by omega)
    have hcF := faultAtS a n1 cap ops fa m fc fs false W4 (HT.out _ B4).2
    unfold FaA at hcF
    have h0 := zH4.cell 0
    have h1 := zH4.cell 1
    have h2 := zH4.cell 2
    have h3 := zH4.cell 3
    simp at h0 h1 h2 h3
    have HKP : Hid (∀ t, faD ops fs = some t → 0 ≤ t.kp ∧ t.kp ≤ 400) := fun t ht => by
      have h1 := hfok t (List.mem_of_find?_eq_some ht)
      unfold ftOk at h1
      simp at h1
      omega
    clear htk htr hrk hcz hdv hfok hok hmy
    go_wp2_with fail
    refine hcF.mono ?_
    rintro e w5 ⟨rfl, b5⟩
    obtain ⟨o, hoo⟩ : ∃ o, faD ops fs = o := ⟨_, rfl⟩
    rw [hoo] at HGP HKP ⊢
    obtain ⟨ft, hft⟩ : ∃ t, (o.getD ftZ).tm = t := ⟨_, rfl⟩
    obtain ⟨fk, hfk⟩ : ∃ t, (o.getD ftZ).kd = t := ⟨_, rfl⟩
    obtain ⟨fp, hfp⟩ : ∃ t, (o.getD ftZ).kp = t := ⟨_, rfl⟩
    obtain ⟨bd, hbd⟩ : ∃ t, o.isSome = t := ⟨_, rfl⟩
    rw [hft, hfk, hfp, hbd]
    have HO : Hid (o = if bd then some ⟨ft, fk, fp⟩ else none) := by
      show _ = _
      subst hft hfk hfp hbd
      cases o <;> rfl
    have zT := Blk.new w5 65 #[.int .i64 ft, .int .i64 fk, .int .i64 fp]
    have b6 : Below w5.heap.size w5 (w5.alloc (.cells #[.int .i64 ft, .int .i64 fk, .int .i64 fp] 65)) := (Below.refl _ _).alloc (Nat.le_refl _) _
    have b46 := b5.trans (b6.mono b5.size)
    have hd6 := hd4.keep b46
    have zX6 := zX4.keep b46
    have zr6 := zr4.keep b46
    have zH6 := zH4.keep b46
    have B6 := B4.trans (b46.mono B4.size)
    have hXT : X < w5.heap.size := (zX4.keep b5).lt
    obtain ⟨T, hT⟩ : ∃ T, w5.heap.size = T := ⟨_, rfl⟩
    rw [hT] at zT hXT
    clear hcF h0 h1 h2 h3 hd4 zX4 zr4 zH4 B4 b5 hoo hft hfk hfp hbd
    go_upto_region 6 with fail
    obtain ⟨W6, hW6⟩ : ∃ W, w5.alloc (.cells #[.int .i64 ft, .int .i64 fk, .int .i64 fp] 65) = W := ⟨_, rfl⟩
    rw [hW6] at zT hd6 zX6 zr6 zH6 B6 ⊢
    try rw [hT]
    clear hW6 b6 b46 hT
    have u1 := zX6.cell 1
    have g1 := zX6.frozen 1
    have h1 := zH6.cell 1
    simp at u1 h1
    have zX7 := zX6.set 1 (.int .i64 (ops + 1))
    have hXn : w.heap.size ≤ X ∧ H + 1 < X := by have := HW.out; have := HH.out; omega
    have zr7 := zr6.other (B' := X) (by omega) 1 (.int .i64 (ops + 1))
    have zH7 := zH6.other (B' := X) (by omega) 1 (.int .i64 (ops + 1))
    have zT7 := zT.other (B' := X) (by omega) 1 (.int .i64 (ops + 1))
    have hd7 := hd6.svs (sv_one W6 X 1 (.int .i64 (ops + 1))) (fun j hj hf => by simp at hf; have := hlt.out j hj; omega)
    have B7 : Below W0.heap.size W0 (W6.setCell ⟨X, 1, none⟩ (.int .i64 (ops + 1))) := B6.setCell (p := ⟨X, 1, none⟩) hW1 _
    clear hd6 zX6 zr6 zH6 zT B6
    go_upto_region 7 with fail
    obtain ⟨W7, hW7⟩ : ∃ W, W6.setCell ⟨X, 1, none⟩ (.int .i64 (ops + 1)) = W := ⟨_, rfl⟩
    rw [hW7] at zX7 zr7 zH7 zT7 hd7 B7 ⊢
    clear hW7 u1 g1 h1
    simp at zX7
    have c1' := zT7.cell 1
    simp at c1'
    by_cases hbad : bd = true ∧ fk = 1
    · obtain ⟨rfl, rfl⟩ := hbad
      have hOw : OwnE bkE 57 W7 (.slice (some ⟨g, 0, none⟩) n1 c1) n1 qs := by have := hd7.bs.own.1; rw [hl] at this; exact this
      have v0 := hOw.cell k 2 t HTK.out.1 (by decide)
      have v1 : W7.cell? ⟨g, k * 3 + 2, none⟩ = some (.bool t.bad) := v0
      have vf := hOw.frozen (k * 3 + 2)
      have u0 := zX7.cell 0
      simp at u0
      have zX8 := zX7.other (B' := g) (by omega) (k * 3 + 2) (.bool true)
      have hHg : H + 1 < g := by have := hd7.bs.new g (fpBs_row rfl); have := HW.out; have := HH.out; omega
      have zr8 := zr7.other (B' := g) (by omega) (k * 3 + 2) (.bool true)
      have hd8 := hd7.bad hl HTK.out.1
      have B8 : Below W0.heap.size W0 (W7.setCell ⟨g, k * 3 + 2, none⟩ (.bool true)) := B7.setCell (p := ⟨g, k * 3 + 2, none⟩) (hd7.bs.new g (fpBs_row rfl)) _
      clear hOw v0 hd7 zX7 zr7 zH7 zT7 B7
      go_upto_region 9 with fail
      obtain ⟨W8, hW8⟩ : ∃ W, W7.setCell ⟨g, k * 3 + 2, none⟩ (.bool true) = W := ⟨_, rfl⟩
      rw [hW8] at zX8 zr8 hd8 B8 ⊢
      clear hW8 v1 vf u0 c1'
      have r0 := zr8.cell 0
      have r1 := zr8.cell 1
      have r2 := zr8.cell 2
      have r3 := zr8.cell 3
      have f0 := zr8.frozen 0
      have f1 := zr8.frozen 1
      have f2 := zr8.frozen 2
      have f3 := zr8.frozen 3
      have zf := (((zr8.set 0 (.slice (some ⟨g, 0, none⟩) n1 c1)).set 1 (.int .i64 (ops + 1))).set 2 (.slice fa1 m1 fc1)).set 3 (.bool false)
      have d0 := zf.cell 0
      have d1 := zf.cell 1
      have d2 := zf.cell 2
      have d3 := zf.cell 3
      have y0 := zX8.cell 0
      have y1 := zX8.cell 1
      have y2 := zX8.cell 2
      have y3 := zX8.cell 3
      simp at r0 r1 r2 r3 d0 d1 d2 d3 y0 y1 y2 y3
      have HN : Hid _ := And.intro hd8 (And.intro (show (qs.set k ⟨t.a, t.cap, t.ps, t.wear, true⟩).length = n1 by rw [List.length_set]; exact hl) B8)
      clear zf hd8 zX8 zr8 B8
      go_wp2
      refine bodyPost_ret (v := .tuple #[.agg #[.slice (some ⟨g, 0, none⟩) n1 c1, .int .i64 (ops + 1), .slice fa1 m1 fc1, .bool false], .int .i64 2]) (by simp [results, Tryz.f9, go_sem, d0, d1, d2, d3]) rfl ?_
      obtain ⟨hnd, hl, hbel⟩ := HN.out
      rw [← HGP.out]
      have hos := HO.out
      simp only [if_true] at hos
      have hbe : badD (bs.map BkR.D) (k : Int).toNat = (bs.map BkR.D).set k ⟨t.ps.map PgR.D, t.wear, true⟩ := by
        have h5 := HTK.out.2
        unfold BkR.D at h5
        simp only [BkD.mk.injEq] at h5
        unfold badD
        rw [Int.toNat_natCast, List.getElem?_map, HRK.out.1]
        simp only [Option.map_some, BkR.D]
        rw [h5.1, h5.2.1]
      rw [hos, show outDs 0 (some ⟨ft, 1, fp⟩) (bs.map BkR.D) (progAt (bs.map BkR.D) (k : Int).toNat zs) (badD (bs.map BkR.D) (k : Int).toNat) (fun t => progAt (bs.map BkR.D) (k : Int).toNat (zs.take t.toNat)) = badD (bs.map BkR.D) (k : Int).toNat from rfl, hbe]
      have hH := HH.out
      have hw := HW.out
      have h1 : H + 1 < W0.heap.size := by omega
      have bel : Below w.heap.size w W8 := HB0.out.trans (hbel.mono HB0.out.size)
      have s : ∀ (W : World) (i : Nat) (v : Value), Below w.heap.size w W → Below w.heap.size w (W.setCell ⟨H + 1, i, none⟩ v) := fun W i v hb => hb.setCell (p := ⟨H + 1, i, none⟩) (by simp only; omega) v
      exact ⟨_, _, _, _, _, _, _, rfl, ((((hnd.set_below h1).set_below h1).set_below h1).set_below h1).wider HB0.out.size, hl, s _ _ _ (s _ _ _ (s _ _ _ (s _ _ _ bel)))⟩
    · cases bd with
      | false =>
        have hos := HO.out
        simp only [Bool.false_eq_true, if_false] at hos
        have HOS : Hid (o = none) := hos
        clear hos HO
        have hzt : zs.length = nb := hz
        have HRT : Hid (Rd W7.drew (some ⟨gb, 0, none⟩) zs) := HRZ.out _ B7.drew
        have hcR := programS a n1 cap bs (k : Int) (some ⟨gb, 0, none⟩) nb nb (zs) W7.drew hzt (by omega) (HT.out _ B7.drew).1 HRT.out
        rw [HRK.out.2.1, hzt, HMY.out nb (by omega), show programD true (bs.map BkR.D) (k : Int) (zs) = progAt (bs.map BkR.D) k (zs) from (by unfold programD; rw [hzt, HMY.out nb (by omega), if_pos rfl, Int.toNat_natCast])] at hcR
        have hTW : T < W7.heap.size := zT7.lt
        have s0 : W7.drew.cell? ⟨H, 0, none⟩ = some (.slice a n1 cap) := zH7.cell 0
        have HZH : Hid (Blk W7 H 35 #[.slice a n1 cap, .int .i64 ops, .slice fa m fc, .bool false]) := zH7
        have c2' := zT7.cell 2
        simp at c2'
        clear hzt zH7
        go_upto_region 13 with fail
        clear c1' c2'
        go_region_with ((go_at_call 41; (with_reducible refine hcR.mono ?_); rintro e w8 ⟨aE, nE, cE, qE, rfl, hqE, hlE, b8⟩; have hnE : nE = n1 := (by rw [← hlE, hqE.len, progAt_len]; simp [hln.out]); subst hnE; have b8' : Below W7.heap.size W7 w8 := (Below.refl _ _).drew.trans b8; have HQE : Hid (NewBs w8 W7.heap.size (.slice aE nE cE) (progAt (bs.map BkR.D) k (zs)) qE ∧ qE.length = nE ∧ Below W7.heap.size W7 w8) := ⟨hqE, hlE, b8'⟩; have zX8 := zX7.keep b8'; have u0 := zX8.cell 0; have g0 := zX8.frozen 0; simp at u0; clear hqE hlE b8 b8'))
        all_goals (
          obtain ⟨hqE, hlE, b8⟩ := HQE.out
          have zr8 := zr7.keep b8
          have hd8 := hd7.chip b8 hqE B7.size
          have B8 := B7.trans (b8.mono B7.size)
          have zX9 := zX8.set 0 (.slice aE nE cE)
          have zr9 := zr8.other (B' := X) (by omega) 0 (.slice aE nE cE)
          have hd9 := hd8.svs (sv_one w8 X 0 (.slice aE nE cE)) (fun j hj hf => by
            simp at hf
            subst hf
            rcases List.mem_append.1 hj with h5 | h5
            · have := hqE.new j h5; omega
            · have := hlt.out j (List.mem_append_right _ h5); omega)
          have B9 : Below W0.heap.size W0 (w8.setCell ⟨X, 0, none⟩ (.slice aE nE cE)) := B8.setCell (p := ⟨X, 0, none⟩) hW1 _
          have HXF : Hid (∀ j ∈ fpDv aE nE cE fa1 m1 fc1 qE, j ≠ X) := fun j hj e => by
            subst e
            rcases List.mem_append.1 hj with h5 | h5
            · have := hqE.new j h5; omega
            · have := hlt.out j (List.mem_append_right _ h5); omega
          obtain ⟨W9, hW9⟩ : ∃ W, w8.setCell ⟨X, 0, none⟩ (.slice aE nE cE) = W := ⟨_, rfl⟩
          rw [hW9] at zX9 zr9 hd9 B9 ⊢
          clear hcR zX7 zr7 zT7 hd7 B7 zX8 zr8 hd8 B8 s0 u0 g0 hW9 HZH HQE hqE b8
          simp at zX9
          have y3 := zX9.cell 3
          have g3 := zX9.frozen 3
          simp at y3
          have zX10 := zX9.set 3 (.bool false)
          have zr10 := zr9.other (B' := X) (by omega) 3 (.bool false)
          have hd10 := hd9.svs (sv_one W9 X 3 (.bool false)) (fun j hj hf => by simp at hf; exact HXF.out j hj hf)
          have B10 : Below W0.heap.size W0 (W9.setCell ⟨X, 3, none⟩ (.bool false)) := B9.setCell (p := ⟨X, 3, none⟩) hW1 _
          go_upto_region 15 with fail
          obtain ⟨W10, hW10⟩ : ∃ W, W9.setCell ⟨X, 3, none⟩ (.bool false) = W := ⟨_, rfl⟩
          rw [hW10] at zX10 zr10 hd10 B10 ⊢
          clear hW10 y3 g3 zX9 zr9 hd9 B9
          simp at zX10
          have r0 := zr10.cell 0
          have r1 := zr10.cell 1
          have r2 := zr10.cell 2
          have r3 := zr10.cell 3
          have f0 := zr10.frozen 0
          have f1 := zr10.frozen 1
          have f2 := zr10.frozen 2
          have f3 := zr10.frozen 3
          have zf := (((zr10.set 0 (.slice aE nE cE)).set 1 (.int .i64 (ops + 1))).set 2 (.slice fa1 m1 fc1)).set 3 (.bool false)
          have d0 := zf.cell 0
          have d1 := zf.cell 1
          have d2 := zf.cell 2
          have d3 := zf.cell 3
          have y0 := zX10.cell 0
          have y1 := zX10.cell 1
          have y2 := zX10.cell 2
          have y3 := zX10.cell 3
          simp at r0 r1 r2 r3 d0 d1 d2 d3 y0 y1 y2 y3
          have HN : Hid _ := And.intro hd10 (And.intro hlE B10)
          clear zf hd10 zX10 zr10 B10 hlE
          go_wp2
          refine bodyPost_ret (v := .tuple #[.agg #[.slice aE nE cE, .int .i64 (ops + 1), .slice fa1 m1 fc1, .bool false], .int .i64 0]) (by simp [results, Tryz.f9, go_sem, d0, d1, d2, d3]) rfl ?_
          obtain ⟨hnd, hl, hbel⟩ := HN.out
          rw [← HGP.out]
          rw [HOS.out, show outDs 0 none (bs.map BkR.D) (progAt (bs.map BkR.D) (k : Int).toNat zs) (badD (bs.map BkR.D) (k : Int).toNat) (fun t => progAt (bs.map BkR.D) (k : Int).toNat (zs.take t.toNat)) = progAt (bs.map BkR.D) k zs from rfl]
          have hH := HH.out
          have hw := HW.out
          have h1 : H + 1 < W0.heap.size := by omega
          have bel : Below w.heap.size w W10 := HB0.out.trans (hbel.mono HB0.out.size)
          have s : ∀ (W : World) (i : Nat) (v : Value), Below w.heap.size w W → Below w.heap.size w (W.setCell ⟨H + 1, i, none⟩ v) := fun W i v hb => hb.setCell (p := ⟨H + 1, i, none⟩) (by simp only; omega) v
          exact ⟨_, _, _, _, _, _, _, rfl, ((((hnd.set_below h1).set_below h1).set_below h1).set_below h1).wider HB0.out.size, hl, s _ _ _ (s _ _ _ (s _ _ _ (s _ _ _ bel)))⟩)
      | true =>
        have hfk : ¬ fk = 1 := fun h => hbad ⟨rfl, h⟩
        have hfkb : (fk == 1) = false := by simpa using hfk
        have hos := HO.out
        simp only [if_true] at hos
        have hkp := HKP.out _ hos
        dsimp only at hkp
        obtain ⟨q, rfl⟩ : ∃ q : Nat, fp = (q : Int) := ⟨fp.toNat, by omega⟩
        have HOS : Hid (o = some ⟨ft, fk, (q : Int)⟩ ∧ ¬ fk = 1) := ⟨hos, hfk⟩
        clear hos HO hfk
        by_cases hqn : q < nb
        · have hqi : (q : Int) < (nb : Int) := by omega
          have hqj : (q : Int) ≤ (nb : Int) := by omega
          have hzt : (zs.take q).length = q := by rw [List.length_take, hz]; omega
          have HRT : Hid (Rd W7.drew (some ⟨gb, 0, none⟩) (zs.take q)) := (HRZ.out _ B7.drew).take q
          have hcR := programS a n1 cap bs (k : Int) (some ⟨gb, 0, none⟩) q nb (zs.take q) W7.drew hzt (by omega) (HT.out _ B7.drew).1 HRT.out
          rw [HRK.out.2.1, hzt, HMY.out q (by omega), show programD true (bs.map BkR.D) (k : Int) (zs.take q) = progAt (bs.map BkR.D) k (zs.take q) from (by unfold programD; rw [hzt, HMY.out q (by omega), if_pos rfl, Int.toNat_natCast])] at hcR
          have hTW : T < W7.heap.size := zT7.lt
          have s0 : W7.drew.cell? ⟨H, 0, none⟩ = some (.slice a n1 cap) := zH7.cell 0
          have HZH : Hid (Blk W7 H 35 #[.slice a n1 cap, .int .i64 ops, .slice fa m fc, .bool false]) := zH7
          have c2' := zT7.cell 2
          simp at c2'
          clear hzt zH7
          go_upto_region 13 with fail
          clear c1' c2'
          go_region_with ((go_at_call 41; (with_reducible refine hcR.mono ?_); rintro e w8 ⟨aE, nE, cE, qE, rfl, hqE, hlE, b8⟩; have hnE : nE = n1 := (by rw [← hlE, hqE.len, progAt_len]; simp [hln.out]); subst hnE; have b8' : Below W7.heap.size W7 w8 := (Below.refl _ _).drew.trans b8; have HQE : Hid (NewBs w8 W7.heap.size (.slice aE nE cE) (progAt (bs.map BkR.D) k (zs.take q)) qE ∧ qE.length = nE ∧ Below W7.heap.size W7 w8) := ⟨hqE, hlE, b8'⟩; have zX8 := zX7.keep b8'; have u0 := zX8.cell 0; have g0 := zX8.frozen 0; simp at u0; clear hqE hlE b8 b8'))
          all_goals (
            obtain ⟨hqE, hlE, b8⟩ := HQE.out
            have zr8 := zr7.keep b8
            have hd8 := hd7.chip b8 hqE B7.size
            have B8 := B7.trans (b8.mono B7.size)
            have zX9 := zX8.set 0 (.slice aE nE cE)
            have zr9 := zr8.other (B' := X) (by omega) 0 (.slice aE nE cE)
            have hd9 := hd8.svs (sv_one w8 X 0 (.slice aE nE cE)) (fun j hj hf => by
              simp at hf
              subst hf
              rcases List.mem_append.1 hj with h5 | h5
              · have := hqE.new j h5; omega
              · have := hlt.out j (List.mem_append_right _ h5); omega)
            have B9 : Below W0.heap.size W0 (w8.setCell ⟨X, 0, none⟩ (.slice aE nE cE)) := B8.setCell (p := ⟨X, 0, none⟩) hW1 _
            have HXF : Hid (∀ j ∈ fpDv aE nE cE fa1 m1 fc1 qE, j ≠ X) := fun j hj e => by
              subst e
              rcases List.mem_append.1 hj with h5 | h5
              · have := hqE.new j h5; omega
              · have := hlt.out j (List.mem_append_right _ h5); omega
            obtain ⟨W9, hW9⟩ : ∃ W, w8.setCell ⟨X, 0, none⟩ (.slice aE nE cE) = W := ⟨_, rfl⟩
            rw [hW9] at zX9 zr9 hd9 B9 ⊢
            clear hcR zX7 zr7 zT7 hd7 B7 zX8 zr8 hd8 B8 s0 u0 g0 hW9 HZH HQE hqE b8
            simp at zX9
            have y3 := zX9.cell 3
            have g3 := zX9.frozen 3
            simp at y3
            have zX10 := zX9.set 3 (.bool true)
            have zr10 := zr9.other (B' := X) (by omega) 3 (.bool true)
            have hd10 := hd9.svs (sv_one W9 X 3 (.bool true)) (fun j hj hf => by simp at hf; exact HXF.out j hj hf)
            have B10 : Below W0.heap.size W0 (W9.setCell ⟨X, 3, none⟩ (.bool true)) := B9.setCell (p := ⟨X, 3, none⟩) hW1 _
            go_upto_region 15 with fail
            obtain ⟨W10, hW10⟩ : ∃ W, W9.setCell ⟨X, 3, none⟩ (.bool true) = W := ⟨_, rfl⟩
            rw [hW10] at zX10 zr10 hd10 B10 ⊢
            clear hW10 y3 g3 zX9 zr9 hd9 B9
            simp at zX10
            have r0 := zr10.cell 0
            have r1 := zr10.cell 1
            have r2 := zr10.cell 2
            have r3 := zr10.cell 3
            have f0 := zr10.frozen 0
            have f1 := zr10.frozen 1
            have f2 := zr10.frozen 2
            have f3 := zr10.frozen 3
            have zf := (((zr10.set 0 (.slice aE nE cE)).set 1 (.int .i64 (ops + 1))).set 2 (.slice fa1 m1 fc1)).set 3 (.bool true)
            have d0 := zf.cell 0
            have d1 := zf.cell 1
            have d2 := zf.cell 2
            have d3 := zf.cell 3
            have y0 := zX10.cell 0
            have y1 := zX10.cell 1
            have y2 := zX10.cell 2
            have y3 := zX10.cell 3
            simp at r0 r1 r2 r3 d0 d1 d2 d3 y0 y1 y2 y3
            have HN : Hid _ := And.intro hd10 (And.intro hlE B10)
            clear zf hd10 zX10 zr10 B10 hlE
            go_wp2
            refine bodyPost_ret (v := .tuple #[.agg #[.slice aE nE cE, .int .i64 (ops + 1), .slice fa1 m1 fc1, .bool true], .int .i64 10]) (by simp [results, Tryz.f9, go_sem, d0, d1, d2, d3]) rfl ?_
            obtain ⟨hnd, hl, hbel⟩ := HN.out
            rw [← HGP.out]
            obtain ⟨e1, e2⟩ := HOS.out
            have hto : outDs 0 (some ⟨ft, fk, (q : Int)⟩) (bs.map BkR.D) (progAt (bs.map BkR.D) (k : Int).toNat zs) (badD (bs.map BkR.D) (k : Int).toNat) (fun t => progAt (bs.map BkR.D) (k : Int).toNat (zs.take t.toNat)) = progAt (bs.map BkR.D) k (zs.take q) := by
              unfold outDs
              rw [if_pos rfl]
              dsimp only
              rw [if_neg e2]
              simp only [Int.toNat_natCast]
              try rfl
            rw [e1, hto, show outDown 0 (some ⟨ft, fk, (q : Int)⟩) false = true from (by unfold outDown; rw [if_pos rfl]; dsimp only; rw [if_neg e2]), show outCode 0 (some ⟨ft, fk, (q : Int)⟩) = 10 from (by unfold outCode; rw [if_pos rfl]; dsimp only; rw [if_neg e2])]
            have hH := HH.out
            have hw := HW.out
            have h1 : H + 1 < W0.heap.size := by omega
            have bel : Below w.heap.size w W10 := HB0.out.trans (hbel.mono HB0.out.size)
            have s : ∀ (W : World) (i : Nat) (v : Value), Below w.heap.size w W → Below w.heap.size w (W.setCell ⟨H + 1, i, none⟩ v) := fun W i v hb => hb.setCell (p := ⟨H + 1, i, none⟩) (by simp only; omega) v
            exact ⟨_, _, _, _, _, _, _, rfl, ((((hnd.set_below h1).set_below h1).set_below h1).set_below h1).wider HB0.out.size, hl, s _ _ _ (s _ _ _ (s _ _ _ (s _ _ _ bel)))⟩)
        · have hqi : ¬ (q : Int) < (nb : Int) := by omega
          have hqq : nb ≤ q := by omega
          have HQQ : Hid (zs.take q = zs) := by show _ = _; rw [List.take_of_length_le (by omega)]
          have hzt : zs.length = nb := hz
          have HRT : Hid (Rd W7.drew (some ⟨gb, 0, none⟩) (zs)) := HRZ.out _ B7.drew
          have hcR := programS a n1 cap bs (k : Int) (some ⟨gb, 0, none⟩) nb nb (zs) W7.drew hzt (by omega) (HT.out _ B7.drew).1 HRT.out
          rw [HRK.out.2.1, hzt, HMY.out nb (by omega), show programD true (bs.map BkR.D) (k : Int) (zs) = progAt (bs.map BkR.D) k (zs) from (by unfold programD; rw [hzt, HMY.out nb (by omega), if_pos rfl, Int.toNat_natCast])] at hcR
          have hTW : T < W7.heap.size := zT7.lt
          have s0 : W7.drew.cell? ⟨H, 0, none⟩ = some (.slice a n1 cap) := zH7.cell 0
          have HZH : Hid (Blk W7 H 35 #[.slice a n1 cap, .int .i64 ops, .slice fa m fc, .bool false]) := zH7
          have c2' := zT7.cell 2
          simp at c2'
          clear hzt zH7
          go_upto_region 13 with fail
          clear c1' c2'
          go_region_with ((go_at_call 41; (with_reducible refine hcR.mono ?_); rintro e w8 ⟨aE, nE, cE, qE, rfl, hqE, hlE, b8⟩; have hnE : nE = n1 := (by rw [← hlE, hqE.len, progAt_len]; simp [hln.out]); subst hnE; have b8' : Below W7.heap.size W7 w8 := (Below.refl _ _).drew.trans b8; have HQE : Hid (NewBs w8 W7.heap.size (.slice aE nE cE) (progAt (bs.map BkR.D) k (zs)) qE ∧ qE.length = nE ∧ Below W7.heap.size W7 w8) := ⟨hqE, hlE, b8'⟩; have zX8 := zX7.keep b8'; have u0 := zX8.cell 0; have g0 := zX8.frozen 0; simp at u0; clear hqE hlE b8 b8'))
          all_goals (
            obtain ⟨hqE, hlE, b8⟩ := HQE.out
            have zr8 := zr7.keep b8
            have hd8 := hd7.chip b8 hqE B7.size
            have B8 := B7.trans (b8.mono B7.size)
            have zX9 := zX8.set 0 (.slice aE nE cE)
            have zr9 := zr8.other (B' := X) (by omega) 0 (.slice aE nE cE)
            have hd9 := hd8.svs (sv_one w8 X 0 (.slice aE nE cE)) (fun j hj hf => by
              simp at hf
              subst hf
              rcases List.mem_append.1 hj with h5 | h5
              · have := hqE.new j h5; omega
              · have := hlt.out j (List.mem_append_right _ h5); omega)
            have B9 : Below W0.heap.size W0 (w8.setCell ⟨X, 0, none⟩ (.slice aE nE cE)) := B8.setCell (p := ⟨X, 0, none⟩) hW1 _
            have HXF : Hid (∀ j ∈ fpDv aE nE cE fa1 m1 fc1 qE, j ≠ X) := fun j hj e => by
              subst e
              rcases List.mem_append.1 hj with h5 | h5
              · have := hqE.new j h5; omega
              · have := hlt.out j (List.mem_append_right _ h5); omega
            obtain ⟨W9, hW9⟩ : ∃ W, w8.setCell ⟨X, 0, none⟩ (.slice aE nE cE) = W := ⟨_, rfl⟩
            rw [hW9] at zX9 zr9 hd9 B9 ⊢
            clear hcR zX7 zr7 zT7 hd7 B7 zX8 zr8 hd8 B8 s0 u0 g0 hW9 HZH HQE hqE b8
            simp at zX9
            have y3 := zX9.cell 3
            have g3 := zX9.frozen 3
            simp at y3
            have zX10 := zX9.set 3 (.bool true)
            have zr10 := zr9.other (B' := X) (by omega) 3 (.bool true)
            have hd10 := hd9.svs (sv_one W9 X 3 (.bool true)) (fun j hj hf => by simp at hf; exact HXF.out j hj hf)
            have B10 : Below W0.heap.size W0 (W9.setCell ⟨X, 3, none⟩ (.bool true)) := B9.setCell (p := ⟨X, 3, none⟩) hW1 _
            go_upto_region 15 with fail
            obtain ⟨W10, hW10⟩ : ∃ W, W9.setCell ⟨X, 3, none⟩ (.bool true) = W := ⟨_, rfl⟩
            rw [hW10] at zX10 zr10 hd10 B10 ⊢
            clear hW10 y3 g3 zX9 zr9 hd9 B9
            simp at zX10
            have r0 := zr10.cell 0
            have r1 := zr10.cell 1
            have r2 := zr10.cell 2
            have r3 := zr10.cell 3
            have f0 := zr10.frozen 0
            have f1 := zr10.frozen 1
            have f2 := zr10.frozen 2
            have f3 := zr10.frozen 3
            have zf := (((zr10.set 0 (.slice aE nE cE)).set 1 (.int .i64 (ops + 1))).set 2 (.slice fa1 m1 fc1)).set 3 (.bool true)
            have d0 := zf.cell 0
            have d1 := zf.cell 1
            have d2 := zf.cell 2
            have d3 := zf.cell 3
            have y0 := zX10.cell 0
            have y1 := zX10.cell 1
            have y2 := zX10.cell 2
            have y3 := zX10.cell 3
            simp at r0 r1 r2 r3 d0 d1 d2 d3 y0 y1 y2 y3
            have HN : Hid _ := And.intro hd10 (And.intro hlE B10)
            clear zf hd10 zX10 zr10 B10 hlE
            go_wp2
            refine bodyPost_ret (v := .tuple #[.agg #[.slice aE nE cE, .int .i64 (ops + 1), .slice fa1 m1 fc1, .bool true], .int .i64 10]) (by simp [results, Tryz.f9, go_sem, d0, d1, d2, d3]) rfl ?_
            obtain ⟨hnd, hl, hbel⟩ := HN.out
            rw [← HGP.out]
            obtain ⟨e1, e2⟩ := HOS.out
            have hto : outDs 0 (some ⟨ft, fk, (q : Int)⟩) (bs.map BkR.D) (progAt (bs.map BkR.D) (k : Int).toNat zs) (badD (bs.map BkR.D) (k : Int).toNat) (fun t => progAt (bs.map BkR.D) (k : Int).toNat (zs.take t.toNat)) = progAt (bs.map BkR.D) k (zs) := by
              unfold outDs
              rw [if_pos rfl]
              dsimp only
              rw [if_neg e2]
              simp only [Int.toNat_natCast]
              rw [HQQ.out]
            rw [e1, hto, show outDown 0 (some ⟨ft, fk, (q : Int)⟩) false = true from (by unfold outDown; rw [if_pos rfl]; dsimp only; rw [if_neg e2]), show outCode 0 (some ⟨ft, fk, (q : Int)⟩) = 10 from (by unfold outCode; rw [if_pos rfl]; dsimp only; rw [if_neg e2])]
            have hH := HH.out
            have hw := HW.out
            have h1 : H + 1 < W0.heap.size := by omega
            have bel : Below w.heap.size w W10 := HB0.out.trans (hbel.mono HB0.out.size)
            have s : ∀ (W : World) (i : Nat) (v : Value), Below w.heap.size w W → Below w.heap.size w (W.setCell ⟨H + 1, i, none⟩ v) := fun W i v hb => hb.setCell (p := ⟨H + 1, i, none⟩) (by simp only; omega) v
            exact ⟨_, _, _, _, _, _, _, rfl, ((((hnd.set_below h1).set_below h1).set_below h1).set_below h1).wider HB0.out.size, hl, s _ _ _ (s _ _ _ (s _ _ _ (s _ _ _ bel)))⟩)
  · have hcn : (CD != 0) = true := by simp [hc0]
    have r0 := zr4.cell 0
    have r1 := zr4.cell 1
    have r2 := zr4.cell 2
    have r3 := zr4.cell 3
    have f0 := zr4.frozen 0
    have f1 := zr4.frozen 1
    have f2 := zr4.frozen 2
    have f3 := zr4.frozen 3
    have zf := (((zr4.set 0 (.slice a1 n1 c1)).set 1 (.int .i64 ops)).set 2 (.slice fa1 m1 fc1)).set 3 (.bool down)
    have d0 := zf.cell 0
    have d1 := zf.cell 1
    have d2 := zf.cell 2
    have d3 := zf.cell 3
    have y0 := zX4.cell 0
    have y1 := zX4.cell 1
    have y2 := zX4.cell 2
    have y3 := zX4.cell 3
    simp at r0 r1 r2 r3 d0 d1 d2 d3 y0 y1 y2 y3
    have HN : Hid _ := And.intro hd4 (And.intro hl B4)
    clear zf hd4 zX4 zr4 zH4 B4
    go_wp2
    refine bodyPost_ret (v := .tuple #[.agg #[.slice a1 n1 c1, .int .i64 ops, .slice fa1 m1 fc1, .bool down], .int .i64 CD]) (by simp [results, Tryz.f9, go_sem, d0, d1, d2, d3]) rfl ?_
    obtain ⟨hnd, hl, hbel⟩ := HN.out
    rw [← HGP.out]
    rw [outs_no rfl hc0]
    have hH := HH.out
    have hw := HW.out
    have h1 : H + 1 < W0.heap.size := by omega
    have bel : Below w.heap.size w W4 := HB0.out.trans (hbel.mono HB0.out.size)
    have s : ∀ (W : World) (i : Nat) (v : Value), Below w.heap.size w W → Below w.heap.size w (W.setCell ⟨H + 1, i, none⟩ v) := fun W i v hb => hb.setCell (p := ⟨H + 1, i, none⟩) (by simp only; omega) v
    exact ⟨_, _, _, _, _, _, _, rfl, ((((hnd.set_below h1).set_below h1).set_below h1).set_below h1).wider HB0.out.size, hl, s _ _ _ (s _ _ _ (s _ _ _ (s _ _ _ bel)))⟩
end

section
open Go.RowKit
theorem RowB.keepB {w w' : World} {v : Value} {n : Nat} {zs : List Int} (h : RowB w v n zs) (hb : Below w.heap.size w w') : RowB w' v n zs := h.block fun g hg => hb.block g (h.at_ hg).1
theorem RowB.svs {w w' : World} {v : Value} {n : Nat} {zs : List Int} {F : List Nat} (h : RowB w v n zs) (k : Sv F w w') (hd : ∀ g, v.ownBlock = some g → g ∉ F) : RowB w' v n zs := h.block fun g hg => k.block g (h.at_ hg).1 (hd g hg)
theorem RowB.rdS {w : World} {a : Option Addr} {n c m : Nat} {zs : List Int} (h : RowB w (.slice a n c) m zs) : Rd w a zs := by
  obtain ⟨a', c', e, r⟩ := h.form
  simp only [Value.slice.injEq] at e
  rw [e.1]; exact r
end

section
open Go.RowKit
def ByteRow (w : World) (a : Option Addr) (len cap : Nat) (zs : List Int) : Prop :=
  (a = none ∧ len = 0 ∧ cap = 0 ∧ zs = []) ∨ ∃ x, a = some x ∧ len ≤ cap ∧ cap ≤ maxLen ∧ zs.length = cap ∧ (∀ i, i < zs.length → w.cell? (x.add i) = some (.int .u8 (zs.getD i 0))) ∧ ∀ n ∈ zs, (Lit.int .u8 n).wf = true
theorem outP_len (cd : Int) (o : Option FtD) (ds : List BkD) (k : Nat) (zs : List Int) : (outDs cd o ds (progAt ds k zs) (badD ds k) (fun t => progAt ds k (zs.take t.toNat))).length = ds.length := by
  have h2 : (badD ds k).length = ds.length := by unfold badD; split <;> simp
  unfold outDs
  split
  · cases o with
    | none => exact progAt_len _ _ _
    | some f =>
      dsimp only
      split
      · exact h2
      · exact progAt_len _ _ _
  · rfl
theorem progAt_tot (ds : List BkD) (k : Nat) (zs : List Int) : totB (progAt ds k zs) ≤ 2 * totB ds + 2 + zs.length := by
  unfold progAt
  split
  · rename_i b hb
    have h5 := totB_put ds k ⟨b.ps.set (nextP b.ps) ⟨true, zs⟩, b.wear, b.bad⟩
    have h6 := totP_put b.ps (nextP b.ps) ⟨true, zs⟩
    have h7 := totB_mem (List.mem_of_getElem? hb)
    simp only at h5 h6
    omega
  · omega
theorem outP_tot (cd : Int) (o : Option FtD) (ds : List BkD) (k : Nat) (zs : List Int) : totB (outDs cd o ds (progAt ds k zs) (badD ds k) (fun t => progAt ds k (zs.take t.toNat))) ≤ 2 * totB ds + 2 + zs.length := by
  have h2 : totB (badD ds k) ≤ 2 * totB ds + 2 := by
    unfold badD
    split
    · rename_i b hb
      have := totB_put ds k ⟨b.ps, b.wear, true⟩
      have h5 := totB_mem (List.mem_of_getElem? hb)
      dsimp only at this
      omega
    · omega
  unfold outDs
  split
  · cases o with
    | none => exact progAt_tot _ _ _
    | some f =>
      dsimp only
      split
      · omega
      · refine Nat.le_trans (progAt_tot _ _ _) ?_
        rw [List.length_take]
        omega
  · omega
set_option maxRecDepth 100000 in
set_option maxHeartbeats 16000000 in
theorem walkFnExactDevProgram (a : Option Addr) (cap : Nat) (bs : List BkR) (ops : Int) (fa : Option Addr) (fc : Nat) (fs : List FtD) (down : Bool) (x0 : Int) (ab : Option Addr) (lb cb : Nat) (zb : List Int) (w : World) (hm : bs.length ≤ maxLen) (hi : ∀ r ∈ bs, BkIn r) (hr : RdBs w a bs) (hfm : fs.length ≤ maxLen) (hrf : RdFa w fa fs) (_hwx : (Lit.int .i64 x0).wf = true) (hbr : ByteRow w ab lb cb zb) (hg : EtCell w) :
    Calls Tryz.prog 3 #[.agg #[.slice a bs.length cap, .int .i64 ops, .slice fa fs.length fc, .bool down], .int .i64 x0, .slice ab lb cb] w fun e w' => e = .returned (.bool true) ∧ Below w.heap.size w w' := by
  obtain ⟨n, hn⟩ : ∃ n, bs.length = n := ⟨_, rfl⟩
  obtain ⟨m, hnf⟩ : ∃ m, fs.length = m := ⟨_, rfl⟩
  rw [hn] at hm ⊢
  rw [hnf] at hfm ⊢
  have B0 : Below w.heap.size w (w.alloc (.cells #[.slice a n cap, .int .i64 ops, .slice fa m fc, .bool down] 27)) := (Below.refl _ w).alloc (Nat.le_refl _) _
  have z0 := Blk.new w 27 #[.slice a n cap, .int .i64 ops, .slice fa m fc, .bool down]
  obtain ⟨zs, hzl, hrb, _⟩ := rd_of_row hbr
  clear hbr
  by_cases hlb : 1048576 < lb
  · have hlbi : (1048576 : Int) < (lb : Int) := by omega
    have HB0 : Hid _ := B0
    clear z0 hzl hrb hi hr hrf B0 hg
    go_enter Tryz.func3, Tryz.ntmps3
    go_wp2
    go_ret
    exact ⟨rfl, HB0.out⟩
  have hlbi : ¬ (1048576 : Int) < (lb : Int) := by omega
  go_enter Tryz.func3, Tryz.ntmps3
  go_wp2_with fail
  obtain ⟨W0, hW0⟩ : ∃ W, w.alloc (.cells #[.slice a n cap, .int .i64 ops, .slice fa m fc, .bool down] 27) = W := ⟨_, rfl⟩
  rw [hW0] at B0 z0 ⊢
  clear hW0
  refine (szDev_w a n cap 1048576 bs ops fa m fc down W0 hn hm hfm (by omega) hi (hr.keep B0)).mono ?_
  rintro e w1 ⟨hsz, b1⟩
  have B1 := B0.trans (b1.mono B0.size)
  have z1 := z0.keep b1
  rcases hsz with rfl | ⟨x, hx, rfl, _⟩
  · go_wp2
    go_ret
    exact ⟨rfl, B1⟩
  have hx0 : ¬ (x : Int) < 0 := by omega
  have htot : Hid (totB (bs.map BkR.D) ≤ 1048576) := by show _ ≤ _; omega
  have hmt : Hid (m ≤ 1048576) := by show _ ≤ _; omega
  have HN : Hid ((bs.map BkR.D).length = n) := by show _ = _; simp [hn]
  have HRA : Hid (∀ W : World, Below w.heap.size w W → CR W a n bs ∧ FR W fa m fs) := fun W h => ⟨⟨hn, htot.out, hr.keep h⟩, ⟨hnf, hmt.out, hrf.keep h⟩⟩
  have CA : Hid (∀ (W : World), CR W a n bs ∧ FR W fa m fs → _) := fun (W : World) (h : CR W a n bs ∧ FR W fa m fs) => toDev_any a n cap bs ops fa m fc fs down W h.1 h.2
  have HCF : Hid (∀ (W : World) (B g g' : Nat) (ts : List BkR), NewDv W B (some ⟨g, 0, none⟩) n n (some ⟨g', 0, none⟩) m m (bs.map BkR.D) fs ts → CR W (some ⟨g, 0, none⟩) n ts ∧ FR W (some ⟨g', 0, none⟩) m fs) := fun W B g g' ts h => ⟨⟨by rw [h.bs.len, HN.out], by rw [h.bs.D]; exact htot.out, h.bs.rd⟩, OwnFa.fr h.fs hmt.out⟩
  have CBy : Hid (∀ (W : World), Rd W ab zs → _) := fun (W : World) (h : Rd W ab zs) => toByteS_any ab lb cb zs W hzl (by omega) h
  have HRBB : Hid (Rd w ab zs) := hrb
  have HZL : Hid (zs.length = lb) := hzl
  obtain ⟨dE, hdE⟩ : ∃ d, outDs (evCode (bs.map BkR.D) ops fs down (codeP true (bs.map BkR.D) x0 lb)) (faD ops fs) (bs.map BkR.D) (progAt (bs.map BkR.D) x0.toNat zs) (badD (bs.map BkR.D) x0.toNat) (fun t => progAt (bs.map BkR.D) x0.toNat (zs.take t.toNat)) = d := ⟨_, rfl⟩
  obtain ⟨oE, hoE⟩ : ∃ d, outOps (evCode (bs.map BkR.D) ops fs down (codeP true (bs.map BkR.D) x0 lb)) ops = d := ⟨_, rfl⟩
  obtain ⟨wE, hwE⟩ : ∃ d, outDown (evCode (bs.map BkR.D) ops fs down (codeP true (bs.map BkR.D) x0 lb)) (faD ops fs) down = d := ⟨_, rfl⟩
  obtain ⟨code, hcode⟩ : ∃ c, outCode (evCode (bs.map BkR.D) ops fs down (codeP true (bs.map BkR.D) x0 lb)) (faD ops fs) = c := ⟨_, rfl⟩
  have HE : Hid (dE.length = n) := by show _ = _; rw [← hdE, outP_len]; exact HN.out
  have HT : Hid (totB dE ≤ 3145740) := by show _ ≤ _; rw [← hdE]; refine Nat.le_trans (outP_tot _ _ _ _ _) ?_; have := htot.out; omega
  have cS : ∀ (W : World) (B g g' gb : Nat) (ts : List BkR), Rd W (some ⟨gb, 0, none⟩) zs → NewDv W B (some ⟨g, 0, none⟩) n n (some ⟨g', 0, none⟩) m m (bs.map BkR.D) fs ts → Calls Tryz.prog 9 #[.agg #[.slice (some ⟨g, 0, none⟩) n n, .int .i64 ops, .slice (some ⟨g', 0, none⟩) m m, .bool down], .int .i64 x0, .slice (some ⟨gb, 0, none⟩) lb lb] W fun e w' => ∃ a c fa fc qs, e = .returned (.tuple #[.agg #[.slice a n c, .int .i64 oE, .slice fa m fc, .bool wE], .int .i64 code]) ∧ NewDv w' W.heap.size a n c fa m fc dE fs qs ∧ Below W.heap.size W w' := fun W B g g' gb ts hb h => by
    have := devPrS (some ⟨g, 0, none⟩) n n ts ops (some ⟨g', 0, none⟩) m m fs down x0 gb lb zs W (HCF.out W B g g' ts h).1 (HCF.out W B g g' ts h).2 hzl (by omega) hb
    rw [h.bs.D, hdE] at this
    exact this.mono fun e w' hA => by
      obtain ⟨a, k, c, fa, j, fc, qs, e1, e2, e3, e4⟩ := hA
      have hk : k = n := by rw [← e3, e2.bs.len, HE.out]
      have hj : j = m := by rw [← OwnE.len e2.fs, hnf]
      subst hk hj
      dsimp only at e1 e2
      rw [hoE, hwE, hcode] at e1
      exact ⟨a, c, fa, fc, qs, e1, e2, e4⟩
  have cI : ∀ (W : World) (B g g' gb : Nat) (ts : List BkR), EtCell W → Rd W (some ⟨gb, 0, none⟩) zs → NewDv W B (some ⟨g, 0, none⟩) n n (some ⟨g', 0, none⟩) m m (bs.map BkR.D) fs ts → Calls Tryz.prog 12 #[.agg #[.slice (some ⟨g, 0, none⟩) n n, .int .i64 ops, .slice (some ⟨g', 0, none⟩) m m, .bool down], .int .i64 x0, .slice (some ⟨gb, 0, none⟩) lb lb] W fun e w' => ∃ a c fa fc qs, e = .returned (.tuple #[.agg #[.slice a n c, .int .i64 oE, .slice fa m fc, .bool wE], .int .i64 code]) ∧ NewDv w' W.heap.size a n c fa m fc dE fs qs ∧ Below W.heap.size W w' := fun W B g g' gb ts hE hb h => by
    have := devPrI (some ⟨g, 0, none⟩) n n ts ops (some ⟨g', 0, none⟩) m m fs down x0 gb lb zs W (HCF.out W B g g' ts h).1 (HCF.out W B g g' ts h).2 hzl (by omega) hb hE
    rw [h.bs.D, hdE] at this
    exact this.mono fun e w' hA => by
      obtain ⟨a, k, c, fa, j, fc, qs, e1, e2, e3, e4⟩ := hA
      have hk : k = n := by rw [← e3, e2.bs.len, HE.out]
      have hj : j = m := by rw [← OwnE.len e2.fs, hnf]
      subst hk hj
      dsimp only at e1 e2
      rw [hoE, hwE, hcode] at e1
      exact ⟨a, c, fa, fc, qs, e1, e2, e4⟩
  have hcb : Hid (∀ ts : List BkR, ts.map BkR.D = bs.map BkR.D → 1 + cBs ts + 3 * m ≤ 9999990) := fun ts h => by
    have := cBs_le ts
    rw [h] at this
    have h2 := htot.out
    have h3 := hmt.out
    omega
  have hcbE : Hid (∀ ts : List BkR, ts.map BkR.D = dE → 1 + cBs ts + 3 * m ≤ 9999990) := fun ts h => by
    have := cBs_le ts
    rw [h] at this
    have h2 := HT.out
    have h3 := hmt.out
    omega
  have CS : Hid _ := cS
  have CI : Hid _ := cI
  have HG : Hid (EtCell w) := hg
  have hoo : (code != code) = false := by simp
  clear cS cI hr hn hi hm B0 z0 b1 hdE hoE hwE hnf hrf hcode hg hzl hrb
  have q0 := (z1).cell 0
  have q1 := (z1).cell 1
  have q2 := (z1).cell 2
  have q3 := (z1).cell 3
  simp at q0 q1 q2 q3
  obtain ⟨G0, hG0⟩ : ∃ G, w.heap.size = G := ⟨_, rfl⟩
  have hG0' : Hid (w.heap.size = G0) := hG0
  rw [hG0] at z1 q0 q1 q2 q3 ⊢
  go_wp2_with fail
  refine (CA.out w1 (HRA.out _ B1)).mono ?_
  rintro e w2 ⟨gA, hA, tA, rfl, qA, b2⟩
  have B2 := B1.trans (b2.mono B1.size)
  have z2 := z1.keep b2
  clear q0 q1 q2 q3 z1 b2
  go_wp2_with fail
  refine (CBy.out w2 (Rd.keep HRBB.out B2)).mono ?_
  rintro e w2b ⟨rfl, oA, bb⟩
  replace B2 := B2.trans (bb.mono B2.size)
  replace z2 := z2.keep bb
  replace qA := qA.keep bb
  have hz2 := z2.lt
  clear bb
  obtain ⟨Ga2, hGA⟩ : ∃ G, w2.heap.size = G := ⟨_, rfl⟩
  rw [hGA] at oA ⊢
  clear hGA
  go_wp2_with fail
  refine (CS.out w2b _ gA hA Ga2 tA oA.rd qA).mono ?_
  rintro e w3 ⟨aS, cpS, fS, kS, tS, rfl, qS, b3⟩
  clear oA
  have B3 := B2.trans (b3.mono B2.size)
  have z3 := z2.keep b3
  have b3' : Below w3.heap.size w3 (w3.alloc (.cells #[.slice aS n cpS, .int .i64 oE, .slice fS m kS, .bool wE] 35)) := (Below.refl _ w3).alloc (Nat.le_refl _) _
  have s3 := Blk.new w3 35 #[.slice aS n cpS, .int .i64 oE, .slice fS m kS, .bool wE]
  have q0 := (z3.keep b3').cell 0
  have q1 := (z3.keep b3').cell 1
  have q2 := (z3.keep b3').cell 2
  have q3 := (z3.keep b3').cell 3
  simp at q0 q1 q2 q3
  clear qA z2 b3
  go_wp2_with fail
  obtain ⟨W3, hW3⟩ : ∃ W, w3.alloc (.cells #[.slice aS n cpS, .int .i64 oE, .slice fS m kS, .bool wE] 35) = W := ⟨_, rfl⟩
  rw [hW3] at b3' s3 q0 q1 q2 q3 ⊢
  clear hW3
  obtain ⟨GS, hGS⟩ : ∃ G, w3.heap.size = G := ⟨_, rfl⟩
  have hSl : Hid (∀ g ∈ fpDv aS n cpS fS m kS tS, G0 < g ∧ g < GS) := fun g hg => by
    have h1 := qS.from g hg
    have h2 := qS.lt g hg
    exact ⟨by omega, by omega⟩
  rw [hGS] at s3 ⊢
  have hG0S : G0 < GS := by have := z3.lt; omega
  have B3' := B3.trans (b3'.mono B3.size)
  have z3' := z3.keep b3'
  have qS3 := qS.keep b3'
  have hGS3 := s3.lt
  clear qS z3 b3' B3 hGS
  refine (CA.out W3 (HRA.out _ B3')).mono ?_
  rintro e w4 ⟨gB, hB, tB, rfl, qB, b4⟩
  have B4 := B3'.trans (b4.mono B3'.size)
  have z4 := z3'.keep b4
  have s4 := s3.keep b4
  have qS4 := qS3.keep b4
  have b5 : Below w4.heap.size w4 (w4.alloc (.cells #[.slice (some ⟨gB, 0, none⟩) n n, .int .i64 ops, .slice (some ⟨hB, 0, none⟩) m m, .bool down] 35)) := (Below.refl _ w4).alloc (Nat.le_refl _) _
  have m5 := Blk.new w4 35 #[.slice (some ⟨gB, 0, none⟩) n n, .int .i64 ops, .slice (some ⟨hB, 0, none⟩) m m, .bool down]
  clear q0 q1 q2 q3 z3' b4 qS3 s3 B3'
  go_wp2_with fail
  obtain ⟨W5, hW5⟩ : ∃ W, w4.alloc (.cells #[.slice (some ⟨gB, 0, none⟩) n n, .int .i64 ops, .slice (some ⟨hB, 0, none⟩) m m, .bool down] 35) = W := ⟨_, rfl⟩
  rw [hW5] at b5 m5 ⊢
  clear hW5
  obtain ⟨G4, hG4⟩ : ∃ G, w4.heap.size = G := ⟨_, rfl⟩
  have hBl : Hid (∀ g ∈ fpDv (some ⟨gB, 0, none⟩) n n (some ⟨hB, 0, none⟩) m m tB, GS < g ∧ g < G4) := fun g hg => by
    have h1 := qB.from g hg
    have h2 := qB.lt g hg
    exact ⟨by omega, by omega⟩
  rw [hG4] at m5 ⊢
  have hGS4 : GS < G4 := by have := s4.lt; omega
  have B5 := B4.trans (b5.mono B4.size)
  have z5 := z4.keep b5
  have s5 := s4.keep b5
  have qS5 := qS4.keep b5
  have qB5 := qB.keep b5
  have hG45 := m5.lt
  clear qB z4 s4 b5 qS4 B4 hG4
  refine (CBy.out W5 (Rd.keep HRBB.out B5)).mono ?_
  rintro e w5b ⟨rfl, oX', bb⟩
  have oX : RowB w5b (.slice (some ⟨W5.heap.size, 0, none⟩) lb lb) lb zs := OwnV.rowB oX'
  have hoX := Own.lt oX'
  clear oX'
  replace B5 := B5.trans (bb.mono B5.size)
  replace z5 := z5.keep bb
  replace s5 := s5.keep bb
  replace m5 := m5.keep bb
  replace qS5 := qS5.keep bb
  replace qB5 := qB5.keep bb
  clear bb
  obtain ⟨Gx2, hGx2⟩ : ∃ G, W5.heap.size = G := ⟨_, rfl⟩
  rw [hGx2] at oX hoX hG45 ⊢
  clear hGx2
  have p0 := m5.cell 0
  have p1 := m5.cell 1
  have p2 := m5.cell 2
  have p3 := m5.cell 3
  simp at p0 p1 p2 p3
  go_wp2_with fail
  clear p0 p1 p2 p3
  refine (CI.out w5b _ gB hB Gx2 tB (HG.out.keep B5) oX.rdS qB5).mono ?_
  rintro e w6 ⟨aI, cpI, fI, kI, tI, rfl, qI, b6⟩
  have B6 := B5.trans (b6.mono B5.size)
  have z6 := z5.keep b6
  have s6 := s5.keep b6
  have m6 := m5.keep b6
  have qB6 := qB5.keep b6
  have qS6 := qS5.keep b6
  have oX6 := oX.keepB b6
  clear oX
  have b6' : Below w6.heap.size w6 (w6.alloc (.cells #[.slice aI n cpI, .int .i64 oE, .slice fI m kI, .bool wE] 35)) := (Below.refl _ w6).alloc (Nat.le_refl _) _
  have i6 := Blk.new w6 35 #[.slice aI n cpI, .int .i64 oE, .slice fI m kI, .bool wE]
  have sx0 := (s6.keep b6').cell 0
  have sx1 := (s6.keep b6').cell 1
  have sx2 := (s6.keep b6').cell 2
  have sx3 := (s6.keep b6').cell 3
  simp at sx0 sx1 sx2 sx3
  clear qB5 z5 m5 b6 qS5 s5 B5
  go_wp2_with fail
  obtain ⟨W6, hW6⟩ : ∃ W, w6.alloc (.cells #[.slice aI n cpI, .int .i64 oE, .slice fI m kI, .bool wE] 35) = W := ⟨_, rfl⟩
  rw [hW6] at b6' i6 sx0 sx1 sx2 sx3 ⊢
  clear hW6 sx0 sx1 sx2 sx3
  obtain ⟨GI, hGI⟩ : ∃ G, w6.heap.size = G := ⟨_, rfl⟩
  have hIl : Hid (∀ g ∈ fpDv aI n cpI fI m kI tI, G4 < g ∧ g < GI ∧ Gx2 < g) := fun g hg => by
    have h1 := qI.from g hg
    have h2 := qI.lt g hg
    exact ⟨by omega, by omega, by omega⟩
  rw [hGI] at i6 ⊢
  have hG4I : G4 < GI := by have := m6.lt; omega
  have hGXI : Gx2 < GI := by have := (RowB.at_ oX6 (g := Gx2) rfl).1; omega
  have B6' := B6.trans (b6'.mono B6.size)
  have z6' := z6.keep b6'
  have s6' := s6.keep b6'
  have m6' := m6.keep b6'
  have qB6' := qB6.keep b6'
  have qS6' := qS6.keep b6'
  have qI6' := qI.keep b6'
  have oX6' := oX6.keepB b6'
  clear qB6 z6 m6 b6' qS6 s6 B6 qI hGI oX6
  refine (eqDv oE wE HE.out (Nat.le_trans HT.out (by omega)) hmt.out qI6' qS6').mono ?_
  rintro e w7 ⟨rfl, b7⟩
  have B7 := B6'.trans (b7.mono B6'.size)
  have z7 := z6'.keep b7
  have s7 := s6'.keep b7
  have m7 := m6'.keep b7
  have i7 := i6.keep b7
  have qB7 := qB6'.keep b7
  have qS7 := qS6'.keep b7
  have qI7 := qI6'.keep b7
  have oX7 := oX6'.keepB b7
  clear qB6' z6' m6' b7 qS6' s6' B6' qI6' i6 oX6'
  have q0 := z7.cell 0
  have q1 := z7.cell 1
  have q2 := z7.cell 2
  have q3 := z7.cell 3
  have p0 := m7.cell 0
  have p1 := m7.cell 1
  have p2 := m7.cell 2
  have p3 := m7.cell 3
  simp at q0 q1 q2 q3 p0 p1 p2 p3
  have r7 := HRA.out _ B7.drew
  have b7d := (Below.refl w7.heap.size w7).drew
  have qB7d := qB7.keep b7d
  have m7d := m7.keep b7d
  have HC7 : Hid (NewDv w7.drew W3.heap.size (some ⟨gB, 0, none⟩) n n (some ⟨hB, 0, none⟩) m m (bs.map BkR.D) fs tB ∧ NewDv w7.drew w2b.heap.size aS n cpS fS m kS dE fs tS ∧ NewDv w7.drew w5b.heap.size aI n cpI fI m kI dE fs tI ∧ Blk w7.drew G0 27 #[.slice a n cap, .int .i64 ops, .slice fa m fc, .bool down] ∧ Blk w7.drew GS 35 #[.slice aS n cpS, .int .i64 oE, .slice fS m kS, .bool wE] ∧ Blk w7.drew G4 35 #[.slice (some ⟨gB, 0, none⟩) n n, .int .i64 ops, .slice (some ⟨hB, 0, none⟩) m m, .bool down] ∧ Blk w7.drew GI 35 #[.slice aI n cpI, .int .i64 oE, .slice fI m kI, .bool wE] ∧ RowB w7.drew (.slice (some ⟨Gx2, 0, none⟩) lb lb) lb zs ∧ Below w.heap.size w w7.drew) := ⟨qB7d, qS7.keep b7d, qI7.keep b7d, z7.keep b7d, s7.keep b7d, m7d, i7.keep b7d, oX7.keepB b7d, B7.drew⟩
  clear qB7 z7 m7 b7d B7 qS7 qI7 s7 i7 oX7
  go_wp2
  go_region_with (first
    | (go_at_call 10; (with_reducible refine (CA.out _ r7).mono ?_); rintro e wA ⟨gC, hC, tC, rfl, qC, b9⟩; have qAA := qB7d.keep b9; have t0 := (m7d.keep b9).cell 0; have t1 := (m7d.keep b9).cell 1; have t2 := (m7d.keep b9).cell 2; have t3 := (m7d.keep b9).cell 3; simp at t0 t1 t2 t3)
    | (go_at_call 13; refine (eqDv ops down HN.out (Nat.le_trans htot.out (by omega)) hmt.out qAA qC).mono ?_; rintro e w8 ⟨rfl, b10⟩))
  all_goals
    have b11 := b9.trans (b10.mono b9.size)
    obtain ⟨qB8, qS8, qI8, z8, s8, m8, i8, oX8, B8⟩ := HC7.out
    replace qB8 := qB8.keep b11
    replace qS8 := qS8.keep b11
    replace qI8 := qI8.keep b11
    replace z8 := z8.keep b11
    replace s8 := s8.keep b11
    replace m8 := m8.keep b11
    replace i8 := i8.keep b11
    replace oX8 := oX8.keepB b11
    replace B8 := B8.trans (b11.mono B8.size)
    clear b9 b10 b11 qC qAA r7 qB7d m7d q0 q1 q2 q3 p0 p1 p2 p3 HC7
    try clear t0 t1 t2 t3
    go_wp2_with fail
    refine (CBy.out w8 (Rd.keep HRBB.out B8)).mono ?_
    rintro e w8b ⟨rfl, oC, bb⟩
    replace oX8 := oX8.keepB bb
    obtain ⟨Gc2, hGC⟩ : ∃ G, w8.heap.size = G := ⟨_, rfl⟩
    rw [hGC] at oC ⊢
    clear hGC
    go_wp2_with fail
    refine (eqByteS_true (some ⟨Gx2, 0, none⟩) (some ⟨Gc2, 0, none⟩) lb lb lb zs w8b HZL.out (by omega) oX8.rdS oC.rd).mono ?_
    rintro e w8c ⟨rfl, bc⟩
    replace bb := bb.trans (bc.mono bb.size)
    replace oX8 := oX8.keepB bc
    replace qB8 := qB8.keep bb
    replace qS8 := qS8.keep bb
    replace qI8 := qI8.keep bb
    replace z8 := z8.keep bb
    replace s8 := s8.keep bb
    replace m8 := m8.keep bb
    replace i8 := i8.keep bb
    replace B8 := B8.trans (bb.mono B8.size)
    clear bb bc oC
    have p0 := m8.cell 0
    have p1 := m8.cell 1
    have p2 := m8.cell 2
    have p3 := m8.cell 3
    simp at p0 p1 p2 p3
    go_wp2_with fail
    have hcbo := hcb.out tB qB8.bs.D
    refine (markDv_any ops down hcbo qB8).mono ?_
    rintro e w9 ⟨rfl, _, sv9⟩
    have qS9 := qS8.svs sv9 (fun g hg hf => by have := hSl.out g hg; have := hBl.out g hf; omega)
    have qI9 := qI8.svs sv9 (fun g hg hf => by have := hIl.out g hg; have := hBl.out g hf; omega)
    have z9 := Blk.svs z8 sv9 (fun hf => by have := hBl.out G0 hf; omega)
    have s9 := Blk.svs s8 sv9 (fun hf => by have := hBl.out GS hf; omega)
    have i9 := Blk.svs i8 sv9 (fun hf => by have := hBl.out GI hf; omega)
    have B9 : Below w.heap.size w w9 := Below.svs B8 sv9 (fun g hg => by have := hBl.out g hg; have := hG0'.out; omega) (Nat.le_refl _)
    have oX9 := oX8.svs sv9 (fun g hg hf => by
      have h1 := hBl.out g hf
      have h2 : Gx2 = g := by simpa [Value.ownBlock] using hg
      omega)
    obtain ⟨Q, hQ⟩ : ∃ Q, 1 + cBs tB + 3 * m = Q := ⟨_, rfl⟩
    rw [hQ]
    have hQ1 : 1 ≤ Q := by omega
    have hQ2 : Q + lb ≤ 9999990 := by have h1 := cBs_le tB; rw [qB8.bs.D] at h1; have h2 := htot.out; have h3 := hmt.out; omega
    clear hQ hcbo sv9 qS8 qI8 z8 s8 m8 i8 B8 qB8 p0 p1 p2 p3 oX8
    go_wp2_with fail
    refine (markBG (.slice (some ⟨Gx2, 0, none⟩) lb lb) lb Q zs w9 hQ1 hQ2 oX9).mono ?_
    rintro e w9b ⟨rfl, _, hgr⟩
    have sv9 : Sv [Gx2] w9 w9b := Sv.gr hgr (fun g hg => by simp [Value.ownBlock] at hg; simp [hg])
    replace qS9 := qS9.svs sv9 (fun g hg hf => by have h1 := hSl.out g hg; have h2 : g = Gx2 := (by simpa using hf); omega)
    replace qI9 := qI9.svs sv9 (fun g hg hf => by have h1 := hIl.out g hg; have h2 : g = Gx2 := (by simpa using hf); omega)
    replace z9 := Blk.svs z9 sv9 (fun hf => by have h2 : G0 = Gx2 := (by simpa using hf); omega)
    replace s9 := Blk.svs s9 sv9 (fun hf => by have h2 : GS = Gx2 := (by simpa using hf); omega)
    replace i9 := Blk.svs i9 sv9 (fun hf => by have h2 : GI = Gx2 := (by simpa using hf); omega)
    replace B9 : Below w.heap.size w w9b := Below.svs B9 sv9 (fun g hg => by have h2 : g = Gx2 := (by simpa using hg); have := hG0'.out; omega) (Nat.le_refl _)
    obtain ⟨QL, hQL⟩ : ∃ QL, Q + lb = QL := ⟨_, rfl⟩
    rw [hQL]
    have hQ0 : ¬ (QL : Int) < 0 := by omega
    clear hQL sv9 hgr oX9
    have sx0 := s9.cell 0
    have sx1 := s9.cell 1
    have sx2 := s9.cell 2
    have sx3 := s9.cell 3
    have i0 := i9.cell 0
    have i1 := i9.cell 1
    have i2 := i9.cell 2
    have i3 := i9.cell 3
    simp at sx0 sx1 sx2 sx3 i0 i1 i2 i3
    go_wp2_with fail
    refine (eqDv oE wE HE.out (Nat.le_trans HT.out (by omega)) hmt.out qI9 qS9).mono ?_
    rintro e w10 ⟨rfl, b10⟩
    have qS10 := qS9.keep b10
    have qI10 := qI9.keep b10
    have z10 := z9.keep b10
    have s10 := s9.keep b10
    have i10 := i9.keep b10
    have B10 := B9.trans (b10.mono B9.size)
    clear qS9 qI9 z9 s9 i9 B9 b10 sx0 sx1 sx2 sx3 i0 i1 i2 i3
    have i0 := i10.cell 0
    have i1 := i10.cell 1
    have i2 := i10.cell 2
    have i3 := i10.cell 3
    simp at i0 i1 i2 i3
    have hcbI := hcbE.out tI qI10.bs.D
    go_wp2_with fail
    refine (markDv_any oE wE hcbI qI10).mono ?_
    rintro e w11 ⟨rfl, oI, sv11⟩
    have qS11 := qS10.svs sv11 (fun g hg hf => by have := hSl.out g hg; have := hIl.out g hf; omega)
    have z11 := Blk.svs z10 sv11 (fun hf => by have := hIl.out G0 hf; omega)
    have s11 := Blk.svs s10 sv11 (fun hf => by have := hIl.out GS hf; omega)
    have i11 := Blk.svs i10 sv11 (fun hf => by have := hIl.out GI hf; omega)
    have B11 : Below w.heap.size w w11 := Below.svs B10 sv11 (fun g hg => by have := hIl.out g hg; have := hG0'.out; omega) (Nat.le_refl _)
    obtain ⟨M, hM⟩ : ∃ M, 1 + cBs tI + 3 * m = M := ⟨_, rfl⟩
    have CH : Hid (∀ W : World, MkDv W (.slice aI n cpI) m kI fI tI → Calls Tryz.prog 17 #[.agg #[.slice aI n cpI, .int .i64 oE, .slice fI m kI, .bool wE], .int .i64 1] W fun e w' => e = .returned (.int .i64 (M : Int)) ∧ Below W.heap.size W w') := fun W h => heldDv_any oE wE M hM hcbI h
    rw [hM]
    have hM0 : ¬ (M : Int) < 0 := by omega
    have hMM : ((M : Int) != (M : Int)) = false := by simp
    clear hM hcbI sv11 qS10 qI10 z10 s10 i10 B10 i0 i1 i2 i3
    have i0 := i11.cell 0
    have i1 := i11.cell 1
    have i2 := i11.cell 2
    have i3 := i11.cell 3
    simp at i0 i1 i2 i3
    go_wp2_with fail
    refine (CH.out w11 oI).mono ?_
    rintro e w12 ⟨rfl, b12⟩
    have qS12 := qS11.keep b12
    have oI12 := oI.keep b12
    have z12 := z11.keep b12
    have s12 := s11.keep b12
    have i12 := i11.keep b12
    have B12 := B11.trans (b12.mono B11.size)
    clear qS11 oI z11 s11 i11 B11 b12 i0 i1 i2 i3
    have q0 := z12.cell 0
    have q1 := z12.cell 1
    have q2 := z12.cell 2
    have q3 := z12.cell 3
    simp at q0 q1 q2 q3
    go_wp2_with fail
    refine (CA.out w12 (HRA.out _ B12)).mono ?_
    rintro e w13 ⟨gD, hD, tD, rfl, qD, b13⟩
    have qS13 := qS12.keep b13
    have oI13 := oI12.keep b13
    have s13 := s12.keep b13
    have i13 := i12.keep b13
    have B13 := B12.trans (b13.mono B12.size)
    clear qS12 oI12 z12 s12 i12 B12 b13 q0 q1 q2 q3
    go_wp2_with fail
    refine (CBy.out w13 (Rd.keep HRBB.out B13)).mono ?_
    rintro e w13b ⟨rfl, oD, bb⟩
    replace qD := qD.keep bb
    replace qS13 := qS13.keep bb
    replace oI13 := oI13.keep bb
    replace s13 := s13.keep bb
    replace i13 := i13.keep bb
    replace B13 := B13.trans (bb.mono B13.size)
    clear bb
    obtain ⟨Gd2, hGD⟩ : ∃ G, w13.heap.size = G := ⟨_, rfl⟩
    rw [hGD] at oD ⊢
    clear hGD
    go_wp2_with fail
    refine (CI.out w13b _ gD hD Gd2 tD (HG.out.keep B13) oD.rd qD).mono ?_
    rintro e w14 ⟨aJ, cpJ, fJ, kJ, tJ, rfl, qJ, b14⟩
    have qS14 := qS13.keep b14
    have oI14 := oI13.keep b14
    have s14 := s13.keep b14
    have i14 := i13.keep b14
    have B14 := B13.trans (b14.mono B13.size)
    have b15 : Below w14.heap.size w14 (w14.alloc (.cells #[.slice aJ n cpJ, .int .i64 oE, .slice fJ m kJ, .bool wE] 35)) := (Below.refl _ w14).alloc (Nat.le_refl _) _
    have sx0 := (s14.keep b15).cell 0
    have sx1 := (s14.keep b15).cell 1
    have sx2 := (s14.keep b15).cell 2
    have sx3 := (s14.keep b15).cell 3
    simp at sx0 sx1 sx2 sx3
    clear qS13 oI13 s13 i13 B13 b14 qD oD
    go_wp2_with fail
    obtain ⟨W15, hW15⟩ : ∃ W, w14.alloc (.cells #[.slice aJ n cpJ, .int .i64 oE, .slice fJ m kJ, .bool wE] 35) = W := ⟨_, rfl⟩
    rw [hW15] at b15 sx0 sx1 sx2 sx3 ⊢
    clear hW15 sx0 sx1 sx2 sx3
    have qS15 := qS14.keep b15
    have qJ15 := qJ.keep b15
    have oI15 := oI14.keep b15
    have i15 := i14.keep b15
    have B15 := B14.trans (b15.mono B14.size)
    clear qS14 qJ oI14 s14 i14 B14 b15
    refine (eqDv oE wE HE.out (Nat.le_trans HT.out (by omega)) hmt.out qJ15 qS15).mono ?_
    rintro e w16 ⟨rfl, b16⟩
    have oI16 := oI15.keep b16
    have i16 := i15.keep b16
    have B16 := B15.trans (b16.mono B15.size)
    clear qS15 qJ15 oI15 i15 B15 b16
    have i0 := i16.cell 0
    have i1 := i16.cell 1
    have i2 := i16.cell 2
    have i3 := i16.cell 3
    simp at i0 i1 i2 i3
    go_wp2_with fail
    refine (CH.out w16 oI16).mono ?_
    rintro e w17 ⟨rfl, b17⟩
    have B17 := B16.trans (b17.mono B16.size)
    clear oI16 i16 B16 b17 i0 i1 i2 i3
    go_wp2
    go_ret
    rw [← hG0'.out]
    exact ⟨rfl, B17⟩
end
end Go.Proofs.YtkhgafmhbibikaaGreatDoor

