/-
  Two file systems compared: the program's functions, the specification's.
-/
import Derived.Test.YtfjlemnohjnkhaaRows
import Derived.Test.YtfjlemnohjnkhaaBase
import Derived.Test.YtfjlemnohjnkhaaName
import Derived.Test.YtfjlemnohjnkhaaPairs
import Derived.Test.YtfjlemnohjnkhaaInode
import Derived.Test.YtfjlemnohjnkhaaSix
import Derived.Test.YtfjlemnohjnkhaaTabM
import Derived.Test.YtfjlemnohjnkhaaMarkI
import Derived.Test.YtfjlemnohjnkhaaPuts
import Derived.Test.YtfjlemnohjnkhaaMarkIno
import Derived.Test.YtfjlemnohjnkhaaMarkGI
import Derived.Test.YtfjlemnohjnkhaaTabW
import Derived.Test.YtfjlemnohjnkhaaVolM
import Derived.Test.YtfjlemnohjnkhaaEqFs
import Derived.Test.YtfjlemnohjnkhaaSameT
import Derived.Test.YtfjlemnohjnkhaaSameV
import Derived.Test.YtfjlemnohjnkhaaSameTS
import Derived.WalkKit
import Derived.WalkSpells
import Derived.WalkLawsBesides
import Derived.Deep.QuietTactic
import Derived.BigQuiet
import Derived.OpenShut
import Derived.Laws.BitsAllLaws
import Derived.Maps.AppendAt
import Derived.Lib.SliceRun
import Derived.Lib.Strings
import Derived.Deep.RegionWith
import Derived.Laws.IdiomStrings
import Derived.Deep.Slices
import Derived.ProofKit
import Derived.ChangeOld
import Derived.Below
import Derived.Deep.DeepCutAuto
import Derived.Lib.AppendStr
import Derived.Lib.ConvBytes
import Derived.Deep.RegionHeld3
import Derived.Deep.AppendLies
import Derived.Deep.AppendSrc
import Derived.Maps.OwnSet
import Derived.Maps.OwnOps
import Derived.Deep.RegionLaw
import Derived.Lib.Slices
import Derived.Lib.Walk
import Derived.Lib.Bytealg
import Derived.Lib.IndexLaws
import Derived.Lib.BufferWrite
import Derived.Lib.UnsafeStr
import Derived.Laws.MakeOwn
import Derived.Laws.Strings3
import Derived.RangeFuncBox
import Derived.RangeFuncNested
import Derived.RangeFuncBound
import Derived.RangeFuncCalls
import Derived.RangeFuncLeaves
import Derived.Shelf.Abstract
import Derived.Shelf.RegionOpen
import Derived.OwnWalkIn
import Derived.TacticsInMore
import Derived.LoopNIn
import Derived.LoopIn
import Derived.Laws.StructEq
import Derived.Laws.BytesString
import Derived.OwnWalk
import Derived.Deep.DeepAppendRoom
import Derived.Lib.AppendZerosOnto
import Derived.Laws.CopyRow
namespace Go.Proofs.Ytfjlemnohjnkhaa
open Go.RowKit
/-- All are the same, one by one. -/
def sameAllV : List VolD → List VolD → Bool
  | [], [] => true
  | d :: ds, e :: es => sameVD d e && sameAllV ds es
  | _, _ => false
theorem sameAllV_len {ds es : List VolD} (h : ds.length ≠ es.length) : sameAllV ds es = false := by
  induction ds generalizing es with
  | nil => cases es with
    | nil => simp at h
    | cons e es => rfl
  | cons d ds ih => cases es with
    | nil => rfl
    | cons e es =>
      simp only [sameAllV]
      rw [ih (by simpa using h), Bool.and_false]
theorem sameVol_r (r t : VolR) (w : World) (h1 : VolSmall r) (h2 : VolSmall t) (hr : r.rd w) (hr' : t.rd w) :
    Calls Try.prog 30 #[r.v, t.v] w fun e w' => e = .returned (.bool (sameVD r.D t.D)) ∧ Below w.heap.size w w' :=
  sameVol_any r.id r.name r.ro r.limit r.a r.rs.length r.cap r.nx r.rs t.id t.name t.ro t.limit t.a t.rs.length t.cap t.nx t.rs w rfl rfl h1.len h2.len h1.ino h2.ino hr hr'
set_option maxHeartbeats 3200000 in
theorem equalFuncV (a a' : Option Addr) (n m cap cap' : Nat) (rs ts : List VolR) (w : World) (hn : rs.length = n) (hm : ts.length = m) (hs : n ≤ 4000000) (hs' : m ≤ 4000000) (h1 : ∀ r ∈ rs, VolSmall r) (h2 : ∀ r ∈ ts, VolSmall r) (hr : RdVo w a rs) (hr' : RdVo w a' ts) :
    Calls Try.prog 29 #[.slice a n cap, .slice a' m cap', .func (.func 30) #[] #[]] w fun e w' => e = .returned (.bool (sameAllV (rs.map VolR.D) (ts.map VolR.D))) ∧ Below w.heap.size w w' := by
  by_cases hnm : n = m
  · subst hnm
    by_cases h0 : n = 0
    · subst h0
      obtain rfl : rs = [] := List.length_eq_zero_iff.1 hn
      obtain rfl : ts = [] := List.length_eq_zero_iff.1 hm
      go_enter Try.func29, Try.ntmps29
      go_wp2
      refine wp_loop_rounds 1 ?_; rw [rounds_succ]
      go_wp2
      go_ret
      exact ⟨rfl, Below.refl _ _⟩
    · obtain ⟨b, off, rfl, hlt, hc⟩ := hr.lt (by intro h; subst h; simp at hn; omega)
      obtain ⟨b', off', rfl, hlt', hc'⟩ := hr'.lt (by intro h; subst h; simp at hm; omega)
      obtain ⟨S, hS⟩ : ∃ S, sameAllV (rs.map VolR.D) (ts.map VolR.D) = S := ⟨_, rfl⟩
      rw [hS]
      have HS0 : Hid _ := hS
      have hn' : Hid (rs.length = n) := hn
      have hm' : Hid (ts.length = n) := hm
      have HC : Hid _ := hc
      have HC' : Hid _ := hc'
      have H1 : Hid _ := h1
      have H2 : Hid _ := h2
      clear hr hr' hn hm hc hc' h1 h2 hS
      go_enter Try.func29, Try.ntmps29
      go_wp2
      go_loopw [17] (fun i wr => ∃ k : Nat, k ≤ n ∧ i = .int .i64 k ∧ Hid (sameAllV ((rs.map VolR.D).drop k) ((ts.map VolR.D).drop k) = S) ∧ Below w.heap.size w wr) (fun i _ => n - (intOf i).toNat)
      case atStart => exact ⟨0, Nat.zero_le _, rfl, HS0, Below.refl _ _⟩
      case round =>
        obtain ⟨k, hk, rfl, hsm, hB⟩ := hrel
        by_cases hkn : k < n
        · have hki : (k : Int) < (n : Int) := by omega
          obtain ⟨r, hrk⟩ : ∃ r, rs[k]? = some r := ⟨_, List.getElem?_eq_getElem (by rw [hn'.out]; exact hkn)⟩
          obtain ⟨t, htk⟩ : ∃ t, ts[k]? = some t := ⟨_, List.getElem?_eq_getElem (by rw [hm'.out]; exact hkn)⟩
          obtain ⟨x6, xr⟩ := HC.out k r hrk
          obtain ⟨y6, yr⟩ := HC'.out k t htk
          have hr1 := H1.out r (List.mem_of_getElem? hrk)
          have ht1 := H2.out t (List.mem_of_getElem? htk)
          have hcall := fun (W : World) (hW : Below w.heap.size w W) => sameVol_r r t W hr1 ht1 (xr.keep hW) (yr.keep hW)
          have hstep : Hid ((sameVD r.D t.D && sameAllV ((rs.map VolR.D).drop (k + 1)) ((ts.map VolR.D).drop (k + 1))) = S) := by
            have := hsm.out
            rw [drop_at (l := rs.map VolR.D) (x := r.D) (by simp [hrk]), drop_at (l := ts.map VolR.D) (k := k) (x := t.D) (by simp [htk])] at this
            exact this
          obtain ⟨x0, x1, x2, x3, x4, x5⟩ := x6.keep hB hlt
          obtain ⟨y0, y1, y2, y3, y4, y5⟩ := y6.keep hB hlt'
          have hwz := hB.size
          have hltr : b < wr.heap.size := by omega
          have hltr' : b' < wr.heap.size := by omega
          unfold VolR.v at hcall
          generalize sameVD r.D t.D = sm at hcall hstep
          obtain ⟨id, name, ro, limit, ra, rc, rnx, rr⟩ := r
          obtain ⟨id', name', ro', limit', ra', rc', rnx', rr'⟩ := t
          dsimp only at x0 x1 x2 x3 x4 x5 y0 y1 y2 y3 y4 y5 hcall
          generalize rr.length = n1 at x4 hcall
          generalize rr'.length = m1 at y4 hcall
          clear hr1 ht1
          have HK : Hid _ := hcall
          clear hcall xr yr x6 y6 hrk htk hsm
          cases sm with
          | true =>
            go_wp2_with fail
            refine (HK.out _ (by exact (hB.alloc hwz _).alloc (by simp; omega) _)).mono ?_
            rintro e w1 ⟨rfl, hb1⟩
            have hB1 : Below w.heap.size w w1 := ((hB.alloc hwz _).alloc (by simp; omega) _).trans (hb1.mono (by simp; omega))
            have hs1 : Hid (sameAllV ((rs.map VolR.D).drop (k + 1)) ((ts.map VolR.D).drop (k + 1)) = S) := by have := hstep.out; rw [Bool.true_and] at this; exact this
            clear x0 x1 x2 x3 x4 x5 y0 y1 y2 y3 y4 y5
            go_wp2
            go_roundw
            case rel => exact ⟨k + 1, by omega, by go_num, hs1, hB1⟩
            case measure => simp [intOf]; omega
          | false =>
            go_wp2_with fail
            refine (HK.out _ (by exact (hB.alloc hwz _).alloc (by simp; omega) _)).mono ?_
            rintro e w1 ⟨rfl, hb1⟩
            have hB1 : Below w.heap.size w w1 := ((hB.alloc hwz _).alloc (by simp; omega) _).trans (hb1.mono (by simp; omega))
            have hs1 : Hid (false = S) := by have := hstep.out; rw [Bool.false_and] at this; exact this
            clear x0 x1 x2 x3 x4 x5 y0 y1 y2 y3 y4 y5
            go_wp2
            go_ret
            exact ⟨ret_bool hs1.out, hB1⟩
        · have hki : ¬ (k : Int) < (n : Int) := by omega
          have hs1 : Hid (true = S) := by
            have := hsm.out
            rw [List.drop_eq_nil_of_le (by simp [hn'.out]; omega), List.drop_eq_nil_of_le (by simp [hm'.out]; omega)] at this
            exact this
          go_wp2
          go_ret
          exact ⟨ret_bool hs1.out, hB⟩
  · have hsf : Hid (sameAllV (rs.map VolR.D) (ts.map VolR.D) = false) := sameAllV_len (by simp [hn, hm, hnm])
    have hb : ((n : Int) == (m : Int)) = false := by simp; omega
    have hb' : ((n : Int) != (m : Int)) = true := by simp; omega
    go_enter Try.func29, Try.ntmps29
    go_wp2
    go_ret
    exact ⟨ret_bool hsf.out.symm, Below.refl _ _⟩
/-- What both SameFs functions answer. -/
def sameFsOf (nx ny : Int) (vs us : List VolD) : Bool := (nx == ny) && sameAllV vs us
set_option maxHeartbeats 1600000 in
theorem sameFsI (a a' : Option Addr) (n m cap cap' : Nat) (nx ny : Int) (rs ts : List VolR) (w : World) (hn : rs.length = n) (hm : ts.length = m) (hs : n ≤ 4000000) (hs' : m ≤ 4000000) (h1 : ∀ r ∈ rs, VolSmall r) (h2 : ∀ r ∈ ts, VolSmall r) (hr : RdVo w a rs) (hr' : RdVo w a' ts) :
    Calls Try.prog 19 #[.agg #[.slice a n cap, .int .i64 nx], .agg #[.slice a' m cap', .int .i64 ny]] w fun e w' => e = .returned (.bool (sameFsOf nx ny (rs.map VolR.D) (ts.map VolR.D))) ∧ Below w.heap.size w w' := by
  have B0 : Below w.heap.size w ((w.alloc (.cells #[.slice a n cap, .int .i64 nx] 24)).alloc (.cells #[.slice a' m cap', .int .i64 ny] 24)) := ((Below.refl _ w).alloc (Nat.le_refl _) _).alloc (by simp) _
  have hcall := equalFuncV a a' n m cap cap' rs ts _ hn hm hs hs' h1 h2 (hr.keep B0) (hr'.keep B0)
  have HE : Hid (sameFsOf nx ny (rs.map VolR.D) (ts.map VolR.D) = ((nx == ny) && sameAllV (rs.map VolR.D) (ts.map VolR.D))) := rfl
  generalize sameFsOf nx ny (rs.map VolR.D) (ts.map VolR.D) = R at HE ⊢
  generalize sameAllV (rs.map VolR.D) (ts.map VolR.D) = S at hcall HE
  have HB : Hid _ := B0
  clear h1 h2 hr hr' hn hm B0
  cases hxy : nx == ny with
  | true =>
    go_enter Try.func19, Try.ntmps19
    go_wp2_with fail
    refine hcall.mono ?_
    rintro e w1 ⟨rfl, hb1⟩
    go_wp2
    go_ret
    exact ⟨ret_bool (by rw [HE.out, hxy]; rfl), HB.out.trans (hb1.mono HB.out.size)⟩
  | false =>
    go_enter Try.func19, Try.ntmps19
    go_wp2
    go_ret
    exact ⟨ret_bool (by rw [HE.out, hxy]; rfl), HB.out⟩
set_option maxRecDepth 100000 in
set_option maxHeartbeats 8000000 in
theorem sameFsS (a a' : Option Addr) (n m cap cap' : Nat) (nx ny : Int) (rs ts : List VolR) (w : World) (hn : rs.length = n) (hm : ts.length = m) (hs : n ≤ 4000000) (hs' : m ≤ 4000000) (h1 : ∀ r ∈ rs, VolSmall r) (h2 : ∀ r ∈ ts, VolSmall r) (hr : RdVo w a rs) (hr' : RdVo w a' ts) :
    Calls Try.prog 18 #[.agg #[.slice a n cap, .int .i64 nx], .agg #[.slice a' m cap', .int .i64 ny]] w fun e w' => e = .returned (.bool (sameFsOf nx ny (rs.map VolR.D) (ts.map VolR.D))) ∧ Below w.heap.size w w' := by
  have B0 : Below w.heap.size w ((w.alloc (.cells #[.slice a n cap, .int .i64 nx] 24)).alloc (.cells #[.slice a' m cap', .int .i64 ny] 24)) := ((Below.refl _ w).alloc (Nat.le_refl _) _).alloc (by simp) _
  have HE : Hid (sameFsOf nx ny (rs.map VolR.D) (ts.map VolR.D) = ((nx == ny) && sameAllV (rs.map VolR.D) (ts.map VolR.D))) := rfl
  generalize sameFsOf nx ny (rs.map VolR.D) (ts.map VolR.D) = R at HE ⊢
  have HB : Hid _ := B0
  cases hxy : nx == ny with
  | false =>
    have hxy' : (nx != ny) = true := by simp [bne, hxy]
    go_enter Try.func18, Try.ntmps18
    go_wp2
    go_ret
    exact ⟨ret_bool (by rw [HE.out, hxy]; rfl), HB.out⟩
  | true =>
    have hxy' : (nx != ny) = false := by simp [bne, hxy]
    by_cases hnm : n = m
    · subst hnm
      have z0 := (Blk.new w 24 #[.slice a n cap, .int .i64 nx]).alloc (.cells #[.slice a' n cap', .int .i64 ny] 24)
      have z1 := Blk.new (w.alloc (.cells #[.slice a n cap, .int .i64 nx] 24)) 24 #[.slice a' n cap', .int .i64 ny]
      simp only [World.size_alloc] at z1
      have hb : ((n : Int) == (n : Int)) = true := by simp
      have hb' : ((n : Int) != (n : Int)) = false := by simp
      have hr0 := hr.keep B0
      have hr0' := hr'.keep B0
      clear hr hr'
      have HS0 : Hid (sameAllV (rs.map VolR.D) (ts.map VolR.D) = R) := by show _ = _; rw [HE.out, hxy]; rfl
      by_cases h0 : n = 0
      · subst h0
        obtain rfl : rs = [] := List.length_eq_zero_iff.1 hn
        obtain rfl : ts = [] := List.length_eq_zero_iff.1 hm
        clear h1 h2 z0 z1 B0
        go_enter Try.func18, Try.ntmps18
        go_wp2
        refine wp_loop_rounds 1 ?_; rw [rounds_succ]
        go_wp2
        go_ret
        exact ⟨ret_bool HS0.out, HB.out⟩
      · obtain ⟨b, off, rfl, hlt, hc⟩ := hr0.lt (by intro h; subst h; simp at hn; omega)
        obtain ⟨b', off', rfl, hlt', hc'⟩ := hr0'.lt (by intro h; subst h; simp at hm; omega)
        have hn' : Hid (rs.length = n) := hn
        have hm' : Hid (ts.length = n) := hm
        have H1 : Hid _ := h1
        have H2 : Hid _ := h2
        have HC0 : Hid _ := hc
        have HC0' : Hid _ := hc'
        clear hn hm h1 h2 hc hc' hr0 hr0'
        go_enter Try.func18, Try.ntmps18
        go_wp2
        obtain ⟨W0, hW0⟩ : ∃ W, (w.alloc (.cells #[.slice (some ⟨b, off, none⟩) n cap, .int .i64 nx] 24)).alloc (.cells #[.slice (some ⟨b', off', none⟩) n cap', .int .i64 ny] 24) = W := ⟨_, rfl⟩
        rw [hW0] at B0 z0 z1 HC0 HC0' hlt hlt' ⊢
        clear HB
        have hws := B0.size
        clear hW0
        go_loopw [5] (fun i wr => ∃ k : Nat, k ≤ n ∧ i = .int .i64 k ∧ Hid (sameAllV ((rs.map VolR.D).drop k) ((ts.map VolR.D).drop k) = R) ∧ Below W0.heap.size W0 wr) (fun i _ => n - (intOf i).toNat)
        case atStart => exact ⟨0, Nat.zero_le _, rfl, HS0, Below.refl _ _⟩
        case round =>
          obtain ⟨k, hk, rfl, hsm, hB⟩ := hrel
          have t0 := (z0.keep hB).cell 0
          have t1 := (z1.keep hB).cell 0
          simp at t0 t1
          by_cases hkn : k < n
          · have hki : (k : Int) < (n : Int) := by omega
            obtain ⟨r, hrk⟩ : ∃ r, rs[k]? = some r := ⟨_, List.getElem?_eq_getElem (by rw [hn'.out]; exact hkn)⟩
            obtain ⟨t, htk⟩ : ∃ t, ts[k]? = some t := ⟨_, List.getElem?_eq_getElem (by rw [hm'.out]; exact hkn)⟩
            obtain ⟨x6, xr⟩ := HC0.out k r hrk
            obtain ⟨y6, yr⟩ := HC0'.out k t htk
            have hr1 := H1.out r (List.mem_of_getElem? hrk)
            have ht1 := H2.out t (List.mem_of_getElem? htk)
            have hcT := fun (W : World) (hW : Below W0.heap.size W0 W) => sameTabS r.a t.a r.rs.length t.rs.length r.cap t.cap r.nx t.nx r.rs t.rs W rfl rfl (by have := hr1.len; omega) (by have := ht1.len; omega) hr1.ino ht1.ino (RdI.keep xr hW) (RdI.keep yr hW)
            have hstep : Hid ((sameVD r.D t.D && sameAllV ((rs.map VolR.D).drop (k + 1)) ((ts.map VolR.D).drop (k + 1))) = R) := by
              have := hsm.out
              rw [drop_at (l := rs.map VolR.D) (x := r.D) (by simp [hrk]), drop_at (l := ts.map VolR.D) (k := k) (x := t.D) (by simp [htk])] at this
              exact this
            obtain ⟨x0, x1, x2, x3, x4, x5⟩ := x6.keep hB hlt
            obtain ⟨y0, y1, y2, y3, y4, y5⟩ := y6.keep hB hlt'
            have hwz := hB.size
            obtain ⟨id, name, ro, limit, ra, rc, rnx, rr⟩ := r
            obtain ⟨id', name', ro', limit', ra', rc', rnx', rr'⟩ := t
            unfold sameTabOf at hcT
            have hstep : Hid ((((((id == id') && (name.toList == name'.toList)) && (ro == ro')) && (limit == limit')) && ((rnx == rnx') && sameAll (rr.map InoR.D) (rr'.map InoR.D)) && sameAllV ((rs.map VolR.D).drop (k + 1)) ((ts.map VolR.D).drop (k + 1))) = R) := hstep.out
            dsimp only at x0 x1 x2 x3 x4 x5 y0 y1 y2 y3 y4 y5 hcT
            generalize ((rnx == rnx') && sameAll (rr.map InoR.D) (rr'.map InoR.D)) = sm at hcT hstep
            generalize rr.length = n1 at x4 hcT
            obtain ⟨m1, hm1⟩ : ∃ m, rr'.length = m := ⟨_, rfl⟩
            rw [hm1] at y4 hcT
            clear xr yr hrk htk hsm hr1 ht1 x6
            have hbX : Below W0.heap.size W0 (wr.alloc (.cells #[.int .i64 id, .string name, .bool ro, .int .i64 limit, .slice ra n1 rc, .int .i64 rnx] 45)) := hB.alloc hwz _
            have t1' := (z1.keep hbX).cell 0
            simp at t1'
            obtain ⟨v0, v1, v2, v3, v4, v5⟩ := y6.keep hbX hlt'
            dsimp only at v0 v1 v2 v3 v4 v5
            rw [hm1] at v4
            clear y6 hbX hm1
            have hb2 : Below wr.heap.size wr ((wr.alloc (.cells #[.int .i64 id, .string name, .bool ro, .int .i64 limit, .slice ra n1 rc, .int .i64 rnx] 45)).alloc (.cells #[.int .i64 id', .string name', .bool ro', .int .i64 limit', .slice ra' m1 rc', .int .i64 rnx'] 45)) := ((Below.refl _ wr).alloc (Nat.le_refl _) _).alloc (by simp) _
            have hB2 := hB.trans (hb2.mono hwz)
            have hcd := hcT _ hB2
            have HB2 : Hid _ := hB2
            clear hcT hB2
            have hltb : b < wr.heap.size := by omega
            have hltb' : b' < wr.heap.size := by omega
            have nb1 : ¬ b = wr.heap.size := by omega
            have nb2 : ¬ b' = wr.heap.size := by omega
            have nb3 : ¬ wr.heap.size = b := by omega
            have nb4 : ¬ wr.heap.size = b' := by omega
            have hbx1 : ¬ w.heap.size = wr.heap.size := by have := (z0.keep hB).lt; omega
            have hbx2 : ¬ w.heap.size + 1 = wr.heap.size := by have := (z1.keep hB).lt; omega
            have hbx3 : ¬ wr.heap.size = w.heap.size := fun h => hbx1 h.symm
            have hbx4 : ¬ wr.heap.size = w.heap.size + 1 := fun h => hbx2 h.symm
            cases hb1 : (id == id') with
            | false =>
              have hb1' : (id != id') = true := by unfold bne; rw [hb1]; rfl
              have hs1 : Hid (false = R) := by have := hstep.out; show _ = _; rw [hb1] at this; simpa using this
              clear hcd
              go_wp2
              go_ret
              exact ⟨ret_bool hs1.out, B0.trans (HB2.out.mono hws)⟩
            | true =>
              have hb1' : (id != id') = false := by unfold bne; rw [hb1]; rfl
              cases hb2 : (name.toList == name'.toList) with
              | false =>
                have hb2' : (name.toList != name'.toList) = true := by unfold bne; rw [hb2]; rfl
                have hs1 : Hid (false = R) := by have := hstep.out; show _ = _; rw [hb2] at this; simpa using this
                clear hcd
                go_wp2
                go_ret
                exact ⟨ret_bool hs1.out, B0.trans (HB2.out.mono hws)⟩
              | true =>
                have hb2' : (name.toList != name'.toList) = false := by unfold bne; rw [hb2]; rfl
                cases hb3 : (ro == ro') with
                | false =>
                  have hb3' : (ro != ro') = true := by unfold bne; rw [hb3]; rfl
                  have hs1 : Hid (false = R) := by have := hstep.out; show _ = _; rw [hb3] at this; simpa using this
                  clear hcd
                  go_wp2
                  go_ret
                  exact ⟨ret_bool hs1.out, B0.trans (HB2.out.mono hws)⟩
                | true =>
                  have hb3' : (ro != ro') = false := by unfold bne; rw [hb3]; rfl
                  cases hb4 : (limit == limit') with
                  | false =>
                    have hb4' : (limit != limit') = true := by unfold bne; rw [hb4]; rfl
                    have hs1 : Hid (false = R) := by have := hstep.out; show _ = _; rw [hb4] at this; simpa using this
                    clear hcd
                    go_wp2
                    go_ret
                    exact ⟨ret_bool hs1.out, B0.trans (HB2.out.mono hws)⟩
                  | true =>
                    have hb4' : (limit != limit') = false := by unfold bne; rw [hb4]; rfl
                    cases sm with
                    | false =>
                      have hs1 : Hid (false = R) := by have := hstep.out; show _ = _; simpa using this
                      go_wp2_with fail
                      (with_reducible refine hcd.mono ?_)
                      rintro e w2 ⟨rfl, b2⟩
                      clear x0 x1 x2 x3 x4 x5 y0 y1 y2 y3 y4 y5 v0 v1 v2 v3 v4 v5 t1' hcd
                      go_wp2
                      go_ret
                      exact ⟨ret_bool hs1.out, B0.trans ((HB2.out.trans (b2.mono HB2.out.size)).mono hws)⟩
                    | true =>
                      have hs1 : Hid (sameAllV ((rs.map VolR.D).drop (k + 1)) ((ts.map VolR.D).drop (k + 1)) = R) := by have := hstep.out; show _ = _; rw [hb1, hb2, hb3, hb4] at this; simpa using this
                      go_wp2_with fail
                      (with_reducible refine hcd.mono ?_)
                      rintro e w2 ⟨rfl, b2⟩
                      clear x0 x1 x2 x3 x4 x5 y0 y1 y2 y3 y4 y5 v0 v1 v2 v3 v4 v5 t1' hcd
                      go_wp2
                      go_roundw
                      case rel => exact ⟨k + 1, by omega, by go_num, hs1, HB2.out.trans (b2.mono HB2.out.size)⟩
                      case measure => simp [intOf]; omega
          · have hki : ¬ (k : Int) < (n : Int) := by omega
            have hs1 : Hid (true = R) := by
              have := hsm.out
              rw [List.drop_eq_nil_of_le (by simp [hn'.out]; omega), List.drop_eq_nil_of_le (by simp [hm'.out]; omega)] at this
              exact this
            go_wp2
            go_ret
            exact ⟨ret_bool hs1.out, B0.trans (hB.mono hws)⟩
    · have hsf : Hid (sameAllV (rs.map VolR.D) (ts.map VolR.D) = false) := sameAllV_len (by simp [hn, hm, hnm])
      have hb : ((n : Int) == (m : Int)) = false := by simp; omega
      have hb' : ((n : Int) != (m : Int)) = true := by simp; omega
      clear h1 h2 hr hr' B0
      go_enter Try.func18, Try.ntmps18
      go_wp2
      go_ret
      exact ⟨ret_bool (by rw [HE.out, hsf.out, Bool.and_false]), HB.out⟩
end Go.Proofs.Ytfjlemnohjnkhaa
