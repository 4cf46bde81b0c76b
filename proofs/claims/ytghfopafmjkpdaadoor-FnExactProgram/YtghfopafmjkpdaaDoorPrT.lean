/-
  Joined: ChFn, ChPi, ChQi, ChPs, ChUq, ChPr, RowX, FnExactProgramW, ChOpen.
-/
import Derived.Test.YtghfopafmjkpdaaDoorJ00Q
import Derived.Test.YtghfopafmjkpdaaDoorJ01Q
import Derived.Test.YtghfopafmjkpdaaDoorJ02Q
import Derived.Test.YtghfopafmjkpdaaDoorJ03Q
import Derived.Test.YtghfopafmjkpdaaDoorJ04Q
import Derived.Test.YtghfopafmjkpdaaDoorJ05Q
import Derived.Test.YtghfopafmjkpdaaDoorJ06Q
import Derived.Test.YtghfopafmjkpdaaDoorJ07Q
import Derived.Test.YtghfopafmjkpdaaDoorJ08Q
import Derived.Test.YtghfopafmjkpdaaDoorJ09Q
import Derived.Test.YtghfopafmjkpdaaDoorJ10Q
import Derived.Test.YtghfopafmjkpdaaDoorJ11Q
import Derived.Test.YtghfopafmjkpdaaDoorJ12Q
import Derived.Test.YtghfopafmjkpdaaDoorJ13Q
import Derived.Test.YtghfopafmjkpdaaDoorJ14Q
import Derived.Test.YtghfopafmjkpdaaDoorJ15Q
import Derived.Test.YtghfopafmjkpdaaDoorJ16Q
import Derived.Test.YtghfopafmjkpdaaDoorJ17Q
import Derived.Test.YtghfopafmjkpdaaDoorJ18Q
import Derived.Test.YtghfopafmjkpdaaDoorJ19Q
import Derived.Test.YtghfopafmjkpdaaDoorJ20Q
import Derived.Test.YtghfopafmjkpdaaDoorJ21Q
import Derived.Test.YtghfopafmjkpdaaDoorJ22Q
import Derived.Test.YtghfopafmjkpdaaDoorJ23Q
import Derived.WalkKit
import Derived.WalkSpells
import Derived.WalkLawsBesides
import Derived.Deep.QuietTactic
import Derived.BigQuiet
import Derived.OpenShut
import Derived.Laws.BitsAllLaws
import Derived.Maps.AppendAt
import Derived.Lib.SliceRun
import Derived.Lib.Strings
import Derived.Deep.RegionWith
import Derived.Laws.IdiomStrings
import Derived.Deep.Slices
import Derived.ProofKit
import Derived.ChangeOld
import Derived.Below
import Derived.Deep.DeepCutAuto
import Derived.Lib.AppendStr
import Derived.Lib.ConvBytes
import Derived.Deep.RegionHeld3
import Derived.Deep.AppendLies
import Derived.Deep.AppendSrc
import Derived.Deep.RegionLaw
import Derived.Deep.MidRow
import Derived.Deep.WholeRow
import Derived.Deep.RegionHeld
import Derived.LaidEql
import Derived.Stop.Asserts
import Derived.RowKitTokens
namespace Go.Proofs.YtghfopafmjkpdaaDoor
section
open Go.RowKit
set_option maxRecDepth 100000 in
set_option maxHeartbeats 4000000 in
theorem l10NextS (a : Option Addr) (n cap : Nat) (wear : Int) (bad : Bool) (ps : List PgR) (w : World) (hn : ps.length = n) (hs : totP (ps.map PgR.D) ≤ 1048576) (hr : RdPs w a ps) :
    Calls Tryd.prog 59 #[.agg #[.slice a n cap, .int .i64 wear, .bool bad]] w fun e w' => e = .returned (.int .i64 (nextP (ps.map PgR.D) : Nat)) ∧ Below w.heap.size w w' := by
  have B0 : Below w.heap.size w (w.alloc (.cells #[.slice a n cap, .int .i64 wear, .bool bad] 50)) := (Below.refl _ w).alloc (Nat.le_refl _) _
  have z0 := Blk.new w 50 #[.slice a n cap, .int .i64 wear, .bool bad]
  have HT : Hid (RdPs (w.alloc (.cells #[.slice a n cap, .int .i64 wear, .bool bad] 50)) a ps) := hr.keep B0
  have HB : Hid _ := B0
  have hl := totP_len (ps.map PgR.D)
  have hn1 : n ≤ 1048576 := by simp at hl; omega
  have hln : Hid (ps.length = n) := hn
  clear hr B0 hs hl hn
  obtain ⟨H, hH⟩ : ∃ H, w.heap.size = H := ⟨_, rfl⟩
  rw [hH] at z0
  go_enter Tryd.func59, Tryd.ntmps59
  go_wp2
  obtain ⟨W0, hW0⟩ : ∃ W, w.alloc (.cells #[.slice a n cap, .int .i64 wear, .bool bad] 50) = W := ⟨_, rfl⟩
  rw [hW0] at z0 HB HT ⊢
  clear hW0
  try rw [hH]
  go_loopw [3, 4] (fun c i wr => ∃ (k : Nat) (m : Nat), k ≤ n ∧ i = .int .i64 k ∧ c = .int .i64 m ∧ m ≤ k ∧ Hid (nextP ((ps.take k).map PgR.D) = m) ∧ wr = W0) (fun _ i _ => n - (intOf i).toNat)
  case atStart => exact ⟨0, 0, Nat.zero_le _, rfl, rfl, Nat.le_refl _, rfl, rfl⟩
  case round =>
    obtain ⟨k, m, hk, rfl, rfl, hmk, hm, hw⟩ := hrel
    subst hw
    have t0 := z0.cell 0
    simp at t0
    by_cases hkn : k < n
    · have hki : (k : Int) < (n : Int) := by omega
      obtain ⟨r, hrk⟩ : ∃ r, ps[k]? = some r := ⟨_, List.getElem?_eq_getElem (by rw [hln.out]; exact hkn)⟩
      obtain ⟨b, off, rfl, hlt, hc⟩ := RdPs.lt HT.out (by intro h; rw [h] at hrk; simp at hrk)
      obtain ⟨⟨x0, x1⟩, _⟩ := hc k _ hrk
      have hnx := nextP_take hrk
      have hmm := hm.out
      cases hu : r.used
      · rw [hu] at x0 hnx
        have HN : Hid (nextP ((ps.take (k + 1)).map PgR.D) = m) := by show _ = _; rw [hnx, hmm]; rfl
        clear hnx hmm hrk x1 hu hc
        go_wp2
        go_roundw
        case rel => exact ⟨k + 1, m, by omega, by go_num, rfl, by omega, HN, trivial⟩
        case measure => simp [intOf]; omega
      · rw [hu] at x0 hnx
        have HN : Hid (nextP ((ps.take (k + 1)).map PgR.D) = m + 1) := by show _ = _; rw [hnx, hmm]; rfl
        clear hnx hmm hrk x1 hu hc
        go_wp2
        go_roundw
        case rel => exact ⟨k + 1, m + 1, by omega, by go_num, by go_num, by omega, HN, trivial⟩
        case measure => simp [intOf]; omega
    · have hki : ¬ (k : Int) < (n : Int) := by omega
      go_wp2
      go_ret
      have := hm.out
      rw [List.take_of_length_le (by rw [hln.out]; omega)] at this
      rw [← hH]
      exact ⟨by rw [this]; rfl, HB.out⟩
/-- What NextPage answers. -/
def nextD (ds : List BkD) (x : Int) : Int := if 0 ≤ x then (match ds[x.toNat]? with | some b => (nextP b.ps : Nat) | none => -1) else -1
theorem nextD_in {bs : List BkR} {k : Nat} {r : BkR} (h : bs[k]? = some r) : nextD (bs.map BkR.D) (k : Int) = (nextP (r.ps.map PgR.D) : Nat) := by
  unfold nextD
  rw [if_pos (by omega)]
  simp [h, BkR.D]
theorem nextD_out {ds : List BkD} {x : Int} (h : ¬ (0 ≤ x ∧ x < (ds.length : Int))) : nextD ds x = -1 := by
  unfold nextD
  split
  · rw [List.getElem?_eq_none (by omega)]
  · rfl
set_option maxRecDepth 100000 in
set_option maxHeartbeats 4000000 in
theorem nextS (a : Option Addr) (n cap : Nat) (bs : List BkR) (x : Int) (w : World) (ht : CR w a n bs) :
    Calls Tryd.prog 33 #[.agg #[.slice a n cap], .int .i64 x] w fun e w' => e = .returned (.int .i64 (nextD (bs.map BkR.D) x)) ∧ Below w.heap.size w w' := by
  have B0 : Below w.heap.size w (w.alloc (.cells #[.slice a n cap] 29)) := (Below.refl _ w).alloc (Nat.le_refl _) _
  have hn1 := ht.n
  by_cases hx : 0 ≤ x ∧ x < (n : Int)
  · obtain ⟨k, rfl⟩ : ∃ k : Nat, x = (k : Int) := ⟨x.toNat, by omega⟩
    have hkn : k < n := by omega
    have h1 : ¬ (k : Int) < 0 := by omega
    have h2 : ¬ (n : Int) ≤ (k : Int) := by omega
    have hki : (k : Int) < (n : Int) := by omega
    obtain ⟨b, off, r, rfl, hlt, hrk, x3, hrp, htp⟩ := (ht.keep B0).some hkn
    obtain ⟨x0, x1, x2⟩ := x3
    have hcall := l10NextS r.a r.ps.length r.cap r.wear r.bad r.ps _ rfl htp hrp
    have hnx := nextD_in hrk
    rw [hnx]
    obtain ⟨n1, hn1⟩ : ∃ n1, r.ps.length = n1 := ⟨_, rfl⟩
    rw [hn1] at x0 hcall
    have HB : Hid _ := B0
    clear hnx hrk hn1 ht B0 hrp
    go_enter Tryd.func33, Tryd.ntmps33
    go_wp2_with fail
    refine hcall.mono ?_
    rintro e w1 ⟨rfl, hb1⟩
    clear hcall x0 x1 x2
    go_wp2
    go_ret
    exact ⟨rfl, HB.out.trans (hb1.mono HB.out.size)⟩
  · have hnx : nextD (bs.map BkR.D) x = -1 := nextD_out (by simpa [ht.len] using hx)
    rw [hnx]
    by_cases h1 : x < 0
    · go_enter Tryd.func33, Tryd.ntmps33
      go_wp2
      go_ret
      exact ⟨rfl, B0⟩
    · have h2 : (n : Int) ≤ x := by omega
      go_enter Tryd.func33, Tryd.ntmps33
      go_wp2
      go_ret
      exact ⟨rfl, B0⟩
end

section
open Go.RowKit
theorem FO.rdPs {w0 w : World} {F G n k : Nat} {fs : List FkR} {f : FkR} (h : FO w0 w F G n fs) (hf : fs[k]? = some f) (hr : ∀ p ∈ f.ps, Rd w p.a p.zs) : RdPs w (some ⟨G, k * 18, none⟩) f.ps := by
  refine .inr ⟨G, k * 18, rfl, fun i p hi => ⟨fun j hj => ?_, hr p (List.mem_of_getElem? hi)⟩⟩
  have hj2 : j < 2 := hj
  have hi8 : i < 8 := by have := (List.getElem?_eq_some_iff.1 hi).1; rw [f.h8] at this; exact this
  have h1 := h.cell hf (j := i * 2 + j) (by omega)
  show w.cell? ⟨G, k * 18 + i * 2 + j, none⟩ = _
  rw [Nat.add_assoc, h1]
  show (pgE.xv f.ps ++ [Value.int .i64 f.wear, Value.bool f.bad])[i * 2 + j]? = _
  rw [List.getElem?_append_left (by rw [xv16]; omega)]
  exact pgE.xv_at f.ps i j p hi hj
/-- How many of a flash's block's pages are written. -/
def fkN (f : FkR) : Nat := nextP (f.ps.map PgR.D)
/-- What program refuses; the flash behind it. -/
def prC (fs : List FkR) (x : Int) (nb : Nat) : Int := if 400 < nb then 1 else if btcC fs x = 0 then (if (fs[x.toNat]?).map fkN = some 8 then 5 else 0) else btcC fs x
def prAt (fs : List FkR) (k : Nat) (p : PgR) : List FkR := match fs[k]? with | some f => fs.set k (f.pg (fkN f) p) | none => fs
def prF (fs : List FkR) (x : Int) (p : PgR) : List FkR := if prC fs x p.zs.length = 0 then prAt fs x.toNat p else fs
def PrA (w0 : World) (F G n : Nat) (fs : List FkR) (x : Int) (p : PgR) (e : Ending) (w' : World) : Prop := e = .returned (errV (prC fs x p.zs.length)) ∧ FO w0 w' F G n (prF fs x p)
set_option maxRecDepth 100000 in
set_option maxHeartbeats 4000000 in
theorem programF (F G n : Nat) (fs : List FkR) (x : Int) (ba : Option Addr) (nb bc : Nat) (zs : List Int) (w0 w : World) (hn : n ≤ 1048576) (hz : zs.length = nb) (hnb : nb ≤ 1048576) (h : FO w0 w F G n fs) (hr : ∀ f ∈ fs, ∀ p ∈ f.ps, Rd w p.a p.zs) (ht : totB (fs.map FkR.D) ≤ 1048576) :
    Calls Tryd.prog 37 #[.pointer (some ⟨F, 0, none⟩), .int .i64 x, .slice ba nb bc] w (PrA w0 F G n fs x ⟨true, ba, bc, zs⟩) := by
  have hcall := btcI F G n fs x w0 w hn h
  generalize hGP : PrA w0 F G n fs x ⟨true, ba, bc, zs⟩ = P
  have HGP : Hid _ := hGP
  clear hGP
  by_cases hb : 400 < nb
  · have hbi : (400 : Int) < (nb : Int) := by omega
    have HEE : Hid (prC fs x nb = 1) := by show _ = _; unfold prC; rw [if_pos hb]
    have HFO : Hid _ := h
    have HZ : Hid _ := hz
    clear h hr ht hcall hz
    go_enter Tryd.func37, Tryd.ntmps37
    go_wp2
    rw [← HGP.out]
    have e1 : prC fs x (PgR.zs ⟨true, ba, bc, zs⟩).length = 1 := by show prC fs x zs.length = 1; rw [HZ.out]; exact HEE.out
    exact ⟨by rw [e1]; rfl, by unfold prF; rw [e1]; exact HFO.out⟩
  · have hbi : ¬ (400 : Int) < (nb : Int) := by omega
    by_cases hc : btcC fs x = 0
    · obtain ⟨k, f, rfl, hf⟩ := btc_zero hc
      have hrp := h.rdPs hf (hr f (List.mem_of_getElem? hf))
      have htp : totP (f.ps.map PgR.D) ≤ 1048576 := by
        have := totB_mem (b := f.D) (bs := fs.map FkR.D) (List.mem_map_of_mem (List.mem_of_getElem? hf))
        have h2 : f.D.ps = f.ps.map PgR.D := rfl
        rw [h2] at this
        omega
      have hwi := writtenI (some ⟨G, k * 18, none⟩) 8 8 f.ps w f.h8 htp hrp
      have hle : nextP (f.ps.map PgR.D) ≤ 8 := by have := nextP_le (f.ps.map PgR.D); simp [f.h8] at this; exact this
      rw [if_pos hc, hc, errV_zero, Int.toNat_natCast] at hcall
      have hee : prC fs (k : Int) nb = if nextP (f.ps.map PgR.D) = 8 then 5 else 0 := by unfold prC; rw [if_neg hb, if_pos hc]; simp [hf, fkN]
      have hgf : prAt fs k ⟨true, ba, bc, zs⟩ = fs.set k (f.pg (nextP (f.ps.map PgR.D)) ⟨true, ba, bc, zs⟩) := by unfold prAt; rw [hf]; rfl
      obtain ⟨m, hm⟩ : ∃ m, nextP (f.ps.map PgR.D) = m := ⟨_, rfl⟩
      rw [hm] at hwi hle hee hgf
      have HFO : Hid _ := h
      have HZ : Hid (zs.length = nb) := hz
      by_cases h8 : m = 8
      · subst h8
        have HEE : Hid (prC fs (k : Int) nb = 5) := hee
        clear h hf hc hr hrp htp hm hee hgf hz ht
        go_enter Tryd.func37, Tryd.ntmps37
        go_wp2_with fail
        refine hcall.mono ?_
        rintro e w1 ⟨rfl, hw⟩
        obtain rfl := hw.symm
        go_wp2_with fail
        refine hwi.mono ?_
        rintro e w2 ⟨rfl, b2⟩
        go_wp2
        rw [← HGP.out]
        have e1 : prC fs (k : Int) (PgR.zs ⟨true, ba, bc, zs⟩).length = 5 := by show prC fs (k : Int) zs.length = 5; rw [HZ.out]; exact HEE.out
        exact ⟨by rw [e1]; rfl, by unfold prF; rw [e1]; exact HFO.out.keep b2⟩
      · rw [if_neg h8] at hee
        have HEE : Hid (prC fs (k : Int) nb = 0) := hee
        have HF : Hid (fs[k]? = some f ∧ prAt fs k ⟨true, ba, bc, zs⟩ = fs.set k (f.pg m ⟨true, ba, bc, zs⟩)) := ⟨hf, hgf⟩
        have hm8 : m < 8 := by omega
        have hmi : (m : Int) < 8 := by omega
        have hmm : ((m : Int) == 8) = false := by simp; omega
        clear h hf hc hr hrp htp hm hee hgf hz ht hle
        go_enter Tryd.func37, Tryd.ntmps37
        go_wp2_with fail
        refine hcall.mono ?_
        rintro e w1 ⟨rfl, hw⟩
        obtain rfl := hw.symm
        go_wp2_with fail
        refine hwi.mono ?_
        rintro e w2 ⟨rfl, b2⟩
        have fo2 := HFO.out.keep b2
        obtain ⟨v0, p0⟩ := fo2.is HF.out.1 (j := m * 2) (by omega)
        obtain ⟨v1, p1⟩ := fo2.is HF.out.1 (j := m * 2 + 1) (by omega)
        have r0 : w2.cell? ⟨G, k * 18 + m * 2, none⟩ = some v0 := p0
        have r1 : w2.cell? ⟨G, k * 18 + m * 2 + 1, none⟩ = some v1 := p1
        have f0 := fo2.g.frozen (k * 18 + m * 2)
        have f1 := fo2.g.frozen (k * 18 + m * 2 + 1)
        obtain ⟨gs1, g1, foU, hgU⟩ := fo2.used (u := true) HF.out.1 hm8
        obtain ⟨v2, p2⟩ := foU.is hgU (j := m * 2 + 1) (by omega)
        have r2 : (w2.setCell ⟨G, k * 18 + m * 2, none⟩ (.bool true)).cell? ⟨G, k * 18 + m * 2 + 1, none⟩ = some v2 := p2
        have f2 := foU.g.frozen (k * 18 + m * 2 + 1)
        have HFN : Hid _ := fo2.page (p := ⟨true, ba, bc, zs⟩) HF.out.1 hm8 HZ.out
        clear p0 p1 p2 foU hgU fo2 b2 hwi hcall
        go_wp2
        rw [← HGP.out]
        have e1 : prC fs (k : Int) (PgR.zs ⟨true, ba, bc, zs⟩).length = 0 := by show prC fs (k : Int) zs.length = 0; rw [HZ.out]; exact HEE.out
        refine ⟨by rw [e1]; rfl, ?_⟩
        unfold prF
        rw [e1, if_pos rfl, Int.toNat_natCast, HF.out.2]
        exact HFN.out
    · rw [if_neg hc, errV_some hc] at hcall
      have hee : prC fs x nb = btcC fs x := by unfold prC; rw [if_neg hb, if_neg hc]
      have HFO : Hid _ := h
      have HZ : Hid (zs.length = nb) := hz
      have HEE : Hid (prC fs x nb = btcC fs x ∧ ¬ btcC fs x = 0) := ⟨hee, hc⟩
      clear h hc hr ht hee hz
      go_enter Tryd.func37, Tryd.ntmps37
      go_wp2_with fail
      refine hcall.mono ?_
      rintro e w1 ⟨rfl, hw⟩
      obtain rfl := hw.symm
      go_wp2
      rw [← HGP.out]
      obtain ⟨e1, e3⟩ := HEE.out
      have e2 : prC fs x (PgR.zs ⟨true, ba, bc, zs⟩).length = btcC fs x := by show prC fs x zs.length = _; rw [HZ.out]; exact e1
      exact ⟨by rw [e2, errV_some e3]; rfl, by unfold prF; rw [e2, if_neg e3]; exact HFO.out⟩
end

section
open Go.RowKit
/-- The code of a program, and the chip behind it. -/
def codeP (ok : Bool) (ds : List BkD) (x : Int) (nb : Nat) : Int := if 400 < nb then 1 else mayD ok ds x (decide (nextD ds x = 8))
def progAt (ds : List BkD) (k : Nat) (zs : List Int) : List BkD := match ds[k]? with | some b => ds.set k ⟨b.ps.set (nextP b.ps) ⟨true, zs⟩, b.wear, b.bad⟩ | none => ds
def programD (ok : Bool) (ds : List BkD) (x : Int) (zs : List Int) : List BkD := if codeP ok ds x zs.length = 0 then progAt ds x.toNat zs else ds
theorem fl_rd {w : World} {a : Option Addr} {n : Nat} {bs : List BkR} {fs : List FkR} (ht : CR w a n bs) (h : FlOf bs fs) : ∀ f ∈ fs, ∀ p ∈ f.ps, Rd w p.a p.zs := fun f hf p hp => by
  obtain ⟨i, hi⟩ := List.mem_iff_getElem?.1 hf
  obtain ⟨r, hr, h1, _, _⟩ := h.at hi
  rw [h1] at hp
  exact RdE.each (RdE.each ht.rd r (List.mem_of_getElem? hr)) p hp
theorem pr_rd {w : World} {a : Option Addr} {n : Nat} {bs : List BkR} {fs : List FkR} (ht : CR w a n bs) (h : FlOf bs fs) (x : Int) (q : PgR) (hq : Rd w q.a q.zs) : ∀ f ∈ prF fs x q, ∀ p ∈ f.ps, Rd w p.a p.zs := by
  intro f hf p hp
  unfold prF at hf
  split at hf
  · unfold prAt at hf
    split at hf
    · rename_i g hg
      rcases List.mem_or_eq_of_mem_set hf with h1 | h1
      · exact fl_rd ht h f h1 p hp
      · subst h1
        have hp' : p ∈ g.ps.set (fkN g) q := hp
        rcases List.mem_or_eq_of_mem_set hp' with h2 | h2
        · exact fl_rd ht h g (List.mem_of_getElem? hg) p h2
        · subst h2; exact hq
    · exact fl_rd ht h f hf p hp
  · exact fl_rd ht h f hf p hp
theorem pr_len {fs : List FkR} {x : Int} {q : PgR} : (prF fs x q).length = fs.length := by
  unfold prF
  split
  · unfold prAt; split <;> simp
  · rfl
theorem pr_code {bs : List BkR} {fs : List FkR} (h : FlOf bs fs) (x : Int) (nb : Nat) : prC fs x nb = codeP true (bs.map BkR.D) x nb := by
  unfold prC codeP
  split
  · rfl
  · by_cases hx : 0 ≤ x ∧ x < (bs.length : Int)
    · obtain ⟨k, rfl⟩ : ∃ k : Nat, x = (k : Int) := ⟨x.toNat, by omega⟩
      obtain ⟨r, hr⟩ : ∃ r, bs[k]? = some r := ⟨_, List.getElem?_eq_getElem (by omega)⟩
      obtain ⟨f, hf, h1, _, h3⟩ := h.2 k _ hr
      rw [mayD_in hr, nextD_in hr, btcC_in hf, ← h3, ← h1]
      cases f.bad with
      | true => simp
      | false =>
        simp only [Int.toNat_natCast, hf, Option.map_some, Option.some.injEq, fkN]
        by_cases h5 : nextP (f.ps.map PgR.D) = 8
        · simp [h5]
        · have h6 : ¬ ((nextP (f.ps.map PgR.D) : Nat) : Int) = 8 := by omega
          simp [h5, h6]
    · have h1 := h.1
      have hb : btcC fs x = 1 := by unfold btcC; rw [if_pos (by omega)]
      rw [hb, mayD_form (.inr (by simp; omega))]
      rfl
theorem pr_chip {bs : List BkR} {fs : List FkR} (h : FlOf bs fs) (x : Int) (q : PgR) (hu : q.used = true) : (prF fs x q).map FkR.D = programD true (bs.map BkR.D) x q.zs := by
  unfold prF programD
  rw [pr_code h x]
  split
  · rename_i hc
    unfold codeP at hc
    split at hc
    · omega
    · obtain ⟨_, k, r, rfl, hr, _⟩ := code_zero (bs := bs) hc
      obtain ⟨f, hf, h1, h2, h3⟩ := h.2 k r hr
      unfold prAt progAt
      rw [Int.toNat_natCast, hf, List.getElem?_map, hr]
      simp only [Option.map_some]
      rw [List.map_set, h.D]
      simp only [FkR.D, FkR.pg, BkR.D, fkN, List.map_set, h1, h2, h3, PgR.D, hu]
  · exact h.D
theorem totP_bound : ∀ (ps : List PgD), (∀ p ∈ ps, p.zs.length ≤ 400) → totP ps ≤ 401 * ps.length
  | [], _ => by simp [totP]
  | p :: ps, h => by
    have h1 := totP_bound ps (fun q hq => h q (List.mem_cons_of_mem _ hq))
    have h2 := h p List.mem_cons_self
    rw [totP_cons, List.length_cons]
    omega
theorem totB_bound : ∀ (ds : List BkD), (∀ b ∈ ds, totP b.ps ≤ 3208) → totB ds ≤ 3209 * ds.length
  | [], _ => by simp [totB]
  | b :: ds, h => by
    have h1 := totB_bound ds (fun q hq => h q (List.mem_cons_of_mem _ hq))
    have h2 := h b List.mem_cons_self
    rw [totB_cons, List.length_cons]
    omega
theorem totP_put : ∀ (ps : List PgD) (k : Nat) (q : PgD), totP (ps.set k q) ≤ totP ps + 1 + q.zs.length
  | [], _, _ => by simp [totP]
  | d :: ds, 0, q => by rw [List.set_cons_zero, totP_cons, totP_cons]; omega
  | d :: ds, k + 1, q => by
    have := totP_put ds k q
    rw [List.set_cons_succ, totP_cons, totP_cons]
    omega
theorem totB_put : ∀ (ds : List BkD) (k : Nat) (b : BkD), totB (ds.set k b) ≤ totB ds + 1 + totP b.ps
  | [], _, _ => by simp [totB]
  | d :: ds, 0, b => by rw [List.set_cons_zero, totB_cons, totB_cons]; omega
  | d :: ds, k + 1, b => by
    have := totB_put ds k b
    rw [List.set_cons_succ, totB_cons, totB_cons]
    omega
/-- What a program makes of a chip has not many bytes. -/
theorem programD_tot {ok : Bool} {ds : List BkD} (x : Int) (zs : List Int) (h : chipOkB ds = ok) (ht : totB ds ≤ 1048576) : totB (programD ok ds x zs) ≤ 1048576 := by
  unfold programD
  split
  · rename_i hc
    unfold codeP at hc
    split at hc
    · omega
    · rename_i hz
      cases ok with
      | false => rw [mayD_form (.inl rfl)] at hc; omega
      | true =>
        rw [chipOkB_iff] at h
        have hb : ∀ b ∈ ds, totP b.ps ≤ 3208 := fun b hb => by
          have h1 := h.2.2 b hb
          have h2 := totP_bound b.ps (fun p hp => by
            obtain ⟨i, hi⟩ := List.mem_iff_getElem?.1 hp
            have := (h1.2.2.2 i p hi).1
            unfold pgOk at this
            simp at this
            exact this.1)
          rw [h1.1] at h2
          omega
        have h3 := totB_bound ds hb
        have h4 := h.2.1
        unfold progAt
        split
        · rename_i b hk
          have h5 := totB_put ds x.toNat ⟨b.ps.set (nextP b.ps) ⟨true, zs⟩, b.wear, b.bad⟩
          have h6 := totP_put b.ps (nextP b.ps) ⟨true, zs⟩
          have h7 := hb b (List.mem_of_getElem? hk)
          simp only at h5 h6
          omega
        · exact ht
  · exact ht
theorem programD_len (ok : Bool) (ds : List BkD) (x : Int) (zs : List Int) : (programD ok ds x zs).length = ds.length := by
  unfold programD
  split
  · unfold progAt; split <;> simp
  · rfl
set_option maxRecDepth 100000 in
set_option maxHeartbeats 4000000 in
theorem program1I (F G n K L : Nat) (fs : List FkR) (x : Int) (ba : Option Addr) (nb bc : Nat) (zs : List Int) (w0 w : World) (hn : n ≤ 1048576) (hz : zs.length = nb) (hnb : nb ≤ 1048576) (h : FO w0 w F G n fs) (hr : ∀ f ∈ fs, ∀ p ∈ f.ps, Rd w p.a p.zs) (ht : totB (fs.map FkR.D) ≤ 1048576) (hK : Blk w K 3 #[.int .i64 x]) (hL : Blk w L 25 #[.slice ba nb bc]) :
    Calls Tryd.prog 36 #[.pointer (some ⟨F, 0, none⟩), .pointer (some ⟨K, 0, none⟩), .pointer (some ⟨L, 0, none⟩)] w (PrA w0 F G n fs x ⟨true, ba, bc, zs⟩) := by
  have hcall := programF F G n fs x ba nb bc zs w0 w hn hz hnb h hr ht
  have x0 := hK.cell 0
  have y0 := hL.cell 0
  simp at x0 y0
  generalize hGP : PrA w0 F G n fs x ⟨true, ba, bc, zs⟩ = P
  have HGP : Hid _ := hGP
  clear hGP h hr ht hK hL hz
  go_enter Tryd.func36, Tryd.ntmps36
  go_wp2_with fail
  refine hcall.mono ?_
  rintro e w1 ⟨rfl, h1⟩
  go_wp2
  rw [← HGP.out]
  exact ⟨rfl, h1⟩
set_option maxRecDepth 100000 in
set_option maxHeartbeats 8000000 in
theorem behindP (a : Option Addr) (n cap K L : Nat) (bs : List BkR) (x : Int) (ba : Option Addr) (nb bc : Nat) (zs : List Int) (w : World) (hz : zs.length = nb) (hnb : nb ≤ 1048576) (ht : CR w a n bs) (hK : Blk w K 3 #[.int .i64 x]) (hL : Blk w L 25 #[.slice ba nb bc]) (hrb : Rd w ba zs) (hE : EtCell w) :
    Calls Tryd.prog 35 #[.agg #[.slice a n cap], .func (.func 36) #[] #[.pointer (some ⟨K, 0, none⟩), .pointer (some ⟨L, 0, none⟩)]] w (ChCA w (programD (chipOkB (bs.map BkR.D)) (bs.map BkR.D) x zs) (codeP (chipOkB (bs.map BkR.D)) (bs.map BkR.D) x zs.length)) := by
  have hnn := ht.n
  have HZL : Hid (zs.length = nb) := hz
  clear hz
  have B0 : Below w.heap.size w ((w.alloc (.cells #[.slice a n cap] 29)).alloc (.cells #[.slice none 0 0] 29)) := ((Below.refl _ w).alloc (Nat.le_refl _) _).alloc (by simp) _
  have z0 := (Blk.new w 29 #[.slice a n cap]).alloc (.cells #[.slice none 0 0] 29)
  have z1 := Blk.new (w.alloc (.cells #[.slice a n cap] 29)) 29 #[.slice none 0 0]
  simp only [World.size_alloc] at z1
  have hws : ((w.alloc (.cells #[.slice a n cap] 29)).alloc (.cells #[.slice none 0 0] 29)).heap.size = w.heap.size + 2 := by simp
  obtain ⟨H, hH⟩ : ∃ H, w.heap.size = H := ⟨_, rfl⟩
  rw [hH] at z0 z1 hws
  obtain ⟨ok, hok⟩ : ∃ ok, chipOkB (bs.map BkR.D) = ok := ⟨_, rfl⟩
  have cOk := fun (W : World) (h : CR W a n bs) => chipOkI a n cap bs W h
  rw [hok] at cOk ⊢
  generalize hGP : ChCA w (programD ok (bs.map BkR.D) x zs) (codeP ok (bs.map BkR.D) x zs.length) = P
  have HGP : Hid _ := hGP
  clear hGP
  have COK : Hid _ := cOk
  have HOK : Hid (chipOkB (bs.map BkR.D) = ok) := hok
  clear cOk hok
  go_enter Tryd.func35, Tryd.ntmps35
  have x00 := z0.cell 0
  simp at x00
  go_upto_region 1 with fail
  obtain ⟨W0, hW0⟩ : ∃ W, (w.alloc (.cells #[.slice a n cap] 29)).alloc (.cells #[.slice none 0 0] 29) = W := ⟨_, rfl⟩
  rw [hW0] at B0 z0 z1 hws x00 ⊢
  clear hW0
  have HW : Hid _ := hws
  have HH : Hid (w.heap.size = H) := hH
  have HT : Hid (CR W0 a n bs) := ht.keep B0
  have HB0 : Hid (Below H w W0) := by rw [← hH]; exact B0
  have HZ0 : Hid (Blk W0 H 29 #[.slice a n cap]) := z0
  have HZ1 : Hid (Blk W0 (H + 1) 29 #[.slice none 0 0]) := z1
  have HK : Hid (Blk W0 K 3 #[.int .i64 x]) := hK.keep B0
  have HLL : Hid (Blk W0 L 25 #[.slice ba nb bc]) := hL.keep B0
  have HRB : Hid (Rd W0 ba zs) := Rd.keep hrb B0
  have HE : Hid (EtCell W0) := hE.keep B0
  have hln : Hid (bs.length = n) := ht.len
  clear ht B0 z0 z1 hH hK hE hL hrb
  go_wp2_with fail
  refine (COK.out W0 HT.out).mono ?_
  rintro e w1 ⟨rfl, b1⟩
  have y0 := (Blk.keep HZ0.out b1).cell 0
  simp at y0
  clear x00
  cases ok with
  | false =>
    go_wp2_with fail
    refine (copyChI a n cap bs w1 (HT.out.keep b1)).mono ?_
    rintro e w2 ⟨aC, nC, cC, tC, rfl, qC, hlC, b2⟩
    have B2 : Below W0.heap.size W0 w2 := b1.trans (b2.mono b1.size)
    have zr := Blk.keep HZ1.out B2
    have r0 := zr.cell 0
    have f0 := zr.frozen 0
    have zf := zr.set 0 (.slice aC nC cC)
    have d0 := zf.cell 0
    simp at r0 d0
    have HQ : Hid _ := qC
    have HB2 : Hid (Below W0.heap.size W0 w2) := B2
    have HB1 : Hid (W0.heap.size ≤ w1.heap.size) := b1.size
    have HL : Hid (tC.length = nC) := hlC
    clear qC b1 b2 B2 zr zf hlC y0
    go_wp2
    refine bodyPost_ret (v := .tuple #[.agg #[.slice aC nC cC], .int .i64 1]) (by simp [results, Tryd.f35, go_sem, d0]) rfl ?_
    rw [← HGP.out]
    have hc : codeP false (bs.map BkR.D) x zs.length = 1 := by unfold codeP; split; rfl; exact mayD_form (.inl rfl)
    have hw := HW.out
    have hH := HH.out
    have hbs := HB0.out
    have hb3 := HB2.out
    have hb1 := HB1.out
    have bel : Below w.heap.size w w2 := by rw [hH]; exact hbs.trans (hb3.mono (by omega))
    rw [hc, show programD false (bs.map BkR.D) x zs = bs.map BkR.D by unfold programD; rw [hc]; rfl]
    exact ⟨aC, nC, cC, tC, rfl, NewBs.wider (B := w1.heap.size) (NewBs.set_below (B := w1.heap.size) (j := H + 1) HQ.out (by omega)) (by omega), HL.out, bel.setCell (p := ⟨H + 1, 0, none⟩) (by simp only; omega) _⟩
  | true =>
    obtain ⟨fs, hfl, _⟩ := ok_flash HOK.out
    have hfn : fs.length = n := by rw [hfl.1, hln.out]
    go_wp2_with fail
    refine (flashOfI a n cap bs fs w1 (HT.out.keep b1) hfl).mono ?_
    rintro e w2 ⟨F, G, rfl, fo2⟩
    rw [hfn] at fo2
    have b2 := fo2.bel
    have hK2 := (Blk.keep HK.out b1).keep b2
    have hL2 := (Blk.keep HLL.out b1).keep b2
    have hrd2 : ∀ f ∈ fs, ∀ p ∈ f.ps, Rd w2 p.a p.zs := fl_rd ((HT.out.keep b1).keep b2) hfl
    have htf : totB (fs.map FkR.D) ≤ 1048576 := by rw [hfl.D]; exact HT.out.tot
    clear y0
    go_wp2_with fail
    refine (program1I F G n K L fs x ba nb bc zs w1 w2 hnn HZL.out hnb fo2 hrd2 htf hK2 hL2).mono ?_
    rintro e w3 ⟨rfl, fo3⟩
    have b3 := fo3.bel
    have B3 : Below W0.heap.size W0 w3 := b1.trans (b3.mono b1.size)
    have hrf : RdFs w3 (some ⟨G, 0, none⟩) (prF fs x ⟨true, ba, bc, zs⟩) := by
      obtain ⟨a', c', e', r'⟩ := OwnE.rd (rd := fun f : FkR => ∀ p ∈ f.ps, Rd w3 p.a p.zs) fo3.g (pr_rd (HT.out.keep B3) hfl x ⟨true, ba, bc, zs⟩ (Rd.keep HRB.out B3))
      simp only [Value.slice.injEq] at e'
      rw [e'.1]
      exact r'
    have hho := handedI F (some ⟨G, 0, none⟩) n n (prF fs x ⟨true, ba, bc, zs⟩) w3 (by rw [pr_len, hfn]) (by rw [pr_chip hfl x ⟨true, ba, bc, zs⟩ rfl]; exact programD_tot x zs HOK.out HT.out.tot) fo3.f hrf
    rw [pr_chip hfl x ⟨true, ba, bc, zs⟩ rfl] at hho
    rw [show prC fs x (PgR.zs ⟨true, ba, bc, zs⟩).length = codeP true (bs.map BkR.D) x zs.length from pr_code hfl x _]
    clear hK2 hL2 hrd2 htf fo2 b2 hrf fo3
    go_wp2_with fail
    refine hho.mono ?_
    rintro e w4 ⟨aC, nC, cC, tC, rfl, qC, hlC, b4⟩
    have B4 : Below W0.heap.size W0 w4 := B3.trans (b4.mono B3.size)
    clear hho
    obtain ⟨c, hc⟩ : ∃ c, codeP true (bs.map BkR.D) x zs.length = c := ⟨_, rfl⟩
    rw [hc]
    go_wp2_with fail
    refine (codeOfI c w4 (HE.out.keep B4)).mono ?_
    rintro e w5 ⟨rfl, b5⟩
    have B5 : Below W0.heap.size W0 w5 := B4.trans (b5.mono B4.size)
    have zr := Blk.keep HZ1.out B5
    have r0 := zr.cell 0
    have f0 := zr.frozen 0
    have zf := zr.set 0 (.slice aC nC cC)
    have d0 := zf.cell 0
    simp at r0 d0
    have HQ : Hid (NewBs w5 w3.heap.size (.slice aC nC cC) (programD true (bs.map BkR.D) x zs) tC) := qC.keep b5
    have HB5 : Hid (Below W0.heap.size W0 w5) := B5
    have HB3 : Hid (W0.heap.size ≤ w3.heap.size) := B3.size
    have HL : Hid (tC.length = nC) := hlC
    have HC : Hid _ := hc
    clear qC b1 b3 b4 b5 B3 B4 B5 zr zf hlC hc hfl hfn
    go_wp2
    refine bodyPost_ret (v := .tuple #[.agg #[.slice aC nC cC], .int .i64 c]) (by simp [results, Tryd.f35, go_sem, d0]) rfl ?_
    rw [← HGP.out, HC.out]
    have hw := HW.out
    have hH := HH.out
    have hbs := HB0.out
    have hb3 := HB5.out
    have hb1 := HB3.out
    have bel : Below w.heap.size w w5 := by rw [hH]; exact hbs.trans (hb3.mono (by omega))
    exact ⟨aC, nC, cC, tC, rfl, NewBs.wider (B := w3.heap.size) (NewBs.set_below (B := w3.heap.size) (j := H + 1) HQ.out (by omega)) (by omega), HL.out, bel.setCell (p := ⟨H + 1, 0, none⟩) (by simp only; omega) _⟩
set_option maxRecDepth 100000 in
set_option maxHeartbeats 4000000 in
theorem programI (a : Option Addr) (n cap : Nat) (bs : List BkR) (x : Int) (ba : Option Addr) (nb bc : Nat) (zs : List Int) (w : World) (hz : zs.length = nb) (hnb : nb ≤ 1048576) (ht : CR w a n bs) (hrb : Rd w ba zs) (hE : EtCell w) :
    Calls Tryd.prog 12 #[.agg #[.slice a n cap], .int .i64 x, .slice ba nb bc] w (ChCA w (programD (chipOkB (bs.map BkR.D)) (bs.map BkR.D) x zs) (codeP (chipOkB (bs.map BkR.D)) (bs.map BkR.D) x zs.length)) := by
  have B0 : Below w.heap.size w ((((w.alloc (.cells #[.slice a n cap] 29)).alloc (.cells #[.int .i64 x] 3)).alloc (.cells #[.slice ba nb bc] 25)).alloc (.cells #[.slice none 0 0] 29)) := ((((Below.refl _ w).alloc (Nat.le_refl _) _).alloc (by simp) _).alloc (by simp; omega) _).alloc (by simp; omega) _
  have z0 := (((Blk.new w 29 #[.slice a n cap]).alloc (.cells #[.int .i64 x] 3)).alloc (.cells #[.slice ba nb bc] 25)).alloc (.cells #[.slice none 0 0] 29)
  have zK := ((Blk.new (w.alloc (.cells #[.slice a n cap] 29)) 3 #[.int .i64 x]).alloc (.cells #[.slice ba nb bc] 25)).alloc (.cells #[.slice none 0 0] 29)
  have zL := (Blk.new ((w.alloc (.cells #[.slice a n cap] 29)).alloc (.cells #[.int .i64 x] 3)) 25 #[.slice ba nb bc]).alloc (.cells #[.slice none 0 0] 29)
  have z1 := Blk.new (((w.alloc (.cells #[.slice a n cap] 29)).alloc (.cells #[.int .i64 x] 3)).alloc (.cells #[.slice ba nb bc] 25)) 29 #[.slice none 0 0]
  simp only [World.size_alloc] at z1 zK zL
  have hcall := behindP a n cap (w.heap.size + 1) (w.heap.size + 2) bs x ba nb bc zs _ hz hnb (ht.keep B0) zK zL (hrb.keep B0) (hE.keep B0)
  obtain ⟨D, hD⟩ : ∃ D, programD (chipOkB (bs.map BkR.D)) (bs.map BkR.D) x zs = D := ⟨_, rfl⟩
  obtain ⟨c, hc⟩ : ∃ c, codeP (chipOkB (bs.map BkR.D)) (bs.map BkR.D) x zs.length = c := ⟨_, rfl⟩
  rw [hD, hc] at hcall ⊢
  generalize hGP : ChCA w D c = P
  have HGP : Hid _ := hGP
  clear hGP hD hc ht hE zK zL hrb hz
  have x0 := z0.cell 0
  simp at x0
  obtain ⟨H, hH⟩ : ∃ H, w.heap.size = H := ⟨_, rfl⟩
  have HH : Hid (w.heap.size = H) := hH
  rw [hH] at hcall
  go_enter Tryd.func12, Tryd.ntmps12
  go_upto_region 1 with fail
  try rw [hH]
  obtain ⟨W0, hW0⟩ : ∃ W, (((w.alloc (.cells #[.slice a n cap] 29)).alloc (.cells #[.int .i64 x] 3)).alloc (.cells #[.slice ba nb bc] 25)).alloc (.cells #[.slice none 0 0] 29) = W := ⟨_, rfl⟩
  have hws : W0.heap.size = w.heap.size + 4 := by rw [← hW0]; simp
  rw [hW0] at B0 z0 z1 x0 hcall ⊢
  clear hW0
  have HW : Hid _ := hws
  have HB0 : Hid _ := B0
  have HZ1 : Hid (Blk W0 (H + 3) 29 #[.slice none 0 0]) := by rw [← hH]; exact z1
  rw [hH] at z0 x0
  clear B0 z1 hH hws
  go_wp2_with fail
  refine hcall.mono ?_
  rintro e w1 ⟨aC, nC, cC, tC, rfl, qC, hlC, b1⟩
  have zr := Blk.keep HZ1.out b1
  have r0 := zr.cell 0
  have f0 := zr.frozen 0
  have zf := zr.set 0 (.slice aC nC cC)
  have d0 := zf.cell 0
  simp at r0 d0
  have HQ : Hid _ := qC
  have HB1 : Hid (Below W0.heap.size W0 w1) := b1
  have HL : Hid (tC.length = nC) := hlC
  clear qC b1 zr zf hlC x0 z0 hcall
  go_wp2
  refine bodyPost_ret (v := .tuple #[.agg #[.slice aC nC cC], .int .i64 c]) (by simp [results, Tryd.f12, go_sem, d0]) rfl ?_
  rw [← HGP.out]
  have hw := HW.out
  have hH := HH.out
  have hbs := HB0.out
  have hb3 := HB1.out
  have bel : Below w.heap.size w w1 := hbs.trans (hb3.mono (by omega))
  exact ⟨aC, nC, cC, tC, rfl, NewBs.wider (B := W0.heap.size) (NewBs.set_below (B := W0.heap.size) (j := H + 3) HQ.out (by omega)) (by omega), HL.out, bel.setCell (p := ⟨H + 3, 0, none⟩) (by simp only; omega) _⟩
end

section
open Go.RowKit
set_option maxRecDepth 100000 in
set_option maxHeartbeats 4000000 in
theorem l10ProgramS (a : Option Addr) (n cap : Nat) (bs : List BkR) (x : Int) (ba : Option Addr) (nb bc : Nat) (w : World) (hnb : nb ≤ 1048576) (ht : CR w a n bs) :
    Calls Tryd.prog 32 #[.agg #[.slice a n cap], .int .i64 x, .slice ba nb bc] w fun e w' => e = .returned (.int .i64 (codeP (chipOkB (bs.map BkR.D)) (bs.map BkR.D) x nb)) ∧ Below w.heap.size w w' := by
  have B0 : Below w.heap.size w (w.alloc (.cells #[.slice a n cap] 29)) := (Below.refl _ w).alloc (Nat.le_refl _) _
  have z0 := Blk.new w 29 #[.slice a n cap]
  by_cases hb : 400 < nb
  · have hbi : (400 : Int) < (nb : Int) := by omega
    have hc : codeP (chipOkB (bs.map BkR.D)) (bs.map BkR.D) x nb = 1 := by unfold codeP; rw [if_pos hb]
    rw [hc]
    have HB : Hid _ := B0
    clear hc z0 ht B0
    go_enter Tryd.func32, Tryd.ntmps32
    go_wp2
    go_ret
    exact ⟨rfl, HB.out⟩
  · have hbi : ¬ (400 : Int) < (nb : Int) := by omega
    have hc : codeP (chipOkB (bs.map BkR.D)) (bs.map BkR.D) x nb = mayD (chipOkB (bs.map BkR.D)) (bs.map BkR.D) x (decide (nextD (bs.map BkR.D) x = 8)) := by unfold codeP; rw [if_neg hb]
    rw [hc]
    have hnx := fun (W : World) (h : CR W a n bs) => nextS a n cap bs x W h
    have hmy := fun (W : World) (h : CR W a n bs) => mayS a n cap bs x (decide (nextD (bs.map BkR.D) x = 8)) W h
    obtain ⟨m, hm⟩ : ∃ m, nextD (bs.map BkR.D) x = m := ⟨_, rfl⟩
    rw [hm] at hnx hmy ⊢
    obtain ⟨u, hu⟩ : ∃ u, decide (m = 8) = u := ⟨_, rfl⟩
    have hmu : (m == 8) = u := by rw [← hu]; cases h : decide (m = 8) <;> simp_all
    rw [hu] at hmy ⊢
    obtain ⟨c, hcc⟩ : ∃ c, mayD (chipOkB (bs.map BkR.D)) (bs.map BkR.D) x u = c := ⟨_, rfl⟩
    rw [hcc] at hmy ⊢
    have HNX : Hid _ := hnx
    have HMY : Hid _ := hmy
    have HT : Hid (CR (w.alloc (.cells #[.slice a n cap] 29)) a n bs) := ht.keep B0
    clear hc hnx hmy hm hu hcc ht
    go_enter Tryd.func32, Tryd.ntmps32
    go_upto_region 3 with fail
    obtain ⟨W0, hW0⟩ : ∃ W, w.alloc (.cells #[.slice a n cap] 29) = W := ⟨_, rfl⟩
    rw [hW0] at B0 z0 HT ⊢
    clear hW0
    obtain ⟨H, hH⟩ : ∃ H, w.heap.size = H := ⟨_, rfl⟩
    rw [hH] at z0
    have HB : Hid (Below w.heap.size w W0) := B0
    try rw [hH]
    have zd : Blk W0.drew H 29 #[.slice a n cap] := Blk.keep z0 (Below.refl _ _).drew
    have x0 := zd.cell 0
    simp at x0
    have hcN := HNX.out W0.drew (HT.out.keep (Below.refl _ _).drew)
    have HZ : Hid (Blk W0.drew H 29 #[.slice a n cap]) := zd
    clear zd z0 B0
    refine wp_region_noPanic ?_
    refine wp_region_last (fun W : World => W.cell? ⟨H, 0, none⟩ = some (.slice a n cap)) 7 (by kernel_rfl) (by kernel_rfl) (by go_keep) 7 (by kernel_rfl) (fun hS => ?_)
    refine wpAnyH_take (i := 0) (v := ?gv1) rfl (by kernel_rfl) (by kernel_rfl) (by kernel_rfl) (fun _ _ _ h => h) (Or.inl ⟨by kernel_rfl, ?gy1⟩) (by assumption) ?gr1
    case gy1 => (intro w' hSw; (try dsimp only at hSw); go_simp; (try with_reducible rfl))
    try simp only [Act.put, List.setIfInBounds_toArray, List.set_cons_zero, List.set_cons_succ, List.getElem_toArray, List.getElem_cons_zero]
    refine wpAnyH_take (i := 1) (v := ?gv2) rfl (by kernel_rfl) (by kernel_rfl) (by kernel_rfl) (fun _ _ _ h => h) (Or.inl ⟨by kernel_rfl, ?gy2⟩) (by assumption) ?gr2
    case gy2 => (intro w' hSw; (try dsimp only at hSw); go_simp; (try with_reducible rfl))
    try simp only [Act.put, List.setIfInBounds_toArray, List.set_cons_zero, List.set_cons_succ, List.getElem_toArray, List.getElem_cons_succ, List.getElem_cons_zero]
    refine wpAnyH_take (i := 2) (v := ?gv3) rfl (by kernel_rfl) (by kernel_rfl) (by kernel_rfl) (fun _ _ _ h => h) (Or.inl ⟨by kernel_rfl, ?gy3⟩) (by assumption) ?gr3
    case gy3 => (intro w' hSw; (try dsimp only at hSw); go_simp; (try with_reducible rfl))
    try simp only [Act.put, List.setIfInBounds_toArray, List.set_cons_zero, List.set_cons_succ, List.getElem_toArray, List.getElem_cons_succ, List.getElem_cons_zero]
    refine wpAnyH_take (i := 3) (v := ?gv4) rfl (by kernel_rfl) (by kernel_rfl) (by kernel_rfl) (fun _ _ _ h => h) (Or.inl ⟨by kernel_rfl, ?gy4⟩) (by assumption) ?gr4
    case gy4 => (intro w' hSw; (try dsimp only at hSw); go_simp; (try with_reducible rfl))
    try simp only [Act.put, List.setIfInBounds_toArray, List.set_cons_zero, List.set_cons_succ, List.getElem_toArray, List.getElem_cons_succ, List.getElem_cons_zero]
    refine wpAnyH_ready (rs := [4]) (by kernel_rfl) (by simp) ?_
    refine AllReadyH.cons rfl (fun K hK => ?_) AllReadyH.nil
    go_simp
    (with_reducible refine hcN.mono ?_)
    rintro e W1 ⟨rfl, b1⟩
    have HX1 : Hid (W1.cell? ⟨H, 0, none⟩ = some (.slice a n cap)) := (by have := (Blk.keep HZ.out b1).cell 0; simp at this; exact this)
    have hcM := HMY.out W1 ((HT.out.keep (Below.refl _ _).drew).keep b1)
    clear hS
    try dsimp only
    refine Shut.out hK _ _ (HX1.out) (fun hS => ?_)
    try simp only [Act.put, List.setIfInBounds_toArray, List.set_cons_zero, List.set_cons_succ, List.getElem_toArray, List.getElem_cons_succ, List.getElem_cons_zero]
    refine wpAnyH_take (i := 5) (v := ?gv5) rfl (by kernel_rfl) (by kernel_rfl) (by kernel_rfl) (fun _ _ _ h => h) (Or.inl ⟨by kernel_rfl, ?gy5⟩) (by assumption) ?gr5
    case gy5 => (intro w' hSw; (try dsimp only at hSw); go_simp; (try with_reducible rfl))
    try simp only [Act.put, List.setIfInBounds_toArray, List.set_cons_zero, List.set_cons_succ, List.getElem_toArray, List.getElem_cons_succ, List.getElem_cons_zero]
    refine wpAnyH_ready (rs := [6]) (by kernel_rfl) (by simp) ?_
    refine AllReadyH.cons rfl (fun K hK => ?_) AllReadyH.nil
    go_simp
    (with_reducible refine hcM.mono ?_)
    rintro e W2 ⟨rfl, b2⟩
    have HX2 : Hid (W2.cell? ⟨H, 0, none⟩ = some (.slice a n cap)) := (by have := ((Blk.keep HZ.out b1).keep b2).cell 0; simp at this; exact this)
    clear hS
    try dsimp only
    refine Shut.out hK _ _ (HX2.out) (fun hS => ?_)
    try simp only [Act.put, List.setIfInBounds_toArray, List.set_cons_zero, List.set_cons_succ, List.getElem_toArray, List.getElem_cons_succ, List.getElem_cons_zero]
    refine wpAnyH_done (by kernel_rfl) ?_ _
    refine wpOp_last rfl (fun K hK => ?_)
    clear hS
    go_simp
    refine Shut.out hK _ _ (NoPanic.normal ?_)
    have bE : Below w.heap.size w W2 := by
      have h1 : Below W0.heap.size W0 W1 := (Below.refl W0.heap.size W0).drew.trans b1
      have h2 := h1.trans (b2.mono h1.size)
      exact HB.out.trans (h2.mono HB.out.size)
    have HBE : Hid _ := bE
    clear bE b1 b2 x0
    go_wp2
    go_ret
    rw [← hH]
    exact ⟨rfl, HBE.out⟩
end

section
open Go.RowKit
theorem NewBs.page {W W1 : World} {B g n c k m nq P : Nat} {qa : Option Addr} {qc : Nat} {zs : List Int} {ds : List BkD} {bs : List BkR} {b : BkR} (h : NewBs W B (.slice (some ⟨g, 0, none⟩) n c) ds bs) (hn : bs.length = n) (hb : bs[k]? = some b) (hba : b.a = some ⟨P, 0, none⟩) (hm : m < b.ps.length) (b1 : Below W.heap.size W W1) (hz : zs.length = nq)
    (hq : RowB W1 (.slice qa nq qc) nq zs) (hqn : ∀ j, (Value.slice qa nq qc).ownBlock = some j → W.heap.size ≤ j) :
    NewBs ((W1.setCell ⟨P, m * 2, none⟩ (.bool true)).setCell ⟨P, m * 2 + 1, none⟩ (.slice qa nq qc)) B (.slice (some ⟨g, 0, none⟩) n c) (ds.set k ⟨(b.ps.map PgR.D).set m ⟨true, zs⟩, b.wear, b.bad⟩) (bs.set k ⟨b.a, b.cap, b.ps.set m ⟨true, qa, qc, zs⟩, b.wear, b.bad⟩) := by
  subst hz
  have hr := h.row
  have hgl : g < W.heap.size := h.own.lt g (fpBs_row rfl)
  have hbm : b ∈ bs := List.mem_of_getElem? hb
  obtain ⟨p, hp⟩ : ∃ p, b.ps[m]? = some p := ⟨_, List.getElem?_eq_getElem hm⟩
  have hOP : OwnPs W b.v b.ps := h.own.2 b hbm
  have hbv : b.v = .slice (some ⟨P, 0, none⟩) b.ps.length b.cap := by unfold BkR.v; rw [hba]
  have hnd : (fpPs b.v b.ps).Nodup := flat_nodup' (f := bkK.fp) h.inn.nd hbm
  have hPf : P ∈ fpPs b.v b.ps := fpPs_row (by rw [hbv]; rfl)
  have hPn : P ∉ pgK.fps b.ps := fun hf => (List.nodup_append.1 hnd).2.2 P (by rw [hbv]; simp [Value.ownBlock]) P hf rfl
  have hPl : P < W.heap.size := hOP.lt P hPf
  have hPg : g ≠ P := fun e => hr.1 (List.mem_flatMap.2 ⟨b, hbm, by rw [e]; exact hPf⟩)
  have hset : ∀ j, j ≠ P → ((W1.setCell ⟨P, m * 2, none⟩ (.bool true)).setCell ⟨P, m * 2 + 1, none⟩ (.slice qa zs.length qc)).heap[j]? = W1.heap[j]? := fun j hj => (Below.heap_setCell _ _ _ _ hj).trans (Below.heap_setCell _ _ _ _ hj)
  have hrow1 : OwnE pgE 56 W1 (.slice (some ⟨P, 0, none⟩) b.ps.length b.cap) b.ps.length b.ps := by have := hOP.1.keep b1; rw [hbv] at this; exact this
  have s1 := hrow1.set m 0 p ⟨true, p.a, p.cap, p.zs⟩ (.bool true) hp (by decide) rfl
  have s2 := s1.set m 1 ⟨true, p.a, p.cap, p.zs⟩ ⟨true, qa, qc, zs⟩ (.slice qa zs.length qc) (get_set hp) (by decide) rfl
  rw [List.set_set] at s2
  generalize hW2 : (W1.setCell ⟨P, m * 2, none⟩ (.bool true)).setCell ⟨P, m * 2 + 1, none⟩ (.slice qa zs.length qc) = W2 at hset
  have s3 : OwnE pgE 56 W2 (.slice (some ⟨P, 0, none⟩) b.ps.length b.cap) b.ps.length (b.ps.set m ⟨true, qa, qc, zs⟩) := by rw [← hW2]; exact s2
  have hI : Inn pgK W 0 (b.ps.map PgR.D) b.ps := ⟨rfl, hOP.2, fun _ _ => Nat.zero_le _, (List.nodup_append.1 hnd).2.1⟩
  have hqf : ∀ j ∈ pgK.fp (⟨true, qa, qc, zs⟩ : PgR), W.heap.size ≤ j := fun j hj => hqn j (by simpa [pgK, PgR.v] using hj)
  have hI2 := hI.put (w' := W2) (S := W.heap.size) (q := (⟨true, qa, qc, zs⟩ : PgR)) hp (fun j hj => hI.lt j hj) (Nat.zero_le _)
    (show RowB W2 (.slice qa zs.length qc) zs.length zs from hq.block fun j hj => hset j (fun e => by subst e; have := hqn j hj; omega))
    (fun j hj => .inr (hqf j hj)) (show ((Value.slice qa zs.length qc).ownBlock.toList).Nodup by cases (Value.slice qa zs.length qc).ownBlock <;> simp)
    (fun j hj _ => by rw [hset j (fun e => by subst e; exact hPn hj)]; exact b1.block j (hI.lt j hj))
  have hbv2 : BkR.v ⟨b.a, b.cap, b.ps.set m ⟨true, qa, qc, zs⟩, b.wear, b.bad⟩ = .slice (some ⟨P, 0, none⟩) b.ps.length b.cap := by unfold BkR.v; rw [hba, List.length_set]
  have hfb : ∀ j ∈ bkK.fp (⟨b.a, b.cap, b.ps.set m ⟨true, qa, qc, zs⟩, b.wear, b.bad⟩ : BkR), j ∈ bkK.fp b ∨ W.heap.size ≤ j := fun j hj => by
    have hj' : j ∈ fpPs (.slice (some ⟨P, 0, none⟩) b.ps.length b.cap) (b.ps.set m ⟨true, qa, qc, zs⟩) := by rw [← hbv2]; exact hj
    rcases List.mem_append.1 hj' with h1 | h1
    · have : j = P := by simpa [Value.ownBlock] using h1
      subst this
      exact .inl hPf
    · obtain ⟨y, hy, hyf⟩ := List.mem_flatMap.1 h1
      rcases mem_set hy with rfl | ⟨i, _, hyi⟩
      · exact .inr (hqf j hyf)
      · exact .inl (List.mem_append_right _ (List.mem_flatMap.2 ⟨y, List.mem_of_getElem? hyi, hyf⟩))
  have hP2 : P ∉ pgK.fps (b.ps.set m ⟨true, qa, qc, zs⟩) := fun hf => by
    obtain ⟨y, hy, hyf⟩ := List.mem_flatMap.1 hf
    rcases mem_set hy with rfl | ⟨i, _, hyi⟩
    · have := hqf P hyf; omega
    · exact hPn (List.mem_flatMap.2 ⟨y, List.mem_of_getElem? hyi, hyf⟩)
  have hB0 : B ≤ W.heap.size := Nat.le_trans hr.2 (by omega)
  have hin := h.inn.put (w' := W2) (S := W.heap.size) (q := (⟨b.a, b.cap, b.ps.set m ⟨true, qa, qc, zs⟩, b.wear, b.bad⟩ : BkR)) hb (fun j hj => h.inn.lt j hj) hB0
    (by
      show OwnPs W2 (BkR.v ⟨b.a, b.cap, b.ps.set m ⟨true, qa, qc, zs⟩, b.wear, b.bad⟩) (b.ps.set m ⟨true, qa, qc, zs⟩)
      rw [hbv2]
      exact ⟨by rw [List.length_set]; exact s3, hI2.own⟩)
    hfb
    (by
      show (fpPs (BkR.v ⟨b.a, b.cap, b.ps.set m ⟨true, qa, qc, zs⟩, b.wear, b.bad⟩) (b.ps.set m ⟨true, qa, qc, zs⟩)).Nodup
      rw [hbv2]
      refine List.nodup_append.2 ⟨by simp [Value.ownBlock], hI2.nd, fun a ha c hc e => ?_⟩
      subst e
      have : a = P := by simpa [Value.ownBlock] using ha
      subst this
      exact hP2 hc)
    (fun j hj hnj => by rw [hset j (fun e => by subst e; exact hnj hPf)]; exact b1.block j (h.inn.lt j hj))
  have hD : bkK.D (⟨b.a, b.cap, b.ps.set m ⟨true, qa, qc, zs⟩, b.wear, b.bad⟩ : BkR) = ⟨(b.ps.map PgR.D).set m ⟨true, zs⟩, b.wear, b.bad⟩ := by
    show BkD.mk ((b.ps.set m ⟨true, qa, qc, zs⟩).map PgR.D) b.wear b.bad = _
    rw [List.map_set]
    rfl
  rw [hD] at hin
  refine hin.newBs ?_ (Nat.le_refl _) (fun j hj => ?_)
  · rw [List.length_set, hn]
    have h1 : OwnE bkE 50 W2 (.slice (some ⟨g, 0, none⟩) n c) n bs := by
      have := (h.own.1.keep b1)
      rw [hn] at this
      exact this.block fun j hj => by
        simp [Value.ownBlock] at hj
        subst hj
        exact hset _ hPg
    have h2 := bkE.xv_set bs k 0 b ⟨b.a, b.cap, b.ps.set m ⟨true, qa, qc, zs⟩, b.wear, b.bad⟩ (.slice b.a b.ps.length b.cap) hb (by decide) (by
      show [Value.slice b.a (b.ps.set m ⟨true, qa, qc, zs⟩).length b.cap, Value.int .i64 b.wear, Value.bool b.bad] = _
      rw [List.length_set]
      rfl)
    rw [set_same (bkE.xv_at bs k 0 b hb (by decide))] at h2
    unfold OwnE at h1 ⊢
    rw [← h2]
    exact h1
  · simp [Value.ownBlock] at hj
    subst hj
    refine ⟨hr.2, fun hf => ?_⟩
    obtain ⟨x, hx, hxf⟩ := List.mem_flatMap.1 hf
    rcases mem_set hx with rfl | ⟨j, _, hxj⟩
    · rcases hfb g hxf with h1 | h1
      · exact hr.1 (List.mem_flatMap.2 ⟨b, hbm, h1⟩)
      · omega
    · exact hr.1 (List.mem_flatMap.2 ⟨x, List.mem_of_getElem? hxj, hxf⟩)
end

section
open Go.RowKit
/-- Bytes appended to an empty row of one's own: new ones. -/
theorem app_new {w WE W10 : World} {E nb : Nat} {zs : List Int} {v : Value} (bE : Below w.heap.size w WE) (hE : w.heap.size ≤ E) (hap : AppB WE (.slice (some ⟨E, 0, none⟩) 0 0) nb zs v W10) : Below w.heap.size w W10 ∧ RowB W10 v nb zs ∧ ∀ j, v.ownBlock = some j → w.heap.size ≤ j := by
  refine ⟨bE.grown hap.gr bE.size (fun g hg => by simp [Value.ownBlock] at hg; omega), OwnV.rowB hap.own, fun j hj => ?_⟩
  rcases hap.at_ with e | e
  · rw [hj] at e; simp [Value.ownBlock] at e; omega
  · rw [hj] at e; simp at e; have := bE.size; omega
set_option maxRecDepth 100000 in
set_option maxHeartbeats 8000000 in
theorem programS (a : Option Addr) (n cap : Nat) (bs : List BkR) (x : Int) (ba : Option Addr) (nb bc : Nat) (zs : List Int) (w : World) (hz : zs.length = nb) (hnb : nb ≤ 1048576) (ht : CR w a n bs) (hrb : Rd w ba zs) :
    Calls Tryd.prog 9 #[.agg #[.slice a n cap], .int .i64 x, .slice ba nb bc] w (ChCA w (programD (chipOkB (bs.map BkR.D)) (bs.map BkR.D) x zs) (codeP (chipOkB (bs.map BkR.D)) (bs.map BkR.D) x zs.length)) := by
  have hnn := ht.n
  have B0 : Below w.heap.size w ((w.alloc (.cells #[.slice a n cap] 29)).alloc (.cells #[.slice none 0 0] 29)) := ((Below.refl _ w).alloc (Nat.le_refl _) _).alloc (by simp) _
  have z0 := (Blk.new w 29 #[.slice a n cap]).alloc (.cells #[.slice none 0 0] 29)
  have z1 := Blk.new (w.alloc (.cells #[.slice a n cap] 29)) 29 #[.slice none 0 0]
  simp only [World.size_alloc] at z1
  have hws : ((w.alloc (.cells #[.slice a n cap] 29)).alloc (.cells #[.slice none 0 0] 29)).heap.size = w.heap.size + 2 := by simp
  obtain ⟨H, hH⟩ : ∃ H, w.heap.size = H := ⟨_, rfl⟩
  rw [hH] at z0 z1 hws
  have cE := fun (W : World) (h : CR W a n bs) => l10ProgramS a n cap bs x ba nb bc W hnb h
  have cN := fun (W : World) (h : CR W a n bs) => nextS a n cap bs x W h
  generalize hok : chipOkB (bs.map BkR.D) = ok at cE
  obtain ⟨code, hcode⟩ : ∃ code, codeP ok (bs.map BkR.D) x nb = code := ⟨_, rfl⟩
  rw [hcode] at cE
  have CE : Hid _ := cE
  have CN : Hid _ := cN
  have HOK : Hid (chipOkB (bs.map BkR.D) = ok) := hok
  have HCE : Hid (codeP ok (bs.map BkR.D) x nb = code) := hcode
  have HZL : Hid (zs.length = nb) := hz
  have HD : Hid (programD ok (bs.map BkR.D) x zs = if code = 0 then progAt (bs.map BkR.D) x.toNat zs else bs.map BkR.D) := by show _ = _; unfold programD; rw [hz, hcode]
  rw [hz]
  clear cE cN hok hcode hz
  go_enter Tryd.func9, Tryd.ntmps9
  have x00 := z0.cell 0
  simp at x00
  go_upto_region 1 with fail
  obtain ⟨W0, hW0⟩ : ∃ W, (w.alloc (.cells #[.slice a n cap] 29)).alloc (.cells #[.slice none 0 0] 29) = W := ⟨_, rfl⟩
  rw [hW0] at B0 z0 z1 hws x00 ⊢
  clear hW0
  have HW : Hid _ := hws
  have HH : Hid (w.heap.size = H) := hH
  have HT : Hid (CR W0 a n bs) := ht.keep B0
  have HRB : Hid (Rd W0 ba zs) := Rd.keep hrb B0
  have HB0 : Hid (Below H w W0) := by rw [← hH]; exact B0
  have HZ0 : Hid (Blk W0 H 29 #[.slice a n cap]) := z0
  have HZ1 : Hid (Blk W0 (H + 1) 29 #[.slice none 0 0]) := z1
  have hln : Hid (bs.length = n) := ht.len
  clear ht B0 z0 z1 hH hrb
  go_wp2_with fail
  refine (copyChS a n cap bs W0 HT.out).mono ?_
  rintro e w1 ⟨aC, nC, cC, tC, rfl, qC, hlC, b1⟩
  obtain rfl : nC = n := by rw [← hlC, qC.len]; simp [hln.out]
  have b2 : Below w1.heap.size w1 (w1.alloc (.cells #[.slice aC nC cC] 29)) := (Below.refl _ w1).alloc (Nat.le_refl _) _
  have zX := Blk.new w1 29 #[.slice aC nC cC]
  have y0 := ((Blk.keep HZ0.out b1).keep b2).cell 0
  simp at y0
  clear x00
  go_wp2_with fail
  obtain ⟨W2, hW2⟩ : ∃ W, w1.alloc (.cells #[.slice aC nC cC] 29) = W := ⟨_, rfl⟩
  rw [hW2] at b2 zX y0 ⊢
  clear hW2
  obtain ⟨X, hX⟩ : ∃ X, w1.heap.size = X := ⟨_, rfl⟩
  have hX0 : W0.heap.size ≤ X := by rw [← hX]; exact b1.size
  rw [hX] at zX ⊢
  have hFX : Hid (∀ g ∈ fpBs (.slice aC nC cC) tC, g < X) := fun g hg => by rw [← hX]; exact qC.own.lt g hg
  have q2 := qC.keep b2
  have B2 : Below W0.heap.size W0 W2 := b1.trans (b2.mono b1.size)
  clear qC b1 b2 hX
  refine (CE.out W2 (HT.out.keep B2)).mono ?_
  rintro e w3 ⟨rfl, b3⟩
  have q3 := q2.keep b3
  have z3 := zX.keep b3
  have B3 : Below W0.heap.size W0 w3 := B2.trans (b3.mono B2.size)
  clear q2 zX B2 b3 y0
  by_cases hc0 : code = 0
  · subst hc0
    have hmay := HCE.out
    unfold codeP at hmay
    split at hmay
    · omega
    obtain ⟨hokt, k, r, hxk, hrk, hbad, hfull⟩ := code_zero hmay
    subst hxk
    have hkn : k < nC := by have := (List.getElem?_eq_some_iff.1 hrk).1; have := hln.out; omega
    have hki : (k : Int) < (nC : Int) := by omega
    obtain ⟨t, htk, hrt⟩ := same_at (f := BkR.D) (ps := bs) (qs := tC) q3.D hrk
    have hrow := q3.own.1
    rw [hlC] at hrow
    rcases hrow.cases with ⟨_, h0, _⟩ | ⟨g, c, hv, hgl⟩
    · omega
    · simp only [Value.slice.injEq] at hv
      obtain ⟨rfl, _, rfl⟩ := hv
      have hgX : g < X := hFX.out g (fpBs_row rfl)
      have hg0 : W0.heap.size ≤ g := q3.new g (fpBs_row rfl)
      have HDC : Hid (tC.map BkR.D = bs.map BkR.D) := q3.D
      have hD : t.ps.map PgR.D = r.ps.map PgR.D ∧ t.wear = r.wear ∧ t.bad = r.bad := by unfold BkR.D at hrt; simp only [BkD.mk.injEq] at hrt; exact hrt
      have h8 : t.ps.length = 8 := by
        have h1 := HOK.out
        rw [hokt, chipOkB_iff] at h1
        have h2 := (h1.2.2 r.D (List.mem_map_of_mem (List.mem_of_getElem? hrk))).1
        have h3 : r.ps.length = 8 := by simpa [BkR.D] using h2
        have h4 := congrArg List.length hD.1
        simp at h4
        omega
      obtain ⟨m, hm⟩ : ∃ m, nextP (r.ps.map PgR.D) = m := ⟨_, rfl⟩
      have hm8 : m < 8 := by
        have h1 := nextP_le (r.ps.map PgR.D)
        rw [← hD.1] at h1
        simp [h8] at h1
        rw [nextD_in hrk] at hfull
        simp at hfull
        rw [hD.1] at h1
        omega
      have hmi : (m : Int) < 8 := by omega
      have hmn : ¬ (m : Int) < 0 := by omega
      have hNX : Hid (∀ W : World, CR W a nC bs → Calls Tryd.prog 33 #[.agg #[.slice a nC cap], .int .i64 (k : Int)] W fun e w' => e = .returned (.int .i64 (m : Int)) ∧ Below W.heap.size W w') := fun W h => by
        have := CN.out W h
        rw [nextD_in hrk, hm] at this
        exact this
      have hOP : OwnPs w3 t.v t.ps := q3.own.2 t (List.mem_of_getElem? htk)
      rcases hOP.1.cases with ⟨_, h0, _⟩ | ⟨P, pc, hpv, hPl⟩
      · omega
      unfold BkR.v at hpv
      simp only [Value.slice.injEq] at hpv
      obtain ⟨hta, _, hpc⟩ := hpv
      subst hpc
      have hrw : OwnE pgE 56 w3 (.slice (some ⟨P, 0, none⟩) t.ps.length t.cap) t.ps.length t.ps := by have := hOP.1; unfold BkR.v at this; rw [hta] at this; exact this
      have hPX : P < X := hFX.out P (fpBs_bk (List.mem_of_getElem? htk) (fpPs_row (by unfold BkR.v; rw [hta]; rfl)))
      have hP0 : W0.heap.size ≤ P := q3.new P (fpBs_bk (List.mem_of_getElem? htk) (fpPs_row (by unfold BkR.v; rw [hta]; rfl)))
      have hgP : Hid (g ≠ P) := fun e => (NewBs.row q3).1 (List.mem_flatMap.2 ⟨t, List.mem_of_getElem? htk, by rw [e]; exact fpPs_row (by unfold BkR.v; rw [hta]; rfl)⟩)
      have hall : Hid (∀ W : World, Below w3.drew.heap.size w3.drew W → W.cell? ⟨X, 0, none⟩ = some (.slice (some ⟨g, 0, none⟩) nC cC) ∧ W.cell? ⟨g, k * 3, none⟩ = some (.slice (some ⟨P, 0, none⟩) 8 t.cap) ∧ W.cell? ⟨H, 0, none⟩ = some (.slice a nC cap)) := fun W hW => by
        have b3 : Below w3.heap.size w3 W := (Below.refl w3.heap.size w3).drew.trans hW
        refine ⟨by have := (z3.keep b3).cell 0; simp at this; exact this, ?_, by have := (Blk.keep HZ0.out (B3.trans (b3.mono B3.size))).cell 0; simp at this; exact this⟩
        have := (hrow.keep b3).cell k 0 t htk (by decide)
        rw [show (bkE.en t)[0]? = some (.slice t.a t.ps.length t.cap) from rfl, hta, h8] at this
        exact this
      have hpg : Hid (∀ W : World, Below w3.drew.heap.size w3.drew W → ∃ v0 v1, W.cell? ⟨P, m * 2, none⟩ = some v0 ∧ W.cell? ⟨P, m * 2 + 1, none⟩ = some v1 ∧ W.frozen? ⟨P, m * 2, none⟩ = false ∧ W.frozen? ⟨P, m * 2 + 1, none⟩ = false ∧ (∃ v2, (W.setCell ⟨P, m * 2, none⟩ (.bool true)).cell? ⟨P, m * 2 + 1, none⟩ = some v2) ∧ (W.setCell ⟨P, m * 2, none⟩ (.bool true)).frozen? ⟨P, m * 2 + 1, none⟩ = false) := fun W hW => by
        have b3 : Below w3.heap.size w3 W := (Below.refl w3.heap.size w3).drew.trans hW
        have hr := hrw.keep b3
        obtain ⟨p, hp⟩ : ∃ p, t.ps[m]? = some p := ⟨_, List.getElem?_eq_getElem (by omega)⟩
        have hs := hr.set m 0 p ⟨true, p.a, p.cap, p.zs⟩ (.bool true) hp (by decide) rfl
        have c0 := hr.cell m 0 p hp (by decide)
        have c1 := hr.cell m 1 p hp (by decide)
        have c2 := hs.cell m 1 ⟨true, p.a, p.cap, p.zs⟩ (get_set hp) (by decide)
        exact ⟨_, _, c0, c1, hr.frozen _, hr.frozen _, ⟨_, c2⟩, hs.frozen _⟩
      have hTd : CR w3.drew a nC bs := HT.out.keep (B3.drew)
      have bA : Below w3.drew.heap.size w3.drew (w3.drew.alloc (.cells #[] 5)) := (Below.refl _ _).alloc (Nat.le_refl _) _
      have hcN := hNX.out w3.drew hTd
      have hcM : Calls Tryd.prog 33 #[.agg #[.slice a nC cap], .int .i64 (k : Int)] (w3.alloc (.cells #[] 5)).drew fun e w' => e = .returned (.int .i64 (m : Int)) ∧ Below (w3.drew.alloc (.cells #[] 5)).heap.size (w3.drew.alloc (.cells #[] 5)) w' := hNX.out (w3.drew.alloc (.cells #[] 5)) (hTd.keep bA)
      have HRD : Hid (∀ W : World, Below w3.drew.heap.size w3.drew W → Rd W ba zs) := fun W hW => Rd.keep HRB.out (B3.trans (((Below.refl w3.heap.size w3).drew.trans hW).mono B3.size))
      have hcc0 : ((0 : Int) == 0) = true := rfl
      have HBA : Hid _ := bA
      have HPG : Hid (NewBs w3 W0.heap.size (.slice (some ⟨g, 0, none⟩) nC cC) (bs.map BkR.D) tC ∧ tC.length = nC ∧ tC[k]? = some t ∧ t.a = some ⟨P, 0, none⟩ ∧ m < t.ps.length) := ⟨q3, hlC, htk, hta, by omega⟩
      have HFIN : Hid (Blk w3 X 29 #[.slice (some ⟨g, 0, none⟩) nC cC] ∧ Below W0.heap.size W0 w3 ∧ X < w3.heap.size) := ⟨z3, B3, z3.lt⟩
      have HRR : Hid (bs[k]? = some r ∧ t.ps.map PgR.D = r.ps.map PgR.D ∧ t.wear = r.wear ∧ t.bad = r.bad ∧ nextP (r.ps.map PgR.D) = m) := ⟨hrk, hD.1, hD.2.1, hD.2.2, hm⟩
      obtain ⟨s1, s2, s3⟩ := hall.out w3.drew (Below.refl _ _)
      obtain ⟨tcap, htcap⟩ : ∃ tc, t.cap = tc := ⟨_, rfl⟩
      rw [htcap] at s2 hall
      clear hokt hmay hfull hrow hrw hOP q3 z3 hrt hD hm h8 hrk htk hlC hta hTd bA
      go_upto_region 4 with fail
      refine wp_region_noPanic ?_
      refine wp_region_last (fun W : World => W.cell? ⟨X, 0, none⟩ = some (.slice (some ⟨g, 0, none⟩) nC cC) ∧ W.cell? ⟨g, k * 3, none⟩ = some (.slice (some ⟨P, 0, none⟩) 8 tcap) ∧ W.cell? ⟨H, 0, none⟩ = some (.slice a nC cap)) 14 (by kernel_rfl) (by kernel_rfl) (by go_keep) 14 (by kernel_rfl) (fun hS => ?_)
      refine wpAnyH_take (i := 0) (v := ?gv1) rfl (by kernel_rfl) (by kernel_rfl) (by kernel_rfl) (fun _ _ _ h => h) (Or.inl ⟨by kernel_rfl, ?gy1⟩) (by assumption) ?gr1
      case gy1 => (intro w' hSw; (try dsimp only at hSw); go_simp; (try with_reducible rfl))
      try simp only [Act.put, List.setIfInBounds_toArray, List.set_cons_zero, List.set_cons_succ, List.getElem_toArray, List.getElem_cons_zero]
      refine wpAnyH_take (i := 1) (v := ?gv2) rfl (by kernel_rfl) (by kernel_rfl) (by kernel_rfl) (fun _ _ _ h => h) (Or.inl ⟨by kernel_rfl, ?gy2⟩) (by assumption) ?gr2
      case gy2 => (intro w' hSw; (try dsimp only at hSw); go_simp; (try with_reducible rfl))
      try simp only [Act.put, List.setIfInBounds_toArray, List.set_cons_zero, List.set_cons_succ, List.getElem_toArray, List.getElem_cons_succ, List.getElem_cons_zero]
      refine wpAnyH_take (i := 2) (v := ?gv3) rfl (by kernel_rfl) (by kernel_rfl) (by kernel_rfl) (fun _ _ _ h => h) (Or.inl ⟨by kernel_rfl, ?gy3⟩) (by assumption) ?gr3
      case gy3 => (intro w' hSw; (try dsimp only at hSw); go_simp; (try with_reducible rfl))
      try simp only [Act.put, List.setIfInBounds_toArray, List.set_cons_zero, List.set_cons_succ, List.getElem_toArray, List.getElem_cons_succ, List.getElem_cons_zero]
      refine wpAnyH_take (i := 3) (v := ?gv4) rfl (by kernel_rfl) (by kernel_rfl) (by kernel_rfl) (fun _ _ _ h => h) (Or.inl ⟨by kernel_rfl, ?gy4⟩) (by assumption) ?gr4
      case gy4 => (intro w' hSw; (try dsimp only at hSw); go_simp; (try with_reducible rfl))
      try simp only [Act.put, List.setIfInBounds_toArray, List.set_cons_zero, List.set_cons_succ, List.getElem_toArray, List.getElem_cons_succ, List.getElem_cons_zero]
      refine wpAnyH_take (i := 4) (v := ?gv5) rfl (by kernel_rfl) (by kernel_rfl) (by kernel_rfl) (fun _ _ _ h => h) (Or.inl ⟨by kernel_rfl, ?gy5⟩) (by assumption) ?gr5
      case gy5 => (intro w' hSw; (try dsimp only at hSw); go_simp; (try with_reducible rfl))
      try simp only [Act.put, List.setIfInBounds_toArray, List.set_cons_zero, List.set_cons_succ, List.getElem_toArray, List.getElem_cons_succ, List.getElem_cons_zero]
      refine wpAnyH_take (i := 5) (v := ?gv6) rfl (by kernel_rfl) (by kernel_rfl) (by kernel_rfl) (fun _ _ _ h => h) (Or.inl ⟨by kernel_rfl, ?gy6⟩) (by assumption) ?gr6
      case gy6 => (intro w' hSw; (try dsimp only at hSw); go_simp; (try with_reducible rfl))
      try simp only [Act.put, List.setIfInBounds_toArray, List.set_cons_zero, List.set_cons_succ, List.getElem_toArray, List.getElem_cons_succ, List.getElem_cons_zero]
      refine wpAnyH_take (i := 6) (v := ?gv7) rfl (by kernel_rfl) (by kernel_rfl) (by kernel_rfl) (fun _ _ _ h => h) (Or.inl ⟨by kernel_rfl, ?gy7⟩) (by assumption) ?gr7
      case gy7 => (intro w' hSw; (try dsimp only at hSw); go_simp; (try with_reducible rfl))
      try simp only [Act.put, List.setIfInBounds_toArray, List.set_cons_zero, List.set_cons_succ, List.getElem_toArray, List.getElem_cons_succ, List.getElem_cons_zero]
      refine wpAnyH_take (i := 7) (v := ?gv8) rfl (by kernel_rfl) (by kernel_rfl) (by kernel_rfl) (fun _ _ _ h => h) (Or.inl ⟨by kernel_rfl, ?gy8⟩) (by assumption) ?gr8
      case gy8 => (intro w' hSw; (try dsimp only at hSw); go_simp; (try with_reducible rfl))
      try simp only [Act.put, List.setIfInBounds_toArray, List.set_cons_zero, List.set_cons_succ, List.getElem_toArray, List.getElem_cons_succ, List.getElem_cons_zero]
      refine wpAnyH_take (i := 10) (v := ?gv9) rfl (by kernel_rfl) (by kernel_rfl) (by kernel_rfl) (fun _ _ _ h => h) (Or.inl ⟨by kernel_rfl, ?gy9⟩) (by assumption) ?gr9
      case gy9 => (intro w' hSw; (try dsimp only at hSw); go_simp; (try with_reducible rfl))
      try simp only [Act.put, List.setIfInBounds_toArray, List.set_cons_zero, List.set_cons_succ, List.getElem_toArray, List.getElem_cons_succ, List.getElem_cons_zero]
      refine wpAnyH_ready (rs := [8, 9]) (by kernel_rfl) (by simp) ?_
      refine AllReadyH.cons rfl (fun K hK => ?_) (AllReadyH.cons rfl (fun K hK => ?_) AllReadyH.nil)
      go_simp
      (with_reducible refine hcN.mono ?_)
      rintro e W8 ⟨rfl, b8⟩
      clear hS
      try dsimp only
      refine Shut.out hK _ _ (hall.out W8 b8) (fun hS => ?_)
      try simp only [Act.put, List.setIfInBounds_toArray, List.set_cons_zero, List.set_cons_succ, List.getElem_toArray, List.getElem_cons_succ, List.getElem_cons_zero]
      refine wpAnyH_ready (rs := [9]) (by kernel_rfl) (by simp) ?_
      refine AllReadyH.cons rfl (fun K hK => ?_) AllReadyH.nil
      go_simp
      have bE : Below w3.drew.heap.size w3.drew (W8.alloc (.cells #[] 5)) := b8.alloc b8.size _
      have HBE : Hid _ := bE
      have happ := (fun ty => app_bytes (W8.alloc (.cells #[] 5)) (.slice (some ⟨W8.heap.size, 0, none⟩) 0 0) 0 [] ba nb bc zs HZL.out (by omega) ownV_fresh (HRD.out _ bE) ty)
      rw [Nat.zero_add, List.nil_append] at happ
      have HAP : Hid _ := happ
      clear happ bE
      clear hS
      try dsimp only
      refine Shut.out hK _ _ (hall.out _ HBE.out) (fun hS => ?_)
      try simp only [Act.put, List.setIfInBounds_toArray, List.set_cons_zero, List.set_cons_succ, List.getElem_toArray, List.getElem_cons_succ, List.getElem_cons_zero]
      refine wpAnyH_ready (rs := [11]) (by kernel_rfl) (by simp) ?_
      refine AllReadyH.cons rfl (fun K hK => ?_) AllReadyH.nil
      refine step_appAny (W8.alloc (.cells #[] 5)) rfl (.tmp 27) (.tmp 28) 25 rfl (.slice (some ⟨W8.heap.size, 0, none⟩) 0 0) (.slice ba nb bc) _ rfl rfl HAP.out ?_
      intro v1 W10 hap
      obtain ⟨b10, rB, nB⟩ := app_new HBE.out b8.size hap
      obtain ⟨a1, c1, rfl, _⟩ := rB.form
      have HBR : Hid _ := And.intro b10 (And.intro rB nB)
      obtain ⟨u0, u1, e0, e1, e2, e3, ⟨u2, e4⟩, e5⟩ := hpg.out W10 b10
      clear b10 rB nB hap
      clear hS
      try dsimp only
      refine Shut.out hK _ _ (hall.out _ HBR.out.1) (fun hS => ?_)
      try simp only [Act.put, List.setIfInBounds_toArray, List.set_cons_zero, List.set_cons_succ, List.getElem_toArray, List.getElem_cons_succ, List.getElem_cons_zero]
      refine wpAnyH_take (i := 12) (v := ?gv10) rfl (by kernel_rfl) (by kernel_rfl) (by kernel_rfl) (fun _ _ _ h => h) (Or.inl ⟨by kernel_rfl, ?gy10⟩) (by assumption) ?gr10
      case gy10 => (intro w' hSw; (try dsimp only at hSw); go_simp; (try with_reducible rfl))
      try simp only [Act.put, List.setIfInBounds_toArray, List.set_cons_zero, List.set_cons_succ, List.getElem_toArray, List.getElem_cons_succ, List.getElem_cons_zero]
      refine wpAnyH_take (i := 13) (v := ?gv11) rfl (by kernel_rfl) (by kernel_rfl) (by kernel_rfl) (fun _ _ _ h => h) (Or.inl ⟨by kernel_rfl, ?gy11⟩) (by assumption) ?gr11
      case gy11 => (intro w' hSw; (try dsimp only at hSw); go_simp; (try with_reducible rfl))
      try simp only [Act.put, List.setIfInBounds_toArray, List.set_cons_zero, List.set_cons_succ, List.getElem_toArray, List.getElem_cons_succ, List.getElem_cons_zero]
      refine wpAnyH_done (by kernel_rfl) ?_ _
      refine wpOp_last rfl (fun K hK => ?_)
      clear hS
      go_simp
      refine Shut.out hK _ _ (NoPanic.normal ?_)
      rotate_left 1
      go_simp
      clear hS
      try dsimp only
      refine Shut.out hK _ _ (hall.out _ HBA.out) (fun hS => ?_)
      try simp only [Act.put, List.setIfInBounds_toArray, List.set_cons_zero, List.set_cons_succ, List.getElem_toArray, List.getElem_cons_succ, List.getElem_cons_zero]
      refine wpAnyH_ready (rs := [8]) (by kernel_rfl) (by simp) ?_
      refine AllReadyH.cons rfl (fun K hK => ?_) AllReadyH.nil
      go_simp
      (with_reducible refine hcM.mono ?_)
      rintro e W8 ⟨rfl, b8⟩
      have bE : Below w3.drew.heap.size w3.drew W8 := HBA.out.trans (b8.mono HBA.out.size)
      have HBE : Hid _ := bE
      have happ := (fun ty => app_bytes W8 (.slice (some ⟨w3.heap.size, 0, none⟩) 0 0) 0 [] ba nb bc zs HZL.out (by omega) (OwnV.keep (ownV_fresh (W := w3.drew)) b8) (HRD.out _ bE) ty)
      rw [Nat.zero_add, List.nil_append] at happ
      have HAP : Hid _ := happ
      clear happ bE
      clear hS
      try dsimp only
      refine Shut.out hK _ _ (hall.out _ HBE.out) (fun hS => ?_)
      try simp only [Act.put, List.setIfInBounds_toArray, List.set_cons_zero, List.set_cons_succ, List.getElem_toArray, List.getElem_cons_succ, List.getElem_cons_zero]
      refine wpAnyH_ready (rs := [11]) (by kernel_rfl) (by simp) ?_
      refine AllReadyH.cons rfl (fun K hK => ?_) AllReadyH.nil
      refine step_appAny W8 rfl (.tmp 27) (.tmp 28) 25 rfl (.slice (some ⟨w3.heap.size, 0, none⟩) 0 0) (.slice ba nb bc) _ rfl rfl HAP.out ?_
      intro v1 W10 hap
      obtain ⟨b10, rB, nB⟩ := app_new HBE.out (Nat.le_refl _) hap
      obtain ⟨a1, c1, rfl, _⟩ := rB.form
      have HBR : Hid _ := And.intro b10 (And.intro rB nB)
      obtain ⟨u0, u1, e0, e1, e2, e3, ⟨u2, e4⟩, e5⟩ := hpg.out W10 b10
      clear b10 rB nB hap
      clear hS
      try dsimp only
      refine Shut.out hK _ _ (hall.out _ HBR.out.1) (fun hS => ?_)
      try simp only [Act.put, List.setIfInBounds_toArray, List.set_cons_zero, List.set_cons_succ, List.getElem_toArray, List.getElem_cons_succ, List.getElem_cons_zero]
      refine wpAnyH_take (i := 12) (v := ?gv12) rfl (by kernel_rfl) (by kernel_rfl) (by kernel_rfl) (fun _ _ _ h => h) (Or.inl ⟨by kernel_rfl, ?gy12⟩) (by assumption) ?gr12
      case gy12 => (intro w' hSw; (try dsimp only at hSw); go_simp; (try with_reducible rfl))
      try simp only [Act.put, List.setIfInBounds_toArray, List.set_cons_zero, List.set_cons_succ, List.getElem_toArray, List.getElem_cons_succ, List.getElem_cons_zero]
      refine wpAnyH_take (i := 13) (v := ?gv13) rfl (by kernel_rfl) (by kernel_rfl) (by kernel_rfl) (fun _ _ _ h => h) (Or.inl ⟨by kernel_rfl, ?gy13⟩) (by assumption) ?gr13
      case gy13 => (intro w' hSw; (try dsimp only at hSw); go_simp; (try with_reducible rfl))
      try simp only [Act.put, List.setIfInBounds_toArray, List.set_cons_zero, List.set_cons_succ, List.getElem_toArray, List.getElem_cons_succ, List.getElem_cons_zero]
      refine wpAnyH_done (by kernel_rfl) ?_ _
      refine wpOp_last rfl (fun K hK => ?_)
      clear hS
      go_simp
      refine Shut.out hK _ _ (NoPanic.normal ?_)
      rotate_left 1
      all_goals (
        clear e0 e1 e2 e3 e4 e5 s1 s2 s3 b8 HBE HAP hcN hcM
        obtain ⟨q3, hlC, htk, hta, hml⟩ := HPG.out
        obtain ⟨b10, rB, nB⟩ := HBR.out
        obtain ⟨z3, B3', hX3⟩ := HFIN.out
        have hd3 := (Below.refl w3.heap.size w3).drew
        have b10' : Below w3.heap.size w3 W10 := hd3.trans b10
        have q5 := NewBs.page (q3.keep hd3) hlC htk hta hml b10 HZL.out rB nB
        have z5 : Blk ((W10.setCell ⟨P, m * 2, none⟩ (.bool true)).setCell ⟨P, m * 2 + 1, none⟩ (.slice a1 nb c1)) X 29 #[.slice (some ⟨g, 0, none⟩) nC cC] := ((z3.keep b10').other (B' := P) (by omega) (m * 2) (.bool true)).other (B' := P) (by omega) (m * 2 + 1) (.slice a1 nb c1)
        have B5 : Below W0.heap.size W0 ((W10.setCell ⟨P, m * 2, none⟩ (.bool true)).setCell ⟨P, m * 2 + 1, none⟩ (.slice a1 nb c1)) := ((B3'.trans (b10'.mono B3'.size)).setCell (p := ⟨P, m * 2, none⟩) hP0 _).setCell (p := ⟨P, m * 2 + 1, none⟩) hP0 _
        clear q3 b10 b10' rB nB z3 B3' hd3 HBR HPG HFIN htk hta hml B3
        obtain ⟨W5, hW5⟩ : ∃ W, (W10.setCell ⟨P, m * 2, none⟩ (.bool true)).setCell ⟨P, m * 2 + 1, none⟩ (.slice a1 nb c1) = W := ⟨_, rfl⟩
        rw [hW5] at q5 z5 B5 ⊢
        clear hW5
        have x0 := z5.cell 0
        have zr := Blk.keep HZ1.out B5
        have r0 := zr.cell 0
        have f0 := zr.frozen 0
        have zf := zr.set 0 (.slice (some ⟨g, 0, none⟩) nC cC)
        have d0 := zf.cell 0
        simp at x0 r0 d0
        have HQ : Hid _ := q5
        have HB6 : Hid (Below W0.heap.size W0 W5) := B5
        have HLL : Hid (tC.length = nC) := hlC
        clear q5 z5 B5 zr zf hlC
        go_wp2
        refine bodyPost_ret (v := .tuple #[.agg #[.slice (some ⟨g, 0, none⟩) nC cC], .int .i64 0]) (by simp [results, Tryd.f9, go_sem, d0]) rfl ?_
        have hw := HW.out
        have hH := HH.out
        have hbs := HB0.out
        have hb3 := HB6.out
        obtain ⟨e1, e2, e3, e4, e5⟩ := HRR.out
        have hfin : programD ok (bs.map BkR.D) (k : Int) zs = (bs.map BkR.D).set k ⟨(t.ps.map PgR.D).set m ⟨true, zs⟩, t.wear, t.bad⟩ := (by
          rw [HD.out, if_pos trivial]
          unfold progAt
          simp only [Int.toNat_natCast, List.getElem?_map, e1, Option.map_some]
          rw [e2, e3, e4, ← e5]
          rfl)
        rw [hfin, HCE.out]
        have bel : Below w.heap.size w W5 := (by rw [hH]; exact hbs.trans (hb3.mono (by omega)))
        exact ⟨some ⟨g, 0, none⟩, nC, cC, _, rfl, NewBs.wider (B := W0.heap.size) (NewBs.set_below (B := W0.heap.size) (j := H + 1) HQ.out (by omega)) (by omega), by rw [List.length_set]; exact HLL.out, bel.setCell (p := ⟨H + 1, 0, none⟩) (by simp only; omega) _⟩)
  · have hcb : (code == 0) = false := by simp [hc0]
    have x0 := z3.cell 0
    have zr := Blk.keep HZ1.out B3
    have r0 := zr.cell 0
    have f0 := zr.frozen 0
    have zf := zr.set 0 (.slice aC nC cC)
    have d0 := zf.cell 0
    simp at x0 r0 d0
    have HQ : Hid _ := q3
    have HB3 : Hid (Below W0.heap.size W0 w3) := B3
    have HL : Hid (tC.length = nC) := hlC
    have HC0 : Hid (¬ code = 0) := hc0
    clear q3 z3 B3 zr zf hlC hc0
    go_wp2
    refine bodyPost_ret (v := .tuple #[.agg #[.slice aC nC cC], .int .i64 code]) (by simp [results, Tryd.f9, go_sem, d0]) rfl ?_
    have hw := HW.out
    have hH := HH.out
    have hbs := HB0.out
    have hb3 := HB3.out
    rw [HD.out, if_neg HC0.out, HCE.out]
    have bel : Below w.heap.size w w3 := by rw [hH]; exact hbs.trans (hb3.mono (by omega))
    exact ⟨aC, nC, cC, tC, rfl, NewBs.wider (B := W0.heap.size) (NewBs.set_below (B := W0.heap.size) (j := H + 1) HQ.out (by omega)) (by omega), HL.out, bel.setCell (p := ⟨H + 1, 0, none⟩) (by simp only; omega) _⟩
end

section
open Go.RowKit
theorem RowB.keepB {w w' : World} {v : Value} {n : Nat} {zs : List Int} (h : RowB w v n zs) (hb : Below w.heap.size w w') : RowB w' v n zs := h.block fun g hg => hb.block g (h.at_ hg).1
theorem RowB.svs {w w' : World} {v : Value} {n : Nat} {zs : List Int} {F : List Nat} (h : RowB w v n zs) (k : Sv F w w') (hd : ∀ g, v.ownBlock = some g → g ∉ F) : RowB w' v n zs := h.block fun g hg => k.block g (h.at_ hg).1 (hd g hg)
theorem RowB.rdS {w : World} {a : Option Addr} {n c m : Nat} {zs : List Int} (h : RowB w (.slice a n c) m zs) : Rd w a zs := by
  obtain ⟨a', c', e, r⟩ := h.form
  simp only [Value.slice.injEq] at e
  rw [e.1]; exact r
end

section
open Go.RowKit
def ByteRow (w : World) (a : Option Addr) (len cap : Nat) (zs : List Int) : Prop :=
  (a = none ∧ len = 0 ∧ cap = 0 ∧ zs = []) ∨ ∃ x, a = some x ∧ len ≤ cap ∧ cap ≤ maxLen ∧ zs.length = cap ∧ (∀ i, i < zs.length → w.cell? (x.add i) = some (.int .u8 (zs.getD i 0))) ∧ ∀ n ∈ zs, (Lit.int .u8 n).wf = true
set_option maxRecDepth 100000 in
set_option maxHeartbeats 16000000 in
theorem walkFnExactProgram (a : Option Addr) (cap : Nat) (bs : List BkR) (x0 : Int) (ab : Option Addr) (lb cb : Nat) (zb : List Int) (w : World) (hm : bs.length ≤ maxLen) (hi : ∀ r ∈ bs, BkIn r) (hr : RdBs w a bs) (_hwx : (Lit.int .i64 x0).wf = true) (hbr : ByteRow w ab lb cb zb) (hg : EtCell w) :
    Calls Tryd.prog 3 #[.agg #[.slice a bs.length cap], .int .i64 x0, .slice ab lb cb] w fun e w' => e = .returned (.bool true) ∧ Below w.heap.size w w' := by
  obtain ⟨n, hn⟩ : ∃ n, bs.length = n := ⟨_, rfl⟩
  rw [hn] at hm ⊢
  have B0 : Below w.heap.size w (w.alloc (.cells #[.slice a n cap] 24)) := (Below.refl _ w).alloc (Nat.le_refl _) _
  have z0 := Blk.new w 24 #[.slice a n cap]
  obtain ⟨zs, hzl, hrb, _⟩ := rd_of_row hbr
  clear hbr
  by_cases hlb : 1048576 < lb
  · have hlbi : (1048576 : Int) < (lb : Int) := by omega
    have HB0 : Hid _ := B0
    clear z0 hzl hrb hi hr B0 hg
    go_enter Tryd.func3, Tryd.ntmps3
    go_wp2
    go_ret
    exact ⟨rfl, HB0.out⟩
  have hlbi : ¬ (1048576 : Int) < (lb : Int) := by omega
  go_enter Tryd.func3, Tryd.ntmps3
  go_wp2_with fail
  obtain ⟨W0, hW0⟩ : ∃ W, w.alloc (.cells #[.slice a n cap] 24) = W := ⟨_, rfl⟩
  rw [hW0] at B0 z0 ⊢
  clear hW0
  refine (szChip_w a n cap 1048576 bs W0 hn hm (by omega) hi (hr.keep B0)).mono ?_
  rintro e w1 ⟨hsz, b1⟩
  have B1 := B0.trans (b1.mono B0.size)
  have z1 := z0.keep b1
  rcases hsz with rfl | ⟨x, hx, rfl, _⟩
  · go_wp2
    go_ret
    exact ⟨rfl, B1⟩
  have hx0 : ¬ (x : Int) < 0 := by omega
  have htot : Hid (totB (bs.map BkR.D) ≤ 1048576) := by show _ ≤ _; omega
  have HN : Hid ((bs.map BkR.D).length = n) := by show _ = _; simp [hn]
  have CA : Hid (∀ (W : World), RdBs W a bs → _) := fun (W : World) (h : RdBs W a bs) => toChip_any a n cap bs W hn htot.out h
  have CBy : Hid (∀ (W : World), Rd W ab zs → _) := fun (W : World) (h : Rd W ab zs) => toByteS_any ab lb cb zs W hzl (by omega) h
  have HRBB : Hid (Rd w ab zs) := hrb
  have HZL : Hid (zs.length = lb) := hzl
  obtain ⟨dE, hdE⟩ : ∃ d, programD (chipOkB (bs.map BkR.D)) (bs.map BkR.D) x0 zs = d := ⟨_, rfl⟩
  obtain ⟨code, hcode⟩ : ∃ c, codeP (chipOkB (bs.map BkR.D)) (bs.map BkR.D) x0 zs.length = c := ⟨_, rfl⟩
  have HE : Hid (dE.length = n) := by show _ = _; rw [← hdE, programD_len]; exact HN.out
  have HT : Hid (totB dE ≤ 1048585) := by show _ ≤ _; rw [← hdE]; have := programD_tot x0 zs (ds := bs.map BkR.D) rfl htot.out; omega
  have cS : ∀ (W : World) (B g gb : Nat) (ts : List BkR), Rd W (some ⟨gb, 0, none⟩) zs → NewBs W B (.slice (some ⟨g, 0, none⟩) n n) (bs.map BkR.D) ts → Calls Tryd.prog 9 #[.agg #[.slice (some ⟨g, 0, none⟩) n n], .int .i64 x0, .slice (some ⟨gb, 0, none⟩) lb lb] W fun e w' => ∃ a c qs, e = .returned (.tuple #[.agg #[.slice a n c], .int .i64 code]) ∧ NewBs w' W.heap.size (.slice a n c) dE qs ∧ Below W.heap.size W w' := fun W B g gb ts hb h => by
    have := programS (some ⟨g, 0, none⟩) n n ts x0 (some ⟨gb, 0, none⟩) lb lb zs W hzl (by omega) ⟨by rw [h.len, HN.out], by rw [h.D]; exact htot.out, h.rd⟩ hb
    rw [h.D, hdE, hcode] at this
    exact this.mono fun e w' hA => by
      obtain ⟨a, m, c, qs, e1, e2, e3, e4⟩ := hA
      have : m = n := by rw [← e3, e2.len, HE.out]
      subst this
      exact ⟨a, c, qs, e1, e2, e4⟩
  have cI : ∀ (W : World) (B g gb : Nat) (ts : List BkR), EtCell W → Rd W (some ⟨gb, 0, none⟩) zs → NewBs W B (.slice (some ⟨g, 0, none⟩) n n) (bs.map BkR.D) ts → Calls Tryd.prog 12 #[.agg #[.slice (some ⟨g, 0, none⟩) n n], .int .i64 x0, .slice (some ⟨gb, 0, none⟩) lb lb] W fun e w' => ∃ a c qs, e = .returned (.tuple #[.agg #[.slice a n c], .int .i64 code]) ∧ NewBs w' W.heap.size (.slice a n c) dE qs ∧ Below W.heap.size W w' := fun W B g gb ts hE hb h => by
    have := programI (some ⟨g, 0, none⟩) n n ts x0 (some ⟨gb, 0, none⟩) lb lb zs W hzl (by omega) ⟨by rw [h.len, HN.out], by rw [h.D]; exact htot.out, h.rd⟩ hb hE
    rw [h.D, hdE, hcode] at this
    exact this.mono fun e w' hA => by
      obtain ⟨a, m, c, qs, e1, e2, e3, e4⟩ := hA
      have : m = n := by rw [← e3, e2.len, HE.out]
      subst this
      exact ⟨a, c, qs, e1, e2, e4⟩
  have hcb : Hid (∀ ts : List BkR, ts.map BkR.D = bs.map BkR.D → 1 + cBs ts ≤ 9999990) := fun ts h => by
    have := cBs_le ts
    rw [h] at this
    have h2 := htot.out
    omega
  have hcbE : Hid (∀ ts : List BkR, ts.map BkR.D = dE → 1 + cBs ts ≤ 9999990) := fun ts h => by
    have := cBs_le ts
    rw [h] at this
    have h2 := HT.out
    omega
  have CS : Hid _ := cS
  have CI : Hid _ := cI
  have HG : Hid (EtCell w) := hg
  have HRA : Hid (RdBs w a bs) := hr
  have hoo : (code != code) = false := by simp
  clear cS cI hr hn hi hm B0 z0 b1 hdE hcode hg hzl hrb
  have q0 := z1.cell 0
  simp at q0
  obtain ⟨G0, hG0⟩ : ∃ G, w.heap.size = G := ⟨_, rfl⟩
  have hG0' : Hid (w.heap.size = G0) := hG0
  rw [hG0] at z1 q0 ⊢
  go_wp2_with fail
  refine (CA.out w1 (RdBs.keep HRA.out B1)).mono ?_
  rintro e w2 ⟨gA, tA, rfl, qA, b2⟩
  have B2 := B1.trans (b2.mono B1.size)
  have z2 := z1.keep b2
  clear q0 z1 b2
  go_wp2_with fail
  refine (CBy.out w2 (Rd.keep HRBB.out B2)).mono ?_
  rintro e w2b ⟨rfl, oA, bb⟩
  replace B2 := B2.trans (bb.mono B2.size)
  replace z2 := z2.keep bb
  replace qA := qA.keep bb
  have hz2 := z2.lt
  clear bb
  obtain ⟨Ga2, hGA⟩ : ∃ G, w2.heap.size = G := ⟨_, rfl⟩
  rw [hGA] at oA ⊢
  clear hGA
  go_wp2_with fail
  refine (CS.out w2b _ gA Ga2 tA oA.rd qA).mono ?_
  rintro e w3 ⟨aS, cpS, tS, rfl, qS, b3⟩
  clear oA
  have B3 := B2.trans (b3.mono B2.size)
  have z3 := z2.keep b3
  have b3' : Below w3.heap.size w3 (w3.alloc (.cells #[.slice aS n cpS] 29)) := (Below.refl _ w3).alloc (Nat.le_refl _) _
  have s3 := Blk.new w3 29 #[.slice aS n cpS]
  have q0 := (z3.keep b3').cell 0
  simp at q0
  clear qA z2 b3
  go_wp2_with fail
  obtain ⟨W3, hW3⟩ : ∃ W, w3.alloc (.cells #[.slice aS n cpS] 29) = W := ⟨_, rfl⟩
  rw [hW3] at b3' s3 q0 ⊢
  clear hW3
  obtain ⟨GS, hGS⟩ : ∃ G, w3.heap.size = G := ⟨_, rfl⟩
  have hSl : Hid (∀ g ∈ fpBs (.slice aS n cpS) tS, G0 < g ∧ g < GS) := fun g hg => by
    have h1 := qS.new g hg
    have h2 := qS.own.lt g hg
    exact ⟨by omega, by omega⟩
  rw [hGS] at s3 ⊢
  have hG0S : G0 < GS := by have := z3.lt; omega
  have B3' := B3.trans (b3'.mono B3.size)
  have z3' := z3.keep b3'
  have qS3 := qS.keep b3'
  have hGS3 := s3.lt
  clear qS z3 b3' B3 hGS
  refine (CA.out W3 (RdBs.keep HRA.out B3')).mono ?_
  rintro e w4 ⟨gB, tB, rfl, qB, b4⟩
  have B4 := B3'.trans (b4.mono B3'.size)
  have z4 := z3'.keep b4
  have s4 := s3.keep b4
  have qS4 := qS3.keep b4
  have b5 : Below w4.heap.size w4 (w4.alloc (.cells #[.slice (some ⟨gB, 0, none⟩) n n] 29)) := (Below.refl _ w4).alloc (Nat.le_refl _) _
  have m5 := Blk.new w4 29 #[.slice (some ⟨gB, 0, none⟩) n n]
  clear q0 z3' b4 qS3 s3 B3'
  go_wp2_with fail
  obtain ⟨W5, hW5⟩ : ∃ W, w4.alloc (.cells #[.slice (some ⟨gB, 0, none⟩) n n] 29) = W := ⟨_, rfl⟩
  rw [hW5] at b5 m5 ⊢
  clear hW5
  obtain ⟨G4, hG4⟩ : ∃ G, w4.heap.size = G := ⟨_, rfl⟩
  have hBl : Hid (∀ g ∈ fpBs (.slice (some ⟨gB, 0, none⟩) n n) tB, GS < g ∧ g < G4) := fun g hg => by
    have h1 := qB.new g hg
    have h2 := qB.own.lt g hg
    exact ⟨by omega, by omega⟩
  rw [hG4] at m5 ⊢
  have hGS4 : GS < G4 := by have := s4.lt; omega
  have B5 := B4.trans (b5.mono B4.size)
  have z5 := z4.keep b5
  have s5 := s4.keep b5
  have qS5 := qS4.keep b5
  have qB5 := qB.keep b5
  have hG45 := m5.lt
  clear qB z4 s4 b5 qS4 B4 hG4
  refine (CBy.out W5 (Rd.keep HRBB.out B5)).mono ?_
  rintro e w5b ⟨rfl, oX', bb⟩
  have oX : RowB w5b (.slice (some ⟨W5.heap.size, 0, none⟩) lb lb) lb zs := OwnV.rowB oX'
  have hoX := Own.lt oX'
  clear oX'
  replace B5 := B5.trans (bb.mono B5.size)
  replace z5 := z5.keep bb
  replace s5 := s5.keep bb
  replace m5 := m5.keep bb
  replace qS5 := qS5.keep bb
  replace qB5 := qB5.keep bb
  clear bb
  obtain ⟨Gx2, hGx2⟩ : ∃ G, W5.heap.size = G := ⟨_, rfl⟩
  rw [hGx2] at oX hoX hG45 ⊢
  clear hGx2
  have p0 := m5.cell 0
  simp at p0
  go_wp2_with fail
  clear p0
  refine (CI.out w5b _ gB Gx2 tB (HG.out.keep B5) oX.rdS qB5).mono ?_
  rintro e w6 ⟨aI, cpI, tI, rfl, qI, b6⟩
  have B6 := B5.trans (b6.mono B5.size)
  have z6 := z5.keep b6
  have s6 := s5.keep b6
  have m6 := m5.keep b6
  have qB6 := qB5.keep b6
  have qS6 := qS5.keep b6
  have oX6 := oX.keepB b6
  clear oX
  have b6' : Below w6.heap.size w6 (w6.alloc (.cells #[.slice aI n cpI] 29)) := (Below.refl _ w6).alloc (Nat.le_refl _) _
  have i6 := Blk.new w6 29 #[.slice aI n cpI]
  have s0 := (s6.keep b6').cell 0
  simp at s0
  clear qB5 z5 m5 b6 qS5 s5 B5
  go_wp2_with fail
  obtain ⟨W6, hW6⟩ : ∃ W, w6.alloc (.cells #[.slice aI n cpI] 29) = W := ⟨_, rfl⟩
  rw [hW6] at b6' i6 s0 ⊢
  clear hW6 s0
  obtain ⟨GI, hGI⟩ : ∃ G, w6.heap.size = G := ⟨_, rfl⟩
  have hIl : Hid (∀ g ∈ fpBs (.slice aI n cpI) tI, G4 < g ∧ g < GI ∧ Gx2 < g) := fun g hg => by
    have h1 := qI.new g hg
    have h2 := qI.own.lt g hg
    exact ⟨by omega, by omega, by omega⟩
  rw [hGI] at i6 ⊢
  have hG4I : G4 < GI := by have := m6.lt; omega
  have hGXI : Gx2 < GI := by have := (RowB.at_ oX6 (g := Gx2) rfl).1; omega
  have B6' := B6.trans (b6'.mono B6.size)
  have z6' := z6.keep b6'
  have s6' := s6.keep b6'
  have m6' := m6.keep b6'
  have qB6' := qB6.keep b6'
  have qS6' := qS6.keep b6'
  have qI6' := qI.keep b6'
  have oX6' := oX6.keepB b6'
  clear qB6 z6 m6 b6' qS6 s6 B6 qI hGI oX6
  refine (eqNew HE.out (Nat.le_trans HT.out (by omega)) qI6' qS6').mono ?_
  rintro e w7 ⟨rfl, b7⟩
  have B7 := B6'.trans (b7.mono B6'.size)
  have z7 := z6'.keep b7
  have s7 := s6'.keep b7
  have m7 := m6'.keep b7
  have i7 := i6.keep b7
  have qB7 := qB6'.keep b7
  have qS7 := qS6'.keep b7
  have qI7 := qI6'.keep b7
  have oX7 := oX6'.keepB b7
  clear qB6' z6' m6' b7 qS6' s6' B6' qI6' i6 oX6'
  have q0 := z7.cell 0
  have p0 := m7.cell 0
  simp at q0 p0
  have r7 := RdBs.keep HRA.out B7.drew
  have b7d := (Below.refl w7.heap.size w7).drew
  have qB7d := qB7.keep b7d
  have m7d := m7.keep b7d
  have HC7 : Hid (NewBs w7.drew W3.heap.size (.slice (some ⟨gB, 0, none⟩) n n) (bs.map BkR.D) tB ∧ NewBs w7.drew w2b.heap.size (.slice aS n cpS) dE tS ∧ NewBs w7.drew w5b.heap.size (.slice aI n cpI) dE tI ∧ Blk w7.drew G0 24 #[.slice a n cap] ∧ Blk w7.drew GS 29 #[.slice aS n cpS] ∧ Blk w7.drew G4 29 #[.slice (some ⟨gB, 0, none⟩) n n] ∧ Blk w7.drew GI 29 #[.slice aI n cpI] ∧ RowB w7.drew (.slice (some ⟨Gx2, 0, none⟩) lb lb) lb zs ∧ Below w.heap.size w w7.drew) := ⟨qB7d, qS7.keep b7d, qI7.keep b7d, z7.keep b7d, s7.keep b7d, m7d, i7.keep b7d, oX7.keepB b7d, B7.drew⟩
  clear qB7 z7 m7 b7d B7 qS7 qI7 s7 i7 oX7
  go_wp2
  go_region_with (first
    | (go_at_call 10; (with_reducible refine (CA.out _ r7).mono ?_); rintro e wA ⟨gC, tC, rfl, qC, b9⟩; have qAA := qB7d.keep b9; have t0 := (m7d.keep b9).cell 0; simp at t0)
    | (go_at_call 13; refine (eqNew HN.out (Nat.le_trans htot.out (by omega)) qAA qC).mono ?_; rintro e w8 ⟨rfl, b10⟩))
  all_goals
    have b11 := b9.trans (b10.mono b9.size)
    obtain ⟨qB8, qS8, qI8, z8, s8, m8, i8, oX8, B8⟩ := HC7.out
    replace qB8 := qB8.keep b11
    replace qS8 := qS8.keep b11
    replace qI8 := qI8.keep b11
    replace z8 := z8.keep b11
    replace s8 := s8.keep b11
    replace m8 := m8.keep b11
    replace i8 := i8.keep b11
    replace oX8 := oX8.keepB b11
    replace B8 := B8.trans (b11.mono B8.size)
    clear b9 b10 b11 qC qAA r7 qB7d m7d q0 p0 HC7
    try clear t0
    go_wp2_with fail
    refine (CBy.out w8 (Rd.keep HRBB.out B8)).mono ?_
    rintro e w8b ⟨rfl, oC, bb⟩
    replace oX8 := oX8.keepB bb
    obtain ⟨Gc2, hGC⟩ : ∃ G, w8.heap.size = G := ⟨_, rfl⟩
    rw [hGC] at oC ⊢
    clear hGC
    go_wp2_with fail
    refine (eqByteS_true (some ⟨Gx2, 0, none⟩) (some ⟨Gc2, 0, none⟩) lb lb lb zs w8b HZL.out (by omega) oX8.rdS oC.rd).mono ?_
    rintro e w8c ⟨rfl, bc⟩
    replace bb := bb.trans (bc.mono bb.size)
    replace oX8 := oX8.keepB bc
    replace qB8 := qB8.keep bb
    replace qS8 := qS8.keep bb
    replace qI8 := qI8.keep bb
    replace z8 := z8.keep bb
    replace s8 := s8.keep bb
    replace m8 := m8.keep bb
    replace i8 := i8.keep bb
    replace B8 := B8.trans (bb.mono B8.size)
    clear bb bc oC
    have p0 := m8.cell 0
    simp at p0
    go_wp2_with fail
    have hcbo := hcb.out tB qB8.D
    refine (markCh_any (.slice (some ⟨gB, 0, none⟩) n n) 1 tB w8c (Nat.le_refl _) hcbo qB8.own qB8.nd).mono ?_
    rintro e w9 ⟨rfl, _, sv9⟩
    have qS9 := qS8.svs sv9 (fun g hg hf => by have := hSl.out g hg; have := hBl.out g hf; omega)
    have qI9 := qI8.svs sv9 (fun g hg hf => by have := hIl.out g hg; have := hBl.out g hf; omega)
    have z9 := Blk.svs z8 sv9 (fun hf => by have := hBl.out G0 hf; omega)
    have s9 := Blk.svs s8 sv9 (fun hf => by have := hBl.out GS hf; omega)
    have i9 := Blk.svs i8 sv9 (fun hf => by have := hBl.out GI hf; omega)
    have B9 : Below w.heap.size w w9 := Below.svs B8 sv9 (fun g hg => by have := hBl.out g hg; have := hG0'.out; omega) (Nat.le_refl _)
    have oX9 := oX8.svs sv9 (fun g hg hf => by
      have h1 := hBl.out g hf
      have h2 : Gx2 = g := by simpa [Value.ownBlock] using hg
      omega)
    obtain ⟨Q, hQ⟩ : ∃ Q, 1 + cBs tB = Q := ⟨_, rfl⟩
    rw [hQ]
    have hQ1 : 1 ≤ Q := by omega
    have hQ2 : Q + lb ≤ 9999990 := by have h1 := cBs_le tB; rw [qB8.D] at h1; have h2 := htot.out; omega
    clear hQ hcbo sv9 qS8 qI8 z8 s8 m8 i8 B8 qB8 p0 oX8
    go_wp2_with fail
    refine (markBG (.slice (some ⟨Gx2, 0, none⟩) lb lb) lb Q zs w9 hQ1 hQ2 oX9).mono ?_
    rintro e w9b ⟨rfl, _, hgr⟩
    have sv9 : Sv [Gx2] w9 w9b := Sv.gr hgr (fun g hg => by simp [Value.ownBlock] at hg; simp [hg])
    replace qS9 := qS9.svs sv9 (fun g hg hf => by have h1 := hSl.out g hg; have h2 : g = Gx2 := (by simpa using hf); omega)
    replace qI9 := qI9.svs sv9 (fun g hg hf => by have h1 := hIl.out g hg; have h2 : g = Gx2 := (by simpa using hf); omega)
    replace z9 := Blk.svs z9 sv9 (fun hf => by have h2 : G0 = Gx2 := (by simpa using hf); omega)
    replace s9 := Blk.svs s9 sv9 (fun hf => by have h2 : GS = Gx2 := (by simpa using hf); omega)
    replace i9 := Blk.svs i9 sv9 (fun hf => by have h2 : GI = Gx2 := (by simpa using hf); omega)
    replace B9 : Below w.heap.size w w9b := Below.svs B9 sv9 (fun g hg => by have h2 : g = Gx2 := (by simpa using hg); have := hG0'.out; omega) (Nat.le_refl _)
    obtain ⟨QL, hQL⟩ : ∃ QL, Q + lb = QL := ⟨_, rfl⟩
    rw [hQL]
    have hQ0 : ¬ (QL : Int) < 0 := by omega
    clear hQL sv9 hgr oX9
    have s0 := s9.cell 0
    have i0 := i9.cell 0
    simp at s0 i0
    go_wp2_with fail
    refine (eqNew HE.out (Nat.le_trans HT.out (by omega)) qI9 qS9).mono ?_
    rintro e w10 ⟨rfl, b10⟩
    have qS10 := qS9.keep b10
    have qI10 := qI9.keep b10
    have z10 := z9.keep b10
    have s10 := s9.keep b10
    have i10 := i9.keep b10
    have B10 := B9.trans (b10.mono B9.size)
    clear qS9 qI9 z9 s9 i9 B9 b10 s0 i0
    have i0 := i10.cell 0
    simp at i0
    have hcbI := hcbE.out tI qI10.D
    go_wp2_with fail
    refine (markCh_any (.slice aI n cpI) 1 tI w10 (Nat.le_refl _) hcbI qI10.own qI10.nd).mono ?_
    rintro e w11 ⟨rfl, oI, sv11⟩
    have qS11 := qS10.svs sv11 (fun g hg hf => by have := hSl.out g hg; have := hIl.out g hf; omega)
    have z11 := Blk.svs z10 sv11 (fun hf => by have := hIl.out G0 hf; omega)
    have s11 := Blk.svs s10 sv11 (fun hf => by have := hIl.out GS hf; omega)
    have i11 := Blk.svs i10 sv11 (fun hf => by have := hIl.out GI hf; omega)
    have B11 : Below w.heap.size w w11 := Below.svs B10 sv11 (fun g hg => by have := hIl.out g hg; have := hG0'.out; omega) (Nat.le_refl _)
    obtain ⟨M, hM⟩ : ∃ M, 1 + cBs tI = M := ⟨_, rfl⟩
    have CH : Hid (∀ W : World, OwnBs W (.slice aI n cpI) (mkBs 1 tI) → Calls Tryd.prog 17 #[.agg #[.slice aI n cpI], .int .i64 1] W fun e w' => e = .returned (.int .i64 (M : Int)) ∧ Below W.heap.size W w') := fun W h => by
      have := heldCh_any (.slice aI n cpI) 1 tI W (Nat.le_refl _) hcbI h
      rw [hM] at this
      exact this
    rw [hM]
    have hM0 : ¬ (M : Int) < 0 := by omega
    have hMM : ((M : Int) != (M : Int)) = false := by simp
    clear hM hcbI sv11 qS10 qI10 z10 s10 i10 B10 i0
    have i0 := i11.cell 0
    simp at i0
    go_wp2_with fail
    refine (CH.out w11 oI).mono ?_
    rintro e w12 ⟨rfl, b12⟩
    have qS12 := qS11.keep b12
    have oI12 := oI.keep b12
    have z12 := z11.keep b12
    have s12 := s11.keep b12
    have i12 := i11.keep b12
    have B12 := B11.trans (b12.mono B11.size)
    clear qS11 oI z11 s11 i11 B11 b12 i0
    have q0 := z12.cell 0
    simp at q0
    go_wp2_with fail
    refine (CA.out w12 (RdBs.keep HRA.out B12)).mono ?_
    rintro e w13 ⟨gD, tD, rfl, qD, b13⟩
    have qS13 := qS12.keep b13
    have oI13 := oI12.keep b13
    have s13 := s12.keep b13
    have i13 := i12.keep b13
    have B13 := B12.trans (b13.mono B12.size)
    clear qS12 oI12 z12 s12 i12 B12 b13 q0
    go_wp2_with fail
    refine (CBy.out w13 (Rd.keep HRBB.out B13)).mono ?_
    rintro e w13b ⟨rfl, oD, bb⟩
    replace qD := qD.keep bb
    replace qS13 := qS13.keep bb
    replace oI13 := oI13.keep bb
    replace s13 := s13.keep bb
    replace i13 := i13.keep bb
    replace B13 := B13.trans (bb.mono B13.size)
    clear bb
    obtain ⟨Gd2, hGD⟩ : ∃ G, w13.heap.size = G := ⟨_, rfl⟩
    rw [hGD] at oD ⊢
    clear hGD
    go_wp2_with fail
    refine (CI.out w13b _ gD Gd2 tD (HG.out.keep B13) oD.rd qD).mono ?_
    rintro e w14 ⟨aJ, cpJ, tJ, rfl, qJ, b14⟩
    have qS14 := qS13.keep b14
    have oI14 := oI13.keep b14
    have s14 := s13.keep b14
    have i14 := i13.keep b14
    have B14 := B13.trans (b14.mono B13.size)
    have b15 : Below w14.heap.size w14 (w14.alloc (.cells #[.slice aJ n cpJ] 29)) := (Below.refl _ w14).alloc (Nat.le_refl _) _
    have s0 := (s14.keep b15).cell 0
    simp at s0
    clear qS13 oI13 s13 i13 B13 b14 qD oD
    go_wp2_with fail
    obtain ⟨W15, hW15⟩ : ∃ W, w14.alloc (.cells #[.slice aJ n cpJ] 29) = W := ⟨_, rfl⟩
    rw [hW15] at b15 s0 ⊢
    clear hW15 s0
    have qS15 := qS14.keep b15
    have qJ15 := qJ.keep b15
    have oI15 := oI14.keep b15
    have i15 := i14.keep b15
    have B15 := B14.trans (b15.mono B14.size)
    clear qS14 qJ oI14 s14 i14 B14 b15
    refine (eqNew HE.out (Nat.le_trans HT.out (by omega)) qJ15 qS15).mono ?_
    rintro e w16 ⟨rfl, b16⟩
    have oI16 := oI15.keep b16
    have i16 := i15.keep b16
    have B16 := B15.trans (b16.mono B15.size)
    clear qS15 qJ15 oI15 i15 B15 b16
    have i0 := i16.cell 0
    simp at i0
    go_wp2_with fail
    refine (CH.out w16 oI16).mono ?_
    rintro e w17 ⟨rfl, b17⟩
    have B17 := B16.trans (b17.mono B16.size)
    clear oI16 i16 B16 b17 i0
    go_wp2
    go_ret
    rw [← hG0'.out]
    exact ⟨rfl, B17⟩
end

section
open Go.ChangeShapes Go.WideShapes Go.ChangeAt Go.RowKit
section
variable {H : Type} {enc : TypeId × Value → H} {w : World} {base : Nat} {held : Bool}
theorem cells_row {a : Addr} {cs : List Value} {k : Nat} (h : w.cells? base a k = some cs) (_h1 : cs.length = k) : ∀ j, j < k → w.cell? (a.add j) = cs[j]? := by
  unfold World.cells? at h
  split at h
  · intro j hj
    have hm : ∀ (l : List Nat) (cs : List Value), l.mapM (fun i => w.cell? (a.add i)) = some cs → ∀ (i x : Nat), l[i]? = some x → w.cell? (a.add x) = cs[i]? := by
      intro l
      induction l with
      | nil => intro cs _ i x hx; simp at hx
      | cons y l ih =>
        intro cs hc i x hx
        simp only [List.mapM_cons, Option.bind_eq_bind, Option.pure_def, Option.bind_eq_some_iff, Option.some.injEq] at hc
        obtain ⟨v, hv, vs, hvs, rfl⟩ := hc
        cases i with
        | zero => simp at hx; subst hx; simpa using hv
        | succ i => simp at hx ⊢; exact ih vs hvs i x hx
    exact hm _ cs h j j (by simp [hj])
  · simp at h
theorem add_any (b o j : Nat) : (⟨b, o, none⟩ : Addr).add j = ⟨b, o + j, none⟩ := by
  unfold Addr.add
  split
  · rename_i h; rw [h]; rfl
  · simp
theorem list3 {α : Type} {l : List α} (h : l.length = 3) : ∃ a b c, l = [a, b, c] := by
  match l, h with
  | [a, b, c], _ => exact ⟨a, b, c, rfl⟩
theorem list1 {α : Type} {l : List α} (h : l.length = 1) : ∃ a, l = [a] := by
  match l, h with
  | [a], _ => exact ⟨a, rfl⟩
/-- A slice of elements that came in, opened. -/
theorem open_row {P : Program} {α : Type} [Inhabited α] (E : El α) (R rd : α → Prop) {t e : TypeId} {fuel : Nat} {cs : List Value} {x : DataW H × List MemPlace} (ht : P.underlying t = some (.slice e)) (hc : P.cellsOf e = E.k)
    (hel : ∀ n cs' y, DataW.trod enc P w base (fun _ => true) held n e cs' = some y → ∃ q, cs' = E.en q ∧ R q ∧ rd q)
    (h : DataW.trod enc P w base (fun _ => true) held fuel t cs = some x) :
    ∃ (a : Option Addr) (cap : Nat) (es : List α), cs = [.slice a es.length cap] ∧ es.length ≤ maxLen ∧ (∀ q ∈ es, R q) ∧ RdE E rd w a es := by
  rcases Deep.open_slice ht h with ⟨rfl, _⟩ | ⟨a, len, cap, m, n, D, Pl, rfl, _, hl, hm, hmm, _, hx⟩
  · exact ⟨none, 0, [], rfl, Nat.zero_le _, fun q hq => by simp at hq, .inl rfl⟩
  · simp only [if_true] at hmm
    subst hmm
    rw [hc] at hx
    obtain ⟨f, hf⟩ := Deep.choose_lt (α := α) (n := len) (p := fun i q => (∀ j, j < E.k → w.cell? ((a.add (i * E.k)).add j) = (E.en q)[j]?) ∧ R q ∧ rd q) (fun i hi => by
      obtain ⟨cs', h1, h2⟩ := hx i (by omega)
      obtain ⟨q, hq, hR⟩ := hel n cs' _ h2
      have := cells_row h1 (by rw [hq]; exact E.len q)
      rw [hq] at this
      exact ⟨q, this, hR⟩)
    refine ⟨some a, m, (List.range len).map f, by simp, by simp; omega, ?_, ?_⟩
    · intro q hq
      obtain ⟨i, hi, rfl⟩ := List.mem_map.1 hq
      exact (hf i (List.mem_range.1 hi)).2.1
    · by_cases h0 : len = 0
      · subst h0; exact .inl rfl
      · obtain ⟨b, off, spot⟩ := a
        have hc0 := (hf 0 (by omega)).1 0 E.pos
        have hspot : spot = none := by
          have hp := E.pos
          have hl := E.len (f 0)
          rw [List.getElem?_eq_getElem (by omega)] at hc0
          simpa [Addr.add] using World.cell?_spot hc0
        subst hspot
        refine .inr ⟨b, off, rfl, fun i r hi => ?_⟩
        obtain ⟨hi', hr'⟩ := List.getElem?_eq_some_iff.1 hi
        simp only [List.length_map, List.length_range] at hi'
        simp at hr'
        subst hr'
        obtain ⟨k0, _, hR⟩ := hf i hi'
        refine ⟨fun j hj => ?_, hR⟩
        have := k0 j hj
        rw [add_any, add_any] at this
        exact this
instance instPgR : Inhabited PgR := ⟨⟨false, none, 0, []⟩⟩
instance instBkR : Inhabited BkR := ⟨⟨none, 0, [], 0, false⟩⟩
set_option maxRecDepth 100000 in
set_option maxHeartbeats 1000000 in
theorem open_pages {fuel : Nat} {cs : List Value} {x : DataW H × List MemPlace} (h : DataW.trod enc Tryd.prog w base (fun _ => true) held fuel 80 cs = some x) :
    ∃ (a : Option Addr) (cap : Nat) (es : List PgR), cs = [.slice a es.length cap] ∧ es.length ≤ maxLen ∧ (∀ q ∈ es, PgIn q) ∧ RdPs w a es := by
  refine open_row pgE PgIn (fun p => Rd w p.a p.zs) Tryd.underlying80 (by kernel_rfl) ?_ h
  intro n cs' y hy
  obtain ⟨y0, y1, n', _, hcl, g0, g1⟩ := trod_struct2 Tryd.underlying118 hy
  have hc2 : Tryd.prog.cellsOf 118 = 2 := by kernel_rfl
  have k4 : Tryd.prog.cellsOf 4 = 1 := by kernel_rfl
  have k5 : Tryd.prog.cellsOf 25 = 1 := by kernel_rfl
  rw [hc2] at hcl
  obtain ⟨u0, u1, rfl⟩ := list2 hcl
  simp [k4, k5] at g0 g1
  obtain ⟨u, e0, _⟩ := DataW.trod_bool Tryd.underlying4 g0
  obtain ⟨a1, n1, c1, zs, e3, m1, l1, r1, b1⟩ : ∃ (a1 : Option Addr) (n1 c1 : Nat) (zs : List Int), [u1] = [.slice a1 n1 c1] ∧ n1 ≤ maxLen ∧ zs.length = n1 ∧ Rd w a1 zs ∧ Byt zs := by
    rcases open_ints Tryd.underlying25 Tryd.underlying5 (by kernel_rfl) g1 with ⟨hcs, _⟩ | ⟨x, l, c, zs, hcs, _, hl, hm, hz, _, hcell, hwz⟩
    · exact ⟨none, 0, 0, [], hcs, Nat.zero_le _, rfl, .inl rfl, fun z hz => by simp at hz⟩
    · obtain ⟨ys, hy, hr, hb⟩ := rd_of_row (w := w) (a := some x) (len := l) (cap := c) (zs := zs) (.inr ⟨x, rfl, hl, hm, by simpa using hz, hcell, hwz⟩)
      exact ⟨some x, l, c, ys, hcs, Nat.le_trans hl hm, hy, hr, hb⟩
  simp only [List.cons.injEq, and_true] at e0 e3
  subst e0 e3 l1
  exact ⟨⟨u, a1, c1, zs⟩, rfl, ⟨m1, b1⟩, r1⟩
set_option maxRecDepth 100000 in
set_option maxHeartbeats 1000000 in
theorem open_blocks {fuel : Nat} {cs : List Value} {x : DataW H × List MemPlace} (h : DataW.trod enc Tryd.prog w base (fun _ => true) held fuel 22 cs = some x) :
    ∃ (a : Option Addr) (cap : Nat) (es : List BkR), cs = [.slice a es.length cap] ∧ es.length ≤ maxLen ∧ (∀ q ∈ es, BkIn q) ∧ RdBs w a es := by
  refine open_row bkE BkIn (fun b => RdPs w b.a b.ps) Tryd.underlying22 (by kernel_rfl) ?_ h
  intro n cs' y hy
  obtain ⟨xs, n, _, _, hl, hlen, hfld⟩ := DataW.trod_struct Tryd.underlying82 hy
  have hC : Tryd.prog.cellsOf 82 = 3 := by kernel_rfl
  have k3 : Tryd.prog.cellsOf 3 = 1 := by kernel_rfl
  have k4 : Tryd.prog.cellsOf 4 = 1 := by kernel_rfl
  have kP : Tryd.prog.cellsOf 80 = 1 := by kernel_rfl
  rw [hC] at hl
  obtain ⟨v0, v1, v2, rfl⟩ := list3 hl
  obtain ⟨y0, y1, y2, rfl⟩ := list3 hlen
  have f0 := hfld 0 _ rfl
  have f1 := hfld 1 _ rfl
  have f2 := hfld 2 _ rfl
  simp [k3, k4, kP] at f0 f1 f2
  obtain ⟨a, cap, es, e0, hm, hI, hR⟩ := open_pages f0
  obtain ⟨wear, e1, _, w1⟩ := DataW.trod_int Tryd.underlying3 f1
  obtain ⟨bad, e2, _⟩ := DataW.trod_bool Tryd.underlying4 f2
  simp only [List.cons.injEq, and_true] at e0 e1 e2
  subst e0 e1 e2
  exact ⟨⟨a, cap, es, wear, bad⟩, rfl, ⟨w1, hm, hI⟩, hR⟩
set_option maxRecDepth 100000 in
theorem open_chip {base' : Nat} {v : Value} {d : DataW H} {p : List MemPlace} (hv : Value.okWide Tryd.prog w .any base' 24 v) (h : DataW.Trod enc Tryd.prog w base (fun _ => true) held 24 v d p) :
    ∃ (a : Option Addr) (cap : Nat) (bs : List BkR), v = .agg #[.slice a bs.length cap] ∧ bs.length ≤ maxLen ∧ (∀ r ∈ bs, BkIn r) ∧ RdBs w a bs := by
  obtain ⟨cs, rfl, hsz⟩ := okWide_struct Tryd.underlying24 hv
  obtain ⟨fuel, hf⟩ := h
  obtain ⟨xs, n, _, _, hl, hlen, hfld⟩ := DataW.trod_struct Tryd.underlying24 hf
  have hC : Tryd.prog.cellsOf 24 = 1 := by kernel_rfl
  have kB : Tryd.prog.cellsOf 22 = 1 := by kernel_rfl
  rw [hC] at hsz
  obtain ⟨l⟩ := cs
  simp only [List.size_toArray] at hsz
  obtain ⟨v0, rfl⟩ := list1 hsz
  obtain ⟨y0, rfl⟩ := list1 hlen
  have f0 := hfld 0 _ rfl
  simp [Value.cells, kB] at f0
  obtain ⟨a, cap, es, e0, hm, hI, hR⟩ := open_blocks f0
  simp only [List.cons.injEq, and_true] at e0
  subst e0
  exact ⟨a, cap, es, rfl, hm, hI, hR⟩
end
end
end Go.Proofs.YtghfopafmjkpdaaDoor
