/-
  Joined: ToTab, App10, ChFn, ChRd, ChPi, ChPn, ChQi, DrPr, DrPf, DrPw, DrCz.
-/
import Derived.Test.YtcohppfocfepdaaDoorJ00P
import Derived.Test.YtcohppfocfepdaaDoorJ01P
import Derived.Test.YtcohppfocfepdaaDoorJ02P
import Derived.Test.YtcohppfocfepdaaDoorJ03P
import Derived.Test.YtcohppfocfepdaaDoorJ04P
import Derived.Test.YtcohppfocfepdaaDoorJ05P
import Derived.Test.YtcohppfocfepdaaDoorJ06P
import Derived.Test.YtcohppfocfepdaaDoorJ07P
import Derived.Test.YtcohppfocfepdaaDoorJ08P
import Derived.Test.YtcohppfocfepdaaDoorJ09P
import Derived.Test.YtcohppfocfepdaaDoorJ10P
import Derived.Test.YtcohppfocfepdaaDoorJ11P
import Derived.Test.YtcohppfocfepdaaDoorJ12P
import Derived.Test.YtcohppfocfepdaaDoorJ13P
import Derived.Test.YtcohppfocfepdaaDoorJ14P
import Derived.Test.YtcohppfocfepdaaDoorJ15P
import Derived.Test.YtcohppfocfepdaaDoorJ16P
import Derived.Test.YtcohppfocfepdaaDoorJ17P
import Derived.Test.YtcohppfocfepdaaDoorJ18P
import Derived.Test.YtcohppfocfepdaaDoorJ19P
import Derived.Test.YtcohppfocfepdaaDoorJ20P
import Derived.Test.YtcohppfocfepdaaDoorJ21P
import Derived.Test.YtcohppfocfepdaaDoorJ22P
import Derived.Test.YtcohppfocfepdaaDoorJ23P
import Derived.Test.YtcohppfocfepdaaDoorJ24P
import Derived.Test.YtcohppfocfepdaaDoorJ25P
import Derived.Test.YtcohppfocfepdaaDoorJ26P
import Derived.Test.YtcohppfocfepdaaDoorJ27P
import Derived.Test.YtcohppfocfepdaaDoorJ28P
import Derived.Test.YtcohppfocfepdaaDoorJ29P
import Derived.Test.YtcohppfocfepdaaDoorJ30P
import Derived.Test.YtcohppfocfepdaaDoorJ31P
import Derived.WalkKit
import Derived.WalkSpells
import Derived.WalkLawsBesides
import Derived.Deep.QuietTactic
import Derived.BigQuiet
import Derived.OpenShut
import Derived.Laws.BitsAllLaws
import Derived.Maps.AppendAt
import Derived.Lib.SliceRun
import Derived.Lib.Strings
import Derived.Deep.RegionWith
import Derived.Laws.IdiomStrings
import Derived.Deep.Slices
import Derived.ProofKit
import Derived.ChangeOld
import Derived.Below
import Derived.Deep.DeepCutAuto
import Derived.Lib.AppendStr
import Derived.Lib.ConvBytes
import Derived.Deep.RegionHeld3
import Derived.Deep.AppendSrc
import Derived.Deep.AppendLies
import Derived.Deep.RegionLaw
import Derived.Deep.MidRow
import Derived.Deep.WholeRow
import Derived.Deep.RegionHeld
import Derived.LaidEql
import Derived.Stop.Asserts
import Derived.RowKitTokens
import Derived.Laws.BitsLemmas
import Derived.Maps.OwnSet
import Derived.Maps.OwnOps
import Derived.Defers
import Derived.Recover
import Derived.Laws.BytesString
import Derived.Deep.DrawnRows
import Derived.Deep.CutBlock
import Derived.Deep.OwnRows
namespace Go.Proofs.YtcohppfocfepdaaDoor
section
open Go.RowKit
theorem gr_more {w w1 : World} {g : Nat} (h : w.grownBy w1 (some g)) (j : Nat) (v : Value) : w.grownBy (w1.setCell ⟨g, j, none⟩ v) (some g) :=
  ⟨h.os, h.tape, h.output, by rw [size_setC]; exact h.size, fun m hm hk => (heap_setCell_other w1 ⟨g, j, none⟩ m v (fun e => hk (by simp [e]))).trans (h.block m hm hk)⟩
end

section
open Go.RowKit
/-- At the operation. -/
theorem wpList_appAny (W : World) {ops : Array Oper} {rest : List Oper} {o : Oper} {a : Act} {Q : Exit → Act → World → Prop} (hgd : o.guard = none) (s x : Operand) (t : TypeId)
    (ho : o.op = .call { callee := .builtin .append, args := #[s, x], argTypes := #[t, t] }) (v u : Value) (R : Value → World → Prop) (hs : a.eval s = v) (hx : a.eval x = u)
    (hr : ∀ ty, ∃ v' W', (Builtin.append_ #[t, t] ty #[v, u]).run Tryd.prog W = .ok v' W' ∧ R v' W')
    (h : ∀ v' W', R v' W' → wpList Tryd.prog ops Q rest (a.put o.dst v') W') :
    wpList Tryd.prog ops Q (o :: rest) a W := by
  refine wpList_plain hgd fun K hK => ?_
  obtain ⟨v', W', h1, h2⟩ := hr o.type
  unfold Oper.wp execOp
  simp only [ho, resolve, invoke, builtin, Sem.run_bind, Sem.run_pure, Result.andThen_ok, List.map_toArray, List.map_cons, List.map_nil, hs, hx, h1]
  exact hK _ _ (h v' W' h2)
end

section
open Go.RowKit
set_option maxHeartbeats 1600000 in
theorem hasPg (a : Option Addr) (n cap : Nat) (x : Int) (w : World) (_hn : n ≤ 1048576) :
    Calls Tryd.prog 37 #[.slice a n cap, .int .i64 x] w fun e w' => e = .returned (.bool (decide (0 ≤ x) && decide (x < (n : Int)))) ∧ w' = w := by
  go_enter Tryd.func37, Tryd.ntmps37
  by_cases h1 : 0 ≤ x
  · by_cases h2 : x < (n : Int)
    · go_wp2
      go_ret
      exact ⟨by simp [h1, h2], rfl⟩
    · go_wp2
      go_ret
      exact ⟨by simp [h2], rfl⟩
  · go_wp2
    go_ret
    exact ⟨by simp; omega, rfl⟩
end

section
open Go.RowKit
/-- What is read of a page: nothing, if it is not written. -/
def readD (ds : List BkD) (x y : Int) : Option (List Int) :=
  if 0 ≤ x ∧ 0 ≤ y then (match ds[x.toNat]? with | some b => (match b.ps[y.toNat]? with | some p => if p.used then some p.zs else none | none => none) | none => none) else none
theorem readD_in {bs : List BkR} {k j : Nat} {r : BkR} {p : PgR} (h : bs[k]? = some r) (h2 : r.ps[j]? = some p) : readD (bs.map BkR.D) (k : Int) (j : Int) = if p.used then some p.zs else none := by
  unfold readD
  rw [if_pos (by omega)]
  simp [h, h2, BkR.D, PgR.D]
theorem readD_bk {ds : List BkD} {x y : Int} (h : ¬ (0 ≤ x ∧ x < (ds.length : Int))) : readD ds x y = none := by
  unfold readD
  split
  · rw [List.getElem?_eq_none (by omega)]
  · rfl
theorem readD_pg {bs : List BkR} {k : Nat} {r : BkR} {y : Int} (hb : bs[k]? = some r) (h : ¬ (0 ≤ y ∧ y < (r.ps.length : Int))) : readD (bs.map BkR.D) (k : Int) y = none := by
  unfold readD
  split
  · rename_i hxy
    have : (r.ps.map PgR.D)[y.toNat]? = none := List.getElem?_eq_none (by simp; omega)
    simp [hb, BkR.D]
    rw [List.getElem?_eq_none (by omega)]
    rfl
  · rfl
/-- What was answered: a new list (or nil) and whether it was there. -/
structure RdA (w : World) (o : Option (List Int)) (e : Ending) (w' : World) : Prop where
  ans : ∃ v, e = .returned (.tuple #[v, .bool o.isSome]) ∧ OwnV 0 w' v (o.getD []).length (o.getD []) ∧ ∀ g, v.ownBlock = some g → w.heap.size ≤ g
  bel : Below w.heap.size w w'
set_option maxRecDepth 100000 in
set_option maxHeartbeats 4000000 in
theorem readI (a : Option Addr) (n cap : Nat) (bs : List BkR) (x y : Int) (w : World) (ht : CR w a n bs) :
    Calls Tryd.prog 16 #[.agg #[.slice a n cap], .int .i64 x, .int .i64 y] w (RdA w (readD (bs.map BkR.D) x y)) := by
  have B0 : Below w.heap.size w (w.alloc (.cells #[.slice a n cap] 26)) := (Below.refl _ w).alloc (Nat.le_refl _) _
  have hn1 := ht.n
  have hh := hasBk a n cap x (w.alloc (.cells #[.slice a n cap] 26)) hn1
  by_cases hx : 0 ≤ x ∧ x < (n : Int)
  · obtain ⟨k, rfl⟩ : ∃ k : Nat, x = (k : Int) := ⟨x.toNat, by omega⟩
    have hkn : k < n := by omega
    have hki : (k : Int) < (n : Int) := by omega
    have hd : (decide (0 ≤ (k : Int)) && decide ((k : Int) < (n : Int))) = true := by simp [hki]
    rw [hd] at hh
    obtain ⟨b, off, r, rfl, hlt, hrk, x3, hrp, htp⟩ := (ht.keep B0).some hkn
    obtain ⟨x0, x1, x2⟩ := x3
    have hpl := totP_len (r.ps.map PgR.D)
    simp only [List.length_map] at hpl
    have hp := hasPg r.a r.ps.length r.cap y (w.alloc (.cells #[.slice (some ⟨b, off, none⟩) n cap] 26)) (by omega)
    by_cases hy : 0 ≤ y ∧ y < (r.ps.length : Int)
    · obtain ⟨j, rfl⟩ : ∃ j : Nat, y = (j : Int) := ⟨y.toNat, by omega⟩
      have hjn : j < r.ps.length := by omega
      have hd2 : (decide (0 ≤ (j : Int)) && decide ((j : Int) < (r.ps.length : Int))) = true := by simp; omega
      rw [hd2] at hp
      obtain ⟨p, hpj⟩ : ∃ p, r.ps[j]? = some p := ⟨_, List.getElem?_eq_getElem hjn⟩
      have hrd := readD_in hrk hpj
      obtain ⟨b2, off2, ha2, hlt2, hc2⟩ := hrp.lt (by intro h; rw [h] at hpj; simp at hpj)
      obtain ⟨⟨y0, y1⟩, hrz⟩ := hc2 j p hpj
      have htz := totP_at hpj
      rw [ha2] at x0 hp
      have hjl : (j : Int) < (r.ps.length : Int) := by omega
      obtain ⟨n2, hn2⟩ : ∃ n2, r.ps.length = n2 := ⟨_, rfl⟩
      rw [hn2] at x0 hp hjl
      obtain ⟨u, hu⟩ : ∃ u, p.used = u := ⟨_, rfl⟩
      rw [hu] at y0 hrd
      obtain ⟨n3, hn3⟩ : ∃ n3, p.zs.length = n3 := ⟨_, rfl⟩
      rw [hn3] at y1 htz
      have hn3m : n3 ≤ 1048576 := by omega
      have B1 : Below w.heap.size w ((w.alloc (.cells #[.slice (some ⟨b, off, none⟩) n cap] 26)).alloc (.cells #[.bool u, .slice p.a n3 p.cap] 55)) := B0.alloc B0.size _
      have hrz1 := hrz.keep ((Below.refl (w.alloc (.cells #[.slice (some ⟨b, off, none⟩) n cap] 26)).heap.size _).alloc (Nat.le_refl _) (.cells #[.bool u, .slice p.a n3 p.cap] 55))
      have happ := fun ty => app_bytes ((w.alloc (.cells #[.slice (some ⟨b, off, none⟩) n cap] 26)).alloc (.cells #[.bool u, .slice p.a n3 p.cap] 55)) (.slice none 0 0) 0 [] p.a n3 p.cap p.zs hn3 (by omega) (ownV_nil 0 _) hrz1 ty
      have HB : Hid _ := B1
      have HP : Hid _ := happ
      have HZ : Hid (p.zs.length = n3) := hn3
      rw [hrd]
      generalize hGP : RdA w (if u = true then some p.zs else none) = P
      have HGP : Hid _ := hGP
      clear hrd hrk hpj ht B0 B1 hrp hd hd2 hc2 hrz hrz1 happ ha2 hu hn2 hn3 htz hGP htp hpl
      go_enter Tryd.func16, Tryd.ntmps16
      go_wp2_with fail
      refine hh.mono ?_
      rintro e w1 ⟨rfl, hw⟩
      obtain rfl := hw.symm
      go_wp2_with fail
      refine hp.mono ?_
      rintro e w1 ⟨rfl, hw⟩
      obtain rfl := hw.symm
      cases u
      · go_wp2
        rw [← HGP.out]
        exact ⟨⟨.slice none 0 0, rfl, ownV_nil 0 _, fun g hg => by simp [Value.ownBlock] at hg⟩, HB.out⟩
      · go_wp2_with (at_builtin; refine wpList_appAny _ rfl (.const (.slice none 0 0)) (.tmp 38) 22 rfl (.slice none 0 0) (.slice p.a n3 p.cap) _ rfl rfl HP.out ?_; intro v' W' hap)
        rw [← HGP.out]
        have hbl := HB.out
        have hz := HZ.out
        refine ⟨⟨v', rfl, ?_, fun g hg => ?_⟩, hbl.trans ((hap.below rfl).mono hbl.size)⟩
        · have := hap.own
          rw [Nat.zero_add, List.nil_append, ← hz] at this
          exact this
        · have h5 := hbl.size
          rcases hap.at_ with h4 | h4
          · rw [hg] at h4; simp [Value.ownBlock] at h4
          · rw [hg] at h4; simp at h4; simp at h5; omega
    · have hd2 : (decide (0 ≤ y) && decide (y < (r.ps.length : Int))) = false := by
        rw [← Bool.not_eq_true]; intro h; simp at h; exact hy h
      rw [hd2] at hp
      have hrd := readD_pg hrk hy
      rw [hrd]
      generalize hGP : RdA w none = P
      have HGP : Hid _ := hGP
      obtain ⟨n2, hn2⟩ : ∃ n2, r.ps.length = n2 := ⟨_, rfl⟩
      rw [hn2] at x0 hp
      clear hrd hrk ht hrp hd hd2 hGP hn2 hy hpl htp
      go_enter Tryd.func16, Tryd.ntmps16
      go_wp2_with fail
      refine hh.mono ?_
      rintro e w1 ⟨rfl, hw⟩
      obtain rfl := hw.symm
      go_wp2_with fail
      refine hp.mono ?_
      rintro e w1 ⟨rfl, hw⟩
      obtain rfl := hw.symm
      go_wp2
      rw [← HGP.out]
      exact ⟨⟨.slice none 0 0, rfl, ownV_nil 0 _, fun g hg => by simp [Value.ownBlock] at hg⟩, B0⟩
  · have hd : (decide (0 ≤ x) && decide (x < (n : Int))) = false := by
      rw [← Bool.not_eq_true]; intro h; simp at h; exact hx h
    rw [hd] at hh
    have hrd : readD (bs.map BkR.D) x y = none := readD_bk (by simpa [ht.len] using hx)
    rw [hrd]
    generalize hGP : RdA w none = P
    have HGP : Hid _ := hGP
    clear hrd ht hd hGP hx
    go_enter Tryd.func16, Tryd.ntmps16
    go_wp2_with fail
    refine hh.mono ?_
    rintro e w1 ⟨rfl, hw⟩
    obtain rfl := hw.symm
    go_wp2
    rw [← HGP.out]
    exact ⟨⟨.slice none 0 0, rfl, ownV_nil 0 _, fun g hg => by simp [Value.ownBlock] at hg⟩, B0⟩
end

section
open Go.RowKit
theorem FO.rdPs {w0 w : World} {F G n k : Nat} {fs : List FkR} {f : FkR} (h : FO w0 w F G n fs) (hf : fs[k]? = some f) (hr : ∀ p ∈ f.ps, Rd w p.a p.zs) : RdPs w (some ⟨G, k * 18, none⟩) f.ps := by
  refine .inr ⟨G, k * 18, rfl, fun i p hi => ⟨fun j hj => ?_, hr p (List.mem_of_getElem? hi)⟩⟩
  have hj2 : j < 2 := hj
  have hi8 : i < 8 := by have := (List.getElem?_eq_some_iff.1 hi).1; rw [f.h8] at this; exact this
  have h1 := h.cell hf (j := i * 2 + j) (by omega)
  show w.cell? ⟨G, k * 18 + i * 2 + j, none⟩ = _
  rw [Nat.add_assoc, h1]
  show (pgE.xv f.ps ++ [Value.int .i64 f.wear, Value.bool f.bad])[i * 2 + j]? = _
  rw [List.getElem?_append_left (by rw [xv16]; omega)]
  exact pgE.xv_at f.ps i j p hi hj
/-- How many of a flash's block's pages are written. -/
def fkN (f : FkR) : Nat := nextP (f.ps.map PgR.D)
/-- What program refuses; the flash behind it. -/
def prC (fs : List FkR) (x : Int) (nb : Nat) : Int := if 400 < nb then 1 else if btcC fs x = 0 then (if (fs[x.toNat]?).map fkN = some 8 then 5 else 0) else btcC fs x
def prAt (fs : List FkR) (k : Nat) (p : PgR) : List FkR := match fs[k]? with | some f => fs.set k (f.pg (fkN f) p) | none => fs
def prF (fs : List FkR) (x : Int) (p : PgR) : List FkR := if prC fs x p.zs.length = 0 then prAt fs x.toNat p else fs
def PrA (w0 : World) (F G n : Nat) (fs : List FkR) (x : Int) (p : PgR) (e : Ending) (w' : World) : Prop := e = .returned (errV (prC fs x p.zs.length)) ∧ FO w0 w' F G n (prF fs x p)
end

section
open Go.RowKit
set_option maxRecDepth 100000 in
set_option maxHeartbeats 4000000 in
theorem btpI (F G n : Nat) (fs : List FkR) (x : Int) (ba : Option Addr) (nb bc : Nat) (w0 w : World) (hn : n ≤ 1048576) (hnb : nb ≤ 1048576) (h : FO w0 w F G n fs) (hr : ∀ f ∈ fs, ∀ p ∈ f.ps, Rd w p.a p.zs) (ht : totB (fs.map FkR.D) ≤ 1048576) :
    Calls Tryd.prog 51 #[.pointer (some ⟨F, 0, none⟩), .int .i64 x, .slice ba nb bc] w fun e w' => e = .returned (.tuple #[if prC fs x nb = 0 then .pointer (some ⟨G, x.toNat * 18, none⟩) else .pointer none, errV (prC fs x nb)]) ∧ Below w.heap.size w w' := by
  have hcall := btcI F G n fs x w0 w hn h
  by_cases hb : 400 < nb
  · have hbi : (400 : Int) < (nb : Int) := by omega
    have HEE : prC fs x nb = 1 := by unfold prC; rw [if_pos hb]
    rw [HEE]
    clear h hr ht hcall HEE
    go_enter Tryd.func51, Tryd.ntmps51
    go_wp2
    refine bodyPost_ret (v := .tuple #[.pointer none, .iface 90 (.int .i64 1)]) (by simp [results, Tryd.f51, go_sem]) rfl ?_
    exact ⟨by simp [errV], Below.refl _ _⟩
  · have hbi : ¬ (400 : Int) < (nb : Int) := by omega
    by_cases hc : btcC fs x = 0
    · obtain ⟨k, f, rfl, hf⟩ := btc_zero hc
      have hrp := h.rdPs hf (hr f (List.mem_of_getElem? hf))
      have htp : totP (f.ps.map PgR.D) ≤ 1048576 := by
        have := totB_mem (b := f.D) (bs := fs.map FkR.D) (List.mem_map_of_mem (List.mem_of_getElem? hf))
        have h2 : f.D.ps = f.ps.map PgR.D := rfl
        rw [h2] at this
        omega
      have hwi := writtenI (some ⟨G, k * 18, none⟩) 8 8 f.ps w f.h8 htp hrp
      have hle : nextP (f.ps.map PgR.D) ≤ 8 := by have := nextP_le (f.ps.map PgR.D); simp [f.h8] at this; exact this
      rw [if_pos hc, hc, errV_zero, Int.toNat_natCast] at hcall
      have hee : prC fs (k : Int) nb = if nextP (f.ps.map PgR.D) = 8 then 5 else 0 := by unfold prC; rw [if_neg hb, if_pos hc]; simp [hf, fkN]
      rw [hee, Int.toNat_natCast]
      obtain ⟨m, hm⟩ : ∃ m, nextP (f.ps.map PgR.D) = m := ⟨_, rfl⟩
      rw [hm] at hwi hle ⊢
      clear h hf hc hr hrp htp hm hee ht
      by_cases h8 : m = 8
      · subst h8
        go_enter Tryd.func51, Tryd.ntmps51
        go_wp2_with fail
        refine hcall.mono ?_
        rintro e w1 ⟨rfl, hw⟩
        obtain rfl := hw.symm
        go_wp2_with fail
        refine hwi.mono ?_
        rintro e w2 ⟨rfl, b2⟩
        go_wp2
        refine bodyPost_ret (v := .tuple #[.pointer none, .iface 90 (.int .i64 5)]) (by simp [results, Tryd.f51, go_sem]) rfl ?_
        exact ⟨by simp [errV], b2⟩
      · have hmm : ((m : Int) == 8) = false := by simp; omega
        rw [if_neg h8]
        go_enter Tryd.func51, Tryd.ntmps51
        go_wp2_with fail
        refine hcall.mono ?_
        rintro e w1 ⟨rfl, hw⟩
        obtain rfl := hw.symm
        go_wp2_with fail
        refine hwi.mono ?_
        rintro e w2 ⟨rfl, b2⟩
        go_wp2
        refine bodyPost_ret (v := .tuple #[.pointer (some ⟨G, k * 18, none⟩), .nilIface]) (by simp [results, Tryd.f51, go_sem]) rfl ?_
        exact ⟨by simp [errV], b2⟩
    · rw [if_neg hc, errV_some hc] at hcall
      have hee : prC fs x nb = btcC fs x := by unfold prC; rw [if_neg hb, if_neg hc]
      rw [hee, if_neg hc, errV_some hc]
      generalize btcC fs x = c at hcall
      clear h hc hr ht hee
      go_enter Tryd.func51, Tryd.ntmps51
      go_wp2_with fail
      refine hcall.mono ?_
      rintro e w1 ⟨rfl, hw⟩
      obtain rfl := hw.symm
      go_wp2
      refine bodyPost_ret (v := .tuple #[.pointer none, .iface 90 (.int .i64 c)]) (by simp [results, Tryd.f51, go_sem]) rfl ?_
      exact ⟨rfl, Below.refl _ _⟩
set_option maxRecDepth 100000 in
set_option maxHeartbeats 8000000 in
theorem cProgI (F G n k : Nat) (fs : List FkR) (f : FkR) (ba : Option Addr) (nb bc : Nat) (zs : List Int) (w0 w : World) (hz : zs.length = nb) (h : FO w0 w F G n fs) (hf : fs[k]? = some f) (h8 : fkN f < 8) (hr : ∀ p ∈ f.ps, Rd w p.a p.zs) (htp : totP (f.ps.map PgR.D) ≤ 1048576) :
    Calls Tryd.prog 52 #[.pointer (some ⟨G, k * 18, none⟩), .slice ba nb bc] w (FOA w0 w F G n (prAt fs k ⟨true, ba, bc, zs⟩)) := by
  generalize hGP : FOA w0 w F G n (prAt fs k ⟨true, ba, bc, zs⟩) = P
  have HGP : Hid _ := hGP
  clear hGP
  have hwi := writtenI (some ⟨G, k * 18, none⟩) 8 8 f.ps w.drew f.h8 htp ((h.rdPs hf hr).keep (Below.refl _ _).drew)
  have HF : Hid (prAt fs k ⟨true, ba, bc, zs⟩ = fs.set k (f.pg (fkN f) ⟨true, ba, bc, zs⟩)) := by show _ = _; unfold prAt; rw [hf]
  have HFO : Hid (FO w0 w.drew F G n fs) := h.keep (Below.refl _ _).drew
  have HF2 : Hid (fs[k]? = some f) := hf
  have HZ : Hid (zs.length = nb) := hz
  unfold fkN at h8 HF
  obtain ⟨m, hm⟩ : ∃ m, nextP (f.ps.map PgR.D) = m := ⟨_, rfl⟩
  rw [hm] at hwi h8 HF
  have hmi : (m : Int) < 8 := by omega
  clear h hf hr htp hm hz
  go_enter Tryd.func52, Tryd.ntmps52
  go_upto_region 0 with fail
  refine wp_region_noPanic ?_
  refine wp_region_last (fun W : World => True) 11 (by kernel_rfl) (by kernel_rfl) (by go_keep) 11 (by kernel_rfl) (fun hS => ?_)
  refine wpAnyH_take (i := 0) (v := ?gv1) rfl (by kernel_rfl) (by kernel_rfl) (by kernel_rfl) (fun _ _ _ h => h) (Or.inl ⟨by kernel_rfl, ?gy1⟩) (by assumption) ?gr1
  case gy1 => (intro w' hSw; (try dsimp only at hSw); go_simp; (try with_reducible rfl))
  try simp only [Act.put, List.setIfInBounds_toArray, List.set_cons_zero, List.set_cons_succ, List.getElem_toArray, List.getElem_cons_zero]
  refine wpAnyH_take (i := 1) (v := ?gv2) rfl (by kernel_rfl) (by kernel_rfl) (by kernel_rfl) (fun _ _ _ h => h) (Or.inl ⟨by kernel_rfl, ?gy2⟩) (by assumption) ?gr2
  case gy2 => (intro w' hSw; (try dsimp only at hSw); go_simp; (try with_reducible rfl))
  try simp only [Act.put, List.setIfInBounds_toArray, List.set_cons_zero, List.set_cons_succ, List.getElem_toArray, List.getElem_cons_succ, List.getElem_cons_zero]
  refine wpAnyH_take (i := 2) (v := ?gv3) rfl (by kernel_rfl) (by kernel_rfl) (by kernel_rfl) (fun _ _ _ h => h) (Or.inl ⟨by kernel_rfl, ?gy3⟩) (by assumption) ?gr3
  case gy3 => (intro w' hSw; (try dsimp only at hSw); go_simp; (try with_reducible rfl))
  try simp only [Act.put, List.setIfInBounds_toArray, List.set_cons_zero, List.set_cons_succ, List.getElem_toArray, List.getElem_cons_succ, List.getElem_cons_zero]
  refine wpAnyH_take (i := 3) (v := ?gv4) rfl (by kernel_rfl) (by kernel_rfl) (by kernel_rfl) (fun _ _ _ h => h) (Or.inl ⟨by kernel_rfl, ?gy4⟩) (by assumption) ?gr4
  case gy4 => (intro w' hSw; (try dsimp only at hSw); go_simp; (try with_reducible rfl))
  try simp only [Act.put, List.setIfInBounds_toArray, List.set_cons_zero, List.set_cons_succ, List.getElem_toArray, List.getElem_cons_succ, List.getElem_cons_zero]
  refine wpAnyH_take (i := 4) (v := ?gv5) rfl (by kernel_rfl) (by kernel_rfl) (by kernel_rfl) (fun _ _ _ h => h) (Or.inl ⟨by kernel_rfl, ?gy5⟩) (by assumption) ?gr5
  case gy5 => (intro w' hSw; (try dsimp only at hSw); go_simp; (try with_reducible rfl))
  try simp only [Act.put, List.setIfInBounds_toArray, List.set_cons_zero, List.set_cons_succ, List.getElem_toArray, List.getElem_cons_succ, List.getElem_cons_zero]
  refine wpAnyH_take (i := 6) (v := ?gv6) rfl (by kernel_rfl) (by kernel_rfl) (by kernel_rfl) (fun _ _ _ h => h) (Or.inl ⟨by kernel_rfl, ?gy6⟩) (by assumption) ?gr6
  case gy6 => (intro w' hSw; (try dsimp only at hSw); go_simp; (try with_reducible rfl))
  try simp only [Act.put, List.setIfInBounds_toArray, List.set_cons_zero, List.set_cons_succ, List.getElem_toArray, List.getElem_cons_succ, List.getElem_cons_zero]
  refine wpAnyH_take (i := 7) (v := ?gv7) rfl (by kernel_rfl) (by kernel_rfl) (by kernel_rfl) (fun _ _ _ h => h) (Or.inl ⟨by kernel_rfl, ?gy7⟩) (by assumption) ?gr7
  case gy7 => (intro w' hSw; (try dsimp only at hSw); go_simp; (try with_reducible rfl))
  try simp only [Act.put, List.setIfInBounds_toArray, List.set_cons_zero, List.set_cons_succ, List.getElem_toArray, List.getElem_cons_succ, List.getElem_cons_zero]
  refine wpAnyH_take (i := 8) (v := ?gv8) rfl (by kernel_rfl) (by kernel_rfl) (by kernel_rfl) (fun _ _ _ h => h) (Or.inl ⟨by kernel_rfl, ?gy8⟩) (by assumption) ?gr8
  case gy8 => (intro w' hSw; (try dsimp only at hSw); go_simp; (try with_reducible rfl))
  try simp only [Act.put, List.setIfInBounds_toArray, List.set_cons_zero, List.set_cons_succ, List.getElem_toArray, List.getElem_cons_succ, List.getElem_cons_zero]
  refine wpAnyH_take (i := 9) (v := ?gv9) rfl (by kernel_rfl) (by kernel_rfl) (by kernel_rfl) (fun _ _ _ h => h) (Or.inl ⟨by kernel_rfl, ?gy9⟩) (by assumption) ?gr9
  case gy9 => (intro w' hSw; (try dsimp only at hSw); go_simp; (try with_reducible rfl))
  try simp only [Act.put, List.setIfInBounds_toArray, List.set_cons_zero, List.set_cons_succ, List.getElem_toArray, List.getElem_cons_succ, List.getElem_cons_zero]
  refine wpAnyH_ready (rs := [5]) (by kernel_rfl) (by simp) ?_
  refine AllReadyH.cons rfl (fun K hK => ?_) AllReadyH.nil
  go_simp
  (with_reducible refine hwi.mono ?_)
  rintro e w2 ⟨rfl, b2⟩
  have fo2 := HFO.out.keep b2
  obtain ⟨v0, p0⟩ := fo2.is HF2.out (j := m * 2) (by omega)
  obtain ⟨v1, p1⟩ := fo2.is HF2.out (j := m * 2 + 1) (by omega)
  have r0 : w2.cell? ⟨G, k * 18 + m * 2, none⟩ = some v0 := p0
  have r1 : w2.cell? ⟨G, k * 18 + m * 2 + 1, none⟩ = some v1 := p1
  have f0 := fo2.g.frozen (k * 18 + m * 2)
  have f1 := fo2.g.frozen (k * 18 + m * 2 + 1)
  obtain ⟨gs1, g1, foU, hgU⟩ := fo2.used (u := true) HF2.out h8
  obtain ⟨v2, p2⟩ := foU.is hgU (j := m * 2 + 1) (by omega)
  have r2 : (w2.setCell ⟨G, k * 18 + m * 2, none⟩ (.bool true)).cell? ⟨G, k * 18 + m * 2 + 1, none⟩ = some v2 := p2
  have f2 := foU.g.frozen (k * 18 + m * 2 + 1)
  have HFN : Hid _ := And.intro (fo2.page (p := ⟨true, ba, bc, zs⟩) HF2.out h8 HZ.out) b2
  clear p0 p1 p2 foU hgU fo2 b2
  clear hS
  try dsimp only
  refine Shut.out hK _ _ (trivial) (fun hS => ?_)
  try simp only [Act.put, List.setIfInBounds_toArray, List.set_cons_zero, List.set_cons_succ, List.getElem_toArray, List.getElem_cons_succ, List.getElem_cons_zero]
  refine wpAnyH_take (i := 10) (v := ?gv10) rfl (by kernel_rfl) (by kernel_rfl) (by kernel_rfl) (fun _ _ _ h => h) (Or.inl ⟨by kernel_rfl, ?gy10⟩) (by assumption) ?gr10
  case gy10 => (intro w' hSw; (try dsimp only at hSw); go_simp; (try with_reducible rfl))
  try simp only [Act.put, List.setIfInBounds_toArray, List.set_cons_zero, List.set_cons_succ, List.getElem_toArray, List.getElem_cons_succ, List.getElem_cons_zero]
  refine wpAnyH_done (by kernel_rfl) ?_ _
  refine wpOp_last rfl (fun K hK => ?_)
  clear hS
  go_simp
  refine Shut.out hK _ _ (NoPanic.normal ?_)
  try go_wp2
  try go_end0
  rw [← HGP.out]
  refine ⟨rfl, by rw [HF.out]; exact HFN.out.1, ?_⟩
  have b2 := HFN.out.2
  have hsv : Sv [G] w w2 := Below.sv ((Below.refl w.heap.size w).drew.trans b2) [G]
  exact hsv.trans (Sv.gr (gr_more (gr_setC w2 G (k * 18 + m * 2) _) _ _) (fun g hg => by simp at hg; simp [hg]))
theorem pr_zero {fs : List FkR} {x : Int} {nb : Nat} (h : prC fs x nb = 0) : ∃ (k : Nat) (f : FkR), x = (k : Int) ∧ fs[k]? = some f ∧ fkN f < 8 := by
  unfold prC at h
  split at h
  · omega
  · split at h
    · rename_i hb
      obtain ⟨k, f, rfl, hf⟩ := btc_zero hb
      refine ⟨k, f, rfl, hf, ?_⟩
      rw [Int.toNat_natCast, hf] at h
      simp only [Option.map_some, Option.some.injEq] at h
      have hle : fkN f ≤ 8 := by have := nextP_le (f.ps.map PgR.D); simp [f.h8] at this; exact this
      have : ¬ fkN f = 8 := fun h8 => by rw [if_pos h8] at h; omega
      omega
    · rename_i hb
      exact absurd h hb
set_option maxRecDepth 100000 in
set_option maxHeartbeats 4000000 in
theorem programF (F G n : Nat) (fs : List FkR) (x : Int) (ba : Option Addr) (nb bc : Nat) (zs : List Int) (w0 w : World) (hn : n ≤ 1048576) (hz : zs.length = nb) (hnb : nb ≤ 1048576) (h : FO w0 w F G n fs) (hr : ∀ f ∈ fs, ∀ p ∈ f.ps, Rd w p.a p.zs) (ht : totB (fs.map FkR.D) ≤ 1048576) :
    Calls Tryd.prog 34 #[.pointer (some ⟨F, 0, none⟩), .int .i64 x, .slice ba nb bc] w (PrA w0 F G n fs x ⟨true, ba, bc, zs⟩) := by
  have hcall := btpI F G n fs x ba nb bc w0 w hn hnb h hr ht
  generalize hGP : PrA w0 F G n fs x ⟨true, ba, bc, zs⟩ = P
  have HGP : Hid _ := hGP
  clear hGP
  have HFO : Hid (∀ w', Below w.heap.size w w' → FO w0 w' F G n fs) := fun w' hb => h.keep hb
  have HZ : Hid (zs.length = nb) := hz
  by_cases hc : prC fs x nb = 0
  · obtain ⟨k, f, rfl, hf, h8⟩ := pr_zero hc
    rw [if_pos hc, hc, errV_zero, Int.toNat_natCast] at hcall
    have htp : totP (f.ps.map PgR.D) ≤ 1048576 := by
      have := totB_mem (b := f.D) (bs := fs.map FkR.D) (List.mem_map_of_mem (List.mem_of_getElem? hf))
      have h2 : f.D.ps = f.ps.map PgR.D := rfl
      rw [h2] at this
      omega
    have HC2 : Hid (∀ w', Below w.heap.size w w' → Calls Tryd.prog 52 #[.pointer (some ⟨G, k * 18, none⟩), .slice ba nb bc] w' (FOA w0 w' F G n (prAt fs k ⟨true, ba, bc, zs⟩))) := fun w' hb => cProgI F G n k fs f ba nb bc zs w0 w' hz (h.keep hb) hf h8 (fun p hp => (hr f (List.mem_of_getElem? hf) p hp).keep hb) htp
    have HC : Hid (prC fs (k : Int) nb = 0) := hc
    clear h hf hr hc hz ht htp h8
    go_enter Tryd.func34, Tryd.ntmps34
    go_wp2_with fail
    refine hcall.mono ?_
    rintro e w1 ⟨rfl, b1⟩
    have hcall2 := HC2.out w1 b1
    go_wp2_with fail
    refine hcall2.mono ?_
    rintro e w2 ⟨rfl, hfo, _⟩
    go_wp2
    rw [← HGP.out]
    have e1 : prC fs (k : Int) (PgR.zs ⟨true, ba, bc, zs⟩).length = 0 := by show prC fs (k : Int) zs.length = 0; rw [HZ.out]; exact HC.out
    refine ⟨by rw [e1]; rfl, ?_⟩
    unfold prF
    rw [e1, if_pos rfl, Int.toNat_natCast]
    exact hfo
  · rw [if_neg hc, errV_some hc] at hcall
    have HEE : Hid (¬ prC fs x nb = 0) := hc
    obtain ⟨c, hcc⟩ : ∃ c, prC fs x nb = c := ⟨_, rfl⟩
    have HC : Hid _ := hcc
    rw [hcc] at hcall
    clear h hr ht hz hc hcc
    go_enter Tryd.func34, Tryd.ntmps34
    go_wp2_with fail
    refine hcall.mono ?_
    rintro e w1 ⟨rfl, b1⟩
    have hfo := HFO.out w1 b1
    go_wp2
    rw [← HGP.out]
    have e2 : prC fs x (PgR.zs ⟨true, ba, bc, zs⟩).length = prC fs x nb := by show prC fs x zs.length = _; rw [HZ.out]
    exact ⟨by rw [e2, errV_some HEE.out, HC.out]; rfl, by unfold prF; rw [e2, if_neg HEE.out]; exact hfo⟩
end

section
open Go.RowKit
theorem fl_rd {w : World} {a : Option Addr} {n : Nat} {bs : List BkR} {fs : List FkR} (ht : CR w a n bs) (h : FlOf bs fs) : ∀ f ∈ fs, ∀ p ∈ f.ps, Rd w p.a p.zs := fun f hf p hp => by
  obtain ⟨i, hi⟩ := List.mem_iff_getElem?.1 hf
  obtain ⟨r, hr, h1, _, _⟩ := h.at hi
  rw [h1] at hp
  exact RdE.each (RdE.each ht.rd r (List.mem_of_getElem? hr)) p hp
theorem pr_rd {w : World} {a : Option Addr} {n : Nat} {bs : List BkR} {fs : List FkR} (ht : CR w a n bs) (h : FlOf bs fs) (x : Int) (q : PgR) (hq : Rd w q.a q.zs) : ∀ f ∈ prF fs x q, ∀ p ∈ f.ps, Rd w p.a p.zs := by
  intro f hf p hp
  unfold prF at hf
  split at hf
  · unfold prAt at hf
    split at hf
    · rename_i g hg
      rcases List.mem_or_eq_of_mem_set hf with h1 | h1
      · exact fl_rd ht h f h1 p hp
      · subst h1
        have hp' : p ∈ g.ps.set (fkN g) q := hp
        rcases List.mem_or_eq_of_mem_set hp' with h2 | h2
        · exact fl_rd ht h g (List.mem_of_getElem? hg) p h2
        · subst h2; exact hq
    · exact fl_rd ht h f hf p hp
  · exact fl_rd ht h f hf p hp
theorem pr_len {fs : List FkR} {x : Int} {q : PgR} : (prF fs x q).length = fs.length := by
  unfold prF
  split
  · unfold prAt; split <;> simp
  · rfl
theorem pr_code {bs : List BkR} {fs : List FkR} (h : FlOf bs fs) (x : Int) (nb : Nat) : prC fs x nb = codeP true (bs.map BkR.D) x nb := by
  unfold prC codeP
  split
  · rfl
  · by_cases hx : 0 ≤ x ∧ x < (bs.length : Int)
    · obtain ⟨k, rfl⟩ : ∃ k : Nat, x = (k : Int) := ⟨x.toNat, by omega⟩
      obtain ⟨r, hr⟩ : ∃ r, bs[k]? = some r := ⟨_, List.getElem?_eq_getElem (by omega)⟩
      obtain ⟨f, hf, h1, _, h3⟩ := h.2 k _ hr
      rw [mayD_in hr, nextD_in hr, btcC_in hf, ← h3, ← h1]
      cases f.bad with
      | true => simp
      | false =>
        simp only [Int.toNat_natCast, hf, Option.map_some, Option.some.injEq, fkN]
        by_cases h5 : nextP (f.ps.map PgR.D) = 8
        · simp [h5]
        · have h6 : ¬ ((nextP (f.ps.map PgR.D) : Nat) : Int) = 8 := by omega
          simp [h5, h6]
    · have h1 := h.1
      have hb : btcC fs x = 1 := by unfold btcC; rw [if_pos (by omega)]
      rw [hb, mayD_form (.inr (by simp; omega))]
      rfl
theorem pr_chip {bs : List BkR} {fs : List FkR} (h : FlOf bs fs) (x : Int) (q : PgR) (hu : q.used = true) : (prF fs x q).map FkR.D = programD true (bs.map BkR.D) x q.zs := by
  unfold prF programD
  rw [pr_code h x]
  split
  · rename_i hc
    unfold codeP at hc
    split at hc
    · omega
    · obtain ⟨_, k, r, rfl, hr, _⟩ := code_zero (bs := bs) hc
      obtain ⟨f, hf, h1, h2, h3⟩ := h.2 k r hr
      unfold prAt progAt
      rw [Int.toNat_natCast, hf, List.getElem?_map, hr]
      simp only [Option.map_some]
      rw [List.map_set, h.D]
      simp only [FkR.D, FkR.pg, BkR.D, fkN, List.map_set, h1, h2, h3, PgR.D, hu]
  · exact h.D
theorem totP_put : ∀ (ps : List PgD) (k : Nat) (q : PgD), totP (ps.set k q) ≤ totP ps + 1 + q.zs.length
  | [], _, _ => by simp [totP]
  | d :: ds, 0, q => by rw [List.set_cons_zero, totP_cons, totP_cons]; omega
  | d :: ds, k + 1, q => by
    have := totP_put ds k q
    rw [List.set_cons_succ, totP_cons, totP_cons]
    omega
theorem totB_put : ∀ (ds : List BkD) (k : Nat) (b : BkD), totB (ds.set k b) ≤ totB ds + 1 + totP b.ps
  | [], _, _ => by simp [totB]
  | d :: ds, 0, b => by rw [List.set_cons_zero, totB_cons, totB_cons]; omega
  | d :: ds, k + 1, b => by
    have := totB_put ds k b
    rw [List.set_cons_succ, totB_cons, totB_cons]
    omega
/-- What a program makes of a chip has not many bytes. -/
theorem programD_tot {ok : Bool} {ds : List BkD} (x : Int) (zs : List Int) (h : chipOkB ds = ok) (ht : totB ds ≤ 1048576) : totB (programD ok ds x zs) ≤ 1048576 := by
  unfold programD
  split
  · rename_i hc
    unfold codeP at hc
    split at hc
    · omega
    · rename_i hz
      cases ok with
      | false => rw [mayD_form (.inl rfl)] at hc; omega
      | true =>
        rw [chipOkB_iff] at h
        have hb : ∀ b ∈ ds, totP b.ps ≤ 3208 := fun b hb => by
          have h1 := h.2.2 b hb
          have h2 := totP_bound b.ps (fun p hp => by
            obtain ⟨i, hi⟩ := List.mem_iff_getElem?.1 hp
            have := (h1.2.2.2 i p hi).1
            unfold pgOk at this
            simp at this
            exact this.1)
          rw [h1.1] at h2
          omega
        have h3 := totB_bound ds hb
        have h4 := h.2.1
        unfold progAt
        split
        · rename_i b hk
          have h5 := totB_put ds x.toNat ⟨b.ps.set (nextP b.ps) ⟨true, zs⟩, b.wear, b.bad⟩
          have h6 := totP_put b.ps (nextP b.ps) ⟨true, zs⟩
          have h7 := hb b (List.mem_of_getElem? hk)
          simp only at h5 h6
          omega
        · exact ht
  · exact ht
set_option maxRecDepth 100000 in
set_option maxHeartbeats 4000000 in
theorem program1I (F G n K L : Nat) (fs : List FkR) (x : Int) (ba : Option Addr) (nb bc : Nat) (zs : List Int) (w0 w : World) (hn : n ≤ 1048576) (hz : zs.length = nb) (hnb : nb ≤ 1048576) (h : FO w0 w F G n fs) (hr : ∀ f ∈ fs, ∀ p ∈ f.ps, Rd w p.a p.zs) (ht : totB (fs.map FkR.D) ≤ 1048576) (hK : Blk w K 3 #[.int .i64 x]) (hL : Blk w L 22 #[.slice ba nb bc]) :
    Calls Tryd.prog 33 #[.pointer (some ⟨F, 0, none⟩), .pointer (some ⟨K, 0, none⟩), .pointer (some ⟨L, 0, none⟩)] w (PrA w0 F G n fs x ⟨true, ba, bc, zs⟩) := by
  have hcall := programF F G n fs x ba nb bc zs w0 w hn hz hnb h hr ht
  have x0 := hK.cell 0
  have y0 := hL.cell 0
  simp at x0 y0
  generalize hGP : PrA w0 F G n fs x ⟨true, ba, bc, zs⟩ = P
  have HGP : Hid _ := hGP
  clear hGP h hr ht hK hL hz
  go_enter Tryd.func33, Tryd.ntmps33
  go_wp2_with fail
  refine hcall.mono ?_
  rintro e w1 ⟨rfl, h1⟩
  go_wp2
  rw [← HGP.out]
  exact ⟨rfl, h1⟩
set_option maxRecDepth 100000 in
set_option maxHeartbeats 8000000 in
theorem behindP (a : Option Addr) (n cap K L : Nat) (bs : List BkR) (x : Int) (ba : Option Addr) (nb bc : Nat) (zs : List Int) (w : World) (hz : zs.length = nb) (hnb : nb ≤ 1048576) (ht : CR w a n bs) (hK : Blk w K 3 #[.int .i64 x]) (hL : Blk w L 22 #[.slice ba nb bc]) (hrb : Rd w ba zs) (hE : EtCell w) :
    Calls Tryd.prog 21 #[.agg #[.slice a n cap], .func (.func 33) #[] #[.pointer (some ⟨K, 0, none⟩), .pointer (some ⟨L, 0, none⟩)]] w (ChCA w (programD (chipOkB (bs.map BkR.D)) (bs.map BkR.D) x zs) (codeP (chipOkB (bs.map BkR.D)) (bs.map BkR.D) x zs.length)) := by
  have hnn := ht.n
  have HZL : Hid (zs.length = nb) := hz
  clear hz
  have B0 : Below w.heap.size w ((w.alloc (.cells #[.slice a n cap] 26)).alloc (.cells #[.slice none 0 0] 26)) := ((Below.refl _ w).alloc (Nat.le_refl _) _).alloc (by simp) _
  have z0 := (Blk.new w 26 #[.slice a n cap]).alloc (.cells #[.slice none 0 0] 26)
  have z1 := Blk.new (w.alloc (.cells #[.slice a n cap] 26)) 26 #[.slice none 0 0]
  simp only [World.size_alloc] at z1
  have hws : ((w.alloc (.cells #[.slice a n cap] 26)).alloc (.cells #[.slice none 0 0] 26)).heap.size = w.heap.size + 2 := by simp
  obtain ⟨H, hH⟩ : ∃ H, w.heap.size = H := ⟨_, rfl⟩
  rw [hH] at z0 z1 hws
  obtain ⟨ok, hok⟩ : ∃ ok, chipOkB (bs.map BkR.D) = ok := ⟨_, rfl⟩
  have cOk := fun (W : World) (h : CR W a n bs) => chipOkI a n cap bs W h
  rw [hok] at cOk ⊢
  generalize hGP : ChCA w (programD ok (bs.map BkR.D) x zs) (codeP ok (bs.map BkR.D) x zs.length) = P
  have HGP : Hid _ := hGP
  clear hGP
  have COK : Hid _ := cOk
  have HOK : Hid (chipOkB (bs.map BkR.D) = ok) := hok
  clear cOk hok
  go_enter Tryd.func21, Tryd.ntmps21
  have x00 := z0.cell 0
  simp at x00
  go_upto_region 1 with fail
  obtain ⟨W0, hW0⟩ : ∃ W, (w.alloc (.cells #[.slice a n cap] 26)).alloc (.cells #[.slice none 0 0] 26) = W := ⟨_, rfl⟩
  rw [hW0] at B0 z0 z1 hws x00 ⊢
  clear hW0
  have HW : Hid _ := hws
  have HH : Hid (w.heap.size = H) := hH
  have HT : Hid (CR W0 a n bs) := ht.keep B0
  have HB0 : Hid (Below H w W0) := by rw [← hH]; exact B0
  have HZ0 : Hid (Blk W0 H 26 #[.slice a n cap]) := z0
  have HZ1 : Hid (Blk W0 (H + 1) 26 #[.slice none 0 0]) := z1
  have HK : Hid (Blk W0 K 3 #[.int .i64 x]) := hK.keep B0
  have HLL : Hid (Blk W0 L 22 #[.slice ba nb bc]) := hL.keep B0
  have HRB : Hid (Rd W0 ba zs) := Rd.keep hrb B0
  have HE : Hid (EtCell W0) := hE.keep B0
  have hln : Hid (bs.length = n) := ht.len
  clear ht B0 z0 z1 hH hK hE hL hrb
  go_wp2_with fail
  refine (COK.out W0 HT.out).mono ?_
  rintro e w1 ⟨rfl, b1⟩
  have y0 := (Blk.keep HZ0.out b1).cell 0
  simp at y0
  clear x00
  cases ok with
  | false =>
    go_wp2_with fail
    refine (copyChI a n cap bs w1 (HT.out.keep b1)).mono ?_
    rintro e w2 ⟨aC, nC, cC, tC, rfl, qC, hlC, b2⟩
    have B2 : Below W0.heap.size W0 w2 := b1.trans (b2.mono b1.size)
    have zr := Blk.keep HZ1.out B2
    have r0 := zr.cell 0
    have f0 := zr.frozen 0
    have zf := zr.set 0 (.slice aC nC cC)
    have d0 := zf.cell 0
    simp at r0 d0
    have HQ : Hid _ := qC
    have HB2 : Hid (Below W0.heap.size W0 w2) := B2
    have HB1 : Hid (W0.heap.size ≤ w1.heap.size) := b1.size
    have HL : Hid (tC.length = nC) := hlC
    clear qC b1 b2 B2 zr zf hlC y0
    go_wp2
    refine bodyPost_ret (v := .tuple #[.agg #[.slice aC nC cC], .int .i64 1]) (by simp [results, Tryd.f21, go_sem, d0]) rfl ?_
    rw [← HGP.out]
    have hc : codeP false (bs.map BkR.D) x zs.length = 1 := by unfold codeP; split; rfl; exact mayD_form (.inl rfl)
    have hw := HW.out
    have hH := HH.out
    have hbs := HB0.out
    have hb3 := HB2.out
    have hb1 := HB1.out
    have bel : Below w.heap.size w w2 := by rw [hH]; exact hbs.trans (hb3.mono (by omega))
    rw [hc, show programD false (bs.map BkR.D) x zs = bs.map BkR.D by unfold programD; rw [hc]; rfl]
    exact ⟨aC, nC, cC, tC, rfl, NewBs.wider (B := w1.heap.size) (NewBs.set_below (B := w1.heap.size) (j := H + 1) HQ.out (by omega)) (by omega), HL.out, bel.setCell (p := ⟨H + 1, 0, none⟩) (by simp only; omega) _⟩
  | true =>
    obtain ⟨fs, hfl, _⟩ := ok_flash HOK.out
    have hfn : fs.length = n := by rw [hfl.1, hln.out]
    go_wp2_with fail
    refine (flashOfI a n cap bs fs w1 (HT.out.keep b1) hfl).mono ?_
    rintro e w2 ⟨F, G, rfl, fo2⟩
    rw [hfn] at fo2
    have b2 := fo2.bel
    have hK2 := (Blk.keep HK.out b1).keep b2
    have hL2 := (Blk.keep HLL.out b1).keep b2
    have hrd2 : ∀ f ∈ fs, ∀ p ∈ f.ps, Rd w2 p.a p.zs := fl_rd ((HT.out.keep b1).keep b2) hfl
    have htf : totB (fs.map FkR.D) ≤ 1048576 := by rw [hfl.D]; exact HT.out.tot
    clear y0
    go_wp2_with fail
    refine (program1I F G n K L fs x ba nb bc zs w1 w2 hnn HZL.out hnb fo2 hrd2 htf hK2 hL2).mono ?_
    rintro e w3 ⟨rfl, fo3⟩
    have b3 := fo3.bel
    have B3 : Below W0.heap.size W0 w3 := b1.trans (b3.mono b1.size)
    have hrf : RdFs w3 (some ⟨G, 0, none⟩) (prF fs x ⟨true, ba, bc, zs⟩) := by
      obtain ⟨a', c', e', r'⟩ := OwnE.rd (rd := fun f : FkR => ∀ p ∈ f.ps, Rd w3 p.a p.zs) fo3.g (pr_rd (HT.out.keep B3) hfl x ⟨true, ba, bc, zs⟩ (Rd.keep HRB.out B3))
      simp only [Value.slice.injEq] at e'
      rw [e'.1]
      exact r'
    have hho := handedI F (some ⟨G, 0, none⟩) n n (prF fs x ⟨true, ba, bc, zs⟩) w3 (by rw [pr_len, hfn]) (by rw [pr_chip hfl x ⟨true, ba, bc, zs⟩ rfl]; exact programD_tot x zs HOK.out HT.out.tot) fo3.f hrf
    rw [pr_chip hfl x ⟨true, ba, bc, zs⟩ rfl] at hho
    rw [show prC fs x (PgR.zs ⟨true, ba, bc, zs⟩).length = codeP true (bs.map BkR.D) x zs.length from pr_code hfl x _]
    clear hK2 hL2 hrd2 htf fo2 b2 hrf fo3
    go_wp2_with fail
    refine hho.mono ?_
    rintro e w4 ⟨aC, nC, cC, tC, rfl, qC, hlC, b4⟩
    have B4 : Below W0.heap.size W0 w4 := B3.trans (b4.mono B3.size)
    clear hho
    obtain ⟨c, hc⟩ : ∃ c, codeP true (bs.map BkR.D) x zs.length = c := ⟨_, rfl⟩
    rw [hc]
    go_wp2_with fail
    refine (codeOfI c w4 (HE.out.keep B4)).mono ?_
    rintro e w5 ⟨rfl, b5⟩
    have B5 : Below W0.heap.size W0 w5 := B4.trans (b5.mono B4.size)
    have zr := Blk.keep HZ1.out B5
    have r0 := zr.cell 0
    have f0 := zr.frozen 0
    have zf := zr.set 0 (.slice aC nC cC)
    have d0 := zf.cell 0
    simp at r0 d0
    have HQ : Hid (NewBs w5 w3.heap.size (.slice aC nC cC) (programD true (bs.map BkR.D) x zs) tC) := qC.keep b5
    have HB5 : Hid (Below W0.heap.size W0 w5) := B5
    have HB3 : Hid (W0.heap.size ≤ w3.heap.size) := B3.size
    have HL : Hid (tC.length = nC) := hlC
    have HC : Hid _ := hc
    clear qC b1 b3 b4 b5 B3 B4 B5 zr zf hlC hc hfl hfn
    go_wp2
    refine bodyPost_ret (v := .tuple #[.agg #[.slice aC nC cC], .int .i64 c]) (by simp [results, Tryd.f21, go_sem, d0]) rfl ?_
    rw [← HGP.out, HC.out]
    have hw := HW.out
    have hH := HH.out
    have hbs := HB0.out
    have hb3 := HB5.out
    have hb1 := HB3.out
    have bel : Below w.heap.size w w5 := by rw [hH]; exact hbs.trans (hb3.mono (by omega))
    exact ⟨aC, nC, cC, tC, rfl, NewBs.wider (B := w3.heap.size) (NewBs.set_below (B := w3.heap.size) (j := H + 1) HQ.out (by omega)) (by omega), HL.out, bel.setCell (p := ⟨H + 1, 0, none⟩) (by simp only; omega) _⟩
set_option maxRecDepth 100000 in
set_option maxHeartbeats 4000000 in
theorem programI (a : Option Addr) (n cap : Nat) (bs : List BkR) (x : Int) (ba : Option Addr) (nb bc : Nat) (zs : List Int) (w : World) (hz : zs.length = nb) (hnb : nb ≤ 1048576) (ht : CR w a n bs) (hrb : Rd w ba zs) (hE : EtCell w) :
    Calls Tryd.prog 14 #[.agg #[.slice a n cap], .int .i64 x, .slice ba nb bc] w (ChCA w (programD (chipOkB (bs.map BkR.D)) (bs.map BkR.D) x zs) (codeP (chipOkB (bs.map BkR.D)) (bs.map BkR.D) x zs.length)) := by
  have B0 : Below w.heap.size w ((((w.alloc (.cells #[.slice a n cap] 26)).alloc (.cells #[.int .i64 x] 3)).alloc (.cells #[.slice ba nb bc] 22)).alloc (.cells #[.slice none 0 0] 26)) := ((((Below.refl _ w).alloc (Nat.le_refl _) _).alloc (by simp) _).alloc (by simp; omega) _).alloc (by simp; omega) _
  have z0 := (((Blk.new w 26 #[.slice a n cap]).alloc (.cells #[.int .i64 x] 3)).alloc (.cells #[.slice ba nb bc] 22)).alloc (.cells #[.slice none 0 0] 26)
  have zK := ((Blk.new (w.alloc (.cells #[.slice a n cap] 26)) 3 #[.int .i64 x]).alloc (.cells #[.slice ba nb bc] 22)).alloc (.cells #[.slice none 0 0] 26)
  have zL := (Blk.new ((w.alloc (.cells #[.slice a n cap] 26)).alloc (.cells #[.int .i64 x] 3)) 22 #[.slice ba nb bc]).alloc (.cells #[.slice none 0 0] 26)
  have z1 := Blk.new (((w.alloc (.cells #[.slice a n cap] 26)).alloc (.cells #[.int .i64 x] 3)).alloc (.cells #[.slice ba nb bc] 22)) 26 #[.slice none 0 0]
  simp only [World.size_alloc] at z1 zK zL
  have hcall := behindP a n cap (w.heap.size + 1) (w.heap.size + 2) bs x ba nb bc zs _ hz hnb (ht.keep B0) zK zL (hrb.keep B0) (hE.keep B0)
  obtain ⟨D, hD⟩ : ∃ D, programD (chipOkB (bs.map BkR.D)) (bs.map BkR.D) x zs = D := ⟨_, rfl⟩
  obtain ⟨c, hc⟩ : ∃ c, codeP (chipOkB (bs.map BkR.D)) (bs.map BkR.D) x zs.length = c := ⟨_, rfl⟩
  rw [hD, hc] at hcall ⊢
  generalize hGP : ChCA w D c = P
  have HGP : Hid _ := hGP
  clear hGP hD hc ht hE zK zL hrb hz
  have x0 := z0.cell 0
  simp at x0
  obtain ⟨H, hH⟩ : ∃ H, w.heap.size = H := ⟨_, rfl⟩
  have HH : Hid (w.heap.size = H) := hH
  rw [hH] at hcall
  go_enter Tryd.func14, Tryd.ntmps14
  go_upto_region 1 with fail
  try rw [hH]
  obtain ⟨W0, hW0⟩ : ∃ W, (((w.alloc (.cells #[.slice a n cap] 26)).alloc (.cells #[.int .i64 x] 3)).alloc (.cells #[.slice ba nb bc] 22)).alloc (.cells #[.slice none 0 0] 26) = W := ⟨_, rfl⟩
  have hws : W0.heap.size = w.heap.size + 4 := by rw [← hW0]; simp
  rw [hW0] at B0 z0 z1 x0 hcall ⊢
  clear hW0
  have HW : Hid _ := hws
  have HB0 : Hid _ := B0
  have HZ1 : Hid (Blk W0 (H + 3) 26 #[.slice none 0 0]) := by rw [← hH]; exact z1
  rw [hH] at z0 x0
  clear B0 z1 hH hws
  go_wp2_with fail
  refine hcall.mono ?_
  rintro e w1 ⟨aC, nC, cC, tC, rfl, qC, hlC, b1⟩
  have zr := Blk.keep HZ1.out b1
  have r0 := zr.cell 0
  have f0 := zr.frozen 0
  have zf := zr.set 0 (.slice aC nC cC)
  have d0 := zf.cell 0
  simp at r0 d0
  have HQ : Hid _ := qC
  have HB1 : Hid (Below W0.heap.size W0 w1) := b1
  have HL : Hid (tC.length = nC) := hlC
  clear qC b1 zr zf hlC x0 z0 hcall
  go_wp2
  refine bodyPost_ret (v := .tuple #[.agg #[.slice aC nC cC], .int .i64 c]) (by simp [results, Tryd.f14, go_sem, d0]) rfl ?_
  rw [← HGP.out]
  have hw := HW.out
  have hH := HH.out
  have hbs := HB0.out
  have hb3 := HB1.out
  have bel : Below w.heap.size w w1 := hbs.trans (hb3.mono (by omega))
  exact ⟨aC, nC, cC, tC, rfl, NewBs.wider (B := W0.heap.size) (NewBs.set_below (B := W0.heap.size) (j := H + 3) HQ.out (by omega)) (by omega), HL.out, bel.setCell (p := ⟨H + 3, 0, none⟩) (by simp only; omega) _⟩
end

section
open Go.RowKit
theorem mk_pgs (k5 : Nat) (w : World) (h : k5 < 2) : (Instr.makeSlice 22 (.int .i64 (400 + (k5 : Int))) (.int .i64 (400 + (k5 : Int)))).run Tryd.prog w = .ok (.slice (some ⟨w.heap.size, 0, none⟩) (400 + k5) (400 + k5)) (w.alloc (.cells (madeCells #[.int .u8 0] (400 + k5)) 5)) := by
  obtain ⟨ib, hib, zb0, zb1, zb2⟩ := info_parts Tryd.info5
  have := run_make_row (P := Tryd.prog) 22 5 ib _ Tryd.underlying22 hib zb0 zb1 rfl .i64 .i64 (400 + k5) (by rw [zb2]; omega) (by omega) w
  rw [show (400 + (k5 : Int)) = ((400 + k5 : Nat) : Int) by omega]
  exact this
theorem rd_made8 (W : World) (k : Nat) : Rd (W.alloc (.cells (madeCells #[.int .u8 0] k) 5)) (some ⟨W.heap.size, 0, none⟩) (List.replicate k 0) := by
  refine .inr ⟨W.heap.size, 0, rfl, fun i hi => ?_⟩
  rw [List.length_replicate] at hi
  rw [cell_of_row (W.alloc (.cells (madeCells #[.int .u8 0] k) 5)) W.heap.size (0 + i) (madeCells #[.int .u8 0] k) 5 (0, 0) (heap_alloc_new W _), Nat.zero_add]
  have h1 : (List.replicate k (0 : Int)).getD i 0 = 0 := by rw [List.getD_eq_getElem?_getD, List.getElem?_replicate, if_pos hi]; rfl
  rw [h1]
  have h2 : i < (madeCells #[Value.int .u8 0] k).size := by simpa [madeCells] using hi
  rw [Array.getElem?_eq_getElem h2]
  simp [madeCells, Nat.mod_one]
theorem rd_svs {w w' : World} {g : Nat} {F : List Nat} {zs : List Int} (h : Rd w (some ⟨g, 0, none⟩) zs) (k : Sv F w w') (hg : g ∉ F) : Rd w' (some ⟨g, 0, none⟩) zs := by
  by_cases hz : zs = []
  · exact .inl hz
  · obtain ⟨b, off, e, hlt, hc⟩ := h.lt hz
    simp only [Option.some.injEq, Addr.mk.injEq] at e
    obtain ⟨rfl, rfl, _⟩ := e
    exact .inr ⟨_, _, rfl, fun i hi => (World.cell?_of_block (w := w) (k.block _ hlt hg)).trans (hc i hi)⟩
theorem rd_far {w : World} {g X i : Nat} {zs : List Int} (h : Rd w (some ⟨g, 0, none⟩) zs) (hX : X ≠ g) (v : Value) : Rd (w.setCell ⟨X, i, none⟩ v) (some ⟨g, 0, none⟩) zs :=
  rd_svs (F := [X]) h (sv_at w (by simp)) (by simp; omega)
/-- A drawn chip that can be read, a number, and bytes. -/
def DrawnPr (w : World) (e : Ending) (w' : World) : Prop := ∃ va vn vc qs x g m c ys, e = .returned (.tuple #[.agg #[.slice va vn vc], .int .i64 x, .slice (some ⟨g, 0, none⟩) m c]) ∧ CR w' va vn qs ∧ vn ≤ 24 ∧ (-1 ≤ x ∧ x ≤ 24) ∧ ys.length = m ∧ m ≤ 401 ∧ Byt ys ∧ Rd w' (some ⟨g, 0, none⟩) ys ∧ Below w.heap.size w w'
set_option maxRecDepth 100000 in
set_option maxHeartbeats 4000000 in
theorem drawProg_any (a : Option Addr) (n cap : Nat) (zs : List Int) (w : World) (hn : zs.length = n) (hs : n ≤ 1048576) (hr : Rd w a zs) (hb : Byt zs) :
    Calls Tryd.prog 13 #[.slice a n cap] w (DrawnPr w) := by
  have b0 : Below w.heap.size w (w.alloc (.cells #[.slice none 0 0] 26)) := (Below.refl _ w).alloc (Nat.le_refl _) _
  have z0 := Blk.new w 26 #[.slice none 0 0]
  have hsz : (w.alloc (.cells #[.slice none 0 0] 26)).heap.size = w.heap.size + 1 := by simp
  have HSZ : Hid _ := hsz
  have HB0 : Hid _ := b0
  obtain ⟨P, hP⟩ : ∃ P, DrawnPr w = P := ⟨_, rfl⟩
  have HP : Hid _ := hP
  rw [hP]
  clear hsz hP
  go_enter Tryd.func13, Tryd.ntmps13
  go_wp2_with fail
  refine (new_step a n cap zs _ hn hs (hr.keep b0) hb).mono ?_
  rintro e w1 ⟨rfl, s1, b1⟩
  have zr := z0.keep b1
  have B1 := HB0.out.trans (b1.mono HB0.out.size)
  rw [HSZ.out] at s1 ⊢
  have hsz1 := b1.size
  rw [HSZ.out] at hsz1
  have hgcl := s1.cur.lt
  clear z0 b0 b1 hr hb hn
  go_wp2_with fail
  (with_reducible refine (some_step _ n cap a zs w1 s1).mono ?_)
  rintro e w2 ⟨g, m, c, ys, rfl, hm9, hg, hby, ho, s2, g2⟩
  have sv2 := sv_grown g2
  have hsz2 := sv2.size
  have zr2 : Blk w2 w.heap.size 26 #[.slice none 0 0] := Blk.svs zr sv2 (by simp)
  have B2 : Below w.heap.size w w2 := Below.svs B1 sv2 (fun m hm => by simp at hm; omega) (Nat.le_refl _)
  have hy2 := ho.rd
  have hyl := ho.len
  clear s1 zr B1 sv2 g2 ho
  go_wp2_with fail
  refine (once_step _ n cap a zs 12 w2 s2 (by omega) (by omega)).mono ?_
  rintro e w3 ⟨Q, rfl, s3, g3⟩
  have sv3 := sv_grown g3
  have hsz3 := sv3.size
  have zr3 : Blk w3 w.heap.size 26 #[.slice none 0 0] := Blk.svs zr2 sv3 (by simp)
  have B3 : Below w.heap.size w w3 := Below.svs B2 sv3 (fun m hm => by simp at hm; omega) (Nat.le_refl _)
  have hy3 := rd_svs hy2 sv3 (by simp; omega)
  clear s2 zr2 B2 sv3 g3 hy2
  cases Q with
  | false =>
  have HYL : Hid (ys.length = m) := hyl
  have hm : m ≤ 401 := by omega
  clear hyl hm9
  go_wp2_with fail
  (with_reducible refine (l10AnyS _ n cap a zs w3 s3).mono ?_)
  rintro e w4 ⟨va, vn, vc, qs, rfl, hA, hvn, s4, sv4⟩
  have zr4 : Blk w4 w.heap.size 26 #[.slice none 0 0] := Blk.svs zr3 sv4 (by simp)
  have hy4 := rd_svs hy3 sv4 (by simp; omega)
  have B4 : Below w.heap.size w w4 := Below.svs B3 sv4 (fun m hm => by simp at hm; omega) (Nat.le_refl _)
  have hsz4 := sv4.size
  clear s3 zr3 hy3 B3
  go_wp2_with fail
  (with_reducible refine (l10Blk_any _ n cap a zs w4 s4).mono ?_)
  rintro e w5 ⟨x, rfl, hx, s5, g5⟩
  have sv5 := sv_grown g5
  have zr5 : Blk w5 w.heap.size 26 #[.slice none 0 0] := Blk.svs zr4 sv5 (by simp)
  have hy5 := rd_svs hy4 sv5 (by simp; omega)
  have B5 : Below w.heap.size w w5 := Below.svs B4 sv5 (fun m hm => by simp at hm; omega) (Nat.le_refl _)
  have hA5 := hA.svs sv5 (fun g hg => by simp at hg; omega)
  have r0 := zr5.cell 0
  have f0 := zr5.frozen 0
  have d0 := (zr5.set 0 (.slice va vn vc)).cell 0
  simp at r0 d0
  have HO : Hid (CR (w5.setCell ⟨w.heap.size, 0, none⟩ (.slice va vn vc)) va vn qs) := (ACR.far (i := 0) hA5 (show w.heap.size < w3.heap.size by omega) (.slice va vn vc)).cr
  have HY : Hid (Rd (w5.setCell ⟨w.heap.size, 0, none⟩ (.slice va vn vc)) (some ⟨g, 0, none⟩) ys) := rd_far hy5 (by omega) (.slice va vn vc)
  have HBF : Hid _ := B5.setCell (p := ⟨w.heap.size, 0, none⟩) (Nat.le_refl _) (.slice va vn vc)
  clear zr4 zr5 B4 B5 s4 s5 sv4 sv5 g5 hA hA5 hy4 hy5
  go_wp2
  refine bodyPost_ret (v := .tuple #[.agg #[.slice va vn vc], .int .i64 x, .slice (some ⟨g, 0, none⟩) m c]) (by simp [results, Tryd.f13, go_sem, d0]) rfl ?_
  rw [← HP.out]
  exact ⟨va, vn, vc, qs, x, _, m, c, ys, rfl, HO.out, hvn, hx, HYL.out, hm, hby, HY.out, HBF.out⟩
  | true =>
  clear hy3 hby hyl
  go_wp2_with fail
  refine (below_step _ n cap a zs 2 w3 s3 (by omega) (by omega)).mono ?_
  rintro e u3 ⟨k5, rfl, hk5, s5, g5⟩
  have sv5 := sv_grown g5
  have hsz5 := sv5.size
  have zr5 : Blk u3 w.heap.size 26 #[.slice none 0 0] := Blk.svs zr3 sv5 (by simp)
  have B5 : Below w.heap.size w u3 := Below.svs B3 sv5 (fun m hm => by simp at hm; omega) (Nat.le_refl _)
  have hwr : IntKind.i64.wrap (400 + (k5 : Int)) = 400 + (k5 : Int) := by rw [IntKind.wrap_i64]; omega
  have hmk := mk_pgs k5 u3 hk5
  have s3 := s5.alloc (.cells (madeCells #[.int .u8 0] (400 + k5)) 5)
  have zr3 := zr5.alloc (.cells (madeCells #[.int .u8 0] (400 + k5)) 5)
  have B3 := B5.alloc B5.size (.cells (madeCells #[.int .u8 0] (400 + k5)) 5)
  have hy3 := rd_made8 u3 (400 + k5)
  have hby : Byt (List.replicate (400 + k5) 0) := by intro z hz; rw [List.mem_replicate] at hz; rw [hz.2]; omega
  have HYL : Hid ((List.replicate (400 + k5) (0 : Int)).length = 400 + k5) := by show _ = _; simp
  have hm : 400 + k5 ≤ 401 := by omega
  obtain ⟨ys, hys⟩ : ∃ l : List Int, List.replicate (400 + k5) 0 = l := ⟨_, rfl⟩
  have hszA : (u3.alloc (.cells (madeCells #[.int .u8 0] (400 + k5)) 5)).heap.size = u3.heap.size + 1 := by simp
  obtain ⟨W3, hW3⟩ : ∃ W, u3.alloc (.cells (madeCells #[.int .u8 0] (400 + k5)) 5) = W := ⟨_, rfl⟩
  obtain ⟨g, hgg⟩ : ∃ g, u3.heap.size = g := ⟨_, rfl⟩
  obtain ⟨m, hmm⟩ : ∃ m, 400 + k5 = m := ⟨_, rfl⟩
  rw [hmm] at hm
  rw [hys] at hby hy3 HYL
  rw [hmm] at HYL
  rw [hW3] at s3 zr3 B3 hy3 hszA
  rw [hgg] at hy3
  clear s5 zr5 B5 sv5 g5 hys
  go_wp2_with fail
  rw [hmm] at hW3
  try rw [hW3]
  try rw [hgg]
  try rw [hmm]
  clear hmk hwr
  (with_reducible refine (l10AnyS _ n cap a zs W3 s3).mono ?_)
  rintro e w4 ⟨va, vn, vc, qs, rfl, hA, hvn, s4, sv4⟩
  have zr4 : Blk w4 w.heap.size 26 #[.slice none 0 0] := Blk.svs zr3 sv4 (by simp)
  have hy4 := rd_svs hy3 sv4 (by simp; omega)
  have B4 : Below w.heap.size w w4 := Below.svs B3 sv4 (fun m hm => by simp at hm; omega) (Nat.le_refl _)
  have hsz4 := sv4.size
  clear s3 zr3 hy3 B3
  go_wp2_with fail
  (with_reducible refine (l10Blk_any _ n cap a zs w4 s4).mono ?_)
  rintro e w5 ⟨x, rfl, hx, s5, g5⟩
  have sv5 := sv_grown g5
  have zr5 : Blk w5 w.heap.size 26 #[.slice none 0 0] := Blk.svs zr4 sv5 (by simp)
  have hy5 := rd_svs hy4 sv5 (by simp; omega)
  have B5 : Below w.heap.size w w5 := Below.svs B4 sv5 (fun m hm => by simp at hm; omega) (Nat.le_refl _)
  have hA5 := hA.svs sv5 (fun g hg => by simp at hg; omega)
  have r0 := zr5.cell 0
  have f0 := zr5.frozen 0
  have d0 := (zr5.set 0 (.slice va vn vc)).cell 0
  simp at r0 d0
  have HO : Hid (CR (w5.setCell ⟨w.heap.size, 0, none⟩ (.slice va vn vc)) va vn qs) := (ACR.far (i := 0) hA5 (show w.heap.size < W3.heap.size by omega) (.slice va vn vc)).cr
  have HY : Hid (Rd (w5.setCell ⟨w.heap.size, 0, none⟩ (.slice va vn vc)) (some ⟨g, 0, none⟩) ys) := rd_far hy5 (by omega) (.slice va vn vc)
  have HBF : Hid _ := B5.setCell (p := ⟨w.heap.size, 0, none⟩) (Nat.le_refl _) (.slice va vn vc)
  clear zr4 zr5 B4 B5 s4 s5 sv4 sv5 g5 hA hA5 hy4 hy5
  go_wp2
  refine bodyPost_ret (v := .tuple #[.agg #[.slice va vn vc], .int .i64 x, .slice (some ⟨g, 0, none⟩) m m]) (by simp [results, Tryd.f13, go_sem, d0]) rfl ?_
  rw [← HP.out]
  exact ⟨va, vn, vc, qs, x, _, m, m, ys, rfl, HO.out, hvn, hx, HYL.out, hm, hby, HY.out, HBF.out⟩
end

section
/-- The block behind a program. -/
def bkP1 (b : BkD) (zs : List Int) : BkD := ⟨b.ps.set (nextP b.ps) ⟨true, zs⟩, b.wear, b.bad⟩
structure Progd (ds : List BkD) (x : Int) (zs : List Int) (k : Nat) (b : BkD) : Prop where
  ok : ChOk ds
  xk : x = (k : Int)
  at_ : ds[k]? = some b
  free : nextP b.ps < 8
  short : zs.length ≤ 400
  new : programD (chipOkB ds) ds x zs = ds.set k (bkP1 b zs)
  ok2 : ChOk (ds.set k (bkP1 b zs))
theorem progd_of {ds : List BkD} {x : Int} {zs : List Int} (h : codeP (chipOkB ds) ds x zs.length = 0) : ∃ k b, Progd ds x zs k b := by
  have h0 := h
  unfold codeP at h
  split at h
  · omega
  · rename_i hz
    unfold mayD at h
    split at h
    · omega
    · rename_i h1
      have hc : chipOkB ds = true := by
        cases hb : chipOkB ds with
        | true => rfl
        | false => exact absurd (.inl hb) h1
      have hok : ChOk ds := (chipOkB_iff ds).1 hc
      have hx : 0 ≤ x ∧ x < (ds.length : Int) := by
        have a1 : ¬ x < 0 := fun e => h1 (.inr (.inl e))
        have a2 : ¬ (ds.length : Int) ≤ x := fun e => h1 (.inr (.inr e))
        omega
      obtain ⟨k, rfl⟩ : ∃ k : Nat, x = (k : Int) := ⟨x.toNat, by omega⟩
      have hk : k < ds.length := by omega
      have hat : ds[k]? = some ds[k] := List.getElem?_eq_getElem hk
      have hnd : nextD ds (k : Int) = (nextP ds[k].ps : Nat) := by unfold nextD; rw [if_pos (by omega)]; simp [hat]
      have hbo := hok.2.2 ds[k] (List.getElem_mem hk)
      have hlt : nextP ds[k].ps < 8 := by
        split at h
        · omega
        · split at h
          · omega
          · rename_i h8
            rw [hnd] at h8
            have hle := nextP_le ds[k].ps
            rw [hbo.1] at hle
            simp at h8
            omega
      have hn : programD (chipOkB ds) ds (k : Int) zs = ds.set k (bkP1 ds[k] zs) := by
        unfold programD
        rw [if_pos h0]
        unfold progAt
        rw [show ((k : Int)).toNat = k by omega, hat]
        rfl
      refine ⟨k, ds[k], hok, rfl, hat, hlt, by omega, hn, ?_⟩
      rw [← hn, hc]
      exact ok_prog hok _ _
theorem Progd.len {ds : List BkD} {x : Int} {zs : List Int} {k : Nat} {b : BkD} (h : Progd ds x zs k b) : k < ds.length := (List.getElem?_eq_some_iff.1 h.at_).1
theorem Progd.bk {ds : List BkD} {x : Int} {zs : List Int} {k : Nat} {b : BkD} (h : Progd ds x zs k b) : BkOk b := h.ok.2.2 b (List.mem_of_getElem? h.at_)
theorem Progd.next {ds : List BkD} {x : Int} {zs : List Int} {k : Nat} {b : BkD} (h : Progd ds x zs k b) : nextD ds (k : Int) = (nextP b.ps : Nat) ∧ nextD (ds.set k (bkP1 b zs)) (k : Int) = (nextP b.ps : Nat) + 1 := by
  have e : (ds.set k (bkP1 b zs))[k]? = some (bkP1 b zs) := List.getElem?_set_self h.len
  have hp := next_put (fun i p hp => (h.bk.2.2.2 i p hp).2) (by rw [h.bk.1]; exact h.free) zs
  constructor
  · unfold nextD
    rw [if_pos (by omega), show ((k : Int)).toNat = k by omega, h.at_]
  · unfold nextD
    rw [if_pos (by omega), show ((k : Int)).toNat = k by omega, e]
    show ((nextP (b.ps.set (nextP b.ps) ⟨true, zs⟩) : Nat) : Int) = _
    rw [hp]
    omega
theorem Progd.self {ds : List BkD} {x : Int} {zs : List Int} {k : Nat} {b : BkD} (h : Progd ds x zs k b) : readD (ds.set k (bkP1 b zs)) (k : Int) ((nextP b.ps : Nat) : Int) = some zs := by
  unfold readD
  rw [if_pos (by omega)]
  simp only [Int.toNat_natCast]
  rw [List.getElem?_set_self h.len]
  dsimp only [bkP1]
  rw [List.getElem?_set_self (by rw [h.bk.1]; exact h.free)]
  rfl
theorem Progd.other {ds : List BkD} {x : Int} {zs : List Int} {k i j : Nat} {b : BkD} (h : Progd ds x zs k b) (hi : i ≠ k ∨ j ≠ nextP b.ps) : readD (ds.set k (bkP1 b zs)) (i : Int) (j : Int) = readD ds (i : Int) (j : Int) := by
  unfold readD
  rw [if_pos (by omega), if_pos (by omega)]
  simp only [Int.toNat_natCast]
  by_cases hk : i = k
  · subst hk
    rw [List.getElem?_set_self h.len, h.at_]
    dsimp only [bkP1]
    rw [List.getElem?_set_ne (by rcases hi with e | e <;> omega)]
  · rw [List.getElem?_set_ne (Ne.symm hk)]
end

section
open Go.RowKit
theorem ownV_slc {B : Nat} {w : World} {v : Value} {n : Nat} {zs : List Int} (h : OwnV B w v n zs) : ∃ a c, v = .slice a n c ∧ Rd w a zs := by
  obtain ⟨a, c, e, hr⟩ := RowB.form (OwnV.rowB h)
  exact ⟨a, c, e, hr⟩
theorem ok_read {ds : List BkD} (h : ChOk ds) (x y : Int) : ((readD ds x y).getD []).length ≤ 400 := by
  unfold readD
  split
  · split
    · rename_i b hb
      split
      · rename_i p hp
        have := ((h.2.2 b (List.mem_of_getElem? hb)).2.2.2 _ p hp).1
        unfold pgOk at this
        simp only [Bool.and_eq_true, decide_eq_true_eq] at this
        split
        · exact this.1
        · exact Nat.zero_le _
      · exact Nat.zero_le _
    · exact Nat.zero_le _
  · exact Nat.zero_le _
set_option maxRecDepth 100000 in
set_option maxHeartbeats 8000000 in
theorem walkChips (a0 : Option Addr) (len0 cap0 : Nat) (zs : List Int) (w : World) (hn : zs.length = len0) (hr : Rd w a0 zs) (hb : Byt zs) (hg : EtCell w) :
    Calls Tryd.prog 4 #[.slice a0 len0 cap0] w fun e w' => e = .returned (.bool true) ∧ Below w.heap.size w w' := by
  by_cases hbig : 1048576 < len0
  · have hd : decide ((1048576 : Int) < (len0 : Int)) = true := by simp; omega
    go_enter Tryd.func4, Tryd.ntmps4
    go_wp2_with fail
    refine (big_any a0 len0 cap0 w).mono ?_
    rintro e w1 ⟨rfl, hw⟩
    obtain rfl := hw.symm
    rw [hd]
    go_wp2
    go_ret
    exact ⟨rfl, Below.refl _ _⟩
  have hd : decide ((1048576 : Int) < (len0 : Int)) = false := by simp; omega
  have hcD := drawProg_any a0 len0 cap0 zs w hn (by omega) hr hb
  have HG : Hid (EtCell w) := hg
  clear hn hr hb hg
  go_enter Tryd.func4, Tryd.ntmps4
  go_wp2_with fail
  refine (big_any a0 len0 cap0 w).mono ?_
  rintro e w1 ⟨rfl, hw⟩
  obtain rfl := hw.symm
  rw [hd]
  clear hd hbig
  go_wp2_with fail
  refine hcD.mono ?_
  rintro e w1 ⟨va, vn, vc, qs, x, g, m, c, ys, rfl, hcr, hvn, hx, hym, hm4, hby, hry, B1⟩
  clear hcD
  have bA : Below w1.heap.size w1 (w1.alloc (.cells #[.slice va vn vc] 26)) := (Below.refl _ _).alloc (Nat.le_refl _) _
  have z1 := Blk.new w1 26 #[.slice va vn vc]
  have B2 := B1.trans (bA.mono B1.size)
  have hcr2 := hcr.keep bA
  have hry2 := hry.keep bA
  obtain ⟨W2, hW2⟩ : ∃ W, w1.alloc (.cells #[.slice va vn vc] 26) = W := ⟨_, rfl⟩
  obtain ⟨C, hC⟩ : ∃ C, w1.heap.size = C := ⟨_, rfl⟩
  rw [hW2] at z1 B2 hcr2 hry2
  rw [hC] at z1
  have HEt : Hid (EtCell W2) := EtCell.keep HG.out B2
  obtain ⟨nv, hnv⟩ : ∃ v, nextD (qs.map BkR.D) x = v := ⟨_, rfl⟩
  have hcN := nextI va vn vc qs x W2 hcr2
  rw [hnv] at hcN
  have HNV : Hid (nextD (qs.map BkR.D) x = nv) := hnv
  have HZ2 : Hid (Blk W2 C 26 #[.slice va vn vc]) := z1
  have HCR2 : Hid (CR W2 va vn qs) := hcr2
  have HRY2 : Hid (Rd W2 (some ⟨g, 0, none⟩) ys) := hry2
  have HB2 : Hid (Below w.heap.size w W2) := B2
  have HYM : Hid (ys.length = m) := hym
  have HBY : Hid (Byt ys) := hby
  have q1 := z1.cell 0
  simp at q1
  clear hcr hry B1 bA z1 hcr2 hry2 B2 hnv hym hby
  go_wp2_with fail
  try rw [hW2]
  try rw [hC]
  clear hW2 hC
  refine hcN.mono ?_
  rintro e w3 ⟨rfl, b3⟩
  have HCR3 : Hid (CR w3 va vn qs) := HCR2.out.keep b3
  have HRY3 : Hid (Rd w3 (some ⟨g, 0, none⟩) ys) := HRY2.out.keep b3
  have HZ3 : Hid (Blk w3 C 26 #[.slice va vn vc]) := HZ2.out.keep b3
  have HB3 : Hid (Below w.heap.size w w3) := HB2.out.trans (b3.mono HB2.out.size)
  have hcI := programI va vn vc qs x (some ⟨g, 0, none⟩) m c ys w3 HYM.out (by omega) HCR3.out HRY3.out (HEt.out.keep b3)
  have hsame := fun (h : codeP (chipOkB (qs.map BkR.D)) (qs.map BkR.D) x ys.length ≠ 0) => show programD (chipOkB (qs.map BkR.D)) (qs.map BkR.D) x ys = qs.map BkR.D by unfold programD; rw [if_neg h]
  have hgood := fun (h : codeP (chipOkB (qs.map BkR.D)) (qs.map BkR.D) x ys.length = 0) => progd_of (ds := qs.map BkR.D) (x := x) h
  have hlenE : (programD (chipOkB (qs.map BkR.D)) (qs.map BkR.D) x ys).length = vn := by
    rw [← HCR3.out.len]
    unfold programD
    split
    · unfold progAt; split <;> simp
    · simp
  have hcS := fun (W : World) (h : CR W va vn qs) (h2 : Rd W (some ⟨g, 0, none⟩) ys) => programS va vn vc qs x (some ⟨g, 0, none⟩) m c ys W HYM.out (by omega) h h2
  obtain ⟨dE, hdE⟩ : ∃ d, programD (chipOkB (qs.map BkR.D)) (qs.map BkR.D) x ys = d := ⟨_, rfl⟩
  obtain ⟨cd, hcd⟩ : ∃ d, codeP (chipOkB (qs.map BkR.D)) (qs.map BkR.D) x ys.length = d := ⟨_, rfl⟩
  rw [hdE] at hcI hsame hlenE hcS
  rw [hcd] at hcI hsame hcS
  have HDE : Hid (programD (chipOkB (qs.map BkR.D)) (qs.map BkR.D) x ys = dE) := hdE
  have HCD : Hid (codeP (chipOkB (qs.map BkR.D)) (qs.map BkR.D) x ys.length = cd) := hcd
  have HSM : Hid _ := hsame
  have HGD : Hid _ := hgood
  have q1 := HZ3.out.cell 0
  simp at q1
  clear hcN b3 hsame hgood hdE hcd HZ2 HCR2 HRY2 HB2 HEt
  go_wp2_with fail
  refine hcI.mono ?_
  rintro e w4 ⟨xa, xn, xc, xs, rfl, hbs, hxn, b4⟩
  have hD3 := hbs.D
  have hxl : xn = vn := by rw [← hlenE, ← hD3, List.length_map, hxn]
  have hxl2 := hxl.symm
  subst hxl2
  have hEtot : totB dE ≤ 1048576 := by
    by_cases h : cd = 0
    · obtain ⟨k, b, hE⟩ := HGD.out (HCD.out.trans h)
      rw [← HDE.out, hE.new]
      exact ok_tot hE.ok2
    · rw [HSM.out h]; exact HCR3.out.tot
  have hxr3 : CR w4 xa vn xs := ⟨hxn, by rw [hD3]; exact hEtot, hbs.rd⟩
  clear hcI q1 hbs hlenE
  have bA : Below w4.heap.size w4 (w4.alloc (.cells #[.slice xa vn xc] 26)) := (Below.refl _ _).alloc (Nat.le_refl _) _
  have z4 := Blk.new w4 26 #[.slice xa vn xc]
  have b5 := b4.trans (bA.mono b4.size)
  have hxr4 := hxr3.keep bA
  obtain ⟨W4, hW4⟩ : ∃ W, w4.alloc (.cells #[.slice xa vn xc] 26) = W := ⟨_, rfl⟩
  obtain ⟨X, hX⟩ : ∃ C, w4.heap.size = C := ⟨_, rfl⟩
  rw [hW4] at z4 b5 hxr4
  rw [hX] at z4
  have hcr4 := HCR3.out.keep b5
  have hry4 := HRY3.out.keep b5
  have hcS4 := hcS W4 hcr4 hry4
  have q2 := (HZ3.out.keep b5).cell 0
  simp at q2
  have HRY4 : Hid (Rd W4 (some ⟨g, 0, none⟩) ys) := hry4
  have HZ4 : Hid (Blk W4 X 26 #[.slice xa vn xc]) := z4
  have HB4 : Hid (Below w3.heap.size w3 W4) := b5
  have HXR4 : Hid (CR W4 xa vn xs) := hxr4
  clear b4 bA z4 b5 hxr3 hxr4 hcS hcr4 hry4 hEtot
  go_wp2_with fail
  try rw [hW4]
  try rw [hX]
  clear hW4 hX
  refine hcS4.mono ?_
  rintro e w5 ⟨sa, sn, sc, ss, rfl, _, _, b5⟩
  have bA : Below w5.heap.size w5 (w5.alloc (.cells #[.slice sa sn sc] 26)) := (Below.refl _ _).alloc (Nat.le_refl _) _
  have b6 := b5.trans (bA.mono b5.size)
  obtain ⟨W6, hW6⟩ : ∃ W, w5.alloc (.cells #[.slice sa sn sc] 26) = W := ⟨_, rfl⟩
  rw [hW6] at b6
  have h26 := HB4.out.trans (b6.mono HB4.out.size)
  have HC6 : Hid (Blk W6 C 26 #[.slice va vn vc]) := HZ3.out.keep h26
  have HX6 : Hid (Blk W6 X 26 #[.slice xa vn xc]) := HZ4.out.keep b6
  have HCR6 : Hid (CR W6 va vn qs) := HCR3.out.keep h26
  have HXR6 : Hid (CR W6 xa vn xs) := HXR4.out.keep b6
  have HRY6 : Hid (Rd W6 (some ⟨g, 0, none⟩) ys) := HRY4.out.keep b6
  have HB6 : Hid (Below w.heap.size w W6) := HB3.out.trans (h26.mono HB3.out.size)
  have HD3 : Hid (xs.map BkR.D = dE) := hD3
  have q0 := HC6.out.cell 0
  have q1 := HX6.out.cell 0
  simp at q0 q1
  have hcc : (cd != cd) = false := by simp
  have hce : (cd == cd) = true := by simp
  clear hcS4 b5 bA b6 h26 q2 HZ4 HB4 HXR4 HZ3 HCR3 HRY3 HRY4 HB3 HG hD3 hxn
  by_cases hc0 : cd = 0
  case neg =>
    have hcn : (cd != 0) = true := by simp [hc0]
    have hcall := sameChip_same xa va vn xc vc xs qs W6 HXR6.out HCR6.out (HD3.out.trans (HSM.out hc0))
    go_wp2_with fail
    try rw [hW6]
    clear hW6
    refine hcall.mono ?_
    rintro e w7 ⟨rfl, b7⟩
    go_wp2
    go_ret
    exact ⟨rfl, HB6.out.trans (b7.mono HB6.out.size)⟩
  case pos =>
  obtain ⟨k, b, hE⟩ := HGD.out (HCD.out.trans hc0)
  have hcn : (cd != 0) = false := by simp [hc0]
  obtain rfl := hE.xk
  have hEd : Hid (xs.map BkR.D = (qs.map BkR.D).set k (bkP1 b ys)) := by show _ = _; rw [HD3.out, ← HDE.out, hE.new]
  have hkl : k < vn := by have := hE.len; have h2 := HCR6.out.len; simp at this; omega
  obtain ⟨p, hp⟩ : ∃ p, nextP b.ps = p := ⟨_, rfl⟩
  have hp8 : p < 8 := by rw [← hp]; exact hE.free
  have hnp : nv = (p : Int) := by rw [← HNV.out, hE.next.1, hp]
  subst hnp
  have HP : Hid (nextP b.ps = p) := hp
  have HEE : Hid (Progd (qs.map BkR.D) (k : Int) ys k b) := hE
  clear hE HSM HGD HDE HCD HD3 HNV hp
  have hcR := readI xa vn xc xs (k : Int) (p : Int) W6 HXR6.out
  rw [hEd.out, ← HP.out, HEE.out.self] at hcR
  rw [HP.out] at hcR
  go_wp2_with fail
  try rw [hW6]
  clear hW6
  refine hcR.mono ?_
  rintro e w7 ⟨⟨vr, rfl, hvr, _⟩, b7⟩
  obtain ⟨ra, rc, rfl, hrr⟩ := ownV_slc hvr
  clear hcR hvr
  have HC7 : Hid (Blk w7 C 26 #[.slice va vn vc]) := HC6.out.keep b7
  have HX7 : Hid (Blk w7 X 26 #[.slice xa vn xc]) := HX6.out.keep b7
  have HCR7 : Hid (CR w7 va vn qs) := HCR6.out.keep b7
  have HXR7 : Hid (CR w7 xa vn xs) := HXR6.out.keep b7
  have HRY7 : Hid (Rd w7 (some ⟨g, 0, none⟩) ys) := HRY6.out.keep b7
  have HRR7 : Hid (Rd w7 ra ys) := hrr
  have HB7 : Hid (Below w.heap.size w w7) := HB6.out.trans (b7.mono HB6.out.size)
  have hyl2 := HYM.out
  simp only [Option.isSome_some, Option.getD_some]
  rw [hyl2]
  clear q0 q1 hrr b7 hyl2 HC6 HX6 HCR6 HXR6 HRY6 HB6
  go_wp2
  go_loopw [13] (fun i wr => ∃ j : Nat, j ≤ vn ∧ i = .int .i64 j ∧ Hid (Below w7.heap.size w7 wr)) (fun i _ => vn - (intOf i).toNat)
  case atStart => exact ⟨0, Nat.zero_le _, rfl, Below.refl _ _⟩
  case round =>
    obtain ⟨i, hi, rfl, hB⟩ := hrel
    have q0 := (HC7.out.keep hB.out).cell 0
    have q1 := (HX7.out.keep hB.out).cell 0
    simp at q0 q1
    by_cases hin : i < vn
    · have hii : (i : Int) < (vn : Int) := by omega
      go_upto_region 13 with fail
      go_wp2
      go_loopw [14] (fun i wx => ∃ j : Nat, j ≤ 8 ∧ i = .int .i64 j ∧ Hid (Below w7.heap.size w7 wx)) (fun i _ => 8 - (intOf i).toNat)
      case atStart => exact ⟨0, Nat.zero_le _, rfl, hB⟩
      case round =>
        obtain ⟨j, hj, rfl, hBi⟩ := hrel
        clear q0 q1
        have q0 := (HC7.out.keep hBi.out).cell 0
        have q1 := (HX7.out.keep hBi.out).cell 0
        simp at q0 q1
        by_cases hj8 : j < 8
        · have hji : (j : Int) < 8 := by omega
          have o7 := HC7.out.keep hBi.out
          have bD : Below w7.heap.size w7 wr.drew := hBi.out.drew
          have HBD : Hid (Below w7.heap.size w7 wr.drew) := bD
          have hru := readI va vn vc qs (i : Int) (j : Int) wr (HCR7.out.keep hBi.out)
          have HRV : Hid (∀ W : World, Below w7.heap.size w7 W → Calls Tryd.prog 16 #[.agg #[.slice xa vn xc], .int .i64 (i : Int), .int .i64 (j : Int)] W (RdA W (readD ((qs.map BkR.D).set k (bkP1 b ys)) (i : Int) (j : Int)))) := fun W hW => by
            have := readI xa vn xc xs (i : Int) (j : Int) W (HXR7.out.keep hW)
            rw [hEd.out] at this
            exact this
          have hle := ok_read HEE.out.ok (i : Int) (j : Int)
          clear o7 bD
          go_wp2_with fail
          refine hru.mono ?_
          rintro e u1 ⟨⟨vu, rfl, hvu, _⟩, c1⟩
          obtain ⟨ua, uc, rfl, hur⟩ := ownV_slc hvu
          have B1 := hBi.out.trans (c1.mono hBi.out.size)
          have hrv := HRV.out u1 B1
          have t1 := (HX7.out.keep B1).cell 0
          simp at t1
          obtain ⟨zu, hzu⟩ : ∃ z, readD (qs.map BkR.D) (i : Int) (j : Int) = z := ⟨_, rfl⟩
          have HZU : Hid (readD (qs.map BkR.D) (i : Int) (j : Int) = zu) := hzu
          rw [hzu] at hur hle
          try rw [hzu]
          obtain ⟨lu, hlu⟩ : ∃ l, (zu.getD []).length = l := ⟨_, rfl⟩
          have HLU : Hid ((zu.getD []).length = lu) := hlu
          rw [hlu] at hle
          try rw [hlu]
          obtain ⟨bo, hbo⟩ : ∃ l, zu.isSome = l := ⟨_, rfl⟩
          try rw [hbo]
          have HBO : Hid (zu.isSome = bo) := hbo
          have HUR : Hid (Rd u1 ua (zu.getD [])) := hur
          have HB1 : Hid (Below w7.heap.size w7 u1) := B1
          clear hru hvu c1 hur B1 hzu hlu hbo hBi q0 q1
          go_wp2_with fail
          refine hrv.mono ?_
          rintro e u2 ⟨⟨vv, rfl, hvv, _⟩, c2⟩
          obtain ⟨wa, wc, rfl, hwr2⟩ := ownV_slc hvv
          have HUR2 : Hid (Rd u2 ua (zu.getD [])) := HUR.out.keep c2
          have HB2 : Hid (Below w7.heap.size w7 u2) := HB1.out.trans (c2.mono HB1.out.size)
          clear hrv hvv c2 t1 HUR HB1
          by_cases hsm : i = k ∧ j = p
          · obtain ⟨rfl, rfl⟩ := hsm
            have hif : ((i : Int) != (i : Int)) = false := by simp
            have hjf : ((j : Int) != (j : Int)) = false := by simp
            clear hwr2
            generalize readD ((qs.map BkR.D).set i (bkP1 b ys)) (i : Int) (j : Int) = zw
            generalize (zw.getD []).length = lw
            generalize zw.isSome = bw
            go_wp2
            go_roundw
            all_goals first
              | (case rel => exact ⟨j + 1, by omega, by go_num, HB2⟩)
              | (case rel => (repeat apply Exists.intro); exact ⟨⟨j + 1, by omega, by go_num, HB2⟩, rfl⟩)
              | (case measure => simp [intOf]; omega)
          · have hne : i ≠ k ∨ j ≠ p := by omega
            have heq := HEE.out.other (i := i) (j := j) (by rw [HP.out]; exact hne)
            rw [HZU.out] at heq
            rw [heq] at hwr2 ⊢
            rw [HLU.out, HBO.out]
            have hbf : (bo != bo) = false := by simp
            have hcall := sameLb_any ua wa lu lu uc wc (zu.getD []) (zu.getD []) u2 HLU.out HLU.out (by omega) (by omega) HUR2.out hwr2
            rw [show decide (zu.getD [] = zu.getD []) = true by simp] at hcall
            clear hwr2 heq
            by_cases hik : i = k
            · have hjp : j ≠ p := by omega
              have hif : ((i : Int) != (k : Int)) = false := by simp [hik]
              have hjf : ((j : Int) != (p : Int)) = true := by simp; omega
              clear hik hjp hne hsm
              go_wp2_with fail
              refine hcall.mono ?_
              rintro e u3 ⟨rfl, dd, rfl⟩
              have HB3 : Hid (Below w7.heap.size w7 (u2.drewN dd)) := below_drewN HB2.out dd
              go_wp2
              go_roundw
              all_goals first
                | (case rel => exact ⟨j + 1, by omega, by go_num, HB3⟩)
                | (case rel => (repeat apply Exists.intro); exact ⟨⟨j + 1, by omega, by go_num, HB3⟩, rfl⟩)
                | (case measure => simp [intOf]; omega)
            · have hif : ((i : Int) != (k : Int)) = true := by simp; omega
              clear hik hne hsm
              go_wp2_with fail
              refine hcall.mono ?_
              rintro e u3 ⟨rfl, dd, rfl⟩
              have HB3 : Hid (Below w7.heap.size w7 (u2.drewN dd)) := below_drewN HB2.out dd
              go_wp2
              go_roundw
              all_goals first
                | (case rel => exact ⟨j + 1, by omega, by go_num, HB3⟩)
                | (case rel => (repeat apply Exists.intro); exact ⟨⟨j + 1, by omega, by go_num, HB3⟩, rfl⟩)
                | (case measure => simp [intOf]; omega)
        · have hji : ¬ (j : Int) < 8 := by omega
          have HBI : Hid (Below w7.heap.size w7 wr) := hBi.out
          clear hBi
          go_wp2
          go_roundw
          all_goals first
            | (case rel => exact ⟨i + 1, by omega, by go_num, HBI⟩)
            | (case rel => (repeat apply Exists.intro); exact ⟨⟨i + 1, by omega, by go_num, HBI⟩, rfl⟩)
            | (case measure => simp [intOf]; omega)
    · have hii : ¬ (i : Int) < (vn : Int) := by omega
      have hcall := sameLb_any ra (some ⟨g, 0, none⟩) m m rc c ys ys wr HYM.out HYM.out (by omega) (by omega) (HRR7.out.keep hB.out) (HRY7.out.keep hB.out)
      rw [show decide (ys = ys) = true by simp] at hcall
      have hcX : ∀ W : World, Below w7.heap.size w7 W → Calls Tryd.prog 10 #[.agg #[.slice xa vn xc], .int .i64 (k : Int)] W fun e w' => e = .returned (.int .i64 ((p : Int) + 1)) ∧ Below W.heap.size W w' := fun W hW => by
        have := nextI xa vn xc xs (k : Int) W (HXR7.out.keep hW)
        rw [hEd.out, HEE.out.next.2, HP.out] at this
        exact this
      have hok2 : chipOkB ((qs.map BkR.D).set k (bkP1 b ys)) = true := (chipOkB_iff _).2 HEE.out.ok2
      have hcK : ∀ W : World, Below w7.heap.size w7 W → Calls Tryd.prog 11 #[.agg #[.slice xa vn xc]] W fun e w' => e = .returned (.bool true) ∧ Below W.heap.size W w' := fun W hW => by
        have := chipOkI xa vn xc xs W (HXR7.out.keep hW)
        rw [hEd.out, hok2] at this
        exact this
      have hee : ((p : Int) + 1 == (p : Int) + 1) = true := by simp
      have hwp : IntKind.i64.wrap ((p : Int) + 1) = (p : Int) + 1 := by rw [IntKind.wrap_i64]; omega
      clear hok2
      go_wp2_with fail
      refine hcall.mono ?_
      rintro e u1 ⟨rfl, dd, rfl⟩
      have HB1 : Hid (Below w7.heap.size w7 (wr.drewN dd)) := below_drewN hB.out dd
      have hcX1 := hcX _ HB1.out
      have t1 := (HX7.out.keep HB1.out).cell 0
      simp at t1
      clear hcall q0 q1
      go_wp2_with fail
      refine hcX1.mono ?_
      rintro e u2 ⟨rfl, c2⟩
      have HB2 : Hid (Below w7.heap.size w7 u2) := HB1.out.trans (c2.mono HB1.out.size)
      have hcK2 := hcK _ HB2.out
      have t2 := (HX7.out.keep HB2.out).cell 0
      simp at t2
      clear hcX1 hcX hcK c2 t1
      go_wp2_with fail
      refine hcK2.mono ?_
      rintro e u3 ⟨rfl, c3⟩
      have HB3 : Hid (Below w7.heap.size w7 u3) := HB2.out.trans (c3.mono HB2.out.size)
      clear hcK2 c3 t2
      go_wp2
      go_ret
      exact ⟨rfl, HB7.out.trans (HB3.out.mono HB7.out.size)⟩
end

section
open Go.RowKit
def ByteRow (w : World) (a : Option Addr) (len cap : Nat) (zs : List Int) : Prop :=
  (a = none ∧ len = 0 ∧ cap = 0 ∧ zs = []) ∨ ∃ x, a = some x ∧ len ≤ cap ∧ cap ≤ maxLen ∧ zs.length = cap ∧ (∀ i, i < zs.length → w.cell? (x.add i) = some (.int .u8 (zs.getD i 0))) ∧ ∀ n ∈ zs, (Lit.int .u8 n).wf = true
theorem walkFnChips (a0 : Option Addr) (len0 cap0 : Nat) (z0 : List Int) (w : World) (hbr : ByteRow w a0 len0 cap0 z0) (hg : EtCell w) :
    Calls Tryd.prog 4 #[.slice a0 len0 cap0] w fun e w' => e = .returned (.bool true) ∧ Below w.heap.size w w' := by
  obtain ⟨zs, hn, hr, hb⟩ := rd_of_row hbr
  exact walkChips a0 len0 cap0 zs w hn hr hb hg
end
end Go.Proofs.YtcohppfocfepdaaDoor



