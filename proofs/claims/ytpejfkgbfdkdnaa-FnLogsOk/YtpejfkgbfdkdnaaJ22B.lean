/-
  Joined: LogS, LogX, PutText.
-/
import Derived.Test.YtpejfkgbfdkdnaaJ21B
import Derived.WalkMore
namespace Go.Proofs.Ytpejfkgbfdkdnaa
section
open Go.RowKit
theorem freeB_eq' (r : BkR) : freeB r.D = (!r.bad && decide (nextP (r.ps.map PgR.D) = 0)) := rfl
theorem begB_eq' (r : BkR) : begB r.D = (!r.bad && (decide (0 < nextP (r.ps.map PgR.D)) && decide (nextP (r.ps.map PgR.D) < r.ps.length))) := by
  have h : (r.ps.map PgR.D).length = r.ps.length := List.length_map ..
  rw [← h]
  rfl
theorem fstD_snoc (p : BkD → Bool) (ds : List BkD) (b : BkD) : fstD p (ds ++ [b]) = if 0 ≤ fstD p ds then fstD p ds else if p b then (ds.length : Int) else -1 := by
  unfold fstD
  rw [List.findIdx?_append]
  cases h : ds.findIdx? p with
  | some k => simp
  | none =>
    cases hb : p b
    · simp [List.findIdx?_cons, hb]
    · simp [List.findIdx?_cons, hb]
theorem fstD_take {p : BkD → Bool} {bs : List BkR} {k : Nat} {r : BkR} (h : bs[k]? = some r) : fstD p ((bs.take (k + 1)).map BkR.D) = if 0 ≤ fstD p ((bs.take k).map BkR.D) then fstD p ((bs.take k).map BkR.D) else if p r.D then (k : Int) else -1 := by
  have hl : ((bs.take k).map BkR.D).length = k := by
    have := (List.getElem?_eq_some_iff.1 h).1
    simp; omega
  rw [List.take_add_one, h]
  simp only [Option.toList_some, List.map_append, List.map_cons, List.map_nil]
  rw [fstD_snoc, hl]
set_option maxRecDepth 100000 in
set_option maxHeartbeats 4000000 in
theorem freeS (a : Option Addr) (n cap : Nat) (bs : List BkR) (ops : Int) (fa : Option Addr) (m fc : Nat) (down : Bool) (seq : Int) (w : World) (ht : CR w a n bs) :
    Calls Try.prog 10 #[.agg #[.slice a n cap, .int .i64 ops, .slice fa m fc, .bool down, .int .i64 seq]] w fun e w' => e = .returned (.int .i64 (freeD (bs.map BkR.D) : Nat)) ∧ Below w.heap.size w w' := by
  have B0 : Below w.heap.size w (w.alloc (.cells #[.slice a n cap, .int .i64 ops, .slice fa m fc, .bool down, .int .i64 seq] 31)) := (Below.refl _ w).alloc (Nat.le_refl _) _
  have z0 := Blk.new w 31 #[.slice a n cap, .int .i64 ops, .slice fa m fc, .bool down, .int .i64 seq]
  have HT : Hid _ := ht.keep B0
  have HB : Hid _ := B0
  have hn1 := ht.n
  have hln : Hid (bs.length = n) := ht.len
  clear ht B0
  obtain ⟨H, hH⟩ : ∃ H, w.heap.size = H := ⟨_, rfl⟩
  rw [hH] at z0
  go_enter Try.func10, Try.ntmps10
  go_wp2
  obtain ⟨W0, hW0⟩ : ∃ W, (w.alloc (.cells #[.slice a n cap, .int .i64 ops, .slice fa m fc, .bool down, .int .i64 seq] 31)) = W := ⟨_, rfl⟩
  rw [hW0] at HB HT z0 ⊢
  clear hW0
  try rw [hH]
  go_loopw [3, 4] (fun c i wr => ∃ (k f : Nat), k ≤ n ∧ i = .int .i64 k ∧ c = .int .i64 f ∧ f ≤ k ∧ Hid (freeD ((bs.take k).map BkR.D) = f) ∧ Hid (Below W0.heap.size W0 wr)) (fun _ i _ => n - (intOf i).toNat)
  case atStart => exact ⟨0, 0, Nat.zero_le _, rfl, rfl, Nat.le_refl _, rfl, Below.refl _ _⟩
  case round =>
    obtain ⟨k, f, hk, rfl, rfl, hfk, hf, hB⟩ := hrel
    have t0 := (z0.keep hB.out).cell 0
    simp at t0
    by_cases hkn : k < n
    · have hki : (k : Int) < (n : Int) := by omega
      obtain ⟨b, off, r, rfl, hlt, hrk, x3, hrp, htp⟩ := (HT.out.keep hB.out).some hkn
      obtain ⟨x0, x1, x2⟩ := x3
      have hnx := freeD_take hrk
      rw [hf.out] at hnx
      have hcall := l10NextS r.a r.ps.length r.cap r.wear r.bad r.ps wr rfl htp hrp
      have hbe : freeB r.D = (!r.bad && decide (nextP (r.ps.map PgR.D) = 0)) := rfl
      rw [hbe] at hnx
      have hle := nextP_le (r.ps.map PgR.D)
      have hpl := totP_len (r.ps.map PgR.D)
      simp only [List.length_map] at hle hpl
      obtain ⟨n1, hn1⟩ : ∃ n1, r.ps.length = n1 := ⟨_, rfl⟩
      rw [hn1] at x0 hcall hle hpl
      obtain ⟨q, hq⟩ : ∃ q, nextP (r.ps.map PgR.D) = q := ⟨_, rfl⟩
      rw [hq] at hcall hnx hle
      obtain ⟨bad, hba⟩ : ∃ x, r.bad = x := ⟨_, rfl⟩
      rw [hba] at x2 hcall hnx
      have HNX : Hid _ := hnx
      clear hrk hn1 hq hba hbe hnx hrp hf htp
      cases bad
      · by_cases h0 : q = 0
        · subst h0
          have HN : Hid (freeD ((bs.take (k + 1)).map BkR.D) = f + 1) := by show _ = _; rw [HNX.out]; rfl
          clear HNX
          go_wp2_with fail
          refine hcall.mono ?_
          rintro e w1 ⟨rfl, hb1⟩
          have hB' : Hid (Below W0.heap.size W0 w1) := hB.out.trans (hb1.mono hB.out.size)
          clear hcall hb1
          go_wp2
          go_roundw
          case rel => exact ⟨k + 1, f + 1, by omega, by go_num, by go_num, by omega, HN, hB'⟩
          case measure => simp [intOf]; omega
        · have h2 : ((q : Int) == 0) = false := by simpa using h0
          have h3 : ¬ (q : Int) = 0 := by omega
          have HN : Hid (freeD ((bs.take (k + 1)).map BkR.D) = f) := by show _ = _; rw [HNX.out]; simp [h0]
          clear HNX
          go_wp2_with fail
          refine hcall.mono ?_
          rintro e w1 ⟨rfl, hb1⟩
          have hB' : Hid (Below W0.heap.size W0 w1) := hB.out.trans (hb1.mono hB.out.size)
          clear hcall hb1
          go_wp2
          go_roundw
          case rel => exact ⟨k + 1, f, by omega, by go_num, rfl, by omega, HN, hB'⟩
          case measure => simp [intOf]; omega
      · have HN : Hid (freeD ((bs.take (k + 1)).map BkR.D) = f) := by show _ = _; rw [HNX.out]; rfl
        clear HNX
        go_wp2
        go_roundw
        case rel => exact ⟨k + 1, f, by omega, by go_num, rfl, by omega, HN, hB⟩
        case measure => simp [intOf]; omega
    · have hki : ¬ (k : Int) < (n : Int) := by omega
      go_wp2
      go_ret
      have := hf.out
      rw [List.take_of_length_le (by rw [hln.out]; omega)] at this
      rw [← hH]
      exact ⟨by rw [this]; rfl, HB.out.trans (hB.out.mono HB.out.size)⟩
set_option maxRecDepth 100000 in
set_option maxHeartbeats 8000000 in
theorem openS (a : Option Addr) (n cap : Nat) (bs : List BkR) (ops : Int) (fa : Option Addr) (m fc : Nat) (down : Bool) (seq spare : Int) (w : World) (ht : CR w a n bs) :
    Calls Try.prog 9 #[.agg #[.slice a n cap, .int .i64 ops, .slice fa m fc, .bool down, .int .i64 seq], .int .i64 spare] w fun e w' => e = .returned (.int .i64 (openD (bs.map BkR.D) spare)) ∧ Below w.heap.size w w' := by
  have B0 : Below w.heap.size w (w.alloc (.cells #[.slice a n cap, .int .i64 ops, .slice fa m fc, .bool down, .int .i64 seq] 31)) := (Below.refl _ w).alloc (Nat.le_refl _) _
  have z0 := Blk.new w 31 #[.slice a n cap, .int .i64 ops, .slice fa m fc, .bool down, .int .i64 seq]
  have HT : Hid _ := ht.keep B0
  have HB : Hid _ := B0
  have hn1 := ht.n
  have hln : Hid (bs.length = n) := ht.len
  have hop : Hid (∀ k : Int, 0 ≤ k → fstD begB (bs.map BkR.D) = k → openD (bs.map BkR.D) spare = k) := fun k hk h => by unfold openD; rw [h, if_pos hk]
  have hop2 : Hid (fstD begB (bs.map BkR.D) = -1 → openD (bs.map BkR.D) spare = if spare < (freeD (bs.map BkR.D) : Int) then fstD freeB (bs.map BkR.D) else -1) := fun h => by unfold openD; rw [h]; rfl
  have hca : ∀ W, Below (w.alloc (.cells #[.slice a n cap, .int .i64 ops, .slice fa m fc, .bool down, .int .i64 seq] 31)).heap.size (w.alloc (.cells #[.slice a n cap, .int .i64 ops, .slice fa m fc, .bool down, .int .i64 seq] 31)) W → CR W a n bs := fun W h => (ht.keep B0).keep h
  have cN := fun W h => freeS a n cap bs ops fa m fc down seq W (hca W h)
  have CN : Hid _ := cN
  have hfl := freeD_le (bs.map BkR.D)
  rw [List.length_map, ht.len] at hfl
  clear ht B0 hca cN
  obtain ⟨H, hH⟩ : ∃ H, w.heap.size = H := ⟨_, rfl⟩
  rw [hH] at z0
  go_enter Try.func9, Try.ntmps9
  go_wp2
  obtain ⟨W0, hW0⟩ : ∃ W, (w.alloc (.cells #[.slice a n cap, .int .i64 ops, .slice fa m fc, .bool down, .int .i64 seq] 31)) = W := ⟨_, rfl⟩
  rw [hW0] at HB HT z0 CN ⊢
  clear hW0
  try rw [hH]
  go_loopw [5, 6] (fun c i wr => ∃ (k : Nat) (kf : Int), k ≤ n ∧ i = .int .i64 k ∧ c = .int .i64 kf ∧ Hid (fstD freeB ((bs.take k).map BkR.D) = kf) ∧ Hid (∀ (j : Nat) (q : BkR), j < k → bs[j]? = some q → begB q.D = false) ∧ Hid (Below W0.heap.size W0 wr) ∧ -1 ≤ kf ∧ kf < (n : Int)) (fun _ i _ => n - (intOf i).toNat)
  case atStart => exact ⟨0, -1, Nat.zero_le _, rfl, rfl, rfl, fun j q hj => by omega, Below.refl _ _, by omega, by omega⟩
  case round =>
    obtain ⟨k, kf, hk, rfl, rfl, hf, hall, hB, hf0, hfn⟩ := hrel
    have z1 := z0.keep hB.out
    have t0 := z1.cell 0
    simp at t0
    by_cases hkn : k < n
    · have hki : (k : Int) < (n : Int) := by omega
      obtain ⟨b, off, r, rfl, hlt, hrk, x3, hrp, htp⟩ := (HT.out.keep hB.out).some hkn
      obtain ⟨x0, x1, x2⟩ := x3
      have hnx := fstD_take (p := freeB) hrk
      rw [hf.out, freeB_eq' r] at hnx
      have hend : Hid (begB r.D = true → openD (bs.map BkR.D) spare = (k : Int)) := fun he => hop.out k (by omega) (fstD_at hrk he hall.out)
      have hno : Hid (begB r.D = false → ∀ (j : Nat) (q : BkR), j < k + 1 → bs[j]? = some q → begB q.D = false) := by
        intro he j q hj hq
        rcases (show j < k ∨ j = k by omega) with h | rfl
        · exact hall.out j q h hq
        · rw [hrk] at hq
          simp at hq
          rw [← hq]
          exact he
      have hbe := begB_eq' r
      have hle := nextP_le (r.ps.map PgR.D)
      have hpl := totP_len (r.ps.map PgR.D)
      simp only [List.length_map] at hle hpl
      obtain ⟨n1, hn1⟩ : ∃ n1, r.ps.length = n1 := ⟨_, rfl⟩
      obtain ⟨wear, hwe⟩ : ∃ x, r.wear = x := ⟨_, rfl⟩
      obtain ⟨bad, hba⟩ : ∃ x, r.bad = x := ⟨_, rfl⟩
      obtain ⟨ra, hra⟩ : ∃ x, r.a = x := ⟨_, rfl⟩
      obtain ⟨rc, hrc⟩ : ∃ x, r.cap = x := ⟨_, rfl⟩
      have hbA : Below wr.heap.size wr (wr.alloc (.cells #[.slice ra n1 rc, .int .i64 wear, .bool bad] 39)) := (Below.refl _ wr).alloc (Nat.le_refl _) _
      have y0 := Blk.new wr 39 #[.slice ra n1 rc, .int .i64 wear, .bool bad]
      have hcall := l10NextS r.a n1 r.cap r.wear r.bad r.ps (wr.alloc (.cells #[.slice ra n1 rc, .int .i64 wear, .bool bad] 39)) hn1 htp (hrp.keep hbA)
      obtain ⟨q, hq⟩ : ∃ q, nextP (r.ps.map PgR.D) = q := ⟨_, rfl⟩
      rw [hn1, hra, hrc] at x0
      rw [hra, hrc, hwe, hba, hq] at hcall
      rw [hwe] at x1
      rw [hba] at x2
      rw [hba, hq] at hnx
      rw [hba, hq, hn1] at hbe
      rw [hn1] at hle hpl
      rw [hq] at hle
      have HNX : Hid _ := hnx
      have HBE : Hid _ := hbe
      have HA : Hid _ := hbA
      obtain ⟨Hr, hHr⟩ : ∃ H, wr.heap.size = H := ⟨_, rfl⟩
      have HHR : Hid _ := hHr
      rw [hHr] at y0
      clear hrk hn1 hwe hba hra hrc hq hnx hbe hrp htp hf hall hbA
      go_wp2_with fail
      try rw [hHr]
      refine hcall.mono ?_
      rintro e w1 ⟨rfl, hb1⟩
      have hB' : Hid (Below W0.heap.size W0 w1) := hB.out.trans ((HA.out.trans (hb1.mono HA.out.size)).mono hB.out.size)
      have y1 := y0.keep hb1
      have p0 := y1.cell 0
      have p2 := y1.cell 2
      simp at p0 p2
      clear hcall hb1 y0 y1 x0 x1 x2 t0 HA hHr
      cases bad
      · by_cases h0 : q = 0
        · subst h0
          have hNB : Hid _ := hno.out (by rw [HBE.out]; rfl)
          by_cases hkf : kf < 0
          · have HN : Hid (fstD freeB ((bs.take (k + 1)).map BkR.D) = (k : Int)) := by show _ = _; rw [HNX.out, if_neg (by omega)]; rfl
            clear HNX HBE hno hend
            go_wp2
            go_roundw
            case rel => exact ⟨k + 1, (k : Int), by omega, by go_num, by go_num, HN, hNB, hB', by omega, by omega⟩
            case measure => simp [intOf]; omega
          · have HN : Hid (fstD freeB ((bs.take (k + 1)).map BkR.D) = kf) := by show _ = _; rw [HNX.out, if_pos (by omega)]
            clear HNX HBE hno hend
            go_wp2
            go_roundw
            case rel => exact ⟨k + 1, kf, by omega, by go_num, rfl, HN, hNB, hB', by omega, by omega⟩
            case measure => simp [intOf]; omega
        · have h2 : ((q : Int) == 0) = false := by simpa using h0
          have h3 : ¬ (q : Int) = 0 := by omega
          have h4 : (0 : Int) < (q : Int) := by omega
          by_cases hqn : q < n1
          · have h5 : (q : Int) < (n1 : Int) := by omega
            have he : Hid _ := hend.out (by rw [HBE.out]; simp [hqn]; omega)
            clear HNX HBE hno hend
            go_wp2
            go_ret
            rw [he.out, ← hH]
            exact ⟨rfl, HB.out.trans (hB'.out.mono HB.out.size)⟩
          · have h5 : ¬ (q : Int) < (n1 : Int) := by omega
            have hNB : Hid _ := hno.out (by rw [HBE.out]; simp [hqn])
            have HN : Hid (fstD freeB ((bs.take (k + 1)).map BkR.D) = kf) := by
              show _ = _
              rw [HNX.out]
              by_cases hkf : 0 ≤ kf
              · rw [if_pos hkf]
              · rw [if_neg hkf]; simp [h0]; omega
            clear HNX HBE hno hend
            go_wp2
            go_roundw
            case rel => exact ⟨k + 1, kf, by omega, by go_num, rfl, HN, hNB, hB', by omega, by omega⟩
            case measure => simp [intOf]; omega
      · have hNB : Hid _ := hno.out (by rw [HBE.out]; rfl)
        have HN : Hid (fstD freeB ((bs.take (k + 1)).map BkR.D) = kf) := by
          show _ = _
          rw [HNX.out]
          by_cases hkf : 0 ≤ kf
          · rw [if_pos hkf]
          · rw [if_neg hkf]; simp; omega
        clear HNX HBE hno hend
        go_wp2
        go_roundw
        case rel => exact ⟨k + 1, kf, by omega, by go_num, rfl, HN, hNB, hB', by omega, by omega⟩
        case measure => simp [intOf]; omega
    · have hki : ¬ (k : Int) < (n : Int) := by omega
      have ht := hf.out
      rw [List.take_of_length_le (by rw [hln.out]; omega)] at ht
      have ho := hop2.out (fstD_none fun j q hq => hall.out j q (by have := (List.getElem?_eq_some_iff.1 hq).1; rw [hln.out] at this; omega) hq)
      rw [ht] at ho
      have t1 := z1.cell 1
      have t2 := z1.cell 2
      have t3 := z1.cell 3
      have t4 := z1.cell 4
      simp at t1 t2 t3 t4
      have hcall := CN.out wr hB.out
      generalize freeD (bs.map BkR.D) = nf at hcall ho hfl
      have HO : Hid _ := ho
      clear ho ht hall hf hop hop2 CN
      go_wp2_with fail
      refine hcall.mono ?_
      rintro e w1 ⟨rfl, hb1⟩
      have hB' : Hid (Below W0.heap.size W0 w1) := hB.out.trans (hb1.mono hB.out.size)
      clear hcall hb1
      by_cases hs : spare < (nf : Int)
      · go_wp2
        go_ret
        rw [HO.out, if_pos hs, ← hH]
        exact ⟨rfl, HB.out.trans (hB'.out.mono HB.out.size)⟩
      · go_wp2
        go_ret
        rw [HO.out, if_neg (by omega), ← hH]
        exact ⟨rfl, HB.out.trans (hB'.out.mono HB.out.size)⟩
end

section
open Go.RowKit
/-- A log, an address and a code were answered. -/
def LwA (w : World) (B : Nat) (D : DvD) (seq adr code : Int) (e : Ending) (w' : World) : Prop := ∃ a n c fa m fc qs, e = .returned (.tuple #[.agg #[.slice a n c, .int .i64 D.ops, .slice fa m fc, .bool D.down, .int .i64 seq], .int .i64 adr, .int .i64 code]) ∧ NewDv w' B a n c fa m fc D.ds D.fs qs ∧ qs.length = n ∧ Below w.heap.size w w'
def WrA.D (R : WrA) (fs : List FtD) : DvD := ⟨R.S.ds, R.S.ops, fs, R.S.down⟩
def WrA.sq (R : WrA) (seq : Int) : Int := if R.more then seq + 1 else seq
theorem NewDv.setN {W : World} {B n c m fc j i : Nat} {a fa : Option Addr} {ds : List BkD} {fs : List FtD} {qs : List BkR} {u : Value} (h : NewDv W B a n c fa m fc ds fs qs) (hj : j ∉ fpDv a n c fa m fc qs) : NewDv (W.setCell ⟨j, i, none⟩ u) B a n c fa m fc ds fs qs :=
  h.svs (F := [j]) (Sv.gr (gr_setC W j i u) (fun g hg => by simp at hg; simp [hg])) (fun g hg hf => by simp at hf; subst hf; exact hj hg)
theorem NewDv.cr {w : World} {B n c m fc : Nat} {a fa : Option Addr} {ds : List BkD} {fs : List FtD} {qs : List BkR} (h : NewDv w B a n c fa m fc ds fs qs) (hl : qs.length = n) (ht : totB ds ≤ 1048576) : CR w a n qs := ⟨hl, by rw [h.bs.D]; exact ht, h.bs.rd⟩
theorem devB_tot {ds : List BkD} {ops : Int} {fs : List FtD} (h : devB ds ops fs = true) : totB ds ≤ 1048576 := by
  have := (ok_small (chipOkB_iff ds |>.2 (devB_parts.1 h).1)).2
  omega
theorem nextD_le {ds : List BkD} {k : Nat} {b : BkD} (hk : ds[k]? = some b) : nextD ds (k : Int) = (nextP b.ps : Nat) := by unfold nextD; rw [if_pos (by omega)]; simp [hk]
/-- One try more. -/
theorem wrA_neg {fs : List FtD} {Z : List Int} {spare : Int} {f : Nat} {S : LgS} (h : openD S.ds spare < 0) : wrA fs Z spare f S = ⟨S, false, -1, 9⟩ := by
  cases f with
  | zero => rfl
  | succ f => unfold wrA; rw [if_pos h]
theorem wrA_good {fs : List FtD} {Z : List Int} {spare : Int} {f k : Nat} {S : LgS} (h : openD S.ds spare = (k : Int)) (h0 : stO fs k Z S = 0) : wrA fs Z spare (f + 1) S = ⟨stN fs k Z S, true, (k : Int) * 8 + nextD S.ds (k : Int), 0⟩ := by
  unfold wrA
  rw [h, if_neg (by omega), Int.toNat_natCast, if_pos h0]
theorem wrA_bad {fs : List FtD} {Z : List Int} {spare : Int} {f k : Nat} {S : LgS} (h : openD S.ds spare = (k : Int)) (h0 : stO fs k Z S = 2) : wrA fs Z spare (f + 1) S = wrA fs Z spare f (stN fs k Z S) := by
  conv => lhs; unfold wrA
  rw [h, if_neg (by omega), Int.toNat_natCast, if_neg (by omega), if_pos h0]
theorem wrA_off {fs : List FtD} {Z : List Int} {spare : Int} {f k : Nat} {S : LgS} (h : openD S.ds spare = (k : Int)) (h0 : stO fs k Z S = 10) : wrA fs Z spare (f + 1) S = ⟨stN fs k Z S, (stN fs k Z S).down, -1, 10⟩ := by
  unfold wrA
  rw [h, if_neg (by omega), Int.toNat_natCast, if_neg (by omega), if_neg (by omega), h0]
theorem devB_ch' {ds : List BkD} {ops : Int} {fs : List FtD} (h : devB ds ops fs = true) : ChOk ds := (devB_parts.1 h).1
end

section
open Go.RowKit
theorem own_base {w : World} {g n c B : Nat} {zs : List Int} (h : Own w g n c zs) (hB : B ≤ g) : w.ownsRow B 5 1 (.slice (some ⟨g, 0, none⟩) n c) n (zs.map (Value.int .u8)) := by
  refine ⟨h.1, ?_⟩
  rcases h.2 with ⟨h', _⟩ | ⟨g', cap', cur, h', _, rest⟩
  · simp at h'
  · refine .inr ⟨g', cap', cur, h', ?_, rest⟩
    simp only [Value.slice.injEq, Option.some.injEq, Addr.mk.injEq, and_true, true_and] at h'
    omega
theorem own_form {w : World} {B n : Nat} {v : Value} {zs : List Int} {s : ByteArray} (h : w.ownsRow B 5 1 v n (zs.map (Value.int .u8) ++ Lib.strCells s)) (hv : ¬ v = .slice none 0 0) :
    ∃ g c, v = .slice (some ⟨g, 0, none⟩) n c ∧ B ≤ g ∧ Own w g n c (zs ++ strZ s) := by
  have h1 := h
  rcases h.2 with ⟨h', _⟩ | ⟨g', cap', cur, rfl, hB, rest⟩
  · exact absurd h' hv
  · refine ⟨g', cap', rfl, hB, ?_⟩
    refine ⟨?_, .inr ⟨g', cap', cur, rfl, Nat.zero_le _, ?_⟩⟩
    · rw [List.map_append, ← strZ_cells]; exact h1.1
    · rw [List.map_append, ← strZ_cells]; exact rest
theorem encTs_one (s : ByteArray) : encTs [s] = encT s := by simp [encTs]
set_option maxHeartbeats 400000 in
theorem specPutText_any (ad : Addr) (n cap : Nat) (zs : List Int) (s : ByteArray) (w : World) (hn : zs.length = n) (hs : n ≤ 2000000) (hz : s.size ≤ 2000000) (hr : Rd w (some ad) zs) :
    Calls Try.prog 95 #[.slice (some ad) n cap, .string s] w (PutPost w (n + (enc (s.size : Int)).length + s.size) (zs ++ enc (s.size : Int) ++ strZ s)) := by
  obtain ⟨i0, hi, hz0, hz1, hz2⟩ := info_parts Try.info5
  have hn' : Hid (zs.length = n) := hn
  have hle := enc_len (s.size : Int)
  clear hn
  go_enter Try.func95, Try.ntmps95
  go_wp2_with fail
  refine (specPutNum_any ad n cap zs (s.size : Int) w hn'.out (by omega) hr).mono ?_
  rintro e w1 ⟨g, c, rfl, hg, ho, hb⟩
  have hob := own_base ho hg
  have hm1 : n + (enc (s.size : Int)).length + s.size ≤ maxLen := by unfold maxLen; omega
  go_wp2_with (at_builtin; refine Lib.wpList_append_own_string _ rfl (.tmp 8) (.tmp 9) 22 9 rfl w.heap.size 5 i0 Try.underlying22 Try.underlying9 hi hz0 hz1 hz2 (.slice (some ⟨g, 0, none⟩) (n + (enc (s.size : Int)).length) c) _ _ rfl hob s rfl hm1 (by omega) hb.size ?_; intro v' w2 ho2 hg2 hnil)
  obtain ⟨g2, c2, rfl, hg2', ho2'⟩ := own_form ho2 (fun e => by have := (hnil.1 e).1; simp at this)
  go_ret
  exact ⟨g2, c2, rfl, hg2', ho2', hb.grown hg2 hb.size (by intro k hk; simp [Value.ownBlock] at hk; omega)⟩
end
end Go.Proofs.Ytpejfkgbfdkdnaa
