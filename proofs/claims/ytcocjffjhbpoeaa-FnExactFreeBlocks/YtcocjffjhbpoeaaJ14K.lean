/-
  Joined: LogF, LogS.
-/
import Derived.Test.YtcocjffjhbpoeaaJ11K
namespace Go.Proofs.Ytcocjffjhbpoeaa
section
open Go.RowKit
/-- Nothing is written, and it is not bad. -/
def freeB (b : BkD) : Bool := !b.bad && decide (nextP b.ps = 0)
/-- Some pages are written, but not all, and it is not bad. -/
def begB (b : BkD) : Bool := !b.bad && (decide (0 < nextP b.ps) && decide (nextP b.ps < b.ps.length))
/-- How many blocks are free. -/
def freeD (ds : List BkD) : Nat := (ds.filter freeB).length
theorem freeD_snoc (ds : List BkD) (b : BkD) : freeD (ds ++ [b]) = freeD ds + (if freeB b then 1 else 0) := by
  unfold freeD
  rw [List.filter_append]
  cases h : freeB b <;> simp [h]
theorem freeD_take {bs : List BkR} {k : Nat} {r : BkR} (h : bs[k]? = some r) : freeD ((bs.take (k + 1)).map BkR.D) = freeD ((bs.take k).map BkR.D) + (if freeB r.D then 1 else 0) := by
  rw [List.take_add_one, h]
  simp only [Option.toList_some, List.map_append, List.map_cons, List.map_nil]
  exact freeD_snoc _ _
theorem freeD_le (ds : List BkD) : freeD ds ≤ ds.length := List.length_filter_le _ _
/-- The place of the first that is so, or -1. -/
def fstD (p : BkD → Bool) (ds : List BkD) : Int := match ds.findIdx? p with | some k => (k : Int) | none => -1
theorem fstD_at {p : BkD → Bool} {bs : List BkR} {k : Nat} {r : BkR} (hk : bs[k]? = some r) (h : p r.D = true) (ha : ∀ (j : Nat) (q : BkR), j < k → bs[j]? = some q → p q.D = false) : fstD p (bs.map BkR.D) = (k : Int) := by
  have hf : (bs.map BkR.D).findIdx? p = some k := by
    obtain ⟨hl, he⟩ := List.getElem?_eq_some_iff.1 hk
    rw [List.findIdx?_eq_some_iff_getElem]
    refine ⟨by simpa using hl, by simpa [he] using h, fun j hj => ?_⟩
    have := ha j _ hj (List.getElem?_eq_getElem (by omega))
    simpa using this
  unfold fstD
  rw [hf]
theorem fstD_none {p : BkD → Bool} {bs : List BkR} (ha : ∀ (j : Nat) (q : BkR), bs[j]? = some q → p q.D = false) : fstD p (bs.map BkR.D) = -1 := by
  have hf : (bs.map BkR.D).findIdx? p = none := by
    rw [List.findIdx?_eq_none_iff]
    intro x hx
    obtain ⟨q, hq, rfl⟩ := List.mem_map.1 hx
    obtain ⟨j, hj⟩ := List.getElem?_of_mem hq
    exact ha j q hj
  unfold fstD
  rw [hf]
/-- The block that is written to next. -/
def openD (ds : List BkD) (spare : Int) : Int := if 0 ≤ fstD begB ds then fstD begB ds else if spare < (freeD ds : Int) then fstD freeB ds else -1
set_option maxHeartbeats 1600000 in
theorem isFreeI (a : Option Addr) (n cap : Nat) (wear : Int) (bad : Bool) (ps : List PgR) (w : World) (hn : ps.length = n) (hs : totP (ps.map PgR.D) ≤ 1048576) (hr : RdPs w a ps) :
    Calls Try.prog 30 #[.agg #[.slice a n cap, .int .i64 wear, .bool bad]] w fun e w' => e = .returned (.bool (freeB ⟨ps.map PgR.D, wear, bad⟩)) ∧ Below w.heap.size w w' := by
  have B0 : Below w.heap.size w (w.alloc (.cells #[.slice a n cap, .int .i64 wear, .bool bad] 63)) := (Below.refl _ w).alloc (Nat.le_refl _) _
  have z0 := Blk.new w 63 #[.slice a n cap, .int .i64 wear, .bool bad]
  have hcall := writtenI a n cap ps (w.alloc (.cells #[.slice a n cap, .int .i64 wear, .bool bad] 63)) hn hs (hr.keep B0)
  have hl : (ps.map PgR.D).length = n := by simp [hn]
  have hle := nextP_le (ps.map PgR.D)
  rw [hl] at hle
  have hnn := totP_len (ps.map PgR.D)
  rw [hl] at hnn
  have hx : freeB ⟨ps.map PgR.D, wear, bad⟩ = (!bad && decide (nextP (ps.map PgR.D) = 0)) := by rfl
  rw [hx]
  obtain ⟨m, hm⟩ : ∃ m, nextP (ps.map PgR.D) = m := ⟨_, rfl⟩
  rw [hm] at hcall hle ⊢
  have HB : Hid _ := B0
  clear B0 hr hm hl hx hn
  have q0 := z0.cell 0
  have q2 := z0.cell 2
  simp at q0 q2
  go_enter Try.func30, Try.ntmps30
  cases bad
  · go_wp2_with fail
    refine hcall.mono ?_
    rintro e w1 ⟨rfl, hb1⟩
    clear hcall
    by_cases h0 : m = 0
    · subst h0
      go_wp2
      go_ret
      exact ⟨rfl, HB.out.trans (hb1.mono HB.out.size)⟩
    · have h1 : ¬ (m : Int) = 0 := by omega
      have h2 : ((m : Int) == 0) = false := by simpa using h1
      go_wp2
      go_ret
      exact ⟨by simp [h0], HB.out.trans (hb1.mono HB.out.size)⟩
  · go_wp2
    go_ret
    exact ⟨rfl, HB.out⟩
set_option maxHeartbeats 1600000 in
theorem isBegunI (a : Option Addr) (n cap : Nat) (wear : Int) (bad : Bool) (ps : List PgR) (w : World) (hn : ps.length = n) (hs : totP (ps.map PgR.D) ≤ 1048576) (hr : RdPs w a ps) :
    Calls Try.prog 33 #[.agg #[.slice a n cap, .int .i64 wear, .bool bad]] w fun e w' => e = .returned (.bool (begB ⟨ps.map PgR.D, wear, bad⟩)) ∧ Below w.heap.size w w' := by
  have B0 : Below w.heap.size w (w.alloc (.cells #[.slice a n cap, .int .i64 wear, .bool bad] 63)) := (Below.refl _ w).alloc (Nat.le_refl _) _
  have z0 := Blk.new w 63 #[.slice a n cap, .int .i64 wear, .bool bad]
  have hcall := writtenI a n cap ps (w.alloc (.cells #[.slice a n cap, .int .i64 wear, .bool bad] 63)) hn hs (hr.keep B0)
  have hl : (ps.map PgR.D).length = n := by simp [hn]
  have hle := nextP_le (ps.map PgR.D)
  rw [hl] at hle
  have hnn := totP_len (ps.map PgR.D)
  rw [hl] at hnn
  have hx : begB ⟨ps.map PgR.D, wear, bad⟩ = (!bad && (decide (0 < nextP (ps.map PgR.D)) && decide (nextP (ps.map PgR.D) < n))) := by rw [← hl]; rfl
  rw [hx]
  obtain ⟨m, hm⟩ : ∃ m, nextP (ps.map PgR.D) = m := ⟨_, rfl⟩
  rw [hm] at hcall hle ⊢
  have HB : Hid _ := B0
  clear B0 hr hm hl hx hn
  go_enter Try.func33, Try.ntmps33
  go_wp2_with fail
  refine hcall.mono ?_
  rintro e w1 ⟨rfl, hb1⟩
  have t0 := (z0.keep hb1).cell 0
  have t2 := (z0.keep hb1).cell 2
  simp at t0 t2
  clear hcall z0
  cases bad
  · by_cases h0 : 0 < m
    · have h1 : (0 : Int) < (m : Int) := by omega
      by_cases h2 : m < n
      · have h3 : (m : Int) < (n : Int) := by omega
        go_wp2
        go_ret
        exact ⟨by simp [h0, h2], HB.out.trans (hb1.mono HB.out.size)⟩
      · have h3 : ¬ (m : Int) < (n : Int) := by omega
        go_wp2
        go_ret
        exact ⟨by simp [h2], HB.out.trans (hb1.mono HB.out.size)⟩
    · have h1 : ¬ (0 : Int) < (m : Int) := by omega
      go_wp2
      go_ret
      exact ⟨by simp [h0], HB.out.trans (hb1.mono HB.out.size)⟩
  · go_wp2
    go_ret
    exact ⟨rfl, HB.out.trans (hb1.mono HB.out.size)⟩
set_option maxRecDepth 100000 in
set_option maxHeartbeats 4000000 in
theorem freeI (a : Option Addr) (n cap : Nat) (bs : List BkR) (ops : Int) (fa : Option Addr) (m fc : Nat) (down : Bool) (seq : Int) (w : World) (ht : CR w a n bs) :
    Calls Try.prog 11 #[.agg #[.slice a n cap, .int .i64 ops, .slice fa m fc, .bool down, .int .i64 seq]] w fun e w' => e = .returned (.int .i64 (freeD (bs.map BkR.D) : Nat)) ∧ Below w.heap.size w w' := by
  have B0 : Below w.heap.size w (w.alloc (.cells #[.slice a n cap, .int .i64 ops, .slice fa m fc, .bool down, .int .i64 seq] 39)) := (Below.refl _ w).alloc (Nat.le_refl _) _
  have HT : Hid _ := ht.keep B0
  have HB : Hid _ := B0
  have hn1 := ht.n
  have hln : Hid (bs.length = n) := ht.len
  clear ht B0
  go_enter Try.func11, Try.ntmps11
  go_wp2
  obtain ⟨W0, hW0⟩ : ∃ W, (w.alloc (.cells #[.slice a n cap, .int .i64 ops, .slice fa m fc, .bool down, .int .i64 seq] 39)) = W := ⟨_, rfl⟩
  rw [hW0] at HB HT ⊢
  clear hW0
  go_loopw [3, 11] (fun c i wr => ∃ (k f : Nat), k ≤ n ∧ i = .int .i64 k ∧ c = .int .i64 f ∧ f ≤ k ∧ Hid (freeD ((bs.take k).map BkR.D) = f) ∧ Hid (Below W0.heap.size W0 wr)) (fun _ i _ => n - (intOf i).toNat)
  case atStart => exact ⟨0, 0, Nat.zero_le _, rfl, rfl, Nat.le_refl _, rfl, Below.refl _ _⟩
  case round =>
    obtain ⟨k, f, hk, rfl, rfl, hfk, hf, hB⟩ := hrel
    by_cases hkn : k < n
    · have hki : (k : Int) < (n : Int) := by omega
      obtain ⟨b, off, r, rfl, hlt, hrk, x3, hrp, htp⟩ := (HT.out.keep hB.out).some hkn
      obtain ⟨x0, x1, x2⟩ := x3
      have hnx := freeD_take hrk
      rw [hf.out] at hnx
      obtain ⟨n1, hn1⟩ : ∃ n1, r.ps.length = n1 := ⟨_, rfl⟩
      obtain ⟨wear, hwe⟩ : ∃ x, r.wear = x := ⟨_, rfl⟩
      obtain ⟨bad, hba⟩ : ∃ x, r.bad = x := ⟨_, rfl⟩
      obtain ⟨ra, hra⟩ : ∃ x, r.a = x := ⟨_, rfl⟩
      obtain ⟨rc, hrc⟩ : ∃ x, r.cap = x := ⟨_, rfl⟩
      have hbA : Below wr.heap.size wr (wr.alloc (.cells #[.slice ra n1 rc, .int .i64 wear, .bool bad] 63)) := (Below.refl _ wr).alloc (Nat.le_refl _) _
      have hcall := isFreeI r.a n1 r.cap r.wear r.bad r.ps (wr.alloc (.cells #[.slice ra n1 rc, .int .i64 wear, .bool bad] 63)) hn1 htp (hrp.keep hbA)
      have hbe : freeB r.D = freeB ⟨r.ps.map PgR.D, r.wear, r.bad⟩ := rfl
      rw [hbe] at hnx
      rw [hn1, hra, hrc] at x0
      rw [hwe] at x1 hcall hnx
      rw [hba] at x2 hcall hnx
      rw [hra, hrc] at hcall
      generalize freeB ⟨r.ps.map PgR.D, wear, bad⟩ = q at hcall hnx
      have HNX : Hid _ := hnx
      have HA : Hid _ := hbA
      clear hrk hn1 hwe hba hra hrc hbe hnx hrp htp hf hbA
      cases q
      · have HN : Hid (freeD ((bs.take (k + 1)).map BkR.D) = f) := by show _ = _; rw [HNX.out]; rfl
        clear HNX
        go_wp2_with fail
        refine hcall.mono ?_
        rintro e w1 ⟨rfl, hb1⟩
        have hB' : Hid (Below W0.heap.size W0 w1) := hB.out.trans ((HA.out.trans (hb1.mono HA.out.size)).mono hB.out.size)
        clear hcall hb1
        go_wp2
        go_roundw
        case rel => exact ⟨k + 1, f, by omega, by go_num, rfl, by omega, HN, hB'⟩
        case measure => simp [intOf]; omega
      · have HN : Hid (freeD ((bs.take (k + 1)).map BkR.D) = f + 1) := by show _ = _; rw [HNX.out]; rfl
        clear HNX
        go_wp2_with fail
        refine hcall.mono ?_
        rintro e w1 ⟨rfl, hb1⟩
        have hB' : Hid (Below W0.heap.size W0 w1) := hB.out.trans ((HA.out.trans (hb1.mono HA.out.size)).mono hB.out.size)
        clear hcall hb1
        go_wp2
        go_roundw
        case rel => exact ⟨k + 1, f + 1, by omega, by go_num, by go_num, by omega, HN, hB'⟩
        case measure => simp [intOf]; omega
    · have hki : ¬ (k : Int) < (n : Int) := by omega
      go_wp2
      go_ret
      have := hf.out
      rw [List.take_of_length_le (by rw [hln.out]; omega)] at this
      exact ⟨by rw [this]; rfl, HB.out.trans (hB.out.mono HB.out.size)⟩
set_option maxRecDepth 100000 in
set_option maxHeartbeats 2000000 in
theorem idxFree (a : Option Addr) (n cap : Nat) (bs : List BkR) (w : World) (ht : CR w a n bs) :
    Calls Try.prog 32 #[.slice a n cap, .func (.func 30) #[] #[]] w fun e w' => e = .returned (.int .i64 (fstD freeB (bs.map BkR.D))) ∧ Below w.heap.size w w' := by
  have hn1 := ht.n
  have HR : Hid _ := ht
  have hn' : Hid (bs.length = n) := ht.len
  have hY : Hid (∀ (k : Nat) (r : BkR), (∀ (j : Nat) (q : BkR), j < k → bs[j]? = some q → freeB q.D = false) → bs[k]? = some r → freeB r.D = true → (k : Int) = fstD freeB (bs.map BkR.D)) := fun k r h hk he => (fstD_at hk he h).symm
  have hE : Hid ((∀ (j : Nat) (q : BkR), j < n → bs[j]? = some q → freeB q.D = false) → (-1 : Int) = fstD freeB (bs.map BkR.D)) := fun h => (fstD_none (fun j q hq => h j q (by rw [← ht.len]; exact (List.getElem?_eq_some_iff.1 hq).1) hq)).symm
  generalize fstD freeB (bs.map BkR.D) = R at hY hE ⊢
  clear ht
  go_enter Try.func32, Try.ntmps32
  go_wp2
  go_loopw [8] (fun i wr => ∃ k : Nat, k ≤ n ∧ i = .int .i64 k ∧ Hid (∀ (j : Nat) (q : BkR), j < k → bs[j]? = some q → freeB q.D = false) ∧ Below w.heap.size w wr) (fun i _ => n - (intOf i).toNat)
  case atStart => exact ⟨0, Nat.zero_le _, rfl, fun j q hj => by omega, Below.refl _ _⟩
  case round =>
    obtain ⟨k, hk, rfl, hall, hB⟩ := hrel
    by_cases hkn : k < n
    · have hki : (k : Int) < (n : Int) := by omega
      obtain ⟨b, off, r, rfl, hlt, hrk, x3, hrp, htp⟩ := (HR.out.keep hB).some hkn
      obtain ⟨x0, x1, x2⟩ := x3
      have hcc := isFreeI r.a r.ps.length r.cap r.wear r.bad r.ps wr rfl htp hrp
      have hbe : freeB r.D = freeB ⟨r.ps.map PgR.D, r.wear, r.bad⟩ := rfl
      rw [← hbe] at hcc
      have hyes : Hid (freeB r.D = true → (k : Int) = R) := fun he => hY.out k r hall.out hrk he
      have hno : Hid (freeB r.D = false → ∀ (j : Nat) (q : BkR), j < k + 1 → bs[j]? = some q → freeB q.D = false) := by
        intro he j q hj hq
        rcases (show j < k ∨ j = k by omega) with h | rfl
        · exact hall.out j q h hq
        · rw [hrk] at hq
          simp at hq
          rw [← hq]
          exact he
      obtain ⟨n1, hn1⟩ : ∃ n1, r.ps.length = n1 := ⟨_, rfl⟩
      rw [hn1] at x0 hcc
      generalize freeB r.D = q at hcc hyes hno
      clear hrk hall hY hE HR hrp htp hbe hn1
      cases q
      · have hnx : Hid _ := hno.out rfl
        clear hyes hno
        go_wp2_with (go_at_call 30; (with_reducible refine hcc.mono ?_); rintro e w1 ⟨rfl, b1⟩)
        go_roundw
        case rel => exact ⟨k + 1, by omega, by go_num, hnx, hB.trans (b1.mono hB.size)⟩
        case measure => simp [intOf]; omega
      · have hend : Hid ((k : Int) = R) := hyes.out rfl
        clear hyes hno
        go_wp2_with (go_at_call 30; (with_reducible refine hcc.mono ?_); rintro e w1 ⟨rfl, b1⟩)
        go_ret
        exact ⟨ret_int hend.out, hB.trans (b1.mono hB.size)⟩
    · have hki : ¬ (k : Int) < (n : Int) := by omega
      have hend : Hid ((-1 : Int) = R) := hE.out (fun j q hj hq => hall.out j q (by omega) hq)
      clear hY hE HR hall
      go_wp2
      go_ret
      exact ⟨ret_int hend.out, hB⟩
set_option maxRecDepth 100000 in
set_option maxHeartbeats 2000000 in
theorem idxBegun (a : Option Addr) (n cap : Nat) (bs : List BkR) (w : World) (ht : CR w a n bs) :
    Calls Try.prog 32 #[.slice a n cap, .func (.func 33) #[] #[]] w fun e w' => e = .returned (.int .i64 (fstD begB (bs.map BkR.D))) ∧ Below w.heap.size w w' := by
  have hn1 := ht.n
  have HR : Hid _ := ht
  have hn' : Hid (bs.length = n) := ht.len
  have hY : Hid (∀ (k : Nat) (r : BkR), (∀ (j : Nat) (q : BkR), j < k → bs[j]? = some q → begB q.D = false) → bs[k]? = some r → begB r.D = true → (k : Int) = fstD begB (bs.map BkR.D)) := fun k r h hk he => (fstD_at hk he h).symm
  have hE : Hid ((∀ (j : Nat) (q : BkR), j < n → bs[j]? = some q → begB q.D = false) → (-1 : Int) = fstD begB (bs.map BkR.D)) := fun h => (fstD_none (fun j q hq => h j q (by rw [← ht.len]; exact (List.getElem?_eq_some_iff.1 hq).1) hq)).symm
  generalize fstD begB (bs.map BkR.D) = R at hY hE ⊢
  clear ht
  go_enter Try.func32, Try.ntmps32
  go_wp2
  go_loopw [8] (fun i wr => ∃ k : Nat, k ≤ n ∧ i = .int .i64 k ∧ Hid (∀ (j : Nat) (q : BkR), j < k → bs[j]? = some q → begB q.D = false) ∧ Below w.heap.size w wr) (fun i _ => n - (intOf i).toNat)
  case atStart => exact ⟨0, Nat.zero_le _, rfl, fun j q hj => by omega, Below.refl _ _⟩
  case round =>
    obtain ⟨k, hk, rfl, hall, hB⟩ := hrel
    by_cases hkn : k < n
    · have hki : (k : Int) < (n : Int) := by omega
      obtain ⟨b, off, r, rfl, hlt, hrk, x3, hrp, htp⟩ := (HR.out.keep hB).some hkn
      obtain ⟨x0, x1, x2⟩ := x3
      have hcc := isBegunI r.a r.ps.length r.cap r.wear r.bad r.ps wr rfl htp hrp
      have hbe : begB r.D = begB ⟨r.ps.map PgR.D, r.wear, r.bad⟩ := rfl
      rw [← hbe] at hcc
      have hyes : Hid (begB r.D = true → (k : Int) = R) := fun he => hY.out k r hall.out hrk he
      have hno : Hid (begB r.D = false → ∀ (j : Nat) (q : BkR), j < k + 1 → bs[j]? = some q → begB q.D = false) := by
        intro he j q hj hq
        rcases (show j < k ∨ j = k by omega) with h | rfl
        · exact hall.out j q h hq
        · rw [hrk] at hq
          simp at hq
          rw [← hq]
          exact he
      obtain ⟨n1, hn1⟩ : ∃ n1, r.ps.length = n1 := ⟨_, rfl⟩
      rw [hn1] at x0 hcc
      generalize begB r.D = q at hcc hyes hno
      clear hrk hall hY hE HR hrp htp hbe hn1
      cases q
      · have hnx : Hid _ := hno.out rfl
        clear hyes hno
        go_wp2_with (go_at_call 33; (with_reducible refine hcc.mono ?_); rintro e w1 ⟨rfl, b1⟩)
        go_roundw
        case rel => exact ⟨k + 1, by omega, by go_num, hnx, hB.trans (b1.mono hB.size)⟩
        case measure => simp [intOf]; omega
      · have hend : Hid ((k : Int) = R) := hyes.out rfl
        clear hyes hno
        go_wp2_with (go_at_call 33; (with_reducible refine hcc.mono ?_); rintro e w1 ⟨rfl, b1⟩)
        go_ret
        exact ⟨ret_int hend.out, hB.trans (b1.mono hB.size)⟩
    · have hki : ¬ (k : Int) < (n : Int) := by omega
      have hend : Hid ((-1 : Int) = R) := hE.out (fun j q hj hq => hall.out j q (by omega) hq)
      clear hY hE HR hall
      go_wp2
      go_ret
      exact ⟨ret_int hend.out, hB⟩
theorem fstD_lt (p : BkD → Bool) (ds : List BkD) : fstD p ds = -1 ∨ ∃ k : Nat, fstD p ds = (k : Int) ∧ k < ds.length := by
  unfold fstD
  cases h : ds.findIdx? p with
  | none => exact .inl rfl
  | some k => exact .inr ⟨k, rfl, by rw [List.findIdx?_eq_some_iff_getElem] at h; exact h.1⟩
set_option maxRecDepth 100000 in
set_option maxHeartbeats 4000000 in
theorem openI (a : Option Addr) (n cap : Nat) (bs : List BkR) (ops : Int) (fa : Option Addr) (m fc : Nat) (down : Bool) (seq spare : Int) (w : World) (ht : CR w a n bs) :
    Calls Try.prog 14 #[.agg #[.slice a n cap, .int .i64 ops, .slice fa m fc, .bool down, .int .i64 seq], .int .i64 spare] w fun e w' => e = .returned (.int .i64 (openD (bs.map BkR.D) spare)) ∧ Below w.heap.size w w' := by
  have B0 : Below w.heap.size w (w.alloc (.cells #[.slice a n cap, .int .i64 ops, .slice fa m fc, .bool down, .int .i64 seq] 39)) := (Below.refl _ w).alloc (Nat.le_refl _) _
  have z0 := Blk.new w 39 #[.slice a n cap, .int .i64 ops, .slice fa m fc, .bool down, .int .i64 seq]
  obtain ⟨W0, hW0⟩ : ∃ W, (w.alloc (.cells #[.slice a n cap, .int .i64 ops, .slice fa m fc, .bool down, .int .i64 seq] 39)) = W := ⟨_, rfl⟩
  have hn1 := ht.n
  have hl : (bs.map BkR.D).length = n := by simp [ht.len]
  have hca : ∀ W, Below W0.heap.size W0 W → CR W a n bs := fun W h => ht.keep (B0.trans (by rw [hW0]; exact h.mono (by rw [← hW0]; exact B0.size)))
  have cB := fun (W : World) (h : Below W0.heap.size W0 W) => idxBegun a n cap bs W (hca W h)
  have cF := fun (W : World) (h : Below W0.heap.size W0 W) => idxFree a n cap bs W (hca W h)
  have cN := fun (W : World) (h : Below W0.heap.size W0 W) => freeI a n cap bs ops fa m fc down seq W (hca W h)
  have hfl := freeD_le (bs.map BkR.D)
  rw [hl] at hfl
  have hbl := fstD_lt begB (bs.map BkR.D)
  rw [hl] at hbl
  have hop : openD (bs.map BkR.D) spare = if 0 ≤ fstD begB (bs.map BkR.D) then fstD begB (bs.map BkR.D) else if spare < (freeD (bs.map BkR.D) : Int) then fstD freeB (bs.map BkR.D) else -1 := rfl
  rw [hop]
  generalize fstD begB (bs.map BkR.D) = kb at cB hbl ⊢
  generalize fstD freeB (bs.map BkR.D) = kf at cF ⊢
  generalize freeD (bs.map BkR.D) = nf at cN hfl ⊢
  rw [hW0] at B0 z0
  have HB : Hid _ := B0
  have CB : Hid _ := cB
  have CF : Hid _ := cF
  have CN : Hid _ := cN
  clear ht hl hca B0 cB cF cN hop
  obtain ⟨Hs, hHs⟩ : ∃ H, w.heap.size = H := ⟨_, rfl⟩
  rw [hHs] at z0
  have q0 := z0.cell 0
  simp at q0
  go_enter Try.func14, Try.ntmps14
  go_wp2_with fail
  try rw [hW0]
  try rw [hHs]
  refine (CB.out W0 (Below.refl _ _)).mono ?_
  rintro e w1 ⟨rfl, b1⟩
  have z1 := z0.keep b1
  have q0 := z1.cell 0
  have q1 := z1.cell 1
  have q2 := z1.cell 2
  have q3 := z1.cell 3
  have q4 := z1.cell 4
  simp at q0 q1 q2 q3 q4
  have B1 := HB.out.trans (b1.mono HB.out.size)
  rcases hbl with rfl | ⟨k, rfl, hk⟩
  · by_cases hs : spare < (nf : Int)
    · go_wp2_with fail
      refine (CN.out w1 b1).mono ?_
      rintro e w2 ⟨rfl, b2⟩
      have q0 := (z1.keep b2).cell 0
      simp at q0
      have b12 := b1.trans (b2.mono b1.size)
      go_wp2_with fail
      refine (CF.out w2 b12).mono ?_
      rintro e w3 ⟨rfl, b3⟩
      have b13 := b12.trans (b3.mono b12.size)
      go_wp2
      go_ret
      rw [← hHs]
      exact ⟨rfl, HB.out.trans (b13.mono HB.out.size)⟩
    · go_wp2_with fail
      refine (CN.out w1 b1).mono ?_
      rintro e w2 ⟨rfl, b2⟩
      have b12 := b1.trans (b2.mono b1.size)
      go_wp2
      go_ret
      rw [← hHs]
      exact ⟨rfl, HB.out.trans (b12.mono HB.out.size)⟩
  · have h0 : ¬ (k : Int) < 0 := by omega
    go_wp2
    go_ret
    rw [← hHs]
    exact ⟨rfl, B1⟩
end

section
open Go.RowKit
theorem freeB_eq (ps : List PgD) (wear : Int) (bad : Bool) : freeB ⟨ps, wear, bad⟩ = (!bad && decide (nextP ps = 0)) := rfl
theorem begB_eq (ps : List PgD) (wear : Int) (bad : Bool) : begB ⟨ps, wear, bad⟩ = (!bad && (decide (0 < nextP ps) && decide (nextP ps < ps.length))) := rfl
theorem freeB_eq' (r : BkR) : freeB r.D = (!r.bad && decide (nextP (r.ps.map PgR.D) = 0)) := rfl
theorem begB_eq' (r : BkR) : begB r.D = (!r.bad && (decide (0 < nextP (r.ps.map PgR.D)) && decide (nextP (r.ps.map PgR.D) < r.ps.length))) := by
  have h : (r.ps.map PgR.D).length = r.ps.length := List.length_map ..
  rw [← h]
  rfl
theorem fstD_snoc (p : BkD → Bool) (ds : List BkD) (b : BkD) : fstD p (ds ++ [b]) = if 0 ≤ fstD p ds then fstD p ds else if p b then (ds.length : Int) else -1 := by
  unfold fstD
  rw [List.findIdx?_append]
  cases h : ds.findIdx? p with
  | some k => simp
  | none =>
    cases hb : p b
    · simp [List.findIdx?_cons, hb]
    · simp [List.findIdx?_cons, hb]
theorem fstD_take {p : BkD → Bool} {bs : List BkR} {k : Nat} {r : BkR} (h : bs[k]? = some r) : fstD p ((bs.take (k + 1)).map BkR.D) = if 0 ≤ fstD p ((bs.take k).map BkR.D) then fstD p ((bs.take k).map BkR.D) else if p r.D then (k : Int) else -1 := by
  have hl : ((bs.take k).map BkR.D).length = k := by
    have := (List.getElem?_eq_some_iff.1 h).1
    simp; omega
  rw [List.take_add_one, h]
  simp only [Option.toList_some, List.map_append, List.map_cons, List.map_nil]
  rw [fstD_snoc, hl]
set_option maxRecDepth 100000 in
set_option maxHeartbeats 4000000 in
theorem freeS (a : Option Addr) (n cap : Nat) (bs : List BkR) (ops : Int) (fa : Option Addr) (m fc : Nat) (down : Bool) (seq : Int) (w : World) (ht : CR w a n bs) :
    Calls Try.prog 9 #[.agg #[.slice a n cap, .int .i64 ops, .slice fa m fc, .bool down, .int .i64 seq]] w fun e w' => e = .returned (.int .i64 (freeD (bs.map BkR.D) : Nat)) ∧ Below w.heap.size w w' := by
  have B0 : Below w.heap.size w (w.alloc (.cells #[.slice a n cap, .int .i64 ops, .slice fa m fc, .bool down, .int .i64 seq] 39)) := (Below.refl _ w).alloc (Nat.le_refl _) _
  have z0 := Blk.new w 39 #[.slice a n cap, .int .i64 ops, .slice fa m fc, .bool down, .int .i64 seq]
  have HT : Hid _ := ht.keep B0
  have HB : Hid _ := B0
  have hn1 := ht.n
  have hln : Hid (bs.length = n) := ht.len
  clear ht B0
  obtain ⟨H, hH⟩ : ∃ H, w.heap.size = H := ⟨_, rfl⟩
  rw [hH] at z0
  go_enter Try.func9, Try.ntmps9
  go_wp2
  obtain ⟨W0, hW0⟩ : ∃ W, (w.alloc (.cells #[.slice a n cap, .int .i64 ops, .slice fa m fc, .bool down, .int .i64 seq] 39)) = W := ⟨_, rfl⟩
  rw [hW0] at HB HT z0 ⊢
  clear hW0
  try rw [hH]
  go_loopw [3, 4] (fun c i wr => ∃ (k f : Nat), k ≤ n ∧ i = .int .i64 k ∧ c = .int .i64 f ∧ f ≤ k ∧ Hid (freeD ((bs.take k).map BkR.D) = f) ∧ Hid (Below W0.heap.size W0 wr)) (fun _ i _ => n - (intOf i).toNat)
  case atStart => exact ⟨0, 0, Nat.zero_le _, rfl, rfl, Nat.le_refl _, rfl, Below.refl _ _⟩
  case round =>
    obtain ⟨k, f, hk, rfl, rfl, hfk, hf, hB⟩ := hrel
    have t0 := (z0.keep hB.out).cell 0
    simp at t0
    by_cases hkn : k < n
    · have hki : (k : Int) < (n : Int) := by omega
      obtain ⟨b, off, r, rfl, hlt, hrk, x3, hrp, htp⟩ := (HT.out.keep hB.out).some hkn
      obtain ⟨x0, x1, x2⟩ := x3
      have hnx := freeD_take hrk
      rw [hf.out] at hnx
      have hcall := l10NextS r.a r.ps.length r.cap r.wear r.bad r.ps wr rfl htp hrp
      have hbe : freeB r.D = (!r.bad && decide (nextP (r.ps.map PgR.D) = 0)) := rfl
      rw [hbe] at hnx
      have hle := nextP_le (r.ps.map PgR.D)
      have hpl := totP_len (r.ps.map PgR.D)
      simp only [List.length_map] at hle hpl
      obtain ⟨n1, hn1⟩ : ∃ n1, r.ps.length = n1 := ⟨_, rfl⟩
      rw [hn1] at x0 hcall hle hpl
      obtain ⟨q, hq⟩ : ∃ q, nextP (r.ps.map PgR.D) = q := ⟨_, rfl⟩
      rw [hq] at hcall hnx hle
      obtain ⟨bad, hba⟩ : ∃ x, r.bad = x := ⟨_, rfl⟩
      rw [hba] at x2 hcall hnx
      have HNX : Hid _ := hnx
      clear hrk hn1 hq hba hbe hnx hrp hf htp
      cases bad
      · by_cases h0 : q = 0
        · subst h0
          have HN : Hid (freeD ((bs.take (k + 1)).map BkR.D) = f + 1) := by show _ = _; rw [HNX.out]; rfl
          clear HNX
          go_wp2_with fail
          refine hcall.mono ?_
          rintro e w1 ⟨rfl, hb1⟩
          have hB' : Hid (Below W0.heap.size W0 w1) := hB.out.trans (hb1.mono hB.out.size)
          clear hcall hb1
          go_wp2
          go_roundw
          case rel => exact ⟨k + 1, f + 1, by omega, by go_num, by go_num, by omega, HN, hB'⟩
          case measure => simp [intOf]; omega
        · have h2 : ((q : Int) == 0) = false := by simpa using h0
          have h3 : ¬ (q : Int) = 0 := by omega
          have HN : Hid (freeD ((bs.take (k + 1)).map BkR.D) = f) := by show _ = _; rw [HNX.out]; simp [h0]
          clear HNX
          go_wp2_with fail
          refine hcall.mono ?_
          rintro e w1 ⟨rfl, hb1⟩
          have hB' : Hid (Below W0.heap.size W0 w1) := hB.out.trans (hb1.mono hB.out.size)
          clear hcall hb1
          go_wp2
          go_roundw
          case rel => exact ⟨k + 1, f, by omega, by go_num, rfl, by omega, HN, hB'⟩
          case measure => simp [intOf]; omega
      · have HN : Hid (freeD ((bs.take (k + 1)).map BkR.D) = f) := by show _ = _; rw [HNX.out]; rfl
        clear HNX
        go_wp2
        go_roundw
        case rel => exact ⟨k + 1, f, by omega, by go_num, rfl, by omega, HN, hB⟩
        case measure => simp [intOf]; omega
    · have hki : ¬ (k : Int) < (n : Int) := by omega
      go_wp2
      go_ret
      have := hf.out
      rw [List.take_of_length_le (by rw [hln.out]; omega)] at this
      rw [← hH]
      exact ⟨by rw [this]; rfl, HB.out.trans (hB.out.mono HB.out.size)⟩
set_option maxRecDepth 100000 in
set_option maxHeartbeats 8000000 in
theorem openS (a : Option Addr) (n cap : Nat) (bs : List BkR) (ops : Int) (fa : Option Addr) (m fc : Nat) (down : Bool) (seq spare : Int) (w : World) (ht : CR w a n bs) :
    Calls Try.prog 13 #[.agg #[.slice a n cap, .int .i64 ops, .slice fa m fc, .bool down, .int .i64 seq], .int .i64 spare] w fun e w' => e = .returned (.int .i64 (openD (bs.map BkR.D) spare)) ∧ Below w.heap.size w w' := by
  have B0 : Below w.heap.size w (w.alloc (.cells #[.slice a n cap, .int .i64 ops, .slice fa m fc, .bool down, .int .i64 seq] 39)) := (Below.refl _ w).alloc (Nat.le_refl _) _
  have z0 := Blk.new w 39 #[.slice a n cap, .int .i64 ops, .slice fa m fc, .bool down, .int .i64 seq]
  have HT : Hid _ := ht.keep B0
  have HB : Hid _ := B0
  have hn1 := ht.n
  have hln : Hid (bs.length = n) := ht.len
  have hop : Hid (∀ k : Int, 0 ≤ k → fstD begB (bs.map BkR.D) = k → openD (bs.map BkR.D) spare = k) := fun k hk h => by unfold openD; rw [h, if_pos hk]
  have hop2 : Hid (fstD begB (bs.map BkR.D) = -1 → openD (bs.map BkR.D) spare = if spare < (freeD (bs.map BkR.D) : Int) then fstD freeB (bs.map BkR.D) else -1) := fun h => by unfold openD; rw [h]; rfl
  have hca : ∀ W, Below (w.alloc (.cells #[.slice a n cap, .int .i64 ops, .slice fa m fc, .bool down, .int .i64 seq] 39)).heap.size (w.alloc (.cells #[.slice a n cap, .int .i64 ops, .slice fa m fc, .bool down, .int .i64 seq] 39)) W → CR W a n bs := fun W h => (ht.keep B0).keep h
  have cN := fun W h => freeS a n cap bs ops fa m fc down seq W (hca W h)
  have CN : Hid _ := cN
  have hfl := freeD_le (bs.map BkR.D)
  rw [List.length_map, ht.len] at hfl
  clear ht B0 hca cN
  obtain ⟨H, hH⟩ : ∃ H, w.heap.size = H := ⟨_, rfl⟩
  rw [hH] at z0
  go_enter Try.func13, Try.ntmps13
  go_wp2
  obtain ⟨W0, hW0⟩ : ∃ W, (w.alloc (.cells #[.slice a n cap, .int .i64 ops, .slice fa m fc, .bool down, .int .i64 seq] 39)) = W := ⟨_, rfl⟩
  rw [hW0] at HB HT z0 CN ⊢
  clear hW0
  try rw [hH]
  go_loopw [5, 6] (fun c i wr => ∃ (k : Nat) (kf : Int), k ≤ n ∧ i = .int .i64 k ∧ c = .int .i64 kf ∧ Hid (fstD freeB ((bs.take k).map BkR.D) = kf) ∧ Hid (∀ (j : Nat) (q : BkR), j < k → bs[j]? = some q → begB q.D = false) ∧ Hid (Below W0.heap.size W0 wr) ∧ -1 ≤ kf ∧ kf < (n : Int)) (fun _ i _ => n - (intOf i).toNat)
  case atStart => exact ⟨0, -1, Nat.zero_le _, rfl, rfl, rfl, fun j q hj => by omega, Below.refl _ _, by omega, by omega⟩
  case round =>
    obtain ⟨k, kf, hk, rfl, rfl, hf, hall, hB, hf0, hfn⟩ := hrel
    have z1 := z0.keep hB.out
    have t0 := z1.cell 0
    simp at t0
    by_cases hkn : k < n
    · have hki : (k : Int) < (n : Int) := by omega
      obtain ⟨b, off, r, rfl, hlt, hrk, x3, hrp, htp⟩ := (HT.out.keep hB.out).some hkn
      obtain ⟨x0, x1, x2⟩ := x3
      have hnx := fstD_take (p := freeB) hrk
      rw [hf.out, freeB_eq' r] at hnx
      have hend : Hid (begB r.D = true → openD (bs.map BkR.D) spare = (k : Int)) := fun he => hop.out k (by omega) (fstD_at hrk he hall.out)
      have hno : Hid (begB r.D = false → ∀ (j : Nat) (q : BkR), j < k + 1 → bs[j]? = some q → begB q.D = false) := by
        intro he j q hj hq
        rcases (show j < k ∨ j = k by omega) with h | rfl
        · exact hall.out j q h hq
        · rw [hrk] at hq
          simp at hq
          rw [← hq]
          exact he
      have hbe := begB_eq' r
      have hle := nextP_le (r.ps.map PgR.D)
      have hpl := totP_len (r.ps.map PgR.D)
      simp only [List.length_map] at hle hpl
      obtain ⟨n1, hn1⟩ : ∃ n1, r.ps.length = n1 := ⟨_, rfl⟩
      obtain ⟨wear, hwe⟩ : ∃ x, r.wear = x := ⟨_, rfl⟩
      obtain ⟨bad, hba⟩ : ∃ x, r.bad = x := ⟨_, rfl⟩
      obtain ⟨ra, hra⟩ : ∃ x, r.a = x := ⟨_, rfl⟩
      obtain ⟨rc, hrc⟩ : ∃ x, r.cap = x := ⟨_, rfl⟩
      have hbA : Below wr.heap.size wr (wr.alloc (.cells #[.slice ra n1 rc, .int .i64 wear, .bool bad] 63)) := (Below.refl _ wr).alloc (Nat.le_refl _) _
      have y0 := Blk.new wr 63 #[.slice ra n1 rc, .int .i64 wear, .bool bad]
      have hcall := l10NextS r.a n1 r.cap r.wear r.bad r.ps (wr.alloc (.cells #[.slice ra n1 rc, .int .i64 wear, .bool bad] 63)) hn1 htp (hrp.keep hbA)
      obtain ⟨q, hq⟩ : ∃ q, nextP (r.ps.map PgR.D) = q := ⟨_, rfl⟩
      rw [hn1, hra, hrc] at x0
      rw [hra, hrc, hwe, hba, hq] at hcall
      rw [hwe] at x1
      rw [hba] at x2
      rw [hba, hq] at hnx
      rw [hba, hq, hn1] at hbe
      rw [hn1] at hle hpl
      rw [hq] at hle
      have HNX : Hid _ := hnx
      have HBE : Hid _ := hbe
      have HA : Hid _ := hbA
      obtain ⟨Hr, hHr⟩ : ∃ H, wr.heap.size = H := ⟨_, rfl⟩
      have HHR : Hid _ := hHr
      rw [hHr] at y0
      clear hrk hn1 hwe hba hra hrc hq hnx hbe hrp htp hf hall hbA
      go_wp2_with fail
      try rw [hHr]
      refine hcall.mono ?_
      rintro e w1 ⟨rfl, hb1⟩
      have hB' : Hid (Below W0.heap.size W0 w1) := hB.out.trans ((HA.out.trans (hb1.mono HA.out.size)).mono hB.out.size)
      have y1 := y0.keep hb1
      have p0 := y1.cell 0
      have p2 := y1.cell 2
      simp at p0 p2
      clear hcall hb1 y0 y1 x0 x1 x2 t0 HA hHr
      cases bad
      · by_cases h0 : q = 0
        · subst h0
          have hNB : Hid _ := hno.out (by rw [HBE.out]; rfl)
          by_cases hkf : kf < 0
          · have HN : Hid (fstD freeB ((bs.take (k + 1)).map BkR.D) = (k : Int)) := by show _ = _; rw [HNX.out, if_neg (by omega)]; rfl
            clear HNX HBE hno hend
            go_wp2
            go_roundw
            case rel => exact ⟨k + 1, (k : Int), by omega, by go_num, by go_num, HN, hNB, hB', by omega, by omega⟩
            case measure => simp [intOf]; omega
          · have HN : Hid (fstD freeB ((bs.take (k + 1)).map BkR.D) = kf) := by show _ = _; rw [HNX.out, if_pos (by omega)]
            clear HNX HBE hno hend
            go_wp2
            go_roundw
            case rel => exact ⟨k + 1, kf, by omega, by go_num, rfl, HN, hNB, hB', by omega, by omega⟩
            case measure => simp [intOf]; omega
        · have h2 : ((q : Int) == 0) = false := by simpa using h0
          have h3 : ¬ (q : Int) = 0 := by omega
          have h4 : (0 : Int) < (q : Int) := by omega
          by_cases hqn : q < n1
          · have h5 : (q : Int) < (n1 : Int) := by omega
            have he : Hid _ := hend.out (by rw [HBE.out]; simp [hqn]; omega)
            clear HNX HBE hno hend
            go_wp2
            go_ret
            rw [he.out, ← hH]
            exact ⟨rfl, HB.out.trans (hB'.out.mono HB.out.size)⟩
          · have h5 : ¬ (q : Int) < (n1 : Int) := by omega
            have hNB : Hid _ := hno.out (by rw [HBE.out]; simp [hqn])
            have HN : Hid (fstD freeB ((bs.take (k + 1)).map BkR.D) = kf) := by
              show _ = _
              rw [HNX.out]
              by_cases hkf : 0 ≤ kf
              · rw [if_pos hkf]
              · rw [if_neg hkf]; simp [h0]; omega
            clear HNX HBE hno hend
            go_wp2
            go_roundw
            case rel => exact ⟨k + 1, kf, by omega, by go_num, rfl, HN, hNB, hB', by omega, by omega⟩
            case measure => simp [intOf]; omega
      · have hNB : Hid _ := hno.out (by rw [HBE.out]; rfl)
        have HN : Hid (fstD freeB ((bs.take (k + 1)).map BkR.D) = kf) := by
          show _ = _
          rw [HNX.out]
          by_cases hkf : 0 ≤ kf
          · rw [if_pos hkf]
          · rw [if_neg hkf]; simp; omega
        clear HNX HBE hno hend
        go_wp2
        go_roundw
        case rel => exact ⟨k + 1, kf, by omega, by go_num, rfl, HN, hNB, hB', by omega, by omega⟩
        case measure => simp [intOf]; omega
    · have hki : ¬ (k : Int) < (n : Int) := by omega
      have ht := hf.out
      rw [List.take_of_length_le (by rw [hln.out]; omega)] at ht
      have ho := hop2.out (fstD_none fun j q hq => hall.out j q (by have := (List.getElem?_eq_some_iff.1 hq).1; rw [hln.out] at this; omega) hq)
      rw [ht] at ho
      have t1 := z1.cell 1
      have t2 := z1.cell 2
      have t3 := z1.cell 3
      have t4 := z1.cell 4
      simp at t1 t2 t3 t4
      have hcall := CN.out wr hB.out
      generalize freeD (bs.map BkR.D) = nf at hcall ho hfl
      have HO : Hid _ := ho
      clear ho ht hall hf hop hop2 CN
      go_wp2_with fail
      refine hcall.mono ?_
      rintro e w1 ⟨rfl, hb1⟩
      have hB' : Hid (Below W0.heap.size W0 w1) := hB.out.trans (hb1.mono hB.out.size)
      clear hcall hb1
      by_cases hs : spare < (nf : Int)
      · go_wp2
        go_ret
        rw [HO.out, if_pos hs, ← hH]
        exact ⟨rfl, HB.out.trans (hB'.out.mono HB.out.size)⟩
      · go_wp2
        go_ret
        rw [HO.out, if_neg (by omega), ← hH]
        exact ⟨rfl, HB.out.trans (hB'.out.mono HB.out.size)⟩
end
end Go.Proofs.Ytcocjffjhbpoeaa
