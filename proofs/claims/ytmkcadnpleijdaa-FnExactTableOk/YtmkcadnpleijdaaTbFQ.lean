/-
  Tables of volumes: which are right; the program's.
-/
import Derived.Test.YtmkcadnpleijdaaAscWQ
namespace Go.Proofs.Ytmkcadnpleijdaa
open Go.RowKit
/-- A row that is right in a table whose Next is nx. -/
def rwOk (nx : Int) (r : RwD) : Bool := (((((decide (1 ≤ r.id) && decide (r.id < nx)) && nameOk r.name.data.toList) && (decide (32 ≤ r.lim) && decide (r.lim ≤ 4000))) && decide (0 ≤ r.mp)) && decide (r.mp ≤ 191))
/-- The place of the first row of this name, or -1. -/
def nmW (ps : List RwD) (x : ByteArray) : Int := match ps.findIdx? (fun d => (d.name.toList == x.toList)) with | some k => (k : Int) | none => -1
theorem nmW_at {ps : List RwD} {x : ByteArray} {k : Nat} {r : RwD} (hk : ps[k]? = some r) (h : (r.name.toList == x.toList) = true) (ha : ∀ (j : Nat) (q : RwD), j < k → ps[j]? = some q → (q.name.toList == x.toList) = false) : nmW ps x = (k : Int) := by
  unfold nmW
  obtain ⟨hkl, hkr⟩ := List.getElem?_eq_some_iff.1 hk
  have : ps.findIdx? (fun d => (d.name.toList == x.toList)) = some k := List.findIdx?_eq_some_iff_getElem.2 ⟨hkl, by simpa [hkr] using h, fun j hj => by
    have := ha j ps[j] hj (List.getElem?_eq_getElem (by omega))
    simpa using this⟩
  rw [this]
theorem nmW_none {ps : List RwD} {x : ByteArray} (ha : ∀ (j : Nat) (q : RwD), ps[j]? = some q → (q.name.toList == x.toList) = false) : nmW ps x = -1 := by
  unfold nmW
  have : ps.findIdx? (fun d => (d.name.toList == x.toList)) = none := List.findIdx?_eq_none_iff.2 fun d hd => by
    obtain ⟨j, hj⟩ := List.getElem?_of_mem hd
    exact ha j d hj
  rw [this]
/-- The row in the place k is right. -/
def rwGood (nx : Int) (ps : List RwD) (r : RwD) (k : Nat) : Bool := rwOk nx r && (nmW ps r.name == (k : Int))
/-- A table is right. -/
def tbB (nx : Int) (ps : List RwD) : Bool := (decide (ps.length ≤ 6) && (decide (1 ≤ nx) && decide (nx ≤ 99))) && ((List.range ps.length).all (fun k => rwGood nx ps (ps.getD k rwZ) k) && ascN (idsW ps))
theorem getW_at {ps : List RwD} {k : Nat} {r : RwD} (h : ps[k]? = some r) : ps.getD k rwZ = r := by simp [List.getD_eq_getElem?_getD, h]
theorem tb_bad {nx : Int} {ps : List RwD} {k : Nat} {r : RwD} (hk : ps[k]? = some r) (h : rwGood nx ps r k = false) : tbB nx ps = false := by
  unfold tbB
  have hl := (List.getElem?_eq_some_iff.1 hk).1
  have : (List.range ps.length).all (fun k => rwGood nx ps (ps.getD k rwZ) k) = false := List.all_eq_false.2 ⟨k, List.mem_range.2 hl, by rw [getW_at hk, h]; simp⟩
  rw [this]
  simp
theorem tb_all {nx : Int} {ps : List RwD} (h : ∀ (k : Nat) (r : RwD), k < ps.length → ps[k]? = some r → rwGood nx ps r k = true) : tbB nx ps = ((decide (ps.length ≤ 6) && (decide (1 ≤ nx) && decide (nx ≤ 99))) && ascN (idsW ps)) := by
  unfold tbB
  have : (List.range ps.length).all (fun k => rwGood nx ps (ps.getD k rwZ) k) = true := List.all_eq_true.2 fun k hk => by
    have hl : k < ps.length := by simpa using hk
    rw [getW_at (List.getElem?_eq_getElem hl)]
    exact h k _ hl (List.getElem?_eq_getElem hl)
  rw [this, Bool.true_and]
theorem tb_form {nx : Int} {ps : List RwD} (h : ¬ (ps.length ≤ 6 ∧ 1 ≤ nx ∧ nx ≤ 99)) : tbB nx ps = false := by
  unfold tbB
  have : (decide (ps.length ≤ 6) && (decide (1 ≤ nx) && decide (nx ≤ 99))) = false := by
    by_cases h1 : ps.length ≤ 6
    · by_cases h2 : 1 ≤ nx
      · rw [decide_eq_false (fun h3 => h ⟨h1, h2, h3⟩)]
        simp
      · rw [decide_eq_false h2]
        simp
    · rw [decide_eq_false h1]
      simp
  rw [this]
  simp
set_option maxHeartbeats 1600000 in
theorem closRw (x0 : Int) (x1 : ByteArray) (x2 : Bool) (x3 x4 : Int) (x : ByteArray) (X : Nat) (w : World) (hX : w.cell? ⟨X, 0, none⟩ = some (.string x)) :
    Calls Try.prog 66 #[.agg #[.int .i64 x0, .string x1, .bool x2, .int .i64 x3, .int .i64 x4], .pointer (some ⟨X, 0, none⟩)] w fun e w' => e = .returned (.bool (x1.toList == x.toList)) ∧ Below w.heap.size w w' := by
  have hlt := World.block_lt_of_cell? w _ hX
  have b0 : Below w.heap.size w (w.alloc (.cells #[.int .i64 x0, .string x1, .bool x2, .int .i64 x3, .int .i64 x4] 35)) := (Below.refl _ w).alloc (Nat.le_refl _) _
  have hX' := (b0.cell (p := ⟨X, 0, none⟩) hlt).trans hX
  have z0 := Blk.new w 35 #[.int .i64 x0, .string x1, .bool x2, .int .i64 x3, .int .i64 x4]
  have y1 := z0.cell 1
  simp at y1
  have HB : Hid _ := b0
  clear hX b0 z0
  go_enter Try.func66, Try.ntmps66
  go_wp2
  go_ret
  exact ⟨rfl, HB.out⟩
set_option maxRecDepth 100000 in
set_option maxHeartbeats 2000000 in
theorem indexRw (a : Option Addr) (n cap : Nat) (ps : List RwD) (x : ByteArray) (X : Nat) (w : World) (hr : WR w a n ps) (hX : w.cell? ⟨X, 0, none⟩ = some (.string x)) :
    Calls Try.prog 65 #[.slice a n cap, .func (.func 66) #[] #[.pointer (some ⟨X, 0, none⟩)]] w fun e w' => e = .returned (.int .i64 (nmW ps x)) ∧ Below w.heap.size w w' := by
  have hXlt := World.block_lt_of_cell? w _ hX
  have HR : Hid (WR w a n ps) := hr
  have HX : Hid _ := hX
  have hn' : Hid (ps.length = n) := hr.len
  have hs := hr.tot
  have hY : Hid (∀ (k : Nat) (r : RwD), (∀ (j : Nat) (q : RwD), j < k → ps[j]? = some q → (q.name.toList == x.toList) = false) → ps[k]? = some r → (r.name.toList == x.toList) = true → (k : Int) = nmW ps x) := fun k r h hk he => (nmW_at hk he h).symm
  have hE : Hid ((∀ (j : Nat) (q : RwD), j < n → ps[j]? = some q → (q.name.toList == x.toList) = false) → (-1 : Int) = nmW ps x) := fun h => (nmW_none fun j q hq => h j q (by rw [← hn'.out]; exact (List.getElem?_eq_some_iff.1 hq).1) hq).symm
  generalize nmW ps x = R at hY hE ⊢
  clear hr hX
  go_enter Try.func65, Try.ntmps65
  go_wp2
  go_loopw [8] (fun i wr => ∃ k : Nat, k ≤ n ∧ i = .int .i64 k ∧ Hid (∀ (j : Nat) (q : RwD), j < k → ps[j]? = some q → (q.name.toList == x.toList) = false) ∧ Below w.heap.size w wr) (fun i _ => n - (intOf i).toNat)
  case atStart => exact ⟨0, Nat.zero_le _, rfl, fun j q hj => by omega, Below.refl _ _⟩
  case round =>
    obtain ⟨k, hk, rfl, hall, hB⟩ := hrel
    by_cases hkn : k < n
    · have hki : (k : Int) < (n : Int) := by omega
      obtain ⟨b, off, r, rfl, hlt, hrk, x6⟩ := (HR.out.keep hB).some hkn
      have hcc := closRw r.id r.name r.ro r.lim r.mp x X wr ((hB.cell (p := ⟨X, 0, none⟩) hXlt).trans HX.out)
      have hyes : Hid ((r.name.toList == x.toList) = true → (k : Int) = R) := fun he => hY.out k r hall.out hrk he
      have hno : Hid ((r.name.toList == x.toList) = false → ∀ (j : Nat) (q : RwD), j < k + 1 → ps[j]? = some q → (q.name.toList == x.toList) = false) := by
        intro he j q hj hq
        rcases (show j < k ∨ j = k by omega) with h | rfl
        · exact hall.out j q h hq
        · rw [hrk] at hq
          simp at hq
          rw [← hq]
          exact he
      obtain ⟨c0, c1, c2, c3, c4⟩ := x6
      obtain ⟨x0, x1, x2, x3, x4⟩ := r
      dsimp only at c0 c1 c2 c3 c4 hyes hno hcc
      clear hrk hall hY hE HR HX
      cases he : (x1.toList == x.toList) with
      | true =>
        have hend : Hid ((k : Int) = R) := hyes.out he
        rw [he] at hcc
        clear hyes hno he
        go_wp2_with (go_at_call 66; (with_reducible refine hcc.mono ?_); rintro e w1 ⟨rfl, b1⟩)
        go_ret
        exact ⟨ret_int hend.out, hB.trans (b1.mono hB.size)⟩
      | false =>
        have hnx : Hid _ := hno.out he
        rw [he] at hcc
        clear hyes hno he
        go_wp2_with (go_at_call 66; (with_reducible refine hcc.mono ?_); rintro e w1 ⟨rfl, b1⟩)
        go_roundw
        case rel => exact ⟨k + 1, by omega, by go_num, hnx, hB.trans (b1.mono hB.size)⟩
        case measure => simp [intOf]; omega
    · have hki : ¬ (k : Int) < (n : Int) := by omega
      have hend : Hid ((-1 : Int) = R) := hE.out (fun j q hj hq => hall.out j q (by omega) hq)
      clear hY hE HR hall HX
      go_wp2
      go_ret
      exact ⟨ret_int hend.out, hB⟩
set_option maxHeartbeats 1600000 in
theorem rowNamedI (nx : Int) (a : Option Addr) (n cap : Nat) (ps : List RwD) (x : ByteArray) (w : World) (hr : WR w a n ps) :
    Calls Try.prog 40 #[.agg #[.int .i64 nx, .slice a n cap], .string x] w fun e w' => e = .returned (.int .i64 (nmW ps x)) ∧ Below w.heap.size w w' := by
  have B0 : Below w.heap.size w ((w.alloc (.cells #[.int .i64 nx, .slice a n cap] 26)).alloc (.cells #[.string x] 9)) := ((Below.refl _ w).alloc (Nat.le_refl _) _).alloc (by simp) _
  have zx := (Blk.new (w.alloc (.cells #[.int .i64 nx, .slice a n cap] 26)) 9 #[.string x]).cell 0
  simp only [World.size_alloc] at zx
  have hc := indexRw a n cap ps x (w.heap.size + 1) _ (hr.keep B0) zx
  generalize nmW ps x = R at hc ⊢
  have HB : Hid _ := B0
  clear hr B0
  go_enter Try.func40, Try.ntmps40
  go_wp2_with fail
  (with_reducible refine hc.mono ?_)
  rintro e w1 ⟨rfl, b1⟩
  go_wp2
  go_ret
  exact ⟨rfl, HB.out.trans (b1.mono HB.out.size)⟩
set_option maxHeartbeats 1600000 in
theorem limitW (x : Int) (w : World) : Calls Try.prog 64 #[.int .i64 x] w fun e w' => e = .returned (.bool (decide (32 ≤ x) && decide (x ≤ 4000))) ∧ Below w.heap.size w w' := by
  by_cases h1 : 32 ≤ x
  · have h1' : x ≥ 32 := h1
    by_cases h2 : x ≤ 4000
    · go_enter Try.func64, Try.ntmps64
      go_wp2
      go_ret
      exact ⟨ret_bool (by simp [h1, h2]), Below.refl _ _⟩
    · go_enter Try.func64, Try.ntmps64
      go_wp2
      go_ret
      exact ⟨ret_bool (by simp [h2]), Below.refl _ _⟩
  · have h1' : ¬ x ≥ 32 := h1
    go_enter Try.func64, Try.ntmps64
    go_wp2
    go_ret
    exact ⟨ret_bool (by have h2 : ¬ 32 ≤ x := (by omega); rw [decide_eq_false h2]; simp), Below.refl _ _⟩
set_option maxRecDepth 100000 in
set_option maxHeartbeats 3200000 in
theorem rowOkI (x0 : Int) (x1 : ByteArray) (x2 : Bool) (x3 x4 nx : Int) (w : World) (hz : x1.size ≤ 1048576) :
    Calls Try.prog 39 #[.agg #[.int .i64 x0, .string x1, .bool x2, .int .i64 x3, .int .i64 x4], .int .i64 nx] w fun e w' => e = .returned (.bool (rwOk nx ⟨x0, x1, x2, x3, x4⟩)) ∧ Below w.heap.size w w' := by
  have B0 : Below w.heap.size w (w.alloc (.cells #[.int .i64 x0, .string x1, .bool x2, .int .i64 x3, .int .i64 x4] 35)) := (Below.refl _ w).alloc (Nat.le_refl _) _
  have z0 := Blk.new w 35 #[.int .i64 x0, .string x1, .bool x2, .int .i64 x3, .int .i64 x4]
  have hN := nameI x1 (w.alloc (.cells #[.int .i64 x0, .string x1, .bool x2, .int .i64 x3, .int .i64 x4] 35)) (by omega)
  have hL := fun W : World => limitW x3 W
  obtain ⟨R, hR⟩ : ∃ R, rwOk nx ⟨x0, x1, x2, x3, x4⟩ = R := ⟨_, rfl⟩
  have HR : Hid _ := hR
  rw [hR]
  unfold rwOk at HR
  dsimp only at HR
  generalize nameOk x1.data.toList = bn at hN HR
  generalize (decide (32 ≤ x3) && decide (x3 ≤ 4000)) = bl at hL HR
  have y4 : Hid (∀ W : World, Below (w.alloc (.cells #[.int .i64 x0, .string x1, .bool x2, .int .i64 x3, .int .i64 x4] 35)).heap.size (w.alloc (.cells #[.int .i64 x0, .string x1, .bool x2, .int .i64 x3, .int .i64 x4] 35)) W → W.cell? ⟨w.heap.size, 4, none⟩ = some (.int .i64 x4)) := fun W hW => by
    have := (z0.keep hW).cell 4
    simpa using this
  have HB : Hid _ := B0
  clear hR B0 hz
  go_enter Try.func39, Try.ntmps39
  obtain ⟨W0, hW0⟩ : ∃ W, w.alloc (.cells #[.int .i64 x0, .string x1, .bool x2, .int .i64 x3, .int .i64 x4] 35) = W := ⟨_, rfl⟩
  rw [hW0] at HB hN y4 z0
  obtain ⟨q0, q1, q2, q3, q4⟩ : _ ∧ _ ∧ _ ∧ _ ∧ _ := ⟨z0.cell 0, z0.cell 1, z0.cell 2, z0.cell 3, z0.cell 4⟩
  simp at q0 q1 q2 q3 q4
  clear z0
  by_cases h1 : 1 ≤ x0
  rotate_left
  · have h1' : ¬ x0 ≥ 1 := h1
    have hend : Hid (R = false) := by show _ = _; rw [← HR.out, decide_eq_false h1]; simp
    go_wp2
    go_ret
    exact ⟨ret_bool hend.out.symm, HB.out⟩
  by_cases h2 : x0 < nx
  rotate_left
  · have hend : Hid (R = false) := by show _ = _; rw [← HR.out, decide_eq_false h2]; simp
    go_wp2
    go_ret
    exact ⟨ret_bool hend.out.symm, HB.out⟩
  cases bn
  case false =>
    have hend : Hid (R = false) := by show _ = _; rw [← HR.out]; simp
    go_wp2_with fail
    try rw [hW0]
    (with_reducible refine hN.mono ?_)
    rintro e w1 ⟨rfl, hw⟩
    obtain rfl := hw.symm
    go_wp2
    go_ret
    exact ⟨ret_bool hend.out.symm, HB.out⟩
  cases bl
  case false =>
    have hend : Hid (R = false) := by show _ = _; rw [← HR.out]; simp
    go_wp2_with fail
    try rw [hW0]
    (with_reducible refine hN.mono ?_)
    rintro e w1 ⟨rfl, hw⟩
    obtain rfl := hw.symm
    go_wp2_with fail
    (with_reducible refine (hL _).mono ?_)
    rintro e w2 ⟨rfl, b2⟩
    go_wp2
    go_ret
    exact ⟨ret_bool hend.out.symm, HB.out.trans (b2.mono HB.out.size)⟩
  by_cases h3 : 0 ≤ x4
  rotate_left
  · have h3' : ¬ x4 ≥ 0 := h3
    have hend : Hid (R = false) := by show _ = _; rw [← HR.out, decide_eq_false h3]; simp
    go_wp2_with fail
    try rw [hW0]
    (with_reducible refine hN.mono ?_)
    rintro e w1 ⟨rfl, hw⟩
    obtain rfl := hw.symm
    go_wp2_with fail
    (with_reducible refine (hL _).mono ?_)
    rintro e w2 ⟨rfl, b2⟩
    have r4 := y4.out w2 b2
    go_wp2
    go_ret
    exact ⟨ret_bool hend.out.symm, HB.out.trans (b2.mono HB.out.size)⟩
  have h3' : x4 ≥ 0 := h3
  have hend : Hid (R = decide (x4 ≤ 191)) := by show _ = _; rw [← HR.out, decide_eq_true h1, decide_eq_true h2, decide_eq_true h3]; simp
  go_wp2_with fail
  try rw [hW0]
  (with_reducible refine hN.mono ?_)
  rintro e w1 ⟨rfl, hw⟩
  obtain rfl := hw.symm
  go_wp2_with fail
  (with_reducible refine (hL _).mono ?_)
  rintro e w2 ⟨rfl, b2⟩
  have r4 := y4.out w2 b2
  go_wp2
  go_ret
  exact ⟨ret_bool hend.out.symm, HB.out.trans (b2.mono HB.out.size)⟩
set_option maxRecDepth 100000 in
set_option maxHeartbeats 8000000 in
theorem tableOkI (nx : Int) (a : Option Addr) (n cap : Nat) (ps : List RwD) (w : World) (hr : WR w a n ps) :
    Calls Try.prog 13 #[.agg #[.int .i64 nx, .slice a n cap]] w fun e w' => e = .returned (.bool (tbB nx ps)) ∧ Below w.heap.size w w' := by
  have B0 : Below w.heap.size w (w.alloc (.cells #[.int .i64 nx, .slice a n cap] 26)) := (Below.refl _ w).alloc (Nat.le_refl _) _
  have z0 := Blk.new w 26 #[.int .i64 nx, .slice a n cap]
  have HF : Hid (¬ (n ≤ 6 ∧ 1 ≤ nx ∧ nx ≤ 99) → false = tbB nx ps) := fun h => (tb_form (by rw [hr.len]; exact h)).symm
  have HA : Hid (n ≤ 6 → 1 ≤ nx → nx ≤ 99 → (∀ (k : Nat) (r : RwD), k < n → ps[k]? = some r → rwGood nx ps r k = true) → tbB nx ps = ascN (idsW ps)) := fun h1 h2 h3 h => by
    rw [tb_all (fun k r hk hr' => h k r (by rw [← hr.len]; exact hk) hr'), hr.len, decide_eq_true h1, decide_eq_true h2, decide_eq_true h3]
    simp
  have HBD : Hid (∀ (k : Nat) (r : RwD), ps[k]? = some r → rwGood nx ps r k = false → false = tbB nx ps) := fun k r hk h => (tb_bad hk h).symm
  have hs := hr.tot
  generalize tbB nx ps = R at HF HA HBD ⊢
  have HB : Hid _ := B0
  by_cases h6 : n ≤ 6
  · have g6 : ¬ (n : Int) > 6 := by omega
    by_cases h1 : 1 ≤ nx
    · have g1 : ¬ nx < 1 := by omega
      by_cases h99 : nx ≤ 99
      · have g99 : ¬ nx > 99 := by omega
        have hr0 := hr.keep B0
        have HR0 : Hid (WR (w.alloc (.cells #[.int .i64 nx, .slice a n cap] 26)) a n ps) := hr0
        have hn' : Hid (ps.length = n) := hr.len
        have HNM : Hid _ := hr.nam
        have cN := fun (W : World) (x : ByteArray) (hW : Below (w.alloc (.cells #[.int .i64 nx, .slice a n cap] 26)).heap.size (w.alloc (.cells #[.int .i64 nx, .slice a n cap] 26)) W) => rowNamedI nx a n cap ps x W (hr0.keep hW)
        have cA := fun (W : World) (hW : Below (w.alloc (.cells #[.int .i64 nx, .slice a n cap] 26)).heap.size (w.alloc (.cells #[.int .i64 nx, .slice a n cap] 26)) W) => ascW_any a n cap ps W hr.len (by omega) (hr0.keep hW).rd
        have CN : Hid _ := cN
        have CA : Hid _ := cA
        have t0 := z0.cell 0
        have t1 := z0.cell 1
        simp at t0 t1
        clear hr hr0 cN cA
        go_enter Try.func13, Try.ntmps13
        go_wp2
        obtain ⟨W0, hW0⟩ : ∃ W, w.alloc (.cells #[.int .i64 nx, .slice a n cap] 26) = W := ⟨_, rfl⟩
        rw [hW0] at B0 z0 CN CA HR0 ⊢
        clear HB hW0 t0 t1
        have hws := B0.size
        go_loopw [22] (fun i wr => ∃ k : Nat, k ≤ n ∧ i = .int .i64 k ∧ Hid (∀ (j : Nat) (r : RwD), j < k → ps[j]? = some r → rwGood nx ps r j = true) ∧ Below W0.heap.size W0 wr) (fun i _ => n - (intOf i).toNat)
        case atStart => exact ⟨0, Nat.zero_le _, rfl, fun j r hj => by omega, Below.refl _ _⟩
        case round =>
          obtain ⟨k, hk, rfl, hall, hB⟩ := hrel
          have hbz := hB.size
          by_cases hkn : k < n
          · have hki : (k : Int) < (n : Int) := by omega
            obtain ⟨b, off, r, rfl, hlt, hrk, x6⟩ := (HR0.out.keep hB).some hkn
            have hnm := HNM.out r (List.mem_of_getElem? hrk)
            have hbad : Hid (rwGood nx ps r k = false → false = R) := HBD.out k r hrk
            have hnext : Hid (rwGood nx ps r k = true → ∀ (j : Nat) (q : RwD), j < k + 1 → ps[j]? = some q → rwGood nx ps q j = true) := by
              intro h j q hj hq
              rcases (show j < k ∨ j = k by omega) with h1 | rfl
              · exact hall.out j q h1 hq
              · rw [hrk] at hq
                cases hq
                exact h
            obtain ⟨c0, c1, c2, c3, c4⟩ := x6
            obtain ⟨x0, x1, x2, x3, x4⟩ := r
            have hgd : rwGood nx ps ⟨x0, x1, x2, x3, x4⟩ k = (rwOk nx ⟨x0, x1, x2, x3, x4⟩ && (nmW ps x1 == (k : Int))) := rfl
            dsimp only at c0 c1 c2 c3 c4 hnm
            have hcR := fun (W : World) => rowOkI x0 x1 x2 x3 x4 nx W hnm
            have hcn := fun (W : World) (hW : Below W0.heap.size W0 W) => CN.out W x1 hW
            generalize rwGood nx ps ⟨x0, x1, x2, x3, x4⟩ k = gd at hbad hnext hgd
            generalize rwOk nx ⟨x0, x1, x2, x3, x4⟩ = rt at hcR hgd
            generalize nmW ps x1 = vn at hcn hgd
            have hbA : Below wr.heap.size wr (wr.alloc (.cells #[.int .i64 x0, .string x1, .bool x2, .int .i64 x3, .int .i64 x4] 35)) := (Below.refl _ wr).alloc (Nat.le_refl _) _
            have bx := Blk.new wr 35 #[.int .i64 x0, .string x1, .bool x2, .int .i64 x3, .int .i64 x4]
            have zk := (z0.keep hB).keep hbA
            have HGD : Hid _ := hgd
            have HB1 : Hid (Below W0.heap.size W0 (wr.alloc (.cells #[.int .i64 x0, .string x1, .bool x2, .int .i64 x3, .int .i64 x4] 35))) := hB.trans (hbA.mono hbz)
            have HCN : Hid _ := hcn
            have u0 := zk.cell 0
            simp at u0
            clear hrk hnm hgd hall hcn hbA
            go_wp2_with fail
            obtain ⟨W1, hW1⟩ : ∃ W, wr.alloc (.cells #[.int .i64 x0, .string x1, .bool x2, .int .i64 x3, .int .i64 x4] 35) = W := ⟨_, rfl⟩
            rw [hW1] at HB1 bx zk u0 ⊢
            obtain ⟨X, hX⟩ : ∃ X, wr.heap.size = X := ⟨_, rfl⟩
            rw [hX] at bx ⊢
            clear hW1 hX c0 c1 c2 c3 c4
            (with_reducible refine (hcR W1).mono ?_)
            rintro e w2 ⟨rfl, b2⟩
            have B2 : Below W0.heap.size W0 w2 := HB1.out.trans (b2.mono HB1.out.size)
            have hcn2 := HCN.out w2 B2
            have zw := zk.keep b2
            have bw := bx.keep b2
            clear u0
            have u0 := zw.cell 0
            have u1 := zw.cell 1
            have v1 := bw.cell 1
            simp at u0 u1 v1
            clear bx zk zw bw HB1 hcR b2 HCN hB
            cases rt with
            | false =>
              have hend : Hid (false = R) := hbad.out (by rw [HGD.out]; simp)
              clear hbad hnext hcn2
              go_wp2
              go_ret
              exact ⟨ret_bool hend.out, B0.trans (B2.mono hws)⟩
            | true =>
              go_wp2_with fail
              (with_reducible refine hcn2.mono ?_)
              rintro e w4 ⟨rfl, b4⟩
              have B4 : Below W0.heap.size W0 w4 := B2.trans (b4.mono B2.size)
              clear hcn2 u0 u1 v1
              by_cases hvk : vn = (k : Int)
              · have hv1 : (vn == (k : Int)) = true := by simp [hvk]
                have hv2 : (vn != (k : Int)) = false := by simp [hvk]
                have hnx : Hid _ := hnext.out (by rw [HGD.out, hv1]; simp)
                clear hbad hnext hvk
                go_wp2
                go_roundw
                case rel => exact ⟨k + 1, by omega, by go_num, hnx, B4⟩
                case measure => simp [intOf]; omega
              · have hv1 : (vn == (k : Int)) = false := by simpa using hvk
                have hv2 : (vn != (k : Int)) = true := by simpa using hvk
                have hend : Hid (false = R) := hbad.out (by rw [HGD.out, hv1]; simp)
                clear hbad hnext hvk
                go_wp2
                go_ret
                exact ⟨ret_bool hend.out, B0.trans (B4.mono hws)⟩
          · have hki : ¬ (k : Int) < (n : Int) := by omega
            have hend : Hid (R = ascN (idsW ps)) := HA.out h6 h1 h99 (fun j r hj hr => hall.out j r (by omega) hr)
            have hca := CA.out wr hB
            generalize ascN (idsW ps) = S at hca hend
            have u0 := (z0.keep hB).cell 0
            have u1 := (z0.keep hB).cell 1
            simp at u0 u1
            clear hall HA HBD
            go_wp2_with fail
            (with_reducible refine hca.mono ?_)
            rintro e w5 ⟨rfl, b5⟩
            go_wp2
            go_ret
            exact ⟨ret_bool hend.out.symm, B0.trans ((hB.trans (b5.mono hbz)).mono hws)⟩
      · have g99 : nx > 99 := by omega
        have hend : Hid (false = R) := HF.out (fun h => h99 h.2.2)
        clear HF HA HBD hr
        go_enter Try.func13, Try.ntmps13
        go_wp2
        go_ret
        exact ⟨ret_bool hend.out, HB.out⟩
    · have g1 : nx < 1 := by omega
      have hend : Hid (false = R) := HF.out (fun h => h1 h.2.1)
      clear HF HA HBD hr
      go_enter Try.func13, Try.ntmps13
      go_wp2
      go_ret
      exact ⟨ret_bool hend.out, HB.out⟩
  · have g6 : (n : Int) > 6 := by omega
    have hend : Hid (false = R) := HF.out (fun h => h6 h.1)
    clear HF HA HBD hr
    go_enter Try.func13, Try.ntmps13
    go_wp2
    go_ret
    exact ⟨ret_bool hend.out, HB.out⟩
end Go.Proofs.Ytmkcadnpleijdaa

