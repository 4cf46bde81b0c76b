/-
  Joined: SameE, Text, SameB.
-/
import Derived.Test.YtfjlemnohjnkhaaGreatJ12F
import Derived.Laws.StructEq
import Derived.Laws.BytesString
namespace Go.Proofs.YtfjlemnohjnkhaaGreat
section
open Go.RowKit
set_option maxHeartbeats 1000000 in
theorem neqEnt (z z' : ByteArray) (x x' : Int) (w : World) : (binOp .neq 88 (.agg #[.string z, .int .i64 x]) (.agg #[.string z', .int .i64 x'])).run Tryz.prog w = .ok (.bool (!(z.toList == z'.toList && x == x'))) w := by
  have u3 := Tryz.underlying3
  have u9 := Tryz.underlying9
  have a3 := Tryz.isAgg3
  have a9 := Tryz.isAgg9
  have z3 := Tryz.sizeOf3
  have z9 := Tryz.sizeOf9
  have hS : Tryz.prog.underlying 88 = some (.struct (Tryz.prog.fieldsOf 88)) := by kernel_rfl
  have hp : Tryz.prog.stoodInHeld 88 = false := by kernel_rfl
  rw [run_neq_struct, show (10000 : Nat) = 9999 + 1 from rfl, run_equalIn_agg w 9999 88 _ _ hS hp]
  simp only [Program.fieldsOf, Tryz.underlying88]
  go_simp
  by_cases h1 : z.toList = z'.toList <;> by_cases h2 : x = x' <;> simp [h1, h2]
set_option maxHeartbeats 1000000 in
theorem neqAttr (z z' x x' : ByteArray) (w : World) : (binOp .neq 90 (.agg #[.string z, .string x]) (.agg #[.string z', .string x'])).run Tryz.prog w = .ok (.bool (!(z.toList == z'.toList && x.toList == x'.toList))) w := by
  have u9 := Tryz.underlying9
  have a9 := Tryz.isAgg9
  have z9 := Tryz.sizeOf9
  have hS : Tryz.prog.underlying 90 = some (.struct (Tryz.prog.fieldsOf 90)) := by kernel_rfl
  have hp : Tryz.prog.stoodInHeld 90 = false := by kernel_rfl
  rw [run_neq_struct, show (10000 : Nat) = 9999 + 1 from rfl, run_equalIn_agg w 9999 90 _ _ hS hp]
  simp only [Program.fieldsOf, Tryz.underlying90]
  go_simp
  by_cases h1 : z.toList = z'.toList <;> by_cases h2 : x.toList = x'.toList <;> simp [h1, h2]
theorem guardEnt (op : BinOp) (a b : Operand) (x y : Array Value) (w : World) : (eqGuard op 88 a b (.agg x) (.agg y)).run Tryz.prog w = .ok () w := run_eqGuard_agg w op 88 a b x y (by kernel_rfl)
theorem guardAttr (op : BinOp) (a b : Operand) (x y : Array Value) (w : World) : (eqGuard op 90 a b (.agg x) (.agg y)).run Tryz.prog w = .ok () w := run_eqGuard_agg w op 90 a b x y (by kernel_rfl)
theorem pairE_eq (p q : ByteArray × Int) : (p.1.toList == q.1.toList && p.2 == q.2) = decide (p = q) := by
  by_cases h : p = q
  · subst h; simp
  · rw [decide_eq_false h]
    by_cases h1 : p.1 = q.1
    · have h2 : ¬ p.2 = q.2 := fun e => h (Prod.ext h1 e)
      simp [h2]
    · rw [bytes_ne h1]; rfl
set_option maxHeartbeats 2000000 in
theorem eqSE_any (a a' : Option Addr) (n m cap cap' : Nat) (es fs : List (ByteArray × Int)) (w : World) (hn : es.length = n) (hm : fs.length = m) (hs : n ≤ 4000000) (hs' : m ≤ 4000000) (hr : RdP w a (eP es)) (hr' : RdP w a' (eP fs)) :
    Calls Tryz.prog 147 #[.slice a n cap, .slice a' m cap'] w fun e w' => e = .returned (.bool (decide (es = fs))) ∧ ∃ d, w' = w.drewN d := by
  by_cases hnm : n = m
  · subst hnm
    by_cases h0 : n = 0
    · subst h0
      obtain rfl : es = [] := List.length_eq_zero_iff.1 hn
      obtain rfl : fs = [] := List.length_eq_zero_iff.1 hm
      go_enter Tryz.func147, Tryz.ntmps147
      go_wp2
      refine wp_loop_rounds 1 ?_; rw [rounds_succ]
      go_wp2
      go_ret
      exact ⟨rfl, 0, rfl⟩
    · have hne : eP es ≠ [] := by intro h; have := congrArg List.length h; rw [eP_length, hn] at this; simp at this; omega
      have hne' : eP fs ≠ [] := by intro h; have := congrArg List.length h; rw [eP_length, hm] at this; simp at this; omega
      obtain ⟨b, off, rfl, hlt, hc⟩ := hr.lt hne
      obtain ⟨b', off', rfl, hlt', hc'⟩ := hr'.lt hne'
      have HC : Hid _ := hc
      have HC' : Hid _ := hc'
      have hn' : Hid (es.length = n) := hn
      have hm' : Hid (fs.length = n) := hm
      clear hr hr' hne hne' hc hc' hn hm
      go_enter Tryz.func147, Tryz.ntmps147
      go_wp2
      go_loopw [13] (fun i wr => ∃ k d : Nat, k ≤ n ∧ i = .int .i64 k ∧ wr = w.drewN d ∧ Hid (∀ j, (h : j < es.length) → (h' : j < fs.length) → j < k → es[j] = fs[j])) (fun i _ => n - (intOf i).toNat)
      case atStart => exact ⟨0, 0, Nat.zero_le _, rfl, rfl, fun j _ _ hj => by omega⟩
      case round =>
        obtain ⟨k, d, hk, rfl, hwr0, hall⟩ := hrel
        have hwr : Hid (wr = w.drewN d) := hwr0
        have hcells : ∀ p, wr.cell? p = w.cell? p := fun p => by rw [hwr0]; rfl
        clear hwr0
        by_cases hkn : k < n
        · have hkl : k < es.length := by rw [hn'.out]; exact hkn
          have hkl' : k < fs.length := by rw [hm'.out]; exact hkn
          have hki : (k : Int) < (n : Int) := by omega
          have hx := HC.out k (by rw [eP_length]; exact hkl)
          have hy := HC'.out k (by rw [eP_length]; exact hkl')
          rw [eP_at es k hkl] at hx
          rw [eP_at fs k hkl'] at hy
          have hpe := pairE_eq es[k] fs[k]
          have hyes : es[k] = fs[k] → ∀ j, (h : j < es.length) → (h' : j < fs.length) → j < k + 1 → es[j] = fs[j] := by
            intro e j h h' hj
            rcases (show j < k ∨ j = k by omega) with hj | rfl
            · exact hall.out j h h' hj
            · exact e
          have hno : es[k] ≠ fs[k] → decide (es = fs) = false := fun e => decide_eq_false (fun e' => e (by subst e'; rfl))
          obtain ⟨z, hz⟩ : ∃ z, es[k].1 = z := ⟨_, rfl⟩
          obtain ⟨u, hu⟩ : ∃ u, es[k].2 = u := ⟨_, rfl⟩
          obtain ⟨z', hz'⟩ : ∃ z, fs[k].1 = z := ⟨_, rfl⟩
          obtain ⟨u', hu'⟩ : ∃ u, fs[k].2 = u := ⟨_, rfl⟩
          rw [hz, hu] at hx
          rw [hz', hu'] at hy
          rw [hz, hz', hu, hu'] at hpe
          obtain ⟨x1, x2⟩ := hx
          obtain ⟨y1, y2⟩ := hy
          dsimp only at x1 x2 y1 y2
          rw [← hcells] at x1 x2 y1 y2
          have HNO : Hid _ := hno
          have HYES : Hid _ := hyes
          have hneq := neqEnt z z' u u'
          have hgd := guardEnt .neq
          rw [hpe] at hneq
          by_cases heq : es[k] = fs[k]
          · rw [decide_eq_true heq] at hneq
            have hnx : Hid _ := HYES.out heq
            clear HNO HYES hno hyes hpe hz hz' hu hu' heq hcells hall
            go_wp2
            go_quiet (fail)
            go_wp2
            go_roundw
            case rel => exact ⟨k + 1, d + nq, by omega, by go_num, by rw [hwr.out, World.drewN_drewN], hnx⟩
            case measure => simp [intOf]; omega
          · rw [decide_eq_false heq] at hneq
            have hfin : Hid _ := HNO.out heq
            clear HNO HYES hno hyes hpe hz hz' hu hu' heq hcells hall
            go_wp2
            go_quiet (fail)
            go_wp2
            go_ret
            exact ⟨ret_bool hfin.out.symm, d + nq, by rw [hwr.out, World.drewN_drewN]⟩
        · have hki : ¬ (k : Int) < (n : Int) := by omega
          have hfin : Hid (decide (es = fs) = true) := decide_eq_true (List.ext_getElem (by rw [hn'.out, hm'.out]) (fun j h h' => hall.out j h h' (by rw [hn'.out] at h; omega)))
          clear hcells hall
          go_wp2
          go_ret
          exact ⟨ret_bool hfin.out.symm, d, hwr.out⟩
  · have hne : Hid (decide (es = fs) = false) := decide_eq_false (fun e => hnm (by rw [← hn, ← hm, e]))
    have hnm' : ((n : Int) == (m : Int)) = false := by simp; omega
    clear hr hr' hn hm hnm
    go_enter Tryz.func147, Tryz.ntmps147
    go_wp2
    go_ret
    exact ⟨ret_bool hne.out.symm, 0, rfl⟩
theorem pairA_eq (p q : ByteArray × ByteArray) : (p.1.toList == q.1.toList && p.2.toList == q.2.toList) = decide (p = q) := by
  by_cases h : p = q
  · subst h; simp
  · rw [decide_eq_false h]
    by_cases h1 : p.1 = q.1
    · have h2 : ¬ p.2 = q.2 := fun e => h (Prod.ext h1 e)
      rw [bytes_ne h2]; simp
    · rw [bytes_ne h1]; rfl
set_option maxHeartbeats 2000000 in
theorem eqSA_any (a a' : Option Addr) (n m cap cap' : Nat) (es fs : List (ByteArray × ByteArray)) (w : World) (hn : es.length = n) (hm : fs.length = m) (hs : n ≤ 4000000) (hs' : m ≤ 4000000) (hr : RdP w a (aP es)) (hr' : RdP w a' (aP fs)) :
    Calls Tryz.prog 148 #[.slice a n cap, .slice a' m cap'] w fun e w' => e = .returned (.bool (decide (es = fs))) ∧ ∃ d, w' = w.drewN d := by
  by_cases hnm : n = m
  · subst hnm
    by_cases h0 : n = 0
    · subst h0
      obtain rfl : es = [] := List.length_eq_zero_iff.1 hn
      obtain rfl : fs = [] := List.length_eq_zero_iff.1 hm
      go_enter Tryz.func148, Tryz.ntmps148
      go_wp2
      refine wp_loop_rounds 1 ?_; rw [rounds_succ]
      go_wp2
      go_ret
      exact ⟨rfl, 0, rfl⟩
    · have hne : aP es ≠ [] := by intro h; have := congrArg List.length h; rw [aP_length, hn] at this; simp at this; omega
      have hne' : aP fs ≠ [] := by intro h; have := congrArg List.length h; rw [aP_length, hm] at this; simp at this; omega
      obtain ⟨b, off, rfl, hlt, hc⟩ := hr.lt hne
      obtain ⟨b', off', rfl, hlt', hc'⟩ := hr'.lt hne'
      have HC : Hid _ := hc
      have HC' : Hid _ := hc'
      have hn' : Hid (es.length = n) := hn
      have hm' : Hid (fs.length = n) := hm
      clear hr hr' hne hne' hc hc' hn hm
      go_enter Tryz.func148, Tryz.ntmps148
      go_wp2
      go_loopw [13] (fun i wr => ∃ k d : Nat, k ≤ n ∧ i = .int .i64 k ∧ wr = w.drewN d ∧ Hid (∀ j, (h : j < es.length) → (h' : j < fs.length) → j < k → es[j] = fs[j])) (fun i _ => n - (intOf i).toNat)
      case atStart => exact ⟨0, 0, Nat.zero_le _, rfl, rfl, fun j _ _ hj => by omega⟩
      case round =>
        obtain ⟨k, d, hk, rfl, hwr0, hall⟩ := hrel
        have hwr : Hid (wr = w.drewN d) := hwr0
        have hcells : ∀ p, wr.cell? p = w.cell? p := fun p => by rw [hwr0]; rfl
        clear hwr0
        by_cases hkn : k < n
        · have hkl : k < es.length := by rw [hn'.out]; exact hkn
          have hkl' : k < fs.length := by rw [hm'.out]; exact hkn
          have hki : (k : Int) < (n : Int) := by omega
          have hx := HC.out k (by rw [aP_length]; exact hkl)
          have hy := HC'.out k (by rw [aP_length]; exact hkl')
          rw [aP_at es k hkl] at hx
          rw [aP_at fs k hkl'] at hy
          have hpe := pairA_eq es[k] fs[k]
          have hyes : es[k] = fs[k] → ∀ j, (h : j < es.length) → (h' : j < fs.length) → j < k + 1 → es[j] = fs[j] := by
            intro e j h h' hj
            rcases (show j < k ∨ j = k by omega) with hj | rfl
            · exact hall.out j h h' hj
            · exact e
          have hno : es[k] ≠ fs[k] → decide (es = fs) = false := fun e => decide_eq_false (fun e' => e (by subst e'; rfl))
          obtain ⟨z, hz⟩ : ∃ z, es[k].1 = z := ⟨_, rfl⟩
          obtain ⟨u, hu⟩ : ∃ u, es[k].2 = u := ⟨_, rfl⟩
          obtain ⟨z', hz'⟩ : ∃ z, fs[k].1 = z := ⟨_, rfl⟩
          obtain ⟨u', hu'⟩ : ∃ u, fs[k].2 = u := ⟨_, rfl⟩
          rw [hz, hu] at hx
          rw [hz', hu'] at hy
          rw [hz, hz', hu, hu'] at hpe
          obtain ⟨x1, x2⟩ := hx
          obtain ⟨y1, y2⟩ := hy
          dsimp only at x1 x2 y1 y2
          rw [← hcells] at x1 x2 y1 y2
          have HNO : Hid _ := hno
          have HYES : Hid _ := hyes
          have hneq := neqAttr z z' u u'
          have hgd := guardAttr .neq
          rw [hpe] at hneq
          by_cases heq : es[k] = fs[k]
          · rw [decide_eq_true heq] at hneq
            have hnx : Hid _ := HYES.out heq
            clear HNO HYES hno hyes hpe hz hz' hu hu' heq hcells hall
            go_wp2
            go_quiet (fail)
            go_wp2
            go_roundw
            case rel => exact ⟨k + 1, d + nq, by omega, by go_num, by rw [hwr.out, World.drewN_drewN], hnx⟩
            case measure => simp [intOf]; omega
          · rw [decide_eq_false heq] at hneq
            have hfin : Hid _ := HNO.out heq
            clear HNO HYES hno hyes hpe hz hz' hu hu' heq hcells hall
            go_wp2
            go_quiet (fail)
            go_wp2
            go_ret
            exact ⟨ret_bool hfin.out.symm, d + nq, by rw [hwr.out, World.drewN_drewN]⟩
        · have hki : ¬ (k : Int) < (n : Int) := by omega
          have hfin : Hid (decide (es = fs) = true) := decide_eq_true (List.ext_getElem (by rw [hn'.out, hm'.out]) (fun j h h' => hall.out j h h' (by rw [hn'.out] at h; omega)))
          clear hcells hall
          go_wp2
          go_ret
          exact ⟨ret_bool hfin.out.symm, d, hwr.out⟩
  · have hne : Hid (decide (es = fs) = false) := decide_eq_false (fun e => hnm (by rw [← hn, ← hm, e]))
    have hnm' : ((n : Int) == (m : Int)) = false := by simp; omega
    clear hr hr' hn hm hnm
    go_enter Tryz.func148, Tryz.ntmps148
    go_wp2
    go_ret
    exact ⟨ret_bool hne.out.symm, 0, rfl⟩
end

section
open Go.RowKit
def str (l : List Int) : ByteArray := l.foldl (fun r n => r.push (UInt8.ofNat n.toNat)) ByteArray.empty
theorem conv_at (w : World) (b off n : Nat) (zs : List Int) (nx x : Nat) (hn : zs.length = n) (hx : nx + x ≤ n) (hc : ∀ i, i < zs.length → w.cell? ⟨b, off + i, none⟩ = some (.int .u8 (zs.getD i 0))) (cap : Nat) :
    (convert 33 9 (.slice (some ⟨b, off + nx, none⟩) x cap)).run Tryz.prog w = .ok (.string (str ((zs.drop nx).take x))) w := by
  rw [run_convert_bytes_string w 33 9 5 _ _ _ Tryz.underlying33 Tryz.underlying5 Tryz.underlying9]
  have hl : ((zs.drop nx).take x).length = x := by simp; omega
  have h := run_loadCells_list (P := Tryz.prog) (w := w) ⟨b, off + nx, none⟩ (((zs.drop nx).take x).map (Value.int .u8)) (by
    intro j v hj
    simp only [List.getElem?_map] at hj
    by_cases hjx : j < x
    · have e : (⟨b, off + nx, none⟩ : Addr).add j = ⟨b, off + (nx + j), none⟩ := by simp [Addr.add, Nat.add_assoc]
      rw [e, hc (nx + j) (by omega)]
      rw [List.getElem?_take, if_pos hjx, List.getElem?_drop] at hj
      rw [← hj, List.getElem?_eq_getElem (by omega)]
      simp [List.getElem?_eq_getElem (show nx + j < zs.length by omega)]
    · rw [List.getElem?_take, if_neg hjx] at hj
      simp at hj)
  simp only [List.length_map, hl] at h
  exact run_bytesToString w _ x cap _ h
theorem conv_none (w : World) (a : Addr) (cap : Nat) : (convert 33 9 (.slice (some a) 0 cap)).run Tryz.prog w = .ok (.string ByteArray.empty) w := by
  rw [run_convert_bytes_string w 33 9 5 _ _ _ Tryz.underlying33 Tryz.underlying5 Tryz.underlying9]
  have h := run_loadCells_list (P := Tryz.prog) (w := w) a [] (by intro j v hj; simp at hj)
  exact run_bytesToString w a 0 cap [] h
end

section
open Go.RowKit
theorem conv_any (w : World) (a : Option Addr) (n cap : Nat) (zs : List Int) (hn : zs.length = n) (hr : Rd w a zs) :
    (convert 33 9 (.slice a n cap)).run Tryz.prog w = .ok (.string (str zs)) w := by
  rcases hr with h | ⟨b, off, rfl, hc⟩
  · subst h
    subst hn
    cases a with
    | none =>
      rw [run_convert_bytes_string w 33 9 5 _ _ _ Tryz.underlying33 Tryz.underlying5 Tryz.underlying9]
      simp [Conv.bytesToString, str]
    | some a => exact conv_none w a cap
  · have := conv_at w b off n zs 0 n hn (by omega) hc cap
    rw [Nat.add_zero, List.drop_zero, List.take_of_length_le (by omega)] at this
    exact this
theorem str_go (zs : List Int) (s : ByteArray) : (zs.foldl (fun r n => r.push (UInt8.ofNat n.toNat)) s).data.toList = s.data.toList ++ zs.map (fun n => UInt8.ofNat n.toNat) := by
  induction zs generalizing s with
  | nil => simp
  | cons z zs ih => rw [List.foldl_cons, ih]; simp [ByteArray.push]
theorem str_data (zs : List Int) : (str zs).data.toList = zs.map (fun n => UInt8.ofNat n.toNat) := by
  unfold str
  rw [str_go, show ByteArray.empty.data.toList = [] from rfl, List.nil_append]
theorem str_inj {zs ys : List Int} (hz : Byt zs) (hy : Byt ys) (h : str zs = str ys) : zs = ys := by
  have h1 := congrArg (fun s : ByteArray => s.data.toList) h
  simp only [str_data] at h1
  have hl : zs.length = ys.length := by simpa using congrArg List.length h1
  refine List.ext_getElem hl fun i hi hj => ?_
  have h2 := congrArg (fun l => l[i]?) h1
  simp only [List.getElem?_map, List.getElem?_eq_getElem hi, List.getElem?_eq_getElem hj, Option.map_some, Option.some.injEq] at h2
  have hzi := hz zs[i] (List.getElem_mem hi)
  have hyi := hy ys[i] (List.getElem_mem hj)
  have h3 := congrArg UInt8.toNat h2
  simp only [UInt8.toNat_ofNat'] at h3
  omega
theorem str_eq {zs ys : List Int} (hz : Byt zs) (hy : Byt ys) : ((str zs).toList == (str ys).toList) = decide (zs = ys) := by
  by_cases h : zs = ys
  · subst h; simp
  · rw [decide_eq_false h]
    exact bytes_ne (fun e => h (str_inj hz hy e))
set_option maxHeartbeats 1000000 in
theorem bytesEq_any (a a' : Option Addr) (n m cap cap' : Nat) (zs ys : List Int) (w : World) (hn : zs.length = n) (hm : ys.length = m) (hr : Rd w a zs) (hr' : Rd w a' ys) (hz : Byt zs) (hy : Byt ys) :
    Calls Tryz.prog 146 #[.slice a n cap, .slice a' m cap'] w fun e w' => e = .returned (.bool (decide (zs = ys))) ∧ w' = w := by
  have h1 := conv_any w a n cap zs hn hr
  have h2 := conv_any w a' m cap' ys hm hr'
  have h3 := str_eq hz hy
  obtain ⟨s, hs⟩ : ∃ s, str zs = s := ⟨_, rfl⟩
  obtain ⟨t, ht⟩ : ∃ t, str ys = t := ⟨_, rfl⟩
  rw [hs] at h1 h3
  rw [ht] at h2 h3
  have H3 : Hid _ := h3
  clear h3 hs ht hr hr' hz hy hn hm
  go_enter Tryz.func146, Tryz.ntmps146
  go_wp2
  go_ret
  exact ⟨ret_bool H3.out, rfl⟩
end
end Go.Proofs.YtfjlemnohjnkhaaGreat
