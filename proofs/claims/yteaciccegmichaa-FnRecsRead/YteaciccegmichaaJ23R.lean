/-
  Joined: RecF, FnS.
-/
import Derived.Test.YteaciccegmichaaJ22R
import Derived.Deep.AppendSrc
namespace Go.Proofs.Yteaciccegmichaa
section
open Go.RowKit
theorem rcAh_sum (Y : List Int) : rcAh (summedOf Y) = Y := by
  unfold rcAh
  rw [summedOf_len, show Y.length + 4 - 4 = Y.length by omega]
  unfold summedOf
  exact List.take_left
theorem sumB_sum (Y : List Int) : sumB (summedOf Y) = true := by
  have h := rcAh_sum Y
  unfold rcAh at h
  unfold sumB
  rw [h, decide_eq_true rfl]
theorem rc_read (k s : Int) (S : ByteArray) (hS : S.size ≤ 1000000) (rest : List Int) :
    rcA (enc k ++ enc s ++ encT S ++ rest) = (clamp k, some (enc k).length) ∧ rcB (enc k ++ enc s ++ encT S ++ rest) = (clamp s, some (enc k ++ enc s).length) ∧ rcC (enc k ++ enc s ++ encT S ++ rest) = (S, some (enc k ++ enc s ++ encT S).length) := by
  have h1 : rcA (enc k ++ enc s ++ encT S ++ rest) = (clamp k, some (enc k).length) := by
    have := rdN_enc [] (enc s ++ encT S ++ rest) k
    simpa [rcA, List.append_assoc] using this
  have h2 : rcB (enc k ++ enc s ++ encT S ++ rest) = (clamp s, some (enc k ++ enc s).length) := by
    have := rdN_enc (enc k) (encT S ++ rest) s
    unfold rcB
    rw [h1]
    simpa [List.append_assoc] using this
  refine ⟨h1, h2, ?_⟩
  have := rdT_enc (enc k ++ enc s) rest S hS
  unfold rcC
  rw [h2]
  simpa [List.append_assoc] using this
theorem rc_enc (D : RecD) (h : recOk D = true) (hb : Byt D.body) : rcOk (summedOf (recEnc D)) = true ∧ rcR (summedOf (recEnc D)) = D := by
  obtain ⟨h1, h2, h3, h4, h5⟩ := (recOk_iff D).1 h
  have hS : (str D.body).size ≤ 1000000 := by rw [str_size]; omega
  obtain ⟨e1, e2, e3⟩ := rc_read D.kind D.seq (str D.body) hS []
  rw [List.append_nil, ← recEnc_eq] at e1 e2 e3
  have hD : rcD (recEnc D) = D := by
    unfold rcD
    rw [e1, e2, e3]
    obtain ⟨kind, seq, body⟩ := D
    dsimp only at *
    rw [strZ_str _ hb, clamp_self (by omega) (by omega), clamp_self (by omega) (by omega)]
  have hok : rcOk (summedOf (recEnc D)) = true := by
    unfold rcOk
    rw [rcAh_sum, sumB_sum, hD, h, e3, summedOf_len, decide_eq_true (by omega)]
    simp
  refine ⟨hok, ?_⟩
  unfold rcR
  rw [if_pos hok, rcAh_sum, hD]
theorem rc_parts {zs : List Int} (h : rcOk zs = true) : 4 ≤ zs.length ∧ summedOf (rcAh zs) = zs ∧ (rcC (rcAh zs)).2 = some (rcAh zs).length ∧ recOk (rcD (rcAh zs)) = true := by
  unfold rcOk at h
  simp only [Bool.and_eq_true, decide_eq_true_eq] at h
  refine ⟨h.1, ?_, h.2.2.1, h.2.2.2⟩
  have := h.2.1
  unfold sumB at this
  exact of_decide_eq_true this
theorem rc_whole {ms : List Int} (hb : Byt ms) (h : (rcC ms).2 = some ms.length) : recEnc (rcD ms) = ms := by
  unfold rcC at h
  cases hB : (rcB ms).2 with
  | none => rw [hB] at h; simp [rdT] at h
  | some q =>
    cases hA : (rcA ms).2 with
    | none => unfold rcB at hB; rw [hA] at hB; simp [rdN] at hB
    | some p =>
      have f1 := rdN_form hb (p := 0) (q := p) hA
      have hB' : (rdN ms (some p)).2 = some q := by unfold rcB at hB; rw [hA] at hB; exact hB
      have f2 := rdN_form hb hB'
      rw [hB] at h
      have f3 := rdT_form hb h
      rw [List.drop_length, List.append_nil] at f3
      rw [recEnc_eq]
      unfold rcD rcB rcC
      dsimp only
      rw [hB, hA, str_strZ]
      rw [List.drop_zero] at f1
      conv => rhs; rw [f1, f2, f3]
      rw [List.append_assoc]
      rfl
theorem rc_form {zs : List Int} (hb : Byt zs) (h : rcOk zs = true) : recOk (rcR zs) = true ∧ recPut (rcR zs) = zs := by
  obtain ⟨_, h2, h3, h4⟩ := rc_parts h
  have hbm : Byt (rcAh zs) := hb.take _
  unfold rcR
  rw [if_pos h]
  refine ⟨h4, ?_⟩
  unfold recPut
  rw [if_pos h4, rc_whole hbm h3, h2]
theorem rc_cut (D : RecD) (h : recOk D = true) (k : Nat) (hk : k < (summedOf (recEnc D)).length) : rcOk ((summedOf (recEnc D)).take k) = false := by
  cases hc : rcOk ((summedOf (recEnc D)).take k) with
  | false => rfl
  | true =>
    exfalso
    obtain ⟨g1, g2, g3, g4⟩ := rc_parts hc
    rw [summedOf_len] at hk
    rw [List.length_take, summedOf_len] at g1
    have hms : rcAh ((summedOf (recEnc D)).take k) = (recEnc D).take (k - 4) := by
      unfold rcAh
      rw [List.length_take, summedOf_len, List.take_take, show min (min k ((recEnc D).length + 4) - 4) k = k - 4 by omega]
      unfold summedOf
      rw [List.take_append_of_le_length (by omega)]
    rw [hms] at g3 g4
    have hw := rc_whole ((recEnc_byt D).take (k - 4)) g3
    have hbd := ((recOk_iff _).1 g4).2.2.2.2
    generalize rcD ((recEnc D).take (k - 4)) = D' at *
    have hS : (str D.body).size ≤ 1000000 := by rw [str_size]; have := ((recOk_iff D).1 h).2.2.2.2; omega
    have hS' : (str D'.body).size ≤ 1000000 := by rw [str_size]; omega
    obtain ⟨_, _, e3⟩ := rc_read D.kind D.seq (str D.body) hS []
    obtain ⟨_, _, e4⟩ := rc_read D'.kind D'.seq (str D'.body) hS' ((recEnc D).drop (k - 4))
    rw [List.append_nil, ← recEnc_eq] at e3
    rw [← recEnc_eq, hw, List.take_append_drop, e3] at e4
    have := congrArg Prod.snd e4
    simp only [Option.some.injEq, List.length_take] at this
    omega
theorem sum4_inj {s t : Int} (hs : 0 ≤ s ∧ s < 4294967296) (ht : 0 ≤ t ∧ t < 4294967296) (h : sum4 s = sum4 t) : s = t := by
  simp only [sum4, List.cons.injEq, and_true] at h
  omega
theorem rc_turned (Y : List Int) (hb : Byt Y) (i : Nat) (hi : i < (summedOf Y).length) (c : Int) (h0 : 0 ≤ c) (h1 : c ≤ 255) (hne : c ≠ (summedOf Y).getD i 0) : rcOk ((summedOf Y).set i c) = false := by
  cases hc : rcOk ((summedOf Y).set i c) with
  | false => rfl
  | true =>
    exfalso
    obtain ⟨_, g2, _, _⟩ := rc_parts hc
    rw [summedOf_len] at hi
    have hah : rcAh ((summedOf Y).set i c) = if i < Y.length then Y.set i c else Y := by
      unfold rcAh
      rw [List.length_set, summedOf_len, show Y.length + 4 - 4 = Y.length by omega, List.take_set]
      unfold summedOf
      rw [List.take_left]
      split
      · rfl
      · rw [List.set_eq_of_length_le (by omega)]
    rw [hah] at g2
    by_cases hiY : i < Y.length
    · rw [if_pos hiY] at g2
      unfold summedOf at g2 hne
      rw [List.set_append_left _ _ hiY] at g2
      have g3 := (List.append_right_inj _).1 g2
      have hbs : Byt (Y.set i c) := by
        intro z hz
        rcases List.mem_or_eq_of_mem_set hz with h | h
        · exact hb z h
        · omega
      have g4 := sum4_inj (sumOf_lt _ hbs) (sumOf_lt _ hb) g3
      have hcr := crc_turn Y hb i hiY c h0 h1 (by
        intro e
        apply hne
        rw [e]
        simp [List.getElem?_append_left hiY])
      unfold sumOf at g4
      have g5 : crcTo (Y.set i c) ^^^ 4294967295 = crcTo Y ^^^ 4294967295 := by omega
      exact hcr (xor_cancel (by rw [Nat.xor_comm 4294967295, g5, Nat.xor_comm]))
    · rw [if_neg hiY] at g2
      apply hne
      have : (summedOf Y).getD i 0 = ((summedOf Y).set i c).getD i 0 := congrArg (fun l => l.getD i 0) g2
      rw [this]
      simp [summedOf_len, hi]
end

section
open Go.RowKit
set_option maxHeartbeats 1000000 in
theorem sameL_any (a a' : Option Addr) (n m cap cap' : Nat) (zs ys : List Int) (w : World) (hn : zs.length = n) (hm : ys.length = m) (hs : n ≤ 4000000) (hs' : m ≤ 4000000) (hr : Rd w a zs) (hr' : Rd w a' ys) :
    Calls Try.prog 13 #[.slice a n cap, .slice a' m cap'] w fun e w' => e = .returned (.bool (decide (zs = ys))) ∧ ∃ d, w' = w.drewN d := by
  by_cases hnm : n = m
  · subst hnm
    by_cases h0 : n = 0
    · subst h0
      obtain rfl : zs = [] := List.length_eq_zero_iff.1 hn
      obtain rfl : ys = [] := List.length_eq_zero_iff.1 hm
      go_enter Try.func13, Try.ntmps13
      go_wp2
      refine wp_loop_rounds 1 ?_; rw [rounds_succ]
      go_wp2
      go_ret
      exact ⟨rfl, 0, rfl⟩
    · obtain ⟨b, off, rfl, hlt, hc⟩ := hr.lt (by intro h; subst h; simp at hn; omega)
      obtain ⟨b', off', rfl, hlt', hc'⟩ := hr'.lt (by intro h; subst h; simp at hm; omega)
      have HC : Hid _ := hc
      have HC' : Hid _ := hc'
      have hn' : Hid (zs.length = n) := hn
      have hm' : Hid (ys.length = n) := hm
      clear hr hr' hc hc' hn hm
      go_enter Try.func13, Try.ntmps13
      go_wp2
      go_loopw [5] (fun i wr => ∃ k d : Nat, k ≤ n ∧ i = .int .i64 k ∧ wr = w.drewN d ∧ Hid (∀ j, j < k → zs.getD j 0 = ys.getD j 0)) (fun i _ => n - (intOf i).toNat)
      case atStart => exact ⟨0, 0, Nat.zero_le _, rfl, rfl, fun j hj => by omega⟩
      case round =>
        obtain ⟨k, d, hk, rfl, hwr0, hall⟩ := hrel
        have hwr : Hid (wr = w.drewN d) := hwr0
        have hcells : ∀ p, wr.cell? p = w.cell? p := fun p => by rw [hwr0]; rfl
        clear hwr0
        by_cases hkn : k < n
        · have hki : (k : Int) < (n : Int) := by omega
          have x1 := HC.out k (by rw [hn'.out]; exact hkn)
          have y1 := HC'.out k (by rw [hm'.out]; exact hkn)
          rw [← hcells] at x1 y1
          have hyes : zs.getD k 0 = ys.getD k 0 → ∀ j, j < k + 1 → zs.getD j 0 = ys.getD j 0 := by
            intro e j hj
            rcases (show j < k ∨ j = k by omega) with hj | rfl
            · exact hall.out j hj
            · exact e
          have hno : zs.getD k 0 ≠ ys.getD k 0 → decide (zs = ys) = false := fun e => decide_eq_false (fun e' => e (by rw [e']))
          obtain ⟨z, hz⟩ : ∃ z, zs.getD k 0 = z := ⟨_, rfl⟩
          obtain ⟨y, hy⟩ : ∃ y, ys.getD k 0 = y := ⟨_, rfl⟩
          rw [hz] at x1 hyes hno
          rw [hy] at y1 hyes hno
          by_cases heq : z = y
          · have heq' : (z == y) = true := by simp [heq]
            have hnx : Hid _ := hyes heq
            clear hyes hno heq hz hy hcells hall
            go_wp2
            go_quiet (fail)
            go_wp2
            go_roundw
            case rel => exact ⟨k + 1, d + nq, by omega, by go_num, by rw [hwr.out, World.drewN_drewN], hnx⟩
            case measure => simp [intOf]; omega
          · have heq' : (z == y) = false := by simp [heq]
            have hfin : Hid _ := hno heq
            clear hyes hno heq hz hy hcells hall
            go_wp2
            go_quiet (fail)
            go_wp2
            go_ret
            exact ⟨ret_bool hfin.out.symm, d + nq, by rw [hwr.out, World.drewN_drewN]⟩
        · have hki : ¬ (k : Int) < (n : Int) := by omega
          have hfin : Hid (decide (zs = ys) = true) := decide_eq_true (List.ext_getElem (by rw [hn'.out, hm'.out]) (fun j h h' => by
            have := hall.out j (by rw [hn'.out] at h; omega)
            simpa [h, h'] using this))
          clear hcells hall
          go_wp2
          go_ret
          exact ⟨ret_bool hfin.out.symm, d, hwr.out⟩
  · have hne : Hid (decide (zs = ys) = false) := decide_eq_false (fun e => hnm (by rw [← hn, ← hm, e]))
    have hnm' : ((n : Int) == (m : Int)) = false := by simp; omega
    clear hr hr' hn hm hnm
    go_enter Try.func13, Try.ntmps13
    go_wp2
    go_ret
    exact ⟨ret_bool hne.out.symm, 0, rfl⟩
end
end Go.Proofs.Yteaciccegmichaa
