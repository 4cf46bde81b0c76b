/-
  Joined: ChMk, ChMb, DvT.
-/
import Derived.Test.YtnhbhpbmnlojlaaGreatDoorJ08W
namespace Go.Proofs.YtnhbhpbmnlojlaaGreatDoor
section
open Go.RowKit
/-- A page, a block, marked from k on. -/
def mkPg (k : Nat) (p : PgR) : PgR := ⟨decide (k % 3 = 0), p.a, p.cap, marksG (k + 1) p.zs.length⟩
def mkPs : Nat → List PgR → List PgR
  | _, [] => []
  | k, p :: ps => mkPg k p :: mkPs (k + (1 + p.zs.length)) ps
theorem mkPg_v (k : Nat) (p : PgR) : (mkPg k p).v = p.v := by simp [mkPg, PgR.v, marksG]
theorem mkPs_append (k : Nat) (xs ys : List PgR) : mkPs k (xs ++ ys) = mkPs k xs ++ mkPs (k + totP (xs.map PgR.D)) ys := by
  induction xs generalizing k with
  | nil => simp [mkPs, totP]
  | cons x xs ih =>
    simp only [List.cons_append, mkPs, List.map_cons]
    rw [ih, totP_cons, show k + (1 + x.zs.length) + totP (xs.map PgR.D) = k + (1 + x.D.zs.length + totP (xs.map PgR.D)) by simp only [PgR.D]; omega]
theorem mkPs_length (k : Nat) (ps : List PgR) : (mkPs k ps).length = ps.length := by
  induction ps generalizing k with
  | nil => rfl
  | cons p ps ih => simp [mkPs, ih]
theorem mkPs_take {k i : Nat} {ps : List PgR} {p : PgR} (h : ps[i]? = some p) : mkPs k (ps.take (i + 1)) = mkPs k (ps.take i) ++ [mkPg (k + totP ((ps.take i).map PgR.D)) p] := by
  rw [List.take_add_one, h, mkPs_append]
  rfl
theorem totP_take {i : Nat} {ps : List PgR} {p : PgR} (h : ps[i]? = some p) : totP ((ps.take (i + 1)).map PgR.D) = totP ((ps.take i).map PgR.D) + (1 + p.zs.length) := by
  rw [List.take_add_one, h]
  simp [totP, PgR.D]
theorem totP_take_le (i : Nat) (ps : List PgR) : totP ((ps.take i).map PgR.D) ≤ totP (ps.map PgR.D) := by
  have : totP (ps.map PgR.D) = totP ((ps.take i).map PgR.D) + totP ((ps.drop i).map PgR.D) := by rw [← totP_append, ← List.map_append, List.take_append_drop]
  omega
theorem fp_mkPs (k : Nat) (ps : List PgR) : (mkPs k ps).flatMap (fun p => p.v.ownBlock.toList) = ps.flatMap fun p => p.v.ownBlock.toList := by
  induction ps generalizing k with
  | nil => rfl
  | cons p ps ih => simp only [mkPs, List.flatMap_cons, ih, mkPg_v]
/-- The pages behind i rounds. -/
def rowP (k : Nat) (ps : List PgR) (i : Nat) : List PgR := mkPs k (ps.take i) ++ ps.drop i
theorem fp_rowP (v : Value) (k : Nat) (ps : List PgR) (i : Nat) : fpPs v (rowP k ps i) = fpPs v ps := by
  unfold fpPs rowP
  rw [List.flatMap_append, fp_mkPs, ← List.flatMap_append, List.take_append_drop]
theorem rowP_all (k : Nat) (ps : List PgR) (n : Nat) (h : ps.length = n) : rowP k ps n = mkPs k ps := by subst h; simp [rowP]
theorem rowP_len (k : Nat) (ps : List PgR) (i : Nat) : (rowP k ps i).length = ps.length := by
  unfold rowP
  rw [List.length_append, mkPs_length, ← List.length_append, List.take_append_drop]
theorem rowP_at {k i : Nat} {ps : List PgR} {p : PgR} (h : ps[i]? = some p) : (rowP k ps i)[i]? = some p := by
  have hl := (List.getElem?_eq_some_iff.1 h).1
  unfold rowP
  rw [List.getElem?_append_right (by rw [mkPs_length, List.length_take]; omega), mkPs_length, List.length_take, List.getElem?_drop, show i + (i - min i ps.length) = i by omega, h]
theorem rowP_set {k i : Nat} {ps : List PgR} {p : PgR} (h : ps[i]? = some p) : (rowP k ps i).set i (mkPg (k + totP ((ps.take i).map PgR.D)) p) = rowP k ps (i + 1) := by
  obtain ⟨hl, he⟩ := List.getElem?_eq_some_iff.1 h
  unfold rowP
  rw [List.set_append_right _ _ (by rw [mkPs_length, List.length_take]; omega), mkPs_length, List.length_take, show i - min i ps.length = 0 by omega, List.drop_eq_getElem_cons hl, List.set_cons_zero, mkPs_take h, List.append_assoc]
  rfl
theorem mem_set {α : Type} {l : List α} {i : Nat} {x y : α} (h : y ∈ l.set i x) : y = x ∨ ∃ j, j ≠ i ∧ l[j]? = some y := by
  obtain ⟨j, hj⟩ := List.mem_iff_getElem?.1 h
  by_cases e : j = i
  · subst e
    left
    rw [List.getElem?_set_self (by have := (List.getElem?_eq_some_iff.1 hj).1; simpa using this)] at hj
    simpa using hj.symm
  · right
    rw [List.getElem?_set_ne (fun h => e h.symm)] at hj
    exact ⟨j, e, hj⟩
/-- Of a list without doubles what one element takes is not taken by another one. -/
theorem flat_apart {α : Type} {f : α → List Nat} {l : List α} (hd : (l.flatMap f).Nodup) {i j : Nat} {x y : α} (hi : l[i]? = some x) (hj : l[j]? = some y) (hne : i ≠ j) {g : Nat} (hx : g ∈ f x) : g ∉ f y := by
  induction l generalizing i j with
  | nil => simp at hi
  | cons z l ih =>
    rw [List.flatMap_cons, List.nodup_append] at hd
    cases i with
    | zero =>
      cases j with
      | zero => omega
      | succ j =>
        simp at hi hj
        subst hi
        intro hy
        exact hd.2.2 g hx g (List.mem_flatMap.2 ⟨y, List.mem_of_getElem? hj, hy⟩) rfl
    | succ i =>
      cases j with
      | zero =>
        simp at hi hj
        subst hj
        intro hy
        exact hd.2.2 g hy g (List.mem_flatMap.2 ⟨x, List.mem_of_getElem? hi, hx⟩) rfl
      | succ j => exact ih hd.2.1 (by simpa using hi) (by simpa using hj) (by omega)
/-- One page marked: the row's cell first, then the bytes. -/
theorem markP_step {wr w1 : World} {g c n i k0 : Nat} {ps : List PgR} {p : PgR} (hn : ps.length = n) (hp : ps[i]? = some p) (hnd : (fpPs (.slice (some ⟨g, 0, none⟩) n c) ps).Nodup)
    (hO : OwnPs wr (.slice (some ⟨g, 0, none⟩) n c) (rowP k0 ps i)) (u : Bool) (hu : u = decide ((k0 + totP ((ps.take i).map PgR.D)) % 3 = 0))
    (hR : RowB w1 p.v p.zs.length (marksG (k0 + totP ((ps.take i).map PgR.D) + 1) p.zs.length)) (hgr : (wr.setCell ⟨g, i * 2, none⟩ (.bool u)).grownBy w1 p.v.ownBlock) :
    OwnPs w1 (.slice (some ⟨g, 0, none⟩) n c) (rowP k0 ps (i + 1)) ∧ Sv (fpPs (.slice (some ⟨g, 0, none⟩) n c) ps) wr w1 := by
  have hfp := fp_rowP (.slice (some ⟨g, 0, none⟩) n c) k0 ps i
  have hat := rowP_at (k := k0) hp
  have hin : g ∉ (ps.flatMap fun q => q.v.ownBlock.toList) := by
    unfold fpPs at hnd
    rw [List.nodup_append] at hnd
    intro h
    exact hnd.2.2 g (by simp [Value.ownBlock]) g h rfl
  have hin' : ∀ q ∈ rowP k0 ps i, g ∉ q.v.ownBlock.toList := fun q hq h => by
    have h2 : g ∈ (rowP k0 ps i).flatMap fun q => q.v.ownBlock.toList := List.mem_flatMap.2 ⟨q, hq, h⟩
    unfold rowP at h2
    rw [List.flatMap_append, fp_mkPs, ← List.flatMap_append, List.take_append_drop] at h2
    exact hin h2
  have hlr := rowP_len k0 ps i
  have hown : OwnE pgE 94 wr (.slice (some ⟨g, 0, none⟩) n c) n (rowP k0 ps i) := by have := hO.1; rw [hlr, hn] at this; exact this
  have hglt := hown.lt (g := g) rfl
  have hpo := hO.2 p (List.mem_of_getElem? hat)
  have hpm : p ∈ ps := List.mem_of_getElem? hp
  have hgp : p.v.ownBlock ≠ some g := fun e => hin' p (List.mem_of_getElem? hat) (by simp [e])
  have s1 := hown.set i 0 p ⟨u, p.a, p.cap, p.zs⟩ (.bool u) hat (by decide) rfl
  have s2 : OwnE pgE 94 w1 (.slice (some ⟨g, 0, none⟩) n c) n ((rowP k0 ps i).set i ⟨u, p.a, p.cap, p.zs⟩) := s1.block fun j hj => by
    simp [Value.ownBlock] at hj
    subst hj
    exact hgr.block g (by rw [size_setC]; exact hglt) (fun e => hgp e.symm)
  have s3 : OwnE pgE 94 w1 (.slice (some ⟨g, 0, none⟩) n c) n (rowP k0 ps (i + 1)) := by
    have hx : pgE.xv ((rowP k0 ps i).set i ⟨u, p.a, p.cap, p.zs⟩) = pgE.xv (rowP k0 ps (i + 1)) := by
      rw [← rowP_set hp]
      have e : pgE.en (mkPg (k0 + totP ((ps.take i).map PgR.D)) p) = pgE.en ⟨u, p.a, p.cap, p.zs⟩ := by simp [pgE, mkPg, marksG, hu]
      have hx1 := pgE.xv_set (rowP k0 ps i) i 0 p ⟨u, p.a, p.cap, p.zs⟩ (.bool u) hat (by decide) rfl
      have hx2 := pgE.xv_set (rowP k0 ps i) i 0 p (mkPg (k0 + totP ((ps.take i).map PgR.D)) p) (.bool u) hat (by decide) (by rw [e]; rfl)
      rw [← hx1, ← hx2]
    have := s2
    unfold OwnE at this ⊢
    rw [hx] at this
    exact this
  have hsv : Sv (fpPs (.slice (some ⟨g, 0, none⟩) n c) ps) wr w1 := by
    refine Sv.trans (b := wr.setCell ⟨g, i * 2, none⟩ (.bool u)) (Sv.gr (gr_setC wr g (i * 2) _) fun j hj => ?_) (Sv.gr hgr fun j hj => ?_)
    · simp at hj; subst hj; exact fpPs_row rfl
    · exact fpPs_pg hpm hj
  refine ⟨⟨by rw [rowP_len, hn]; exact s3, fun q hq => ?_⟩, hsv⟩
  rw [← rowP_set hp] at hq
  rcases mem_set hq with rfl | ⟨j, hj, hqj⟩
  · have : (mkPg (k0 + totP ((ps.take i).map PgR.D)) p).zs.length = p.zs.length := by simp [mkPg, marksG]
    refine ⟨?_, by rw [this]; exact (hO.2 p (List.mem_of_getElem? hat)).2⟩
    show RowB w1 (mkPg _ p).v (mkPg _ p).zs.length (mkPg _ p).zs
    rw [mkPg_v]
    rw [this]
    exact hR
  · have hnd' : ((rowP k0 ps i).flatMap fun q => q.v.ownBlock.toList).Nodup := by
      rw [← hfp] at hnd
      unfold fpPs at hnd
      exact (List.nodup_append.1 hnd).2.1
    refine (hO.2 q (List.mem_of_getElem? hqj)).block fun b hb => ?_
    have hbl := (hO.2 q (List.mem_of_getElem? hqj)).lt hb
    rw [hgr.block b (by rw [size_setC]; exact hbl) (fun e => flat_apart (g := b) hnd' hat hqj (fun h => hj h.symm) (by rw [← e]; simp) (by rw [hb]; simp))]
    refine Below.heap_setCell _ _ _ _ ?_
    show b ≠ g
    intro e
    subst e
    exact hin' q (List.mem_of_getElem? hqj) (by simp [hb])
theorem rem3b (m : Nat) : ((m : Int) % 3 == 0) = decide (m % 3 = 0) := by
  by_cases h : m % 3 = 0
  · have h2 : (m : Int) % 3 = 0 := by omega
    rw [h2, h]
    rfl
  · have h2 : (m : Int) % 3 ≠ 0 := by omega
    simp [h]
    omega
set_option maxRecDepth 100000 in
set_option maxHeartbeats 4000000 in
theorem markPs_any (v : Value) (n k0 : Nat) (ps : List PgR) (w : World) (hn : ps.length = n) (h1 : 1 ≤ k0) (hs : k0 + totP (ps.map PgR.D) ≤ 9999990) (hO : OwnPs w v ps) (hnd : (fpPs v ps).Nodup) :
    Calls Tryz.prog 147 #[v, .int .i64 k0] w fun e w' => e = .returned (.int .i64 ((k0 + totP (ps.map PgR.D) : Nat) : Int)) ∧ OwnPs w' v (mkPs k0 ps) ∧ Sv (fpPs v ps) w w' := by
  have hl := totP_len (ps.map PgR.D)
  simp only [List.length_map] at hl
  have hnb : n ≤ 9999990 := by omega
  have hO1 := hO.1
  rw [hn] at hO1
  rcases hO1.cases with ⟨rfl, rfl, rfl⟩ | ⟨g, c, rfl, hglt⟩
  · go_enter Tryz.func147, Tryz.ntmps147
    go_wp2
    refine wp_loop_rounds 1 ?_; rw [rounds_succ]
    go_wp2
    go_ret
    exact ⟨by simp [totP], hO, Sv.refl _ _⟩
  · have HO : Hid (OwnPs w (.slice (some ⟨g, 0, none⟩) n c) (rowP k0 ps 0)) := hO
    have HN : Hid (ps.length = n) := hn
    have HND : Hid ((fpPs (.slice (some ⟨g, 0, none⟩) n c) ps).Nodup) := hnd
    clear hO hO1 hnd hn
    go_enter Tryz.func147, Tryz.ntmps147
    go_wp2
    go_loopw [1, 5] (fun q i wr => ∃ (k m : Nat), k ≤ n ∧ i = .int .i64 k ∧ q = .int .i64 (m : Int) ∧ Hid (m = k0 + totP ((ps.take k).map PgR.D)) ∧ Hid (OwnPs wr (.slice (some ⟨g, 0, none⟩) n c) (rowP k0 ps k)) ∧ Hid (Sv (fpPs (.slice (some ⟨g, 0, none⟩) n c) ps) w wr)) (fun _ i _ => n - (intOf i).toNat)
    case atStart => exact ⟨0, k0, Nat.zero_le _, rfl, rfl, by show _ = _; simp [totP], HO, Sv.refl _ _⟩
    case round =>
      obtain ⟨k, m, hk, rfl, rfl, hm, hOw, hSv⟩ := hrel
      by_cases hkn : k < n
      · have hki : (k : Int) < (n : Int) := by omega
        obtain ⟨p, hpk⟩ : ∃ p, ps[k]? = some p := ⟨_, List.getElem?_eq_getElem (by rw [HN.out]; exact hkn)⟩
        have hat := rowP_at (k := k0) hpk
        have hlr := rowP_len k0 ps k
        have hown : OwnE pgE 94 wr (.slice (some ⟨g, 0, none⟩) n c) n (rowP k0 ps k) := by have := hOw.out.1; rw [hlr, HN.out] at this; exact this
        have q0 : wr.cell? ⟨g, k * 2, none⟩ = some (.bool p.used) := hown.cell k 0 p hat (by decide)
        have q1 : wr.cell? ⟨g, k * 2 + 1, none⟩ = some (.slice p.a p.zs.length p.cap) := hown.cell k 1 p hat (by decide)
        have f0 := hown.frozen (k * 2)
        have htl := totP_take_le (k + 1) ps
        have htk := totP_take hpk
        have hmo := hm.out
        have hpo := hOw.out.2 p (List.mem_of_getElem? hat)
        obtain ⟨U, hU⟩ : ∃ U, decide (m % 3 = 0) = U := ⟨_, rfl⟩
        have hne : p.v.ownBlock ≠ some g := fun e => by
          have h3 := HND.out
          unfold fpPs at h3
          rw [List.nodup_append] at h3
          exact h3.2.2 g (by simp [Value.ownBlock]) g (List.mem_flatMap.2 ⟨p, List.mem_of_getElem? hpk, by simp [e]⟩) rfl
        have hpo1 : RowB (wr.setCell ⟨g, k * 2, none⟩ (.bool U)) p.v p.zs.length p.zs := RowB.block hpo.1 fun b hb => Below.heap_setCell _ _ _ _ (by show b ≠ g; intro e; subst e; exact hne hb)
        have hcall := markBG p.v p.zs.length (m + 1) p.zs (wr.setCell ⟨g, k * 2, none⟩ (.bool U)) (by omega) (by omega) hpo1
        have hg1 := (Below.cell (B := wr.heap.size) (w := wr) (w' := wr) (p := ⟨g, k * 2 + 1, none⟩) (Below.refl _ _) (hown.lt (g := g) rfl))
        have q1' : (wr.setCell ⟨g, k * 2, none⟩ (.bool U)).cell? ⟨g, k * 2 + 1, none⟩ = some (.slice p.a p.zs.length p.cap) := by
          have s1 := hown.set k 0 p ⟨U, p.a, p.cap, p.zs⟩ (.bool U) hat (by decide) rfl
          exact s1.cell k 1 ⟨U, p.a, p.cap, p.zs⟩ (by rw [List.getElem?_set_self (by rw [hlr]; exact (List.getElem?_eq_some_iff.1 hpk).1)]) (by decide)
        have hUi : ((m : Int) % 3 == 0) = U := by rw [← hU]; exact rem3b m
        have hstep : Hid (∀ w1, RowB w1 p.v p.zs.length (marksG (m + 1) p.zs.length) → (wr.setCell ⟨g, k * 2, none⟩ (.bool U)).grownBy w1 p.v.ownBlock → OwnPs w1 (.slice (some ⟨g, 0, none⟩) n c) (rowP k0 ps (k + 1)) ∧ Sv (fpPs (.slice (some ⟨g, 0, none⟩) n c) ps) wr w1) := fun w1 h3 h4 =>
          markP_step HN.out hpk HND.out hOw.out U (by rw [← hU, hmo]) (by rw [← hmo]; exact h3) h4
        have HT : Hid (m + (1 + p.zs.length) = k0 + totP ((ps.take (k + 1)).map PgR.D)) := by show _ = _; omega
        have hmb : m + 1 + p.zs.length ≤ 9999990 := by omega
        have hv : p.v = .slice p.a p.zs.length p.cap := rfl
        rw [hv] at hcall
        obtain ⟨n1, hn1⟩ : ∃ n1, p.zs.length = n1 := ⟨_, rfl⟩
        rw [hn1] at q1 q1' hcall hmb HT hstep
        have HV : Hid (p.v = .slice p.a n1 p.cap) := by show _ = _; rw [hv, hn1]
        clear hmo htk htl hpo hpo1 hg1 hown hlr hat hpk hn1 hv hne hU
        go_wp2_with fail
        rw [show (m : Int) + 1 = ((m + 1 : Nat) : Int) by omega]
        refine hcall.mono ?_
        rintro e w1 ⟨rfl, hRB, hgr⟩
        clear hcall q0 q1 q1' f0 hUi
        have hst := hstep.out w1 (by rw [HV.out]; exact hRB) (by rw [HV.out]; exact hgr)
        have HA : Hid _ := hst.1
        have HB : Hid (Sv (fpPs (.slice (some ⟨g, 0, none⟩) n c) ps) w w1) := hSv.out.trans hst.2
        clear hst hRB hgr hstep
        go_wp2
        go_roundw
        case rel => exact ⟨k + 1, m + 1 + n1, by omega, by go_num, by go_num, by show _ = _; rw [← HT.out]; omega, HA, HB⟩
        case measure => simp [intOf]; omega
      · have hki : ¬ (k : Int) < (n : Int) := by omega
        obtain rfl : k = n := by omega
        go_wp2
        go_ret
        have := hOw.out
        rw [rowP_all k0 ps k HN.out] at this
        have hmm := hm.out
        rw [List.take_of_length_le (by rw [HN.out]; omega)] at hmm
        exact ⟨by show Ending.returned (.int .i64 (m : Int)) = _; exact ret_int (by omega), this, hSv.out⟩
set_option maxRecDepth 100000 in
set_option maxHeartbeats 4000000 in
theorem heldPs_any (v : Value) (n k0 : Nat) (ps : List PgR) (w : World) (hn : ps.length = n) (h1 : 1 ≤ k0) (hs : k0 + totP (ps.map PgR.D) ≤ 9999990) (hO : OwnPs w v (mkPs k0 ps)) :
    Calls Tryz.prog 148 #[v, .int .i64 k0] w fun e w' => e = .returned (.int .i64 ((k0 + totP (ps.map PgR.D) : Nat) : Int)) ∧ w' = w := by
  have hl := totP_len (ps.map PgR.D)
  simp only [List.length_map] at hl
  have hnb : n ≤ 9999990 := by omega
  have hO1 := hO.1
  rw [mkPs_length, hn] at hO1
  rcases hO1.cases with ⟨rfl, rfl, _⟩ | ⟨g, c, rfl, hglt⟩
  · obtain rfl : ps = [] := List.length_eq_zero_iff.1 hn
    go_enter Tryz.func148, Tryz.ntmps148
    go_wp2
    refine wp_loop_rounds 1 ?_; rw [rounds_succ]
    go_wp2
    go_ret
    exact ⟨by simp [totP], rfl⟩
  · have HO : Hid (OwnE pgE 94 w (.slice (some ⟨g, 0, none⟩) n c) n (mkPs k0 ps) ∧ ∀ p ∈ mkPs k0 ps, p.own w) := ⟨hO1, hO.2⟩
    have HN : Hid (ps.length = n) := hn
    clear hO hO1 hn
    go_enter Tryz.func148, Tryz.ntmps148
    go_wp2
    go_loopw [1, 5] (fun q i wr => ∃ (k m : Nat), k ≤ n ∧ i = .int .i64 k ∧ q = .int .i64 (m : Int) ∧ Hid (m = k0 + totP ((ps.take k).map PgR.D)) ∧ w = wr) (fun _ i _ => n - (intOf i).toNat)
    case atStart => exact ⟨0, k0, Nat.zero_le _, rfl, rfl, by show _ = _; simp [totP], rfl⟩
    case round =>
      obtain ⟨k, m, hk, rfl, rfl, hm, rfl⟩ := hrel
      by_cases hkn : k < n
      · have hki : (k : Int) < (n : Int) := by omega
        obtain ⟨p, hpk⟩ : ∃ p, ps[k]? = some p := ⟨_, List.getElem?_eq_getElem (by rw [HN.out]; exact hkn)⟩
        have hmo := hm.out
        have hat : (mkPs k0 ps)[k]? = some (mkPg m p) := by
          have h2 := rowP_set (k := k0) hpk
          have h3 : ps = ps.take (k + 1) ++ ps.drop (k + 1) := (List.take_append_drop _ _).symm
          rw [h3, mkPs_append, mkPs_take hpk, List.getElem?_append_left (by simp [mkPs_length]; have := (List.getElem?_eq_some_iff.1 hpk).1; omega), List.getElem?_append_right (by simp [mkPs_length]; omega), mkPs_length, List.length_take, show k - min k ps.length = 0 by have := (List.getElem?_eq_some_iff.1 hpk).1; omega, hmo]
          rfl
        have q0 : w.cell? ⟨g, k * 2, none⟩ = some (.bool (decide (m % 3 = 0))) := HO.out.1.cell k 0 _ hat (by decide)
        have q1 : w.cell? ⟨g, k * 2 + 1, none⟩ = some (.slice p.a p.zs.length p.cap) := by
          have := HO.out.1.cell k 1 _ hat (by decide)
          exact this.trans (by simp [pgE, mkPg, marksG])
        have htl := totP_take_le (k + 1) ps
        have htk := totP_take hpk
        have hpo := HO.out.2 _ (List.mem_of_getElem? hat)
        have hpo := hpo.1
        rw [mkPg_v] at hpo
        have hpo1 : RowB w p.v p.zs.length (marksG (m + 1) p.zs.length) := by
          have e : (mkPg m p).zs.length = p.zs.length := by simp [mkPg, marksG]
          rw [e] at hpo
          exact hpo
        have hcall := heldBG p.v p.zs.length (m + 1) w (by omega) (by omega) hpo1
        obtain ⟨U, hU⟩ : ∃ U, decide (m % 3 = 0) = U := ⟨_, rfl⟩
        have hUi : ((m : Int) % 3 == 0) = U := by rw [← hU]; exact rem3b m
        have hUU : (U != U) = false := by simp
        rw [hU] at q0
        have HT : Hid (m + (1 + p.zs.length) = k0 + totP ((ps.take (k + 1)).map PgR.D)) := by show _ = _; omega
        have hmb : m + 1 + p.zs.length ≤ 9999990 := by omega
        have hv : p.v = .slice p.a p.zs.length p.cap := rfl
        rw [hv] at hcall
        obtain ⟨n1, hn1⟩ : ∃ n1, p.zs.length = n1 := ⟨_, rfl⟩
        rw [hn1] at q1 hcall hmb HT
        have hneg : ¬ ((m + 1 + n1 : Nat) : Int) < 0 := by omega
        clear hmo htk htl hpo hpo1 hat hpk hn1 hv hU
        go_wp2_with fail
        rw [show (m : Int) + 1 = ((m + 1 : Nat) : Int) by omega]
        refine hcall.mono ?_
        rintro e w1 ⟨rfl, hw⟩
        obtain rfl := hw.symm
        clear hcall q0 q1 hUi hUU
        obtain ⟨M, hM⟩ : ∃ M, m + 1 + n1 = M := ⟨_, rfl⟩
        rw [hM] at hneg hmb ⊢
        have HM : Hid _ := hM
        clear hM
        go_wp2
        go_roundw
        case rel => exact ⟨k + 1, M, by omega, by go_num, by go_num, by show _ = _; rw [← HT.out, ← HM.out]; omega, trivial⟩
        case measure => simp [intOf]; omega
      · have hki : ¬ (k : Int) < (n : Int) := by omega
        obtain rfl : k = n := by omega
        go_wp2
        go_ret
        have hmm := hm.out
        rw [List.take_of_length_le (by rw [HN.out]; omega)] at hmm
        exact ⟨by show Ending.returned (.int .i64 (m : Int)) = _; exact ret_int (by omega), rfl⟩
end

section
open Go.RowKit
def cBk (b : BkR) : Nat := totP (b.ps.map PgR.D) + 2
def cBs (bs : List BkR) : Nat := (bs.map cBk).sum
theorem cBs_append (xs ys : List BkR) : cBs (xs ++ ys) = cBs xs + cBs ys := by simp [cBs]
theorem cBs_le (bs : List BkR) : cBs bs ≤ 2 * totB (bs.map BkR.D) := by
  induction bs with
  | nil => simp [cBs]
  | cons b bs ih =>
    rw [List.map_cons, totB_cons]
    simp only [cBs, List.map_cons, List.sum_cons] at ih ⊢
    simp only [cBk, BkR.D]
    omega
def mkBk (k : Nat) (b : BkR) : BkR := ⟨b.a, b.cap, mkPs k b.ps, ((k + totP (b.ps.map PgR.D) : Nat) : Int), decide ((k + totP (b.ps.map PgR.D) + 1) % 3 = 0)⟩
theorem mkBk_v (k : Nat) (b : BkR) : (mkBk k b).v = b.v := by simp [mkBk, BkR.v, mkPs_length]
def mkBs : Nat → List BkR → List BkR
  | _, [] => []
  | k, b :: bs => mkBk k b :: mkBs (k + cBk b) bs
theorem mkBs_append (k : Nat) (xs ys : List BkR) : mkBs k (xs ++ ys) = mkBs k xs ++ mkBs (k + cBs xs) ys := by
  induction xs generalizing k with
  | nil => simp [mkBs, cBs]
  | cons x xs ih =>
    simp only [List.cons_append, mkBs]
    rw [ih, show k + cBk x + cBs xs = k + cBs (x :: xs) by simp only [cBs, List.map_cons, List.sum_cons]; omega]
theorem mkBs_length (k : Nat) (bs : List BkR) : (mkBs k bs).length = bs.length := by
  induction bs generalizing k with
  | nil => rfl
  | cons p ps ih => simp [mkBs, ih]
theorem mkBs_take {k i : Nat} {bs : List BkR} {b : BkR} (h : bs[i]? = some b) : mkBs k (bs.take (i + 1)) = mkBs k (bs.take i) ++ [mkBk (k + cBs (bs.take i)) b] := by
  rw [List.take_add_one, h, mkBs_append]
  rfl
theorem cBs_take {i : Nat} {bs : List BkR} {b : BkR} (h : bs[i]? = some b) : cBs (bs.take (i + 1)) = cBs (bs.take i) + cBk b := by
  rw [List.take_add_one, h, cBs_append]
  simp [cBs]
theorem cBs_take_le (i : Nat) (bs : List BkR) : cBs (bs.take i) ≤ cBs bs := by
  have : cBs bs = cBs (bs.take i) + cBs (bs.drop i) := by rw [← cBs_append, List.take_append_drop]
  omega
theorem fpPs_mk (v : Value) (k : Nat) (ps : List PgR) : fpPs v (mkPs k ps) = fpPs v ps := by
  unfold fpPs
  rw [fp_mkPs]
theorem fp_mkBs (k : Nat) (bs : List BkR) : (mkBs k bs).flatMap (fun b => fpPs b.v b.ps) = bs.flatMap fun b => fpPs b.v b.ps := by
  induction bs generalizing k with
  | nil => rfl
  | cons b bs ih =>
    simp only [mkBs, List.flatMap_cons, ih, mkBk_v]
    simp only [mkBk, fpPs_mk]
def rowB' (k : Nat) (bs : List BkR) (i : Nat) : List BkR := mkBs k (bs.take i) ++ bs.drop i
theorem fp_rowB (v : Value) (k : Nat) (bs : List BkR) (i : Nat) : fpBs v (rowB' k bs i) = fpBs v bs := by
  unfold fpBs rowB'
  rw [List.flatMap_append, fp_mkBs, ← List.flatMap_append, List.take_append_drop]
theorem rowB'_all (k : Nat) (bs : List BkR) (n : Nat) (h : bs.length = n) : rowB' k bs n = mkBs k bs := by subst h; simp [rowB']
theorem rowB'_len (k : Nat) (bs : List BkR) (i : Nat) : (rowB' k bs i).length = bs.length := by
  unfold rowB'
  rw [List.length_append, mkBs_length, ← List.length_append, List.take_append_drop]
theorem rowB'_at {k i : Nat} {bs : List BkR} {b : BkR} (h : bs[i]? = some b) : (rowB' k bs i)[i]? = some b := by
  have hl := (List.getElem?_eq_some_iff.1 h).1
  unfold rowB'
  rw [List.getElem?_append_right (by rw [mkBs_length, List.length_take]; omega), mkBs_length, List.length_take, List.getElem?_drop, show i + (i - min i bs.length) = i by omega, h]
theorem rowB'_set {k i : Nat} {bs : List BkR} {b : BkR} (h : bs[i]? = some b) : (rowB' k bs i).set i (mkBk (k + cBs (bs.take i)) b) = rowB' k bs (i + 1) := by
  obtain ⟨hl, he⟩ := List.getElem?_eq_some_iff.1 h
  unfold rowB'
  rw [List.set_append_right _ _ (by rw [mkBs_length, List.length_take]; omega), mkBs_length, List.length_take, show i - min i bs.length = 0 by omega, List.drop_eq_getElem_cons hl, List.set_cons_zero, mkBs_take h, List.append_assoc]
  rfl
theorem flat_nodup {α : Type} {f : α → List Nat} {l : List α} (hd : (l.flatMap f).Nodup) {x : α} (h : x ∈ l) : (f x).Nodup := by
  induction l with
  | nil => simp at h
  | cons z l ih =>
    rw [List.flatMap_cons, List.nodup_append] at hd
    rcases List.mem_cons.1 h with rfl | h
    · exact hd.1
    · exact ih hd.2.1 h
/-- One block marked: its pages, then two cells of the row. -/
theorem markB_step {wr w1 : World} {g c n i k0 m : Nat} {bs : List BkR} {b : BkR} (hn : bs.length = n) (hp : bs[i]? = some b) (hnd : (fpBs (.slice (some ⟨g, 0, none⟩) n c) bs).Nodup)
    (hO : OwnBs wr (.slice (some ⟨g, 0, none⟩) n c) (rowB' k0 bs i)) (hm : m = k0 + cBs (bs.take i)) (u : Bool) (hu : u = decide ((m + totP (b.ps.map PgR.D) + 1) % 3 = 0))
    (hR : OwnPs w1 b.v (mkPs m b.ps)) (hsv : Sv (fpPs b.v b.ps) wr w1) (q : Int) (hq : q = ((m + totP (b.ps.map PgR.D) : Nat) : Int)) :
    OwnBs ((w1.setCell ⟨g, i * 3 + 1, none⟩ (.int .i64 q)).setCell ⟨g, i * 3 + 2, none⟩ (.bool u)) (.slice (some ⟨g, 0, none⟩) n c) (rowB' k0 bs (i + 1)) ∧ Sv (fpBs (.slice (some ⟨g, 0, none⟩) n c) bs) wr ((w1.setCell ⟨g, i * 3 + 1, none⟩ (.int .i64 q)).setCell ⟨g, i * 3 + 2, none⟩ (.bool u)) := by
  have hfp := fp_rowB (.slice (some ⟨g, 0, none⟩) n c) k0 bs i
  have hat := rowB'_at (k := k0) hp
  have hin : g ∉ (bs.flatMap fun b => fpPs b.v b.ps) := by
    unfold fpBs at hnd
    rw [List.nodup_append] at hnd
    intro h
    exact hnd.2.2 g (by simp [Value.ownBlock]) g h rfl
  have hin' : ∀ x ∈ rowB' k0 bs i, g ∉ fpPs x.v x.ps := fun x hx h => by
    have h2 : g ∈ (rowB' k0 bs i).flatMap fun b => fpPs b.v b.ps := List.mem_flatMap.2 ⟨x, hx, h⟩
    unfold rowB' at h2
    rw [List.flatMap_append, fp_mkBs, ← List.flatMap_append, List.take_append_drop] at h2
    exact hin h2
  have hlr := rowB'_len k0 bs i
  have hown : OwnE bkE 82 wr (.slice (some ⟨g, 0, none⟩) n c) n (rowB' k0 bs i) := by have := hO.1; rw [hlr, hn] at this; exact this
  have hglt := hown.lt (g := g) rfl
  have hbm : b ∈ bs := List.mem_of_getElem? hp
  have hgb : g ∉ fpPs b.v b.ps := hin' b (List.mem_of_getElem? hat)
  have s0 : OwnE bkE 82 w1 (.slice (some ⟨g, 0, none⟩) n c) n (rowB' k0 bs i) := hown.block fun j hj => by
    simp [Value.ownBlock] at hj
    subst hj
    exact hsv.block g hglt hgb
  have s1 := s0.set i 1 b ⟨b.a, b.cap, b.ps, q, b.bad⟩ (.int .i64 q) hat (by decide) rfl
  have hil : i < (rowB' k0 bs i).length := (List.getElem?_eq_some_iff.1 hat).1
  have s2 := s1.set i 2 ⟨b.a, b.cap, b.ps, q, b.bad⟩ ⟨b.a, b.cap, b.ps, q, u⟩ (.bool u) (by rw [List.getElem?_set_self hil]) (by decide) rfl
  rw [set_set_at] at s2
  have s3 : OwnE bkE 82 ((w1.setCell ⟨g, i * 3 + 1, none⟩ (.int .i64 q)).setCell ⟨g, i * 3 + 2, none⟩ (.bool u)) (.slice (some ⟨g, 0, none⟩) n c) n (rowB' k0 bs (i + 1)) := by
    have e : bkE.en (mkBk m b) = bkE.en ⟨b.a, b.cap, b.ps, q, u⟩ := by rw [hu, hq]; simp [bkE, mkBk, mkPs_length]
    have hx : bkE.xv ((rowB' k0 bs i).set i ⟨b.a, b.cap, b.ps, q, u⟩) = bkE.xv (rowB' k0 bs (i + 1)) := by
      rw [← rowB'_set hp, ← hm]
      have hx1 := bkE.xv_set ((rowB' k0 bs i).set i ⟨b.a, b.cap, b.ps, q, u⟩) i 0 ⟨b.a, b.cap, b.ps, q, u⟩ (mkBk m b) (.slice b.a b.ps.length b.cap) (by rw [List.getElem?_set_self hil]) (by decide) (by rw [e]; rfl)
      have hx2 := bkE.xv_set ((rowB' k0 bs i).set i ⟨b.a, b.cap, b.ps, q, u⟩) i 0 ⟨b.a, b.cap, b.ps, q, u⟩ ⟨b.a, b.cap, b.ps, q, u⟩ (.slice b.a b.ps.length b.cap) (by rw [List.getElem?_set_self hil]) (by decide) rfl
      rw [set_set_at] at hx1 hx2
      exact hx2.symm.trans hx1
    have := s2
    unfold OwnE at this ⊢
    rw [hx] at this
    exact this
  have hgr : w1.grownBy ((w1.setCell ⟨g, i * 3 + 1, none⟩ (.int .i64 q)).setCell ⟨g, i * 3 + 2, none⟩ (.bool u)) (some g) := gr_more (gr_setC w1 g (i * 3 + 1) _) _ _
  refine ⟨⟨by rw [rowB'_len, hn]; exact s3, fun x hx => ?_⟩, (hsv.wider fun j hj => fpBs_bk hbm hj).trans (Sv.gr hgr fun j hj => by simp at hj; subst hj; exact fpBs_row rfl)⟩
  have hset : ∀ j, j ≠ g → ((w1.setCell ⟨g, i * 3 + 1, none⟩ (.int .i64 q)).setCell ⟨g, i * 3 + 2, none⟩ (.bool u)).heap[j]? = w1.heap[j]? := fun j hj => (Below.heap_setCell _ _ _ _ hj).trans (Below.heap_setCell _ _ _ _ hj)
  rw [← rowB'_set hp, ← hm] at hx
  rcases mem_set hx with rfl | ⟨j, hj, hqj⟩
  · rw [mkBk_v]
    refine OwnPs.block hR fun j hj => hset j fun e => ?_
    subst e
    rw [show (mkBk m b).ps = mkPs m b.ps from rfl, fpPs_mk] at hj
    exact hgb hj
  · have hnd' : ((rowB' k0 bs i).flatMap fun b => fpPs b.v b.ps).Nodup := by
      rw [← hfp] at hnd
      unfold fpBs at hnd
      exact (List.nodup_append.1 hnd).2.1
    have hxo := hO.2 x (List.mem_of_getElem? hqj)
    refine hxo.block fun a ha => ?_
    rw [hset a (fun e => by subst e; exact hin' x (List.mem_of_getElem? hqj) ha)]
    exact hsv.block a (hxo.lt a ha) (fun h => flat_apart (g := a) hnd' hat hqj (fun h => hj h.symm) h ha)
set_option maxRecDepth 100000 in
set_option maxHeartbeats 4000000 in
theorem markBs_any (v : Value) (n k0 : Nat) (bs : List BkR) (w : World) (hn : bs.length = n) (h1 : 1 ≤ k0) (hs : k0 + cBs bs ≤ 9999990) (hO : OwnBs w v bs) (hnd : (fpBs v bs).Nodup) :
    Calls Tryz.prog 120 #[v, .int .i64 k0] w fun e w' => e = .returned (.int .i64 ((k0 + cBs bs : Nat) : Int)) ∧ OwnBs w' v (mkBs k0 bs) ∧ Sv (fpBs v bs) w w' := by
  have hnb : n ≤ 9999990 := by
    have : bs.length ≤ cBs bs := by
      clear hs hO hnd hn
      induction bs with
      | nil => simp [cBs]
      | cons b bs ih => simp only [cBs, List.map_cons, List.sum_cons, List.length_cons, cBk] at ih ⊢; omega
    omega
  have hO1 := hO.1
  rw [hn] at hO1
  rcases hO1.cases with ⟨rfl, rfl, rfl⟩ | ⟨g, c, rfl, hglt⟩
  · go_enter Tryz.func120, Tryz.ntmps120
    go_wp2
    refine wp_loop_rounds 1 ?_; rw [rounds_succ]
    go_wp2
    go_ret
    exact ⟨by simp [cBs], hO, Sv.refl _ _⟩
  · have HO : Hid (OwnBs w (.slice (some ⟨g, 0, none⟩) n c) (rowB' k0 bs 0)) := hO
    have HN : Hid (bs.length = n) := hn
    have HND : Hid ((fpBs (.slice (some ⟨g, 0, none⟩) n c) bs).Nodup) := hnd
    clear hO hO1 hnd hn
    go_enter Tryz.func120, Tryz.ntmps120
    go_wp2
    go_loopw [1, 5] (fun q i wr => ∃ (k m : Nat), k ≤ n ∧ i = .int .i64 k ∧ q = .int .i64 (m : Int) ∧ Hid (m = k0 + cBs (bs.take k)) ∧ Hid (OwnBs wr (.slice (some ⟨g, 0, none⟩) n c) (rowB' k0 bs k)) ∧ Hid (Sv (fpBs (.slice (some ⟨g, 0, none⟩) n c) bs) w wr)) (fun _ i _ => n - (intOf i).toNat)
    case atStart => exact ⟨0, k0, Nat.zero_le _, rfl, rfl, by show _ = _; simp [cBs], HO, Sv.refl _ _⟩
    case round =>
      obtain ⟨k, m, hk, rfl, rfl, hm, hOw, hSv⟩ := hrel
      by_cases hkn : k < n
      · have hki : (k : Int) < (n : Int) := by omega
        obtain ⟨b, hbk⟩ : ∃ b, bs[k]? = some b := ⟨_, List.getElem?_eq_getElem (by rw [HN.out]; exact hkn)⟩
        have hat := rowB'_at (k := k0) hbk
        have hlr := rowB'_len k0 bs k
        have hown : OwnE bkE 82 wr (.slice (some ⟨g, 0, none⟩) n c) n (rowB' k0 bs k) := by have := hOw.out.1; rw [hlr, HN.out] at this; exact this
        have q0 : wr.cell? ⟨g, k * 3, none⟩ = some (.slice b.a b.ps.length b.cap) := hown.cell k 0 b hat (by decide)
        have htl := cBs_take_le (k + 1) bs
        have htk := cBs_take hbk
        have hcb : cBk b = totP (b.ps.map PgR.D) + 2 := rfl
        have hmo := hm.out
        have hpo := hOw.out.2 b (List.mem_of_getElem? hat)
        have hnd1 : (fpPs b.v b.ps).Nodup := by
          have h3 := HND.out
          unfold fpBs at h3
          rw [List.nodup_append] at h3
          have h4 := h3.2.1
          exact flat_nodup h4 (List.mem_of_getElem? hbk)
        have hgb : g ∉ fpPs b.v b.ps := fun e => by
          have h3 := HND.out
          unfold fpBs at h3
          rw [List.nodup_append] at h3
          exact h3.2.2 g (by simp [Value.ownBlock]) g (List.mem_flatMap.2 ⟨b, List.mem_of_getElem? hbk, e⟩) rfl
        have hcall := markPs_any b.v b.ps.length m b.ps wr rfl (by omega) (by omega) hpo hnd1
        obtain ⟨T, hT⟩ : ∃ T, totP (b.ps.map PgR.D) = T := ⟨_, rfl⟩
        rw [hT] at hcall hcb
        obtain ⟨M, hM⟩ : ∃ M, m + T = M := ⟨_, rfl⟩
        rw [hM] at hcall
        obtain ⟨U, hU⟩ : ∃ U, decide ((M + 1) % 3 = 0) = U := ⟨_, rfl⟩
        have hUi : (((M + 1 : Nat) : Int) % 3 == 0) = U := by rw [← hU]; exact rem3b (M + 1)
        have hUj : (((M : Int) + 1) % 3 == 0) = U := by rw [← hUi]; rfl
        have hstep : Hid (∀ w1, OwnPs w1 b.v (mkPs m b.ps) → Sv (fpPs b.v b.ps) wr w1 → OwnBs ((w1.setCell ⟨g, k * 3 + 1, none⟩ (.int .i64 (M : Int))).setCell ⟨g, k * 3 + 2, none⟩ (.bool U)) (.slice (some ⟨g, 0, none⟩) n c) (rowB' k0 bs (k + 1)) ∧ Sv (fpBs (.slice (some ⟨g, 0, none⟩) n c) bs) wr ((w1.setCell ⟨g, k * 3 + 1, none⟩ (.int .i64 (M : Int))).setCell ⟨g, k * 3 + 2, none⟩ (.bool U))) := fun w1 h3 h4 =>
          markB_step HN.out hbk HND.out hOw.out hmo U (by rw [hT, hM, ← hU]) h3 h4 (M : Int) (by rw [hT, hM])
        have hrow1 : Hid (∀ w1, Sv (fpPs b.v b.ps) wr w1 → OwnE bkE 82 w1 (.slice (some ⟨g, 0, none⟩) n c) n (rowB' k0 bs k)) := fun w1 h4 => hown.block fun j hj => by
          simp [Value.ownBlock] at hj
          subst hj
          exact h4.block g (hown.lt (g := g) rfl) hgb
        have HAT : Hid _ := hat
        have HT2 : Hid (M + 2 = k0 + cBs (bs.take (k + 1))) := by show _ = _; omega
        have hMb : M + 2 ≤ 9999990 := by omega
        have hv : b.v = .slice b.a b.ps.length b.cap := rfl
        rw [hv] at hcall
        obtain ⟨n1, hn1⟩ : ∃ n1, b.ps.length = n1 := ⟨_, rfl⟩
        rw [hn1] at q0 hcall
        have HV : Hid (b.v = .slice b.a n1 b.cap) := by show _ = _; rw [hv, hn1]
        clear hmo htk htl hpo hown hlr hat hbk hn1 hv hnd1 hgb hT hM hU hcb
        go_wp2_with fail
        refine hcall.mono ?_
        rintro e w1 ⟨rfl, hR, hsv⟩
        have hR' : OwnPs w1 b.v (mkPs m b.ps) := by rw [HV.out]; exact hR
        have hsv' : Sv (fpPs b.v b.ps) wr w1 := by rw [HV.out]; exact hsv
        have hst := hstep.out w1 hR' hsv'
        have hrw := hrow1.out w1 hsv'
        have y1 : w1.cell? ⟨g, k * 3 + 1, none⟩ = some (.int .i64 b.wear) := hrw.cell k 1 b HAT.out (by decide)
        have g1 := hrw.frozen (k * 3 + 1)
        have s1 := hrw.set k 1 b ⟨b.a, b.cap, b.ps, (M : Int), b.bad⟩ (.int .i64 (M : Int)) HAT.out (by decide) rfl
        have y2 : (w1.setCell ⟨g, k * 3 + 1, none⟩ (.int .i64 (M : Int))).cell? ⟨g, k * 3 + 2, none⟩ = some (.bool b.bad) := s1.cell k 2 ⟨b.a, b.cap, b.ps, (M : Int), b.bad⟩ (by rw [List.getElem?_set_self (List.getElem?_eq_some_iff.1 HAT.out).1]) (by decide)
        have g2 : (w1.setCell ⟨g, k * 3 + 1, none⟩ (.int .i64 (M : Int))).frozen? ⟨g, k * 3 + 2, none⟩ = false := s1.frozen (k * 3 + 2)
        have HA : Hid _ := hst.1
        have HB : Hid (Sv (fpBs (.slice (some ⟨g, 0, none⟩) n c) bs) w ((w1.setCell ⟨g, k * 3 + 1, none⟩ (.int .i64 (M : Int))).setCell ⟨g, k * 3 + 2, none⟩ (.bool U))) := hSv.out.trans hst.2
        clear hst hR hsv hR' hsv' hrw s1 hcall q0
        go_wp2
        go_roundw
        case rel => exact ⟨k + 1, M + 2, by omega, by go_num, by go_num, HT2, HA, HB⟩
        case measure => simp [intOf]; omega
      · have hki : ¬ (k : Int) < (n : Int) := by omega
        obtain rfl : k = n := by omega
        go_wp2
        go_ret
        have := hOw.out
        rw [rowB'_all k0 bs k HN.out] at this
        have hmm := hm.out
        rw [List.take_of_length_le (by rw [HN.out]; omega)] at hmm
        exact ⟨by show Ending.returned (.int .i64 (m : Int)) = _; exact ret_int (by omega), this, hSv.out⟩
set_option maxRecDepth 100000 in
set_option maxHeartbeats 4000000 in
theorem heldBs_any (v : Value) (n k0 : Nat) (bs : List BkR) (w : World) (hn : bs.length = n) (h1 : 1 ≤ k0) (hs : k0 + cBs bs ≤ 9999990) (hO : OwnBs w v (mkBs k0 bs)) :
    Calls Tryz.prog 121 #[v, .int .i64 k0] w fun e w' => e = .returned (.int .i64 ((k0 + cBs bs : Nat) : Int)) ∧ w' = w := by
  have hnb : n ≤ 9999990 := by
    have : bs.length ≤ cBs bs := by
      clear hs hO hn
      induction bs with
      | nil => simp [cBs]
      | cons b bs ih => simp only [cBs, List.map_cons, List.sum_cons, List.length_cons, cBk] at ih ⊢; omega
    omega
  have hO1 := hO.1
  rw [mkBs_length, hn] at hO1
  rcases hO1.cases with ⟨rfl, rfl, _⟩ | ⟨g, c, rfl, hglt⟩
  · obtain rfl : bs = [] := List.length_eq_zero_iff.1 hn
    go_enter Tryz.func121, Tryz.ntmps121
    go_wp2
    refine wp_loop_rounds 1 ?_; rw [rounds_succ]
    go_wp2
    go_ret
    exact ⟨by simp [cBs], rfl⟩
  · have HO : Hid (OwnE bkE 82 w (.slice (some ⟨g, 0, none⟩) n c) n (mkBs k0 bs) ∧ ∀ b ∈ mkBs k0 bs, OwnPs w b.v b.ps) := ⟨hO1, hO.2⟩
    have HN : Hid (bs.length = n) := hn
    clear hO hO1 hn
    go_enter Tryz.func121, Tryz.ntmps121
    go_wp2
    go_loopw [1, 5] (fun q i wr => ∃ (k m : Nat), k ≤ n ∧ i = .int .i64 k ∧ q = .int .i64 (m : Int) ∧ Hid (m = k0 + cBs (bs.take k)) ∧ w = wr) (fun _ i _ => n - (intOf i).toNat)
    case atStart => exact ⟨0, k0, Nat.zero_le _, rfl, rfl, by show _ = _; simp [cBs], rfl⟩
    case round =>
      obtain ⟨k, m, hk, rfl, rfl, hm, rfl⟩ := hrel
      by_cases hkn : k < n
      · have hki : (k : Int) < (n : Int) := by omega
        obtain ⟨b, hbk⟩ : ∃ b, bs[k]? = some b := ⟨_, List.getElem?_eq_getElem (by rw [HN.out]; exact hkn)⟩
        have hmo := hm.out
        have hat : (mkBs k0 bs)[k]? = some (mkBk m b) := by
          have h3 : bs = bs.take (k + 1) ++ bs.drop (k + 1) := (List.take_append_drop _ _).symm
          rw [h3, mkBs_append, mkBs_take hbk, List.getElem?_append_left (by simp [mkBs_length]; have := (List.getElem?_eq_some_iff.1 hbk).1; omega), List.getElem?_append_right (by simp [mkBs_length]; omega), mkBs_length, List.length_take, show k - min k bs.length = 0 by have := (List.getElem?_eq_some_iff.1 hbk).1; omega, hmo]
          rfl
        obtain ⟨T, hT⟩ : ∃ T, totP (b.ps.map PgR.D) = T := ⟨_, rfl⟩
        obtain ⟨M, hM⟩ : ∃ M, m + T = M := ⟨_, rfl⟩
        have q0 : w.cell? ⟨g, k * 3, none⟩ = some (.slice b.a b.ps.length b.cap) := (HO.out.1.cell k 0 _ hat (by decide)).trans (by simp [bkE, mkBk, mkPs_length])
        have q1 : w.cell? ⟨g, k * 3 + 1, none⟩ = some (.int .i64 (M : Int)) := (HO.out.1.cell k 1 _ hat (by decide)).trans (by rw [← hM, ← hT]; rfl)
        have q2 : w.cell? ⟨g, k * 3 + 2, none⟩ = some (.bool (decide ((M + 1) % 3 = 0))) := (HO.out.1.cell k 2 _ hat (by decide)).trans (by rw [← hM, ← hT]; rfl)
        have htl := cBs_take_le (k + 1) bs
        have htk := cBs_take hbk
        have hcb : cBk b = totP (b.ps.map PgR.D) + 2 := rfl
        have hpo := HO.out.2 _ (List.mem_of_getElem? hat)
        rw [mkBk_v] at hpo
        have hcall := heldPs_any b.v b.ps.length m b.ps w rfl (by omega) (by omega) hpo
        rw [hT] at hcall hcb
        rw [hM] at hcall
        obtain ⟨U, hU⟩ : ∃ U, decide ((M + 1) % 3 = 0) = U := ⟨_, rfl⟩
        have hUi : (((M + 1 : Nat) : Int) % 3 == 0) = U := by rw [← hU]; exact rem3b (M + 1)
        have hUj : (((M : Int) + 1) % 3 == 0) = U := by rw [← hUi]; rfl
        rw [hU] at q2
        have hUU : (U != U) = false := by simp
        have hMM : ((M : Int) != (M : Int)) = false := by simp
        have HT2 : Hid (M + 2 = k0 + cBs (bs.take (k + 1))) := by show _ = _; omega
        have hMb : M + 2 ≤ 9999990 := by omega
        have hM0 : ¬ (M : Int) < 0 := by omega
        have hv : b.v = .slice b.a b.ps.length b.cap := rfl
        rw [hv] at hcall
        obtain ⟨n1, hn1⟩ : ∃ n1, b.ps.length = n1 := ⟨_, rfl⟩
        rw [hn1] at q0 hcall
        clear hmo htk htl hpo hat hbk hn1 hv hT hM hU hcb hUi
        go_wp2_with fail
        refine hcall.mono ?_
        rintro e w1 ⟨rfl, hw⟩
        obtain rfl := hw.symm
        clear hcall q0
        go_wp2
        go_roundw
        case rel => exact ⟨k + 1, M + 2, by omega, by go_num, by go_num, HT2, trivial⟩
        case measure => simp [intOf]; omega
      · have hki : ¬ (k : Int) < (n : Int) := by omega
        obtain rfl : k = n := by omega
        go_wp2
        go_ret
        have hmm := hm.out
        rw [List.take_of_length_le (by rw [HN.out]; omega)] at hmm
        exact ⟨by show Ending.returned (.int .i64 (m : Int)) = _; exact ret_int (by omega), rfl⟩
set_option maxHeartbeats 1600000 in
theorem markCh_any (v : Value) (k0 : Nat) (bs : List BkR) (w : World) (h1 : 1 ≤ k0) (hs : k0 + cBs bs ≤ 9999990) (hO : OwnBs w v bs) (hnd : (fpBs v bs).Nodup) :
    Calls Tryz.prog 81 #[.agg #[v], .int .i64 k0] w fun e w' => e = .returned (.int .i64 ((k0 + cBs bs : Nat) : Int)) ∧ OwnBs w' v (mkBs k0 bs) ∧ Sv (fpBs v bs) w w' := by
  have B0 : Below w.heap.size w (w.alloc (.cells #[v] 34)) := (Below.refl _ w).alloc (Nat.le_refl _) _
  have hcall := markBs_any v bs.length k0 bs (w.alloc (.cells #[v] 34)) rfl h1 hs (hO.keep B0) hnd
  have HB : Hid _ := B0
  clear hO hnd B0
  go_enter Tryz.func81, Tryz.ntmps81
  go_wp2_with fail
  refine hcall.mono ?_
  rintro e w1 ⟨rfl, hO, hsv⟩
  clear hcall
  go_wp2
  go_ret
  exact ⟨rfl, hO, (Below.sv HB.out _).trans hsv⟩
set_option maxHeartbeats 1600000 in
theorem heldCh_any (v : Value) (k0 : Nat) (bs : List BkR) (w : World) (h1 : 1 ≤ k0) (hs : k0 + cBs bs ≤ 9999990) (hO : OwnBs w v (mkBs k0 bs)) :
    Calls Tryz.prog 83 #[.agg #[v], .int .i64 k0] w fun e w' => e = .returned (.int .i64 ((k0 + cBs bs : Nat) : Int)) ∧ Below w.heap.size w w' := by
  have B0 : Below w.heap.size w (w.alloc (.cells #[v] 34)) := (Below.refl _ w).alloc (Nat.le_refl _) _
  have hcall := heldBs_any v bs.length k0 bs (w.alloc (.cells #[v] 34)) rfl h1 hs (hO.keep B0)
  have HB : Hid _ := B0
  obtain ⟨Q, hQ⟩ : ∃ Q, k0 + cBs bs = Q := ⟨_, rfl⟩
  rw [hQ] at hcall ⊢
  have hq : ¬ (Q : Int) < 0 := by omega
  clear hO B0 hQ
  go_enter Tryz.func83, Tryz.ntmps83
  go_wp2_with fail
  refine hcall.mono ?_
  rintro e w1 ⟨rfl, hw⟩
  obtain rfl := hw.symm
  clear hcall
  go_wp2
  go_ret
  exact ⟨rfl, HB.out⟩
end

section
open Go.RowKit
/-- What a device says. -/
structure DvD where
  ds : List BkD
  ops : Int
  fs : List FtD
  down : Bool
/-- A device of the call's own, new since B. -/
structure NewDv (w : World) (B : Nat) (a : Option Addr) (n c : Nat) (fa : Option Addr) (m fc : Nat) (ds : List BkD) (fs : List FtD) (qs : List BkR) : Prop where
  bs : NewBs w B (.slice a n c) ds qs
  fs : OwnFa w (.slice fa m fc) m fs
  new : ∀ g, (Value.slice fa m fc).ownBlock = some g → B ≤ g ∧ g ∉ fpBs (.slice a n c) qs
/-- The blocks of memory that it takes. -/
def fpDv (a : Option Addr) (n c : Nat) (fa : Option Addr) (m fc : Nat) (qs : List BkR) : List Nat := fpBs (.slice a n c) qs ++ (Value.slice fa m fc).ownBlock.toList
theorem fpDv_bs {a : Option Addr} {n c : Nat} {fa : Option Addr} {m fc : Nat} {qs : List BkR} {g : Nat} (h : g ∈ fpBs (.slice a n c) qs) : g ∈ fpDv a n c fa m fc qs := List.mem_append_left _ h
theorem fpDv_fs {a : Option Addr} {n c : Nat} {fa : Option Addr} {m fc : Nat} {qs : List BkR} {g : Nat} (h : (Value.slice fa m fc).ownBlock = some g) : g ∈ fpDv a n c fa m fc qs := List.mem_append_right _ (by simp [h])
theorem NewDv.keep {w w' : World} {B n c m fc : Nat} {a fa : Option Addr} {ds : List BkD} {fs : List FtD} {qs : List BkR} (h : NewDv w B a n c fa m fc ds fs qs) (hb : Below w.heap.size w w') : NewDv w' B a n c fa m fc ds fs qs := ⟨h.bs.keep hb, OwnE.keep h.fs hb, h.new⟩
theorem NewDv.lt {w : World} {B n c m fc : Nat} {a fa : Option Addr} {ds : List BkD} {fs : List FtD} {qs : List BkR} (h : NewDv w B a n c fa m fc ds fs qs) : ∀ g ∈ fpDv a n c fa m fc qs, g < w.heap.size := fun g hg => by
  rcases List.mem_append.1 hg with h1 | h1
  · exact h.bs.own.lt g h1
  · exact OwnE.lt h.fs (by simpa using h1)
theorem NewDv.from {w : World} {B n c m fc : Nat} {a fa : Option Addr} {ds : List BkD} {fs : List FtD} {qs : List BkR} (h : NewDv w B a n c fa m fc ds fs qs) : ∀ g ∈ fpDv a n c fa m fc qs, B ≤ g := fun g hg => by
  rcases List.mem_append.1 hg with h1 | h1
  · exact h.bs.new g h1
  · exact (h.new g (by simpa using h1)).1
theorem NewDv.svs {w w' : World} {B n c m fc : Nat} {a fa : Option Addr} {ds : List BkD} {fs : List FtD} {qs : List BkR} {F : List Nat} (h : NewDv w B a n c fa m fc ds fs qs) (k : Sv F w w') (hd : ∀ g ∈ fpDv a n c fa m fc qs, g ∉ F) : NewDv w' B a n c fa m fc ds fs qs :=
  ⟨h.bs.svs k fun g hg => hd g (fpDv_bs hg), OwnE.block h.fs fun g hg => k.block g (OwnE.lt h.fs hg) (hd g (fpDv_fs hg)), h.new⟩
theorem NewDv.wider {w : World} {B B' n c m fc : Nat} {a fa : Option Addr} {ds : List BkD} {fs : List FtD} {qs : List BkR} (h : NewDv w B a n c fa m fc ds fs qs) (hB : B' ≤ B) : NewDv w B' a n c fa m fc ds fs qs := ⟨h.bs.wider hB, h.fs, fun g hg => ⟨Nat.le_trans hB (h.new g hg).1, (h.new g hg).2⟩⟩
theorem NewDv.set_below {W : World} {B n c m fc j i : Nat} {a fa : Option Addr} {ds : List BkD} {fs : List FtD} {qs : List BkR} {u : Value} (h : NewDv W B a n c fa m fc ds fs qs) (hj : j < B) : NewDv (W.setCell ⟨j, i, none⟩ u) B a n c fa m fc ds fs qs :=
  ⟨h.bs.set_below hj, OwnE.block h.fs fun g hg => Below.heap_setCell _ _ _ _ (by have := (h.new g hg).1; show g ≠ j; omega), h.new⟩
theorem OwnFa.fr {w : World} {a : Option Addr} {c m : Nat} {fs : List FtD} (h : OwnFa w (.slice a m c) m fs) (hm : m ≤ 1048576) : FR w a m fs := ⟨OwnE.len h, hm, h.rd⟩
/-- A new device was answered. -/
def DvA (w : World) (D : DvD) (e : Ending) (w' : World) : Prop := ∃ a n c fa m fc qs, e = .returned (.agg #[.slice a n c, .int .i64 D.ops, .slice fa m fc, .bool D.down]) ∧ NewDv w' w.heap.size a n c fa m fc D.ds D.fs qs ∧ qs.length = n ∧ Below w.heap.size w w'
set_option maxHeartbeats 3200000 in
theorem toDev_any (a : Option Addr) (n cap : Nat) (bs : List BkR) (ops : Int) (fa : Option Addr) (m fc : Nat) (fs : List FtD) (down : Bool) (w : World) (ht : CR w a n bs) (hf : FR w fa m fs) :
    Calls Tryz.prog 36 #[.agg #[.slice a n cap, .int .i64 ops, .slice fa m fc, .bool down]] w fun e w' => ∃ g g' qs, e = .returned (.agg #[.slice (some ⟨g, 0, none⟩) n n, .int .i64 ops, .slice (some ⟨g', 0, none⟩) m m, .bool down]) ∧ NewDv w' w.heap.size (some ⟨g, 0, none⟩) n n (some ⟨g', 0, none⟩) m m (bs.map BkR.D) fs qs ∧ Below w.heap.size w w' := by
  have B0 : Below w.heap.size w (((w.alloc (.cells #[.slice a n cap, .int .i64 ops, .slice fa m fc, .bool down] 27)).alloc (.cells #[.slice none 0 0, .int .i64 0, .slice none 0 0, .bool false] 37)).alloc (.cells #[.slice none 0 0, .int .i64 0, .slice none 0 0, .bool false] 37)) := (((Below.refl _ w).alloc (Nat.le_refl _) _).alloc (by simp) _).alloc (by simp; omega) _
  obtain ⟨H, hH⟩ : ∃ H, w.heap.size = H := ⟨_, rfl⟩
  have z0 : Blk (((w.alloc (.cells #[.slice a n cap, .int .i64 ops, .slice fa m fc, .bool down] 27)).alloc (.cells #[.slice none 0 0, .int .i64 0, .slice none 0 0, .bool false] 37)).alloc (.cells #[.slice none 0 0, .int .i64 0, .slice none 0 0, .bool false] 37)) w.heap.size 27 #[.slice a n cap, .int .i64 ops, .slice fa m fc, .bool down] := ((Blk.new w 27 _).alloc _).alloc _
  have z1 := (Blk.new (w.alloc (.cells #[.slice a n cap, .int .i64 ops, .slice fa m fc, .bool down] 27)) 37 #[.slice none 0 0, .int .i64 0, .slice none 0 0, .bool false]).alloc (.cells #[.slice none 0 0, .int .i64 0, .slice none 0 0, .bool false] 37)
  have z2 := Blk.new ((w.alloc (.cells #[.slice a n cap, .int .i64 ops, .slice fa m fc, .bool down] 27)).alloc (.cells #[.slice none 0 0, .int .i64 0, .slice none 0 0, .bool false] 37)) 37 #[.slice none 0 0, .int .i64 0, .slice none 0 0, .bool false]
  have hs0 : (((w.alloc (.cells #[.slice a n cap, .int .i64 ops, .slice fa m fc, .bool down] 27)).alloc (.cells #[.slice none 0 0, .int .i64 0, .slice none 0 0, .bool false] 37)).alloc (.cells #[.slice none 0 0, .int .i64 0, .slice none 0 0, .bool false] 37)).heap.size = w.heap.size + 1 + 1 + 1 := by simp
  simp only [World.size_alloc] at z1 z2
  obtain ⟨W0, hW0⟩ : ∃ W, ((w.alloc (.cells #[.slice a n cap, .int .i64 ops, .slice fa m fc, .bool down] 27)).alloc (.cells #[.slice none 0 0, .int .i64 0, .slice none 0 0, .bool false] 37)).alloc (.cells #[.slice none 0 0, .int .i64 0, .slice none 0 0, .bool false] 37) = W := ⟨_, rfl⟩
  rw [hW0] at B0 z0 z1 z2 hs0
  have hcall := toChip_any a n cap bs W0 ht.len ht.tot (ht.rd.keep B0)
  have HF : Hid (FR w fa m fs) := hf
  rw [hH] at z0 z1 z2 hs0 B0
  rw [hs0] at hcall
  have x0 := z0.cell 0
  simp at x0
  have HB : Hid _ := B0
  clear ht B0 hf
  go_enter Tryz.func36, Tryz.ntmps36
  go_wp2_with fail
  refine hcall.mono ?_
  rintro e w1 ⟨g, qs, rfl, ho, hb1⟩
  have B2 := HB.out.trans (hb1.mono (by omega))
  have hw1 : H + 1 + 1 + 1 ≤ w1.heap.size := by have := hb1.size; omega
  have t0 := z0.keep (by rw [hs0]; exact hb1)
  have t1 := z1.keep (by rw [hs0]; exact hb1)
  have t2 := z2.keep (by rw [hs0]; exact hb1)
  clear z0 z1 z2 hb1 hcall x0
  have a1 := t0.cell 1
  have c0 := t2.cell 0
  have c1 := t2.cell 1
  have f0 := t2.frozen 0
  have f1 := t2.frozen 1
  have u0 := (t0.other (B' := H + 1 + 1) (by omega) 0 (.slice (some ⟨g, 0, none⟩) n n)).other (B' := H + 1 + 1) (by omega) 1 (.int .i64 ops)
  have u1 := (t1.other (B' := H + 1 + 1) (by omega) 0 (.slice (some ⟨g, 0, none⟩) n n)).other (B' := H + 1 + 1) (by omega) 1 (.int .i64 ops)
  have u2 := (t2.set 0 (.slice (some ⟨g, 0, none⟩) n n)).set 1 (.int .i64 ops)
  have a2 := u0.cell 2
  simp at a1 a2 c0 c1 u2
  have hsz1 : ((w1.setCell ⟨H + 1 + 1, 0, none⟩ (.slice (some ⟨g, 0, none⟩) n n)).setCell ⟨H + 1 + 1, 1, none⟩ (.int .i64 ops)).heap.size = w1.heap.size := by rw [size_setC, size_setC]
  have B3 : Below H w ((w1.setCell ⟨H + 1 + 1, 0, none⟩ (.slice (some ⟨g, 0, none⟩) n n)).setCell ⟨H + 1 + 1, 1, none⟩ (.int .i64 ops)) := (B2.setCell (p := ⟨H + 1 + 1, 0, none⟩) (by simp only; omega) _).setCell (p := ⟨H + 1 + 1, 1, none⟩) (by simp only; omega) _
  have ho1 := (ho.set_below (j := H + 1 + 1) (i := 0) (u := .slice (some ⟨g, 0, none⟩) n n) (by omega)).set_below (j := H + 1 + 1) (i := 1) (u := .int .i64 ops) (by omega)
  have hcall2 := toFaultS_any fa m fc fs ((w1.setCell ⟨H + 1 + 1, 0, none⟩ (.slice (some ⟨g, 0, none⟩) n n)).setCell ⟨H + 1 + 1, 1, none⟩ (.int .i64 ops)) (HF.out.keep (by rw [hH]; exact B3))
  have HO : Hid _ := ho1
  have HB3 : Hid _ := B3
  rw [hsz1] at hcall2
  clear ho ho1 B2 B3 t0 t1 t2 HB
  go_wp2_with fail
  refine hcall2.mono ?_
  rintro e w2 ⟨rfl, hfo, hb2⟩
  have hb2' : Below ((w1.setCell ⟨H + 1 + 1, 0, none⟩ (.slice (some ⟨g, 0, none⟩) n n)).setCell ⟨H + 1 + 1, 1, none⟩ (.int .i64 ops)).heap.size ((w1.setCell ⟨H + 1 + 1, 0, none⟩ (.slice (some ⟨g, 0, none⟩) n n)).setCell ⟨H + 1 + 1, 1, none⟩ (.int .i64 ops)) w2 := by rw [hsz1]; exact hb2
  have t0 := u0.keep hb2'
  have t1 := u1.keep hb2'
  have t2 := u2.keep hb2'
  have ho2 := HO.out.keep hb2'
  have B4 := HB3.out.trans (hb2.mono (by omega))
  have hfp : ∀ x ∈ fpBs (.slice (some ⟨g, 0, none⟩) n n) qs, x < w1.heap.size := fun x hx => by have := HO.out.own.lt x hx; rw [hsz1] at this; exact this
  obtain ⟨G, hG⟩ : ∃ G, w1.heap.size = G := ⟨_, rfl⟩
  have hnd : NewDv w2 (H + 1 + 1 + 1) (some ⟨g, 0, none⟩) n n (some ⟨G, 0, none⟩) m m (bs.map BkR.D) fs qs := ⟨ho2, by rw [← hG]; exact hfo, fun x hx => by
    simp [Value.ownBlock] at hx
    subst hx
    exact ⟨by omega, fun h => by have := hfp _ h; omega⟩⟩
  rw [hG] at hw1 ⊢
  have a3 := t0.cell 3
  have c2 := t2.cell 2
  have c3 := t2.cell 3
  have f2 := t2.frozen 2
  have f3 := t2.frozen 3
  have v2 := (t2.set 2 (.slice (some ⟨G, 0, none⟩) m m)).set 3 (.bool down)
  have v1 := (t1.other (B' := H + 1 + 1) (by omega) 2 (.slice (some ⟨G, 0, none⟩) m m)).other (B' := H + 1 + 1) (by omega) 3 (.bool down)
  have d0 := v2.cell 0
  have d1 := v2.cell 1
  have d2 := v2.cell 2
  have d3 := v2.cell 3
  have g0 := v1.cell 0
  have g1 := v1.cell 1
  have g2 := v1.cell 2
  have g3 := v1.cell 3
  have h0 := v1.frozen 0
  have h1 := v1.frozen 1
  have h2 := v1.frozen 2
  have h3 := v1.frozen 3
  have vr := (((v1.set 0 (.slice (some ⟨g, 0, none⟩) n n)).set 1 (.int .i64 ops)).set 2 (.slice (some ⟨G, 0, none⟩) m m)).set 3 (.bool down)
  have r0 := vr.cell 0
  have r1 := vr.cell 1
  have r2 := vr.cell 2
  have r3 := vr.cell 3
  simp at a3 c2 c3 d0 d1 d2 d3 g0 g1 g2 g3 r0 r1 r2 r3
  have HN : Hid _ := And.intro hnd B4
  clear hnd B4 hfo hb2 hb2' ho2 HO HB3 hcall2 u0 u1 u2 t0 t1 t2 v1 v2 vr a1 a2 c0 c1 f0 f1 hfp hG
  go_wp2
  refine bodyPost_ret (v := .agg #[.slice (some ⟨g, 0, none⟩) n n, .int .i64 ops, .slice (some ⟨G, 0, none⟩) m m, .bool down]) (by simp [results, Tryz.f36, go_sem, r0, r1, r2, r3]) rfl ?_
  obtain ⟨hnd, B2⟩ := HN.out
  have s : ∀ (W : World) (j i : Nat) (v : Value), H ≤ j → Below H w W → Below H w (W.setCell ⟨j, i, none⟩ v) := fun W j i v hj hb => hb.setCell (p := ⟨j, i, none⟩) hj v
  have k : ∀ (W : World) (j i : Nat) (v : Value), j < H + 1 + 1 + 1 → NewDv W (H + 1 + 1 + 1) (some ⟨g, 0, none⟩) n n (some ⟨G, 0, none⟩) m m (bs.map BkR.D) fs qs → NewDv (W.setCell ⟨j, i, none⟩ v) (H + 1 + 1 + 1) (some ⟨g, 0, none⟩) n n (some ⟨G, 0, none⟩) m m (bs.map BkR.D) fs qs := fun W j i v hj h => h.set_below hj
  refine ⟨g, G, qs, rfl, (k _ _ _ _ (by omega) (k _ _ _ _ (by omega) (k _ _ _ _ (by omega) (k _ _ _ _ (by omega) (k _ _ _ _ (by omega) (k _ _ _ _ (by omega) hnd)))))).wider (by omega), ?_⟩
  rw [hH]
  exact s _ _ _ _ (by omega) (s _ _ _ _ (by omega) (s _ _ _ _ (by omega) (s _ _ _ _ (by omega) (s _ _ _ _ (by omega) (s _ _ _ _ (by omega) B2)))))
set_option maxHeartbeats 1600000 in
/-- eqDev of two that say the same. -/
theorem eqDv {w : World} {B B' n c c' m fc fc' : Nat} {a a' fa fa' : Option Addr} {ds : List BkD} {fs : List FtD} {qs qs' : List BkR} (ops : Int) (down : Bool) (hn : ds.length = n) (hs : totB ds ≤ 4000000) (hm : m ≤ 1048576) (h : NewDv w B a n c fa m fc ds fs qs) (h' : NewDv w B' a' n c' fa' m fc' ds fs qs') :
    Calls Tryz.prog 41 #[.agg #[.slice a n c, .int .i64 ops, .slice fa m fc, .bool down], .agg #[.slice a' n c', .int .i64 ops, .slice fa' m fc', .bool down]] w fun e w' => e = .returned (.bool true) ∧ Below w.heap.size w w' := by
  have B0 : Below w.heap.size w ((w.alloc (.cells #[.slice a n c, .int .i64 ops, .slice fa m fc, .bool down] 37)).alloc (.cells #[.slice a' n c', .int .i64 ops, .slice fa' m fc', .bool down] 37)) := ((Below.refl _ w).alloc (Nat.le_refl _) _).alloc (by simp) _
  have z0 := (Blk.new w 37 #[.slice a n c, .int .i64 ops, .slice fa m fc, .bool down]).alloc (.cells #[.slice a' n c', .int .i64 ops, .slice fa' m fc', .bool down] 37)
  have z1 := Blk.new (w.alloc (.cells #[.slice a n c, .int .i64 ops, .slice fa m fc, .bool down] 37)) 37 #[.slice a' n c', .int .i64 ops, .slice fa' m fc', .bool down]
  simp only [World.size_alloc] at z1
  have hcall := eqNew hn hs (h.bs.keep B0) (h'.bs.keep B0)
  have e0 : (ops != ops) = false := by simp
  have e1 : (down != down) = false := by simp
  have HF : Hid _ := OwnFa.fr (OwnE.keep h.fs B0) hm
  have HF' : Hid _ := OwnFa.fr (OwnE.keep h'.fs B0) hm
  obtain ⟨H, hH⟩ : ∃ H, w.heap.size = H := ⟨_, rfl⟩
  have q0 := z0.cell 0
  have p0 := z1.cell 0
  simp at q0 p0
  have HB : Hid _ := B0
  clear h h' hn B0
  go_enter Tryz.func41, Tryz.ntmps41
  go_wp2_with fail
  refine hcall.mono ?_
  rintro e w1 ⟨rfl, hb1⟩
  have t0 := z0.keep hb1
  have t1 := z1.keep hb1
  have hcall2 := eqFaultS_same fa fa' m fc fc' fs w1 (HF.out.keep hb1) (HF'.out.keep hb1)
  have B1 := HB.out.trans (hb1.mono HB.out.size)
  clear q0 p0 hcall z0 z1 HF HF' HB hb1
  have q1 := t0.cell 1
  have q2 := t0.cell 2
  have p1 := t1.cell 1
  have p2 := t1.cell 2
  rw [hH] at q1 q2 p1 p2 t0 t1
  simp at q1 q2 p1 p2
  have HB : Hid _ := B1
  clear B1
  go_wp2_with fail
  refine hcall2.mono ?_
  rintro e w2 ⟨rfl, hb2⟩
  have q3 := (t0.keep hb2).cell 3
  have p3 := (t1.keep hb2).cell 3
  simp at q3 p3
  clear q1 q2 p1 p2 t0 t1 hcall2
  go_wp2
  go_ret
  exact ⟨rfl, HB.out.trans (hb2.mono HB.out.size)⟩
/-- The marks. -/
def mkFa (k m : Nat) : List FtD := (List.range m).map fun i => ⟨((k + 3 * i : Nat) : Int), ((k + 3 * i + 1 : Nat) : Int), ((k + 3 * i + 2 : Nat) : Int)⟩
theorem mkFa_len (k m : Nat) : (mkFa k m).length = m := by simp [mkFa]
theorem mkFa_at {k m i : Nat} (h : i < m) : (mkFa k m)[i]? = some ⟨((k + 3 * i : Nat) : Int), ((k + 3 * i + 1 : Nat) : Int), ((k + 3 * i + 2 : Nat) : Int)⟩ := by simp [mkFa, h]
theorem mkFa_set {k i : Nat} {fs : List FtD} (h : i < fs.length) : (mkFa k i ++ fs.drop i).set i ⟨((k + 3 * i : Nat) : Int), ((k + 3 * i + 1 : Nat) : Int), ((k + 3 * i + 2 : Nat) : Int)⟩ = mkFa k (i + 1) ++ fs.drop (i + 1) := by
  rw [List.set_append_right _ _ (by rw [mkFa_len]; omega), mkFa_len, Nat.sub_self, List.drop_eq_getElem_cons h, List.set_cons_zero]
  simp [mkFa, List.range_succ]
theorem mkFa_now {k i : Nat} {fs : List FtD} {r : FtD} (h : fs[i]? = some r) : (mkFa k i ++ fs.drop i)[i]? = some r := by
  rw [List.getElem?_append_right (by rw [mkFa_len]; omega), mkFa_len, Nat.sub_self, List.getElem?_drop]
  simpa using h
set_option maxRecDepth 100000 in
set_option maxHeartbeats 4000000 in
theorem markFaultS_any (v : Value) (n k0 : Nat) (fs : List FtD) (w : World) (h1 : 1 ≤ k0) (hs : k0 + 3 * n ≤ 9999990) (hO : OwnFa w v n fs) :
    Calls Tryz.prog 82 #[v, .int .i64 k0] w fun e w' => e = .returned (.int .i64 ((k0 + 3 * n : Nat) : Int)) ∧ OwnFa w' v n (mkFa k0 n) ∧ Sv v.ownBlock.toList w w' := by
  have hln : fs.length = n := OwnE.len hO
  have hO1 : OwnE ftE 54 w v n fs := hO
  rcases hO1.cases with ⟨rfl, rfl, rfl⟩ | ⟨g, c, rfl, hglt⟩
  · go_enter Tryz.func82, Tryz.ntmps82
    go_wp2
    refine wp_loop_rounds 1 ?_; rw [rounds_succ]
    go_wp2
    go_ret
    exact ⟨by simp, hO, Sv.refl _ _⟩
  · have HO : Hid (OwnE ftE 54 w (.slice (some ⟨g, 0, none⟩) n c) n (mkFa k0 0 ++ fs.drop 0)) := hO
    have HN : Hid (fs.length = n) := hln
    clear hO hO1 hln
    go_enter Tryz.func82, Tryz.ntmps82
    go_wp2
    go_loopw [1, 5] (fun q i wr => ∃ (k m : Nat), k ≤ n ∧ i = .int .i64 k ∧ q = .int .i64 (m : Int) ∧ Hid (m = k0 + 3 * k) ∧ Hid (OwnE ftE 54 wr (.slice (some ⟨g, 0, none⟩) n c) n (mkFa k0 k ++ fs.drop k)) ∧ Hid (Sv [g] w wr)) (fun _ i _ => n - (intOf i).toNat)
    case atStart => exact ⟨0, k0, Nat.zero_le _, rfl, rfl, by show _ = _; omega, HO, Sv.refl _ _⟩
    case round =>
      obtain ⟨k, m, hk, rfl, rfl, hm, hOw, hSv⟩ := hrel
      by_cases hkn : k < n
      · have hki : (k : Int) < (n : Int) := by omega
        have hmo := hm.out
        have hm9 : m + 3 ≤ 9999990 := by omega
        obtain ⟨r, hrk⟩ : ∃ r, fs[k]? = some r := ⟨_, List.getElem?_eq_getElem (by rw [HN.out]; exact hkn)⟩
        have hat := mkFa_now (k := k0) hrk
        have hown := hOw.out
        have q0 : wr.cell? ⟨g, k * 3, none⟩ = some (.int .i64 r.tm) := hown.cell k 0 r hat (by decide)
        have f0 : wr.frozen? ⟨g, k * 3, none⟩ = false := hown.frozen (k * 3)
        have s0 := hown.set k 0 r ⟨(m : Int), r.kd, r.kp⟩ (.int .i64 (m : Int)) hat (by decide) (by simp [ftE])
        have a1 : ((mkFa k0 k ++ fs.drop k).set k ⟨(m : Int), r.kd, r.kp⟩)[k]? = some ⟨(m : Int), r.kd, r.kp⟩ := by rw [List.getElem?_set_self (List.getElem?_eq_some_iff.1 hat).1]
        have q1 : (wr.setCell ⟨g, k * 3, none⟩ (.int .i64 (m : Int))).cell? ⟨g, k * 3 + 1, none⟩ = some (.int .i64 r.kd) := s0.cell k 1 ⟨(m : Int), r.kd, r.kp⟩ a1 (by decide)
        have f1 : (wr.setCell ⟨g, k * 3, none⟩ (.int .i64 (m : Int))).frozen? ⟨g, k * 3 + 1, none⟩ = false := s0.frozen (k * 3 + 1)
        have s1 := s0.set k 1 ⟨(m : Int), r.kd, r.kp⟩ ⟨(m : Int), (m : Int) + 1, r.kp⟩ (.int .i64 ((m : Int) + 1)) a1 (by decide) (by simp [ftE])
        rw [set_set_at] at s1
        have a2 : ((mkFa k0 k ++ fs.drop k).set k ⟨(m : Int), (m : Int) + 1, r.kp⟩)[k]? = some ⟨(m : Int), (m : Int) + 1, r.kp⟩ := by rw [List.getElem?_set_self (List.getElem?_eq_some_iff.1 hat).1]
        have q2 : ((wr.setCell ⟨g, k * 3, none⟩ (.int .i64 (m : Int))).setCell ⟨g, k * 3 + 1, none⟩ (.int .i64 ((m : Int) + 1))).cell? ⟨g, k * 3 + 2, none⟩ = some (.int .i64 r.kp) := s1.cell k 2 ⟨(m : Int), (m : Int) + 1, r.kp⟩ a2 (by decide)
        have f2 : ((wr.setCell ⟨g, k * 3, none⟩ (.int .i64 (m : Int))).setCell ⟨g, k * 3 + 1, none⟩ (.int .i64 ((m : Int) + 1))).frozen? ⟨g, k * 3 + 2, none⟩ = false := s1.frozen (k * 3 + 2)
        have s2 := s1.set k 2 ⟨(m : Int), (m : Int) + 1, r.kp⟩ ⟨(m : Int), (m : Int) + 1, (m : Int) + 1 + 1⟩ (.int .i64 ((m : Int) + 1 + 1)) a2 (by decide) (by simp [ftE])
        rw [set_set_at, show (⟨(m : Int), (m : Int) + 1, (m : Int) + 1 + 1⟩ : FtD) = ⟨((k0 + 3 * k : Nat) : Int), ((k0 + 3 * k + 1 : Nat) : Int), ((k0 + 3 * k + 2 : Nat) : Int)⟩ by rw [FtD.mk.injEq]; omega, mkFa_set (by rw [HN.out]; exact hkn)] at s2
        have S2 : Hid _ := s2
        have HSV : Hid (Sv [g] w (((wr.setCell ⟨g, k * 3, none⟩ (.int .i64 (m : Int))).setCell ⟨g, k * 3 + 1, none⟩ (.int .i64 ((m : Int) + 1))).setCell ⟨g, k * 3 + 2, none⟩ (.int .i64 ((m : Int) + 1 + 1)))) := hSv.out.trans (Sv.gr (gr_more (gr_more (gr_setC wr g (k * 3) _) _ _) _ _) (fun x hx => by simp at hx; simp [hx]))
        have HT : Hid (m + 3 = k0 + 3 * (k + 1)) := by show _ = _; omega
        clear hmo hown s0 s1 s2 a1 a2 hat hrk
        go_wp2
        go_roundw
        case rel => exact ⟨k + 1, m + 3, by omega, by go_num, by go_num, HT, S2, HSV⟩
        case measure => simp [intOf]; omega
      · have hki : ¬ (k : Int) < (n : Int) := by omega
        obtain rfl : k = n := by omega
        go_wp2
        go_ret
        have := hOw.out
        rw [List.drop_of_length_le (by rw [HN.out]; omega), List.append_nil] at this
        have hmm := hm.out
        exact ⟨by show Ending.returned (.int .i64 (m : Int)) = _; exact ret_int (by omega), this, hSv.out⟩
set_option maxRecDepth 100000 in
set_option maxHeartbeats 4000000 in
theorem heldFaultS_any (v : Value) (n k0 : Nat) (w : World) (h1 : 1 ≤ k0) (hs : k0 + 3 * n ≤ 9999990) (hO : OwnFa w v n (mkFa k0 n)) :
    Calls Tryz.prog 84 #[v, .int .i64 k0] w fun e w' => e = .returned (.int .i64 ((k0 + 3 * n : Nat) : Int)) ∧ w' = w := by
  have hO1 : OwnE ftE 54 w v n (mkFa k0 n) := hO
  rcases hO1.cases with ⟨rfl, rfl, _⟩ | ⟨g, c, rfl, hglt⟩
  · go_enter Tryz.func84, Tryz.ntmps84
    go_wp2
    refine wp_loop_rounds 1 ?_; rw [rounds_succ]
    go_wp2
    go_ret
    exact ⟨by simp, rfl⟩
  · have HO : Hid (OwnE ftE 54 w (.slice (some ⟨g, 0, none⟩) n c) n (mkFa k0 n)) := hO
    clear hO hO1
    go_enter Tryz.func84, Tryz.ntmps84
    go_wp2
    go_loopw [1, 5] (fun q i wr => ∃ (k m : Nat), k ≤ n ∧ i = .int .i64 k ∧ q = .int .i64 (m : Int) ∧ Hid (m = k0 + 3 * k) ∧ w = wr) (fun _ i _ => n - (intOf i).toNat)
    case atStart => exact ⟨0, k0, Nat.zero_le _, rfl, rfl, by show _ = _; omega, rfl⟩
    case round =>
      obtain ⟨k, m, hk, rfl, rfl, hm, rfl⟩ := hrel
      by_cases hkn : k < n
      · have hki : (k : Int) < (n : Int) := by omega
        have hmo := hm.out
        have hm9 : m + 3 ≤ 9999990 := by omega
        have hat := mkFa_at (k := k0) hkn
        have q0 : w.cell? ⟨g, k * 3, none⟩ = some (.int .i64 (m : Int)) := (HO.out.cell k 0 _ hat (by decide)).trans (by simp [ftE]; omega)
        have q1 : w.cell? ⟨g, k * 3 + 1, none⟩ = some (.int .i64 ((m : Int) + 1)) := (HO.out.cell k 1 _ hat (by decide)).trans (by simp [ftE]; omega)
        have q2 : w.cell? ⟨g, k * 3 + 2, none⟩ = some (.int .i64 ((m : Int) + 1 + 1)) := (HO.out.cell k 2 _ hat (by decide)).trans (by simp [ftE]; omega)
        have e0 : ((m : Int) != (m : Int)) = false := by simp
        have e1 : ((m : Int) + 1 != (m : Int) + 1) = false := by simp
        have e2 : ((m : Int) + 1 + 1 != (m : Int) + 1 + 1) = false := by simp
        have HT : Hid (m + 3 = k0 + 3 * (k + 1)) := by show _ = _; omega
        clear hmo hat
        go_wp2
        go_roundw
        case rel => exact ⟨k + 1, m + 3, by omega, by go_num, by go_num, HT, trivial⟩
        case measure => simp [intOf]; omega
      · have hki : ¬ (k : Int) < (n : Int) := by omega
        obtain rfl : k = n := by omega
        go_wp2
        go_ret
        have hmm := hm.out
        exact ⟨by show Ending.returned (.int .i64 (m : Int)) = _; exact ret_int (by omega), rfl⟩
/-- Marked. -/
structure MkDv (w : World) (v : Value) (m fc : Nat) (fa : Option Addr) (qs : List BkR) : Prop where
  bs : OwnBs w v (mkBs 1 qs)
  fs : OwnFa w (.slice fa m fc) m (mkFa (1 + cBs qs) m)
theorem MkDv.keep {w w' : World} {v : Value} {m fc : Nat} {fa : Option Addr} {qs : List BkR} (h : MkDv w v m fc fa qs) (hb : Below w.heap.size w w') : MkDv w' v m fc fa qs := ⟨h.bs.keep hb, OwnE.keep h.fs hb⟩
set_option maxHeartbeats 1600000 in
theorem markDv_any {w : World} {B n c m fc : Nat} {a fa : Option Addr} {ds : List BkD} {fs : List FtD} {qs : List BkR} (ops : Int) (down : Bool) (hs : 1 + cBs qs + 3 * m ≤ 9999990) (h : NewDv w B a n c fa m fc ds fs qs) :
    Calls Tryz.prog 42 #[.agg #[.slice a n c, .int .i64 ops, .slice fa m fc, .bool down], .int .i64 1] w fun e w' => e = .returned (.int .i64 ((1 + cBs qs + 3 * m : Nat) : Int)) ∧ MkDv w' (.slice a n c) m fc fa qs ∧ Sv (fpDv a n c fa m fc qs) w w' := by
  have B0 : Below w.heap.size w (w.alloc (.cells #[.slice a n c, .int .i64 ops, .slice fa m fc, .bool down] 37)) := (Below.refl _ w).alloc (Nat.le_refl _) _
  have z0 := Blk.new w 37 #[.slice a n c, .int .i64 ops, .slice fa m fc, .bool down]
  have hcall := markCh_any (.slice a n c) 1 qs (w.alloc (.cells #[.slice a n c, .int .i64 ops, .slice fa m fc, .bool down] 37)) (Nat.le_refl _) (by omega) (h.bs.own.keep B0) h.bs.nd
  have hlt : Hid (∀ g ∈ fpDv a n c fa m fc qs, g < w.heap.size) := h.lt
  have HD : Hid _ := h.keep B0
  have HB : Hid _ := B0
  clear h B0
  go_enter Tryz.func42, Tryz.ntmps42
  go_wp2_with fail
  refine hcall.mono ?_
  rintro e w1 ⟨rfl, hO, hsv⟩
  have t0 := Blk.svs z0 hsv (fun hf => by have := hlt.out w.heap.size (fpDv_bs hf); omega)
  have hfo : OwnFa w1 (.slice fa m fc) m fs := OwnE.block HD.out.fs fun g hg => hsv.block g (OwnE.lt HD.out.fs hg) (HD.out.new g hg).2
  have q2 := t0.cell 2
  simp at q2
  have hcall2 := markFaultS_any (.slice fa m fc) m (1 + cBs qs) fs w1 (by omega) hs hfo
  have HO : Hid (OwnBs w1 (.slice a n c) (mkBs 1 qs)) := hO
  have HSV : Hid _ := hsv
  obtain ⟨Q, hQ⟩ : ∃ Q, 1 + cBs qs = Q := ⟨_, rfl⟩
  rw [hQ] at hcall2 ⊢
  clear hcall z0 hO hsv hfo t0
  go_wp2_with fail
  refine hcall2.mono ?_
  rintro e w2 ⟨rfl, hF, hsv2⟩
  clear hcall2 q2
  go_wp2
  go_ret
  refine ⟨by show Ending.returned (.int .i64 ((Q : Int) + 3 * (m : Int))) = _; exact ret_int (by omega), ⟨HO.out.svs hsv2 (fun g hg hf => ?_), by rw [hQ]; exact hF⟩, ?_⟩
  · have h3 : g ∈ fpBs (.slice a n c) qs := by
      have : fpBs (.slice a n c) (mkBs 1 qs) = fpBs (.slice a n c) qs := by unfold fpBs; rw [fp_mkBs]
      rw [this] at hg; exact hg
    exact (HD.out.new g (by simpa using hf)).2 h3
  · exact ((Below.sv HB.out _).trans (HSV.out.wider fun g hg => fpDv_bs hg)).trans (hsv2.wider fun g hg => fpDv_fs (by simpa using hg))
set_option maxHeartbeats 1600000 in
theorem heldDv_any {w : World} {n c m fc : Nat} {a fa : Option Addr} {qs : List BkR} (ops : Int) (down : Bool) (Q : Nat) (hQ : 1 + cBs qs + 3 * m = Q) (hs : 1 + cBs qs + 3 * m ≤ 9999990) (h : MkDv w (.slice a n c) m fc fa qs) :
    Calls Tryz.prog 43 #[.agg #[.slice a n c, .int .i64 ops, .slice fa m fc, .bool down], .int .i64 1] w fun e w' => e = .returned (.int .i64 (Q : Int)) ∧ Below w.heap.size w w' := by
  have B0 : Below w.heap.size w (w.alloc (.cells #[.slice a n c, .int .i64 ops, .slice fa m fc, .bool down] 37)) := (Below.refl _ w).alloc (Nat.le_refl _) _
  have z0 := Blk.new w 37 #[.slice a n c, .int .i64 ops, .slice fa m fc, .bool down]
  have hcall := heldCh_any (.slice a n c) 1 qs (w.alloc (.cells #[.slice a n c, .int .i64 ops, .slice fa m fc, .bool down] 37)) (Nat.le_refl _) (by omega) (h.bs.keep B0)
  have HD : Hid _ := h.keep B0
  have HB : Hid _ := B0
  clear h B0
  obtain ⟨R, hR⟩ : ∃ R, 1 + cBs qs = R := ⟨_, rfl⟩
  have HR : Hid _ := hR
  rw [hR] at hcall hs hQ
  have hR0 : ¬ (R : Int) < 0 := by omega
  have hQ0 : ¬ (Q : Int) < 0 := by omega
  clear hR
  go_enter Tryz.func43, Tryz.ntmps43
  go_wp2_with fail
  refine hcall.mono ?_
  rintro e w1 ⟨rfl, hb1⟩
  have q2 := (z0.keep hb1).cell 2
  simp at q2
  have hfo := (HD.out.keep hb1).fs
  rw [HR.out] at hfo
  have hcall2 := heldFaultS_any (.slice fa m fc) m R w1 (by have := HR.out; omega) hs hfo
  rw [hQ] at hcall2
  have B1 := HB.out.trans (hb1.mono HB.out.size)
  clear hcall z0 hb1 hfo hQ
  go_wp2_with fail
  refine hcall2.mono ?_
  rintro e w2 ⟨rfl, hw⟩
  obtain rfl := hw.symm
  clear hcall2 q2
  go_wp2
  go_ret
  exact ⟨rfl, B1⟩
end
end Go.Proofs.YtnhbhpbmnlojlaaGreatDoor
