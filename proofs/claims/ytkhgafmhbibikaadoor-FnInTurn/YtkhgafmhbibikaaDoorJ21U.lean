/-
  Joined: ChMk, ChUp.
-/
import Derived.Test.YtkhgafmhbibikaaDoorJ10U
namespace Go.Proofs.YtkhgafmhbibikaaDoor
section
open Go.RowKit
/-- A page, a block, marked from k on. -/
def mkPg (k : Nat) (p : PgR) : PgR := ⟨decide (k % 3 = 0), p.a, p.cap, marksG (k + 1) p.zs.length⟩
def mkPs : Nat → List PgR → List PgR
  | _, [] => []
  | k, p :: ps => mkPg k p :: mkPs (k + (1 + p.zs.length)) ps
theorem mkPg_v (k : Nat) (p : PgR) : (mkPg k p).v = p.v := by simp [mkPg, PgR.v, marksG]
theorem mkPs_append (k : Nat) (xs ys : List PgR) : mkPs k (xs ++ ys) = mkPs k xs ++ mkPs (k + totP (xs.map PgR.D)) ys := by
  induction xs generalizing k with
  | nil => simp [mkPs, totP]
  | cons x xs ih =>
    simp only [List.cons_append, mkPs, List.map_cons]
    rw [ih, totP_cons, show k + (1 + x.zs.length) + totP (xs.map PgR.D) = k + (1 + x.D.zs.length + totP (xs.map PgR.D)) by simp only [PgR.D]; omega]
theorem mkPs_length (k : Nat) (ps : List PgR) : (mkPs k ps).length = ps.length := by
  induction ps generalizing k with
  | nil => rfl
  | cons p ps ih => simp [mkPs, ih]
theorem mkPs_take {k i : Nat} {ps : List PgR} {p : PgR} (h : ps[i]? = some p) : mkPs k (ps.take (i + 1)) = mkPs k (ps.take i) ++ [mkPg (k + totP ((ps.take i).map PgR.D)) p] := by
  rw [List.take_add_one, h, mkPs_append]
  rfl
theorem totP_take {i : Nat} {ps : List PgR} {p : PgR} (h : ps[i]? = some p) : totP ((ps.take (i + 1)).map PgR.D) = totP ((ps.take i).map PgR.D) + (1 + p.zs.length) := by
  rw [List.take_add_one, h]
  simp [totP, PgR.D]
theorem totP_take_le (i : Nat) (ps : List PgR) : totP ((ps.take i).map PgR.D) ≤ totP (ps.map PgR.D) := by
  have : totP (ps.map PgR.D) = totP ((ps.take i).map PgR.D) + totP ((ps.drop i).map PgR.D) := by rw [← totP_append, ← List.map_append, List.take_append_drop]
  omega
theorem fp_mkPs (k : Nat) (ps : List PgR) : (mkPs k ps).flatMap (fun p => p.v.ownBlock.toList) = ps.flatMap fun p => p.v.ownBlock.toList := by
  induction ps generalizing k with
  | nil => rfl
  | cons p ps ih => simp only [mkPs, List.flatMap_cons, ih, mkPg_v]
/-- The pages behind i rounds. -/
def rowP (k : Nat) (ps : List PgR) (i : Nat) : List PgR := mkPs k (ps.take i) ++ ps.drop i
theorem fp_rowP (v : Value) (k : Nat) (ps : List PgR) (i : Nat) : fpPs v (rowP k ps i) = fpPs v ps := by
  unfold fpPs rowP
  rw [List.flatMap_append, fp_mkPs, ← List.flatMap_append, List.take_append_drop]
theorem rowP_all (k : Nat) (ps : List PgR) (n : Nat) (h : ps.length = n) : rowP k ps n = mkPs k ps := by subst h; simp [rowP]
theorem rowP_len (k : Nat) (ps : List PgR) (i : Nat) : (rowP k ps i).length = ps.length := by
  unfold rowP
  rw [List.length_append, mkPs_length, ← List.length_append, List.take_append_drop]
theorem rowP_at {k i : Nat} {ps : List PgR} {p : PgR} (h : ps[i]? = some p) : (rowP k ps i)[i]? = some p := by
  have hl := (List.getElem?_eq_some_iff.1 h).1
  unfold rowP
  rw [List.getElem?_append_right (by rw [mkPs_length, List.length_take]; omega), mkPs_length, List.length_take, List.getElem?_drop, show i + (i - min i ps.length) = i by omega, h]
theorem rowP_set {k i : Nat} {ps : List PgR} {p : PgR} (h : ps[i]? = some p) : (rowP k ps i).set i (mkPg (k + totP ((ps.take i).map PgR.D)) p) = rowP k ps (i + 1) := by
  obtain ⟨hl, he⟩ := List.getElem?_eq_some_iff.1 h
  unfold rowP
  rw [List.set_append_right _ _ (by rw [mkPs_length, List.length_take]; omega), mkPs_length, List.length_take, show i - min i ps.length = 0 by omega, List.drop_eq_getElem_cons hl, List.set_cons_zero, mkPs_take h, List.append_assoc]
  rfl
theorem mem_set {α : Type} {l : List α} {i : Nat} {x y : α} (h : y ∈ l.set i x) : y = x ∨ ∃ j, j ≠ i ∧ l[j]? = some y := by
  obtain ⟨j, hj⟩ := List.mem_iff_getElem?.1 h
  by_cases e : j = i
  · subst e
    left
    rw [List.getElem?_set_self (by have := (List.getElem?_eq_some_iff.1 hj).1; simpa using this)] at hj
    simpa using hj.symm
  · right
    rw [List.getElem?_set_ne (fun h => e h.symm)] at hj
    exact ⟨j, e, hj⟩
/-- Of a list without doubles what one element takes is not taken by another one. -/
theorem flat_apart {α : Type} {f : α → List Nat} {l : List α} (hd : (l.flatMap f).Nodup) {i j : Nat} {x y : α} (hi : l[i]? = some x) (hj : l[j]? = some y) (hne : i ≠ j) {g : Nat} (hx : g ∈ f x) : g ∉ f y := by
  induction l generalizing i j with
  | nil => simp at hi
  | cons z l ih =>
    rw [List.flatMap_cons, List.nodup_append] at hd
    cases i with
    | zero =>
      cases j with
      | zero => omega
      | succ j =>
        simp at hi hj
        subst hi
        intro hy
        exact hd.2.2 g hx g (List.mem_flatMap.2 ⟨y, List.mem_of_getElem? hj, hy⟩) rfl
    | succ i =>
      cases j with
      | zero =>
        simp at hi hj
        subst hj
        intro hy
        exact hd.2.2 g hy g (List.mem_flatMap.2 ⟨x, List.mem_of_getElem? hi, hx⟩) rfl
      | succ j => exact ih hd.2.1 (by simpa using hi) (by simpa using hj) (by omega)
/-- One page marked: the row's cell first, then the bytes. -/
theorem markP_step {wr w1 : World} {g c n i k0 : Nat} {ps : List PgR} {p : PgR} (hn : ps.length = n) (hp : ps[i]? = some p) (hnd : (fpPs (.slice (some ⟨g, 0, none⟩) n c) ps).Nodup)
    (hO : OwnPs wr (.slice (some ⟨g, 0, none⟩) n c) (rowP k0 ps i)) (u : Bool) (hu : u = decide ((k0 + totP ((ps.take i).map PgR.D)) % 3 = 0))
    (hR : RowB w1 p.v p.zs.length (marksG (k0 + totP ((ps.take i).map PgR.D) + 1) p.zs.length)) (hgr : (wr.setCell ⟨g, i * 2, none⟩ (.bool u)).grownBy w1 p.v.ownBlock) :
    OwnPs w1 (.slice (some ⟨g, 0, none⟩) n c) (rowP k0 ps (i + 1)) ∧ Sv (fpPs (.slice (some ⟨g, 0, none⟩) n c) ps) wr w1 := by
  have hfp := fp_rowP (.slice (some ⟨g, 0, none⟩) n c) k0 ps i
  have hat := rowP_at (k := k0) hp
  have hin : g ∉ (ps.flatMap fun q => q.v.ownBlock.toList) := by
    unfold fpPs at hnd
    rw [List.nodup_append] at hnd
    intro h
    exact hnd.2.2 g (by simp [Value.ownBlock]) g h rfl
  have hin' : ∀ q ∈ rowP k0 ps i, g ∉ q.v.ownBlock.toList := fun q hq h => by
    have h2 : g ∈ (rowP k0 ps i).flatMap fun q => q.v.ownBlock.toList := List.mem_flatMap.2 ⟨q, hq, h⟩
    unfold rowP at h2
    rw [List.flatMap_append, fp_mkPs, ← List.flatMap_append, List.take_append_drop] at h2
    exact hin h2
  have hlr := rowP_len k0 ps i
  have hown : OwnE pgE 56 wr (.slice (some ⟨g, 0, none⟩) n c) n (rowP k0 ps i) := by have := hO.1; rw [hlr, hn] at this; exact this
  have hglt := hown.lt (g := g) rfl
  have hpo := hO.2 p (List.mem_of_getElem? hat)
  have hpm : p ∈ ps := List.mem_of_getElem? hp
  have hgp : p.v.ownBlock ≠ some g := fun e => hin' p (List.mem_of_getElem? hat) (by simp [e])
  have s1 := hown.set i 0 p ⟨u, p.a, p.cap, p.zs⟩ (.bool u) hat (by decide) rfl
  have s2 : OwnE pgE 56 w1 (.slice (some ⟨g, 0, none⟩) n c) n ((rowP k0 ps i).set i ⟨u, p.a, p.cap, p.zs⟩) := s1.block fun j hj => by
    simp [Value.ownBlock] at hj
    subst hj
    exact hgr.block g (by rw [size_setC]; exact hglt) (fun e => hgp e.symm)
  have s3 : OwnE pgE 56 w1 (.slice (some ⟨g, 0, none⟩) n c) n (rowP k0 ps (i + 1)) := by
    have hx : pgE.xv ((rowP k0 ps i).set i ⟨u, p.a, p.cap, p.zs⟩) = pgE.xv (rowP k0 ps (i + 1)) := by
      rw [← rowP_set hp]
      have e : pgE.en (mkPg (k0 + totP ((ps.take i).map PgR.D)) p) = pgE.en ⟨u, p.a, p.cap, p.zs⟩ := by simp [pgE, mkPg, marksG, hu]
      have hx1 := pgE.xv_set (rowP k0 ps i) i 0 p ⟨u, p.a, p.cap, p.zs⟩ (.bool u) hat (by decide) rfl
      have hx2 := pgE.xv_set (rowP k0 ps i) i 0 p (mkPg (k0 + totP ((ps.take i).map PgR.D)) p) (.bool u) hat (by decide) (by rw [e]; rfl)
      rw [← hx1, ← hx2]
    have := s2
    unfold OwnE at this ⊢
    rw [hx] at this
    exact this
  have hsv : Sv (fpPs (.slice (some ⟨g, 0, none⟩) n c) ps) wr w1 := by
    refine Sv.trans (b := wr.setCell ⟨g, i * 2, none⟩ (.bool u)) (Sv.gr (gr_setC wr g (i * 2) _) fun j hj => ?_) (Sv.gr hgr fun j hj => ?_)
    · simp at hj; subst hj; exact fpPs_row rfl
    · exact fpPs_pg hpm hj
  refine ⟨⟨by rw [rowP_len, hn]; exact s3, fun q hq => ?_⟩, hsv⟩
  rw [← rowP_set hp] at hq
  rcases mem_set hq with rfl | ⟨j, hj, hqj⟩
  · show RowB w1 (mkPg _ p).v (mkPg _ p).zs.length (mkPg _ p).zs
    rw [mkPg_v]
    have : (mkPg (k0 + totP ((ps.take i).map PgR.D)) p).zs.length = p.zs.length := by simp [mkPg, marksG]
    rw [this]
    exact hR
  · have hnd' : ((rowP k0 ps i).flatMap fun q => q.v.ownBlock.toList).Nodup := by
      rw [← hfp] at hnd
      unfold fpPs at hnd
      exact (List.nodup_append.1 hnd).2.1
    refine (hO.2 q (List.mem_of_getElem? hqj)).block fun b hb => ?_
    have hbl := (hO.2 q (List.mem_of_getElem? hqj)).lt hb
    rw [hgr.block b (by rw [size_setC]; exact hbl) (fun e => flat_apart (g := b) hnd' hat hqj (fun h => hj h.symm) (by rw [← e]; simp) (by rw [hb]; simp))]
    refine Below.heap_setCell _ _ _ _ ?_
    show b ≠ g
    intro e
    subst e
    exact hin' q (List.mem_of_getElem? hqj) (by simp [hb])
theorem rem3b (m : Nat) : ((m : Int) % 3 == 0) = decide (m % 3 = 0) := by
  by_cases h : m % 3 = 0
  · have h2 : (m : Int) % 3 = 0 := by omega
    rw [h2, h]
    rfl
  · have h2 : (m : Int) % 3 ≠ 0 := by omega
    simp [h]
    omega
set_option maxRecDepth 100000 in
set_option maxHeartbeats 4000000 in
theorem markPs_any (v : Value) (n k0 : Nat) (ps : List PgR) (w : World) (hn : ps.length = n) (h1 : 1 ≤ k0) (hs : k0 + totP (ps.map PgR.D) ≤ 9999990) (hO : OwnPs w v ps) (hnd : (fpPs v ps).Nodup) :
    Calls Tryd.prog 68 #[v, .int .i64 k0] w fun e w' => e = .returned (.int .i64 ((k0 + totP (ps.map PgR.D) : Nat) : Int)) ∧ OwnPs w' v (mkPs k0 ps) ∧ Sv (fpPs v ps) w w' := by
  have hl := totP_len (ps.map PgR.D)
  simp only [List.length_map] at hl
  have hnb : n ≤ 9999990 := by omega
  have hO1 := hO.1
  rw [hn] at hO1
  rcases hO1.cases with ⟨rfl, rfl, rfl⟩ | ⟨g, c, rfl, hglt⟩
  · go_enter Tryd.func68, Tryd.ntmps68
    go_wp2
    refine wp_loop_rounds 1 ?_; rw [rounds_succ]
    go_wp2
    go_ret
    exact ⟨by simp [totP], hO, Sv.refl _ _⟩
  · have HO : Hid (OwnPs w (.slice (some ⟨g, 0, none⟩) n c) (rowP k0 ps 0)) := hO
    have HN : Hid (ps.length = n) := hn
    have HND : Hid ((fpPs (.slice (some ⟨g, 0, none⟩) n c) ps).Nodup) := hnd
    clear hO hO1 hnd hn
    go_enter Tryd.func68, Tryd.ntmps68
    go_wp2
    go_loopw [1, 5] (fun q i wr => ∃ (k m : Nat), k ≤ n ∧ i = .int .i64 k ∧ q = .int .i64 (m : Int) ∧ Hid (m = k0 + totP ((ps.take k).map PgR.D)) ∧ Hid (OwnPs wr (.slice (some ⟨g, 0, none⟩) n c) (rowP k0 ps k)) ∧ Hid (Sv (fpPs (.slice (some ⟨g, 0, none⟩) n c) ps) w wr)) (fun _ i _ => n - (intOf i).toNat)
    case atStart => exact ⟨0, k0, Nat.zero_le _, rfl, rfl, by show _ = _; simp [totP], HO, Sv.refl _ _⟩
    case round =>
      obtain ⟨k, m, hk, rfl, rfl, hm, hOw, hSv⟩ := hrel
      by_cases hkn : k < n
      · have hki : (k : Int) < (n : Int) := by omega
        obtain ⟨p, hpk⟩ : ∃ p, ps[k]? = some p := ⟨_, List.getElem?_eq_getElem (by rw [HN.out]; exact hkn)⟩
        have hat := rowP_at (k := k0) hpk
        have hlr := rowP_len k0 ps k
        have hown : OwnE pgE 56 wr (.slice (some ⟨g, 0, none⟩) n c) n (rowP k0 ps k) := by have := hOw.out.1; rw [hlr, HN.out] at this; exact this
        have q0 : wr.cell? ⟨g, k * 2, none⟩ = some (.bool p.used) := hown.cell k 0 p hat (by decide)
        have q1 : wr.cell? ⟨g, k * 2 + 1, none⟩ = some (.slice p.a p.zs.length p.cap) := hown.cell k 1 p hat (by decide)
        have f0 := hown.frozen (k * 2)
        have htl := totP_take_le (k + 1) ps
        have htk := totP_take hpk
        have hmo := hm.out
        have hpo := hOw.out.2 p (List.mem_of_getElem? hat)
        obtain ⟨U, hU⟩ : ∃ U, decide (m % 3 = 0) = U := ⟨_, rfl⟩
        have hne : p.v.ownBlock ≠ some g := fun e => by
          have h3 := HND.out
          unfold fpPs at h3
          rw [List.nodup_append] at h3
          exact h3.2.2 g (by simp [Value.ownBlock]) g (List.mem_flatMap.2 ⟨p, List.mem_of_getElem? hpk, by simp [e]⟩) rfl
        have hpo1 : RowB (wr.setCell ⟨g, k * 2, none⟩ (.bool U)) p.v p.zs.length p.zs := RowB.block hpo fun b hb => Below.heap_setCell _ _ _ _ (by show b ≠ g; intro e; subst e; exact hne hb)
        have hcall := markBG p.v p.zs.length (m + 1) p.zs (wr.setCell ⟨g, k * 2, none⟩ (.bool U)) (by omega) (by omega) hpo1
        have hg1 := (Below.cell (B := wr.heap.size) (w := wr) (w' := wr) (p := ⟨g, k * 2 + 1, none⟩) (Below.refl _ _) (hown.lt (g := g) rfl))
        have q1' : (wr.setCell ⟨g, k * 2, none⟩ (.bool U)).cell? ⟨g, k * 2 + 1, none⟩ = some (.slice p.a p.zs.length p.cap) := by
          have s1 := hown.set k 0 p ⟨U, p.a, p.cap, p.zs⟩ (.bool U) hat (by decide) rfl
          exact s1.cell k 1 ⟨U, p.a, p.cap, p.zs⟩ (by rw [List.getElem?_set_self (by rw [hlr]; exact (List.getElem?_eq_some_iff.1 hpk).1)]) (by decide)
        have hUi : ((m : Int) % 3 == 0) = U := by rw [← hU]; exact rem3b m
        have hstep : Hid (∀ w1, RowB w1 p.v p.zs.length (marksG (m + 1) p.zs.length) → (wr.setCell ⟨g, k * 2, none⟩ (.bool U)).grownBy w1 p.v.ownBlock → OwnPs w1 (.slice (some ⟨g, 0, none⟩) n c) (rowP k0 ps (k + 1)) ∧ Sv (fpPs (.slice (some ⟨g, 0, none⟩) n c) ps) wr w1) := fun w1 h3 h4 =>
          markP_step HN.out hpk HND.out hOw.out U (by rw [← hU, hmo]) (by rw [← hmo]; exact h3) h4
        have HT : Hid (m + (1 + p.zs.length) = k0 + totP ((ps.take (k + 1)).map PgR.D)) := by show _ = _; omega
        have hmb : m + 1 + p.zs.length ≤ 9999990 := by omega
        have hv : p.v = .slice p.a p.zs.length p.cap := rfl
        rw [hv] at hcall
        obtain ⟨n1, hn1⟩ : ∃ n1, p.zs.length = n1 := ⟨_, rfl⟩
        rw [hn1] at q1 q1' hcall hmb HT hstep
        have HV : Hid (p.v = .slice p.a n1 p.cap) := by show _ = _; rw [hv, hn1]
        clear hmo htk htl hpo hpo1 hg1 hown hlr hat hpk hn1 hv hne hU
        go_wp2_with fail
        rw [show (m : Int) + 1 = ((m + 1 : Nat) : Int) by omega]
        refine hcall.mono ?_
        rintro e w1 ⟨rfl, hRB, hgr⟩
        clear hcall q0 q1 q1' f0 hUi
        have hst := hstep.out w1 (by rw [HV.out]; exact hRB) (by rw [HV.out]; exact hgr)
        have HA : Hid _ := hst.1
        have HB : Hid (Sv (fpPs (.slice (some ⟨g, 0, none⟩) n c) ps) w w1) := hSv.out.trans hst.2
        clear hst hRB hgr hstep
        go_wp2
        go_roundw
        case rel => exact ⟨k + 1, m + 1 + n1, by omega, by go_num, by go_num, by show _ = _; rw [← HT.out]; omega, HA, HB⟩
        case measure => simp [intOf]; omega
      · have hki : ¬ (k : Int) < (n : Int) := by omega
        obtain rfl : k = n := by omega
        go_wp2
        go_ret
        have := hOw.out
        rw [rowP_all k0 ps k HN.out] at this
        have hmm := hm.out
        rw [List.take_of_length_le (by rw [HN.out]; omega)] at hmm
        exact ⟨by show Ending.returned (.int .i64 (m : Int)) = _; exact ret_int (by omega), this, hSv.out⟩
set_option maxRecDepth 100000 in
set_option maxHeartbeats 4000000 in
theorem heldPs_any (v : Value) (n k0 : Nat) (ps : List PgR) (w : World) (hn : ps.length = n) (h1 : 1 ≤ k0) (hs : k0 + totP (ps.map PgR.D) ≤ 9999990) (hO : OwnPs w v (mkPs k0 ps)) :
    Calls Tryd.prog 69 #[v, .int .i64 k0] w fun e w' => e = .returned (.int .i64 ((k0 + totP (ps.map PgR.D) : Nat) : Int)) ∧ w' = w := by
  have hl := totP_len (ps.map PgR.D)
  simp only [List.length_map] at hl
  have hnb : n ≤ 9999990 := by omega
  have hO1 := hO.1
  rw [mkPs_length, hn] at hO1
  rcases hO1.cases with ⟨rfl, rfl, _⟩ | ⟨g, c, rfl, hglt⟩
  · obtain rfl : ps = [] := List.length_eq_zero_iff.1 hn
    go_enter Tryd.func69, Tryd.ntmps69
    go_wp2
    refine wp_loop_rounds 1 ?_; rw [rounds_succ]
    go_wp2
    go_ret
    exact ⟨by simp [totP], rfl⟩
  · have HO : Hid (OwnE pgE 56 w (.slice (some ⟨g, 0, none⟩) n c) n (mkPs k0 ps) ∧ ∀ p ∈ mkPs k0 ps, p.own w) := ⟨hO1, hO.2⟩
    have HN : Hid (ps.length = n) := hn
    clear hO hO1 hn
    go_enter Tryd.func69, Tryd.ntmps69
    go_wp2
    go_loopw [1, 5] (fun q i wr => ∃ (k m : Nat), k ≤ n ∧ i = .int .i64 k ∧ q = .int .i64 (m : Int) ∧ Hid (m = k0 + totP ((ps.take k).map PgR.D)) ∧ w = wr) (fun _ i _ => n - (intOf i).toNat)
    case atStart => exact ⟨0, k0, Nat.zero_le _, rfl, rfl, by show _ = _; simp [totP], rfl⟩
    case round =>
      obtain ⟨k, m, hk, rfl, rfl, hm, rfl⟩ := hrel
      by_cases hkn : k < n
      · have hki : (k : Int) < (n : Int) := by omega
        obtain ⟨p, hpk⟩ : ∃ p, ps[k]? = some p := ⟨_, List.getElem?_eq_getElem (by rw [HN.out]; exact hkn)⟩
        have hmo := hm.out
        have hat : (mkPs k0 ps)[k]? = some (mkPg m p) := by
          have h2 := rowP_set (k := k0) hpk
          have h3 : ps = ps.take (k + 1) ++ ps.drop (k + 1) := (List.take_append_drop _ _).symm
          rw [h3, mkPs_append, mkPs_take hpk, List.getElem?_append_left (by simp [mkPs_length]; have := (List.getElem?_eq_some_iff.1 hpk).1; omega), List.getElem?_append_right (by simp [mkPs_length]; omega), mkPs_length, List.length_take, show k - min k ps.length = 0 by have := (List.getElem?_eq_some_iff.1 hpk).1; omega, hmo]
          rfl
        have q0 : w.cell? ⟨g, k * 2, none⟩ = some (.bool (decide (m % 3 = 0))) := HO.out.1.cell k 0 _ hat (by decide)
        have q1 : w.cell? ⟨g, k * 2 + 1, none⟩ = some (.slice p.a p.zs.length p.cap) := by
          have := HO.out.1.cell k 1 _ hat (by decide)
          exact this.trans (by simp [pgE, mkPg, marksG])
        have htl := totP_take_le (k + 1) ps
        have htk := totP_take hpk
        have hpo := HO.out.2 _ (List.mem_of_getElem? hat)
        unfold PgR.own at hpo
        rw [mkPg_v] at hpo
        have hpo1 : RowB w p.v p.zs.length (marksG (m + 1) p.zs.length) := by
          have e : (mkPg m p).zs.length = p.zs.length := by simp [mkPg, marksG]
          rw [e] at hpo
          exact hpo
        have hcall := heldBG p.v p.zs.length (m + 1) w (by omega) (by omega) hpo1
        obtain ⟨U, hU⟩ : ∃ U, decide (m % 3 = 0) = U := ⟨_, rfl⟩
        have hUi : ((m : Int) % 3 == 0) = U := by rw [← hU]; exact rem3b m
        have hUU : (U != U) = false := by simp
        rw [hU] at q0
        have HT : Hid (m + (1 + p.zs.length) = k0 + totP ((ps.take (k + 1)).map PgR.D)) := by show _ = _; omega
        have hmb : m + 1 + p.zs.length ≤ 9999990 := by omega
        have hv : p.v = .slice p.a p.zs.length p.cap := rfl
        rw [hv] at hcall
        obtain ⟨n1, hn1⟩ : ∃ n1, p.zs.length = n1 := ⟨_, rfl⟩
        rw [hn1] at q1 hcall hmb HT
        have hneg : ¬ ((m + 1 + n1 : Nat) : Int) < 0 := by omega
        clear hmo htk htl hpo hpo1 hat hpk hn1 hv hU
        go_wp2_with fail
        rw [show (m : Int) + 1 = ((m + 1 : Nat) : Int) by omega]
        refine hcall.mono ?_
        rintro e w1 ⟨rfl, hw⟩
        obtain rfl := hw.symm
        clear hcall q0 q1 hUi hUU
        obtain ⟨M, hM⟩ : ∃ M, m + 1 + n1 = M := ⟨_, rfl⟩
        rw [hM] at hneg hmb ⊢
        have HM : Hid _ := hM
        clear hM
        go_wp2
        go_roundw
        case rel => exact ⟨k + 1, M, by omega, by go_num, by go_num, by show _ = _; rw [← HT.out, ← HM.out]; omega, trivial⟩
        case measure => simp [intOf]; omega
      · have hki : ¬ (k : Int) < (n : Int) := by omega
        obtain rfl : k = n := by omega
        go_wp2
        go_ret
        have hmm := hm.out
        rw [List.take_of_length_le (by rw [HN.out]; omega)] at hmm
        exact ⟨by show Ending.returned (.int .i64 (m : Int)) = _; exact ret_int (by omega), rfl⟩
end

section
open Go.RowKit
theorem split_at {α : Type} {l : List α} {k : Nat} {x : α} (h : l[k]? = some x) (y : α) : l = l.take k ++ x :: l.drop (k + 1) ∧ l.set k y = l.take k ++ y :: l.drop (k + 1) := by
  obtain ⟨hl, he⟩ := List.getElem?_eq_some_iff.1 h
  have h1 : l = l.take k ++ x :: l.drop (k + 1) := by
    conv => lhs; rw [← List.take_append_drop k l, List.drop_eq_getElem_cons hl, he]
  refine ⟨h1, ?_⟩
  rw [List.set_eq_take_append_cons_drop, if_pos hl]
/-- One element put anew: what it takes was taken by the old one, or is new. -/
theorem Inn.put {α δ : Type} {K : Kd α δ} {w w' : World} {H S k : Nat} {ds : List δ} {qs : List α} {x q : α} (h : Inn K w H ds qs) (hx : qs[k]? = some x) (hS : ∀ g ∈ K.fps qs, g < S) (hH : H ≤ S)
    (hq : K.own w' q) (hfp : ∀ g ∈ K.fp q, g ∈ K.fp x ∨ S ≤ g) (hd : (K.fp q).Nodup) (hk : ∀ g ∈ K.fps qs, g ∉ K.fp x → w'.heap[g]? = w.heap[g]?) : Inn K w' H (ds.set k (K.D q)) (qs.set k q) := by
  obtain ⟨e1, e2⟩ := split_at hx q
  have hnd := h.nd
  have hsub : ∀ g ∈ K.fp x, g ∈ K.fps qs := fun g hg => List.mem_flatMap.2 ⟨x, List.mem_of_getElem? hx, hg⟩
  have hfe : K.fps qs = (qs.take k).flatMap K.fp ++ (K.fp x ++ (qs.drop (k + 1)).flatMap K.fp) := by
    unfold Kd.fps
    conv => lhs; rw [e1]
    rw [List.flatMap_append, List.flatMap_cons]
  have hfs : K.fps (qs.set k q) = (qs.take k).flatMap K.fp ++ (K.fp q ++ (qs.drop (k + 1)).flatMap K.fp) := by
    unfold Kd.fps
    rw [e2, List.flatMap_append, List.flatMap_cons]
  rw [hfe] at hnd hS
  rw [List.nodup_append, List.nodup_append] at hnd
  obtain ⟨nA, ⟨nX, nC, dXC⟩, dA⟩ := hnd
  refine ⟨?_, fun r hr => ?_, fun g hg => ?_, ?_⟩
  · rw [List.map_set, h.D]
  · rcases mem_set hr with rfl | ⟨j, hj, hrj⟩
    · exact hq
    · refine K.block (h.own r (List.mem_of_getElem? hrj)) fun g hg => hk g (List.mem_flatMap.2 ⟨r, List.mem_of_getElem? hrj, hg⟩) ?_
      exact flat_apart h.nd hrj hx hj hg
  · rw [hfs] at hg
    rcases List.mem_append.1 hg with h1 | h1
    · exact h.new g (by rw [hfe]; exact List.mem_append_left _ h1)
    · rcases List.mem_append.1 h1 with h2 | h2
      · rcases hfp g h2 with h3 | h3
        · exact h.new g (hsub g h3)
        · omega
      · exact h.new g (by rw [hfe]; exact List.mem_append_right _ (List.mem_append_right _ h2))
  · rw [hfs, List.nodup_append, List.nodup_append]
    refine ⟨nA, ⟨hd, nC, fun a ha b hb e => ?_⟩, fun a ha b hb e => ?_⟩
    · subst e
      rcases hfp a ha with h1 | h1
      · exact dXC a h1 a hb rfl
      · have := hS a (List.mem_append_right _ (List.mem_append_right _ hb)); omega
    · subst e
      rcases List.mem_append.1 hb with h1 | h1
      · rcases hfp a h1 with h2 | h2
        · exact dA a ha a (List.mem_append_left _ h2) rfl
        · have := hS a (List.mem_append_left _ ha); omega
      · exact dA a ha a (List.mem_append_right _ h1) rfl
theorem NewBs.inn {w : World} {B : Nat} {v : Value} {ds : List BkD} {bs : List BkR} (h : NewBs w B v ds bs) : Inn bkK w B ds bs := ⟨h.D, h.own.2, fun g hg => h.new g (List.mem_append_right _ hg), (List.nodup_append.1 h.nd).2.1⟩
theorem NewBs.row {w : World} {B g n c : Nat} {ds : List BkD} {bs : List BkR} (h : NewBs w B (.slice (some ⟨g, 0, none⟩) n c) ds bs) : g ∉ bkK.fps bs ∧ B ≤ g := ⟨fun hg => (List.nodup_append.1 h.nd).2.2 g (by simp [Value.ownBlock]) g hg rfl, h.new g (fpBs_row rfl)⟩
theorem NewPs.inn {w : World} {B : Nat} {v : Value} {ds : List PgD} {bs : List PgR} (h : NewPs w B v ds bs) : Inn pgK w B ds bs := ⟨h.D, h.own.2, fun g hg => h.new g (List.mem_append_right _ hg), (List.nodup_append.1 h.nd).2.1⟩
theorem flat_nodup' {α : Type} {f : α → List Nat} {l : List α} (hd : (l.flatMap f).Nodup) {x : α} (h : x ∈ l) : (f x).Nodup := by
  induction l with
  | nil => simp at h
  | cons z l ih =>
    rw [List.flatMap_cons, List.nodup_append] at hd
    rcases List.mem_cons.1 h with rfl | h
    · exact hd.1
    · exact ih hd.2.1 h
/-- The pages of the block k put anew. -/
theorem NewBs.pages {W W1 : World} {B g n c k n1 c1 : Nat} {a1 : Option Addr} {ds : List BkD} {bs : List BkR} {b : BkR} {qd : List PgD} {qs : List PgR} (h : NewBs W B (.slice (some ⟨g, 0, none⟩) n c) ds bs) (hn : bs.length = n) (hb : bs[k]? = some b) (b1 : Below W.heap.size W W1) (hp : NewPs W1 W.heap.size (.slice a1 n1 c1) qd qs) (hq : qs.length = n1) :
    NewBs (W1.setCell ⟨g, k * 3, none⟩ (.slice a1 n1 c1)) B (.slice (some ⟨g, 0, none⟩) n c) (ds.set k ⟨qd, b.wear, b.bad⟩) (bs.set k ⟨a1, c1, qs, b.wear, b.bad⟩) := by
  subst hq
  have hr := h.row
  have hlt := h.own.lt
  have hgl : g < W.heap.size := hlt g (fpBs_row rfl)
  have hset : ∀ j, j ≠ g → (W1.setCell ⟨g, k * 3, none⟩ (.slice a1 qs.length c1)).heap[j]? = W1.heap[j]? := fun j hj => Below.heap_setCell _ _ _ _ hj
  have hfq : bkK.fp (⟨a1, c1, qs, b.wear, b.bad⟩ : BkR) = fpPs (.slice a1 qs.length c1) qs := rfl
  have hown : OwnE bkE 50 W1 (.slice (some ⟨g, 0, none⟩) n c) n bs := by have := (h.own.1).keep b1; rw [hn] at this; exact this
  have s := hown.set k 0 b ⟨a1, c1, qs, b.wear, b.bad⟩ (.slice a1 qs.length c1) hb (by decide) rfl
  have hin := h.inn.put (w' := W1.setCell ⟨g, k * 3, none⟩ (.slice a1 qs.length c1)) (S := W.heap.size) (q := (⟨a1, c1, qs, b.wear, b.bad⟩ : BkR)) hb (fun j hj => h.inn.lt j hj) (Nat.le_trans hr.2 (by omega)) (by
      show OwnPs _ (.slice a1 qs.length c1) qs
      exact hp.own.block fun j hj => hset j (fun e => by subst e; have := hp.new j hj; omega)) (fun j hj => .inr (hp.new j hj)) hp.nd (fun j hj _ => by rw [hset j (fun e => by subst e; exact hr.1 hj)]; exact b1.block j (h.inn.lt j hj))
  have hD : bkK.D (⟨a1, c1, qs, b.wear, b.bad⟩ : BkR) = ⟨qd, b.wear, b.bad⟩ := by show BkD.mk (qs.map PgR.D) b.wear b.bad = _; rw [hp.D]
  rw [hD] at hin
  refine hin.newBs (by rw [List.length_set, hn]; exact s) (Nat.le_refl _) (fun j hj => ?_)
  simp [Value.ownBlock] at hj
  subst hj
  refine ⟨hr.2, fun hf => ?_⟩
  obtain ⟨e1, e2⟩ := split_at hb (⟨a1, c1, qs, b.wear, b.bad⟩ : BkR)
  unfold Kd.fps at hf
  obtain ⟨x, hx, hxf⟩ := List.mem_flatMap.1 hf
  rcases mem_set hx with rfl | ⟨j, hj, hxj⟩
  · have := hp.new g hxf; omega
  · exact hr.1 (List.mem_flatMap.2 ⟨x, List.mem_of_getElem? hxj, hxf⟩)
/-- The wear of the block k put anew. -/
theorem NewBs.wear {W : World} {B g n c k : Nat} {ds : List BkD} {bs : List BkR} {b : BkR} (h : NewBs W B (.slice (some ⟨g, 0, none⟩) n c) ds bs) (hn : bs.length = n) (hb : bs[k]? = some b) (y : Int) :
    NewBs (W.setCell ⟨g, k * 3 + 1, none⟩ (.int .i64 y)) B (.slice (some ⟨g, 0, none⟩) n c) (ds.set k ⟨b.ps.map PgR.D, y, b.bad⟩) (bs.set k ⟨b.a, b.cap, b.ps, y, b.bad⟩) := by
  have hr := h.row
  have hset : ∀ j, j ≠ g → (W.setCell ⟨g, k * 3 + 1, none⟩ (.int .i64 y)).heap[j]? = W.heap[j]? := fun j hj => Below.heap_setCell _ _ _ _ hj
  have hown : OwnE bkE 50 W (.slice (some ⟨g, 0, none⟩) n c) n bs := by have := h.own.1; rw [hn] at this; exact this
  have s := hown.set k 1 b ⟨b.a, b.cap, b.ps, y, b.bad⟩ (.int .i64 y) hb (by decide) rfl
  have hfx : ∀ j ∈ bkK.fps bs, j ≠ g := fun j hj e => by subst e; exact hr.1 hj
  have hbm : b ∈ bs := List.mem_of_getElem? hb
  have hin := h.inn.put (w' := W.setCell ⟨g, k * 3 + 1, none⟩ (.int .i64 y)) (S := W.heap.size) (q := (⟨b.a, b.cap, b.ps, y, b.bad⟩ : BkR)) hb (fun j hj => h.inn.lt j hj) (by have := h.own.lt g (fpBs_row rfl); have := hr.2; omega) (by
      show OwnPs _ b.v b.ps
      exact (h.own.2 b hbm).block fun j hj => hset j (hfx j (List.mem_flatMap.2 ⟨b, hbm, hj⟩))) (fun j hj => .inl hj) (show (fpPs b.v b.ps).Nodup from flat_nodup' (f := bkK.fp) h.inn.nd hbm) (fun j hj _ => hset j (hfx j hj))
  refine hin.newBs (by rw [List.length_set, hn]; exact s) (Nat.le_refl _) (fun j hj => ?_)
  simp [Value.ownBlock] at hj
  subst hj
  refine ⟨hr.2, fun hf => ?_⟩
  obtain ⟨x, hx, hxf⟩ := List.mem_flatMap.1 hf
  rcases mem_set hx with rfl | ⟨j, hj, hxj⟩
  · exact hr.1 (List.mem_flatMap.2 ⟨b, hbm, hxf⟩)
  · exact hr.1 (List.mem_flatMap.2 ⟨x, List.mem_of_getElem? hxj, hxf⟩)
end
end Go.Proofs.YtkhgafmhbibikaaDoor
