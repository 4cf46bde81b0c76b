/-
  What the specification's TreeOk answers.
-/
import Derived.Test.YtfjlemnohjnkhaaGreatJ27F
namespace Go.Proofs.YtfjlemnohjnkhaaGreat
open Go.RowKit
def goodE (ds : List InoD) (e : ByteArray × Int) : Bool := (look ds e.2).isSome
def goodD (ds : List InoD) (D : InoD) : Bool := decide ((linksD ds D.ino : Int) = D.links) && D.ents.all (goodE ds)
theorem all_drop {α : Type} {l : List α} {k : Nat} {x : α} (p : α → Bool) (h : l[k]? = some x) : (l.drop k).all p = (p x && (l.drop (k + 1)).all p) := by
  have hk := (List.getElem?_eq_some_iff.1 h).1
  rw [List.drop_eq_getElem_cons hk, List.all_cons, (List.getElem?_eq_some_iff.1 h).2]
set_option maxRecDepth 100000 in
set_option maxHeartbeats 4000000 in
theorem treeS (a : Option Addr) (n cap : Nat) (nx : Int) (rs : List InoR) (w : World) (ht : TR w a n rs) :
    Calls Tryz.prog 21 #[.agg #[.slice a n cap, .int .i64 nx]] w fun e w' => e = .returned (.bool (treeD nx (rs.map InoR.D))) ∧ Below w.heap.size w w' := by
  have B0 : Below w.heap.size w (w.alloc (.cells #[.slice a n cap, .int .i64 nx] 47)) := (Below.refl _ w).alloc (Nat.le_refl _) _
  have z0 := Blk.new w 47 #[.slice a n cap, .int .i64 nx]
  obtain ⟨ds, hds⟩ : ∃ ds, rs.map InoR.D = ds := ⟨_, rfl⟩
  have hcT := fun (W : World) (hW : Below w.heap.size w W) => tabOkS a n cap nx rs W ht.len (by have := ht.n; omega) ht.small (ht.rd.keep hW)
  rw [tabS_D, hds] at hcT
  rw [hds]
  have HDS : Hid _ := hds
  have HTW : Hid _ := ht
  have hdn : Hid (ds.length = n) := by show _ = _; rw [← hds, List.length_map, ht.len]
  have hn1 := ht.n
  obtain ⟨R, hR⟩ : ∃ R, treeD nx ds = R := ⟨_, rfl⟩
  rw [hR]
  unfold treeD at hR
  clear ht hds
  go_enter Tryz.func21, Tryz.ntmps21
  go_upto_region 1 with fail
  obtain ⟨W0, hW0⟩ : ∃ W, w.alloc (.cells #[.slice a n cap, .int .i64 nx] 47) = W := ⟨_, rfl⟩
  rw [hW0] at B0 z0 ⊢
  clear hW0
  have t0 := z0.cell 0
  have t1 := z0.cell 1
  simp at t0 t1
  have hT1 := hcT W0.drew B0.drew
  have HK : Hid (∀ W : World, Below W0.heap.size W0 W → W.cell? ⟨w.heap.size, 0, none⟩ = some (.slice a n cap) ∧ W.cell? ⟨w.heap.size, 1, none⟩ = some (.int .i64 nx)) := fun W hW => ⟨(z0.keep hW).cell 0, (z0.keep hW).cell 1⟩
  have HB0 : Hid _ := B0
  have hws : w.heap.size ≤ W0.heap.size := B0.size
  cases htab : tabD nx ds with
  | false =>
    rw [htab] at hT1 hR
    have hend : Hid (false = R) := hR
    clear hcT hR htab
    refine wp_region_noPanic ?_
    refine wp_region_held_drew (S := fun W : World => W.cell? ⟨w.heap.size, 0, none⟩ = some (.slice a n cap) ∧ W.cell? ⟨w.heap.size, 1, none⟩ = some (.int .i64 nx)) (by kernel_rfl) (by go_keep) (fun hS => ?_)
    refine wpAnyH_take (i := 0) (v := ?gv1) rfl (by kernel_rfl) (by kernel_rfl) (by kernel_rfl) (fun _ _ _ h => h) (Or.inl ⟨by kernel_rfl, ?gy1⟩) (by assumption) ?gr1
    case gy1 => (intro w' hSw; (try dsimp only at hSw); go_simp; (try with_reducible rfl))
    try simp only [Act.put, List.setIfInBounds_toArray, List.set_cons_zero, List.set_cons_succ, List.getElem_toArray, List.getElem_cons_zero]
    refine wpAnyH_ready (rs := [1]) (by kernel_rfl) (by simp) ?_
    refine AllReadyH.cons rfl (fun K hK => ?_) AllReadyH.nil
    go_simp
    go_at_call 42
    (with_reducible refine hT1.mono ?_)
    rintro e w1 ⟨rfl, bA⟩
    have B1 : Below W0.heap.size W0 w1 := (Below.refl _ W0).drew.trans bA
    clear hS
    dsimp only
    refine Shut.out hK _ _ (HK.out w1 B1) (fun hS => ?_)
    try simp only [Act.put, List.setIfInBounds_toArray, List.set_cons_zero, List.set_cons_succ, List.getElem_toArray, List.getElem_cons_succ, List.getElem_cons_zero]
    refine wpAnyH_take (i := 2) (v := ?gv2) rfl (by kernel_rfl) (by kernel_rfl) (by kernel_rfl) (fun _ _ _ h => h) (Or.inl ⟨by kernel_rfl, ?gy2⟩) (by assumption) ?gr2
    case gy2 => (intro w' hSw; (try dsimp only at hSw); go_simp; (try with_reducible rfl))
    try simp only [Act.put, List.setIfInBounds_toArray, List.set_cons_zero, List.set_cons_succ, List.getElem_toArray, List.getElem_cons_succ, List.getElem_cons_zero]
    refine wpAnyH_take (i := 3) (v := ?gv3) rfl (by kernel_rfl) (by kernel_rfl) (by kernel_rfl) (fun _ _ _ h => h) (Or.inl ⟨by kernel_rfl, ?gy3⟩) (by assumption) ?gr3
    case gy3 => (intro w' hSw; (try dsimp only at hSw); go_simp; (try with_reducible rfl))
    try simp only [Act.put, List.setIfInBounds_toArray, List.set_cons_zero, List.set_cons_succ, List.getElem_toArray, List.getElem_cons_succ, List.getElem_cons_zero]
    refine wpAnyH_take (i := 4) (v := undef) rfl (by kernel_rfl) (by kernel_rfl) (by kernel_rfl) (fun _ _ _ h => h) (Or.inr ⟨by kernel_rfl, rfl⟩) (by assumption) ?_
    try simp only [Act.put, List.setIfInBounds_toArray, List.set_cons_zero, List.set_cons_succ, List.getElem_toArray, List.getElem_cons_succ, List.getElem_cons_zero]
    refine wpAnyH_take (i := 5) (v := undef) rfl (by kernel_rfl) (by kernel_rfl) (by kernel_rfl) (fun _ _ _ h => h) (Or.inr ⟨by kernel_rfl, rfl⟩) (by assumption) ?_
    try simp only [Act.put, List.setIfInBounds_toArray, List.set_cons_zero, List.set_cons_succ, List.getElem_toArray, List.getElem_cons_succ, List.getElem_cons_zero]
    refine wpAnyH_take (i := 6) (v := undef) rfl (by kernel_rfl) (by kernel_rfl) (by kernel_rfl) (fun _ _ _ h => h) (Or.inr ⟨by kernel_rfl, rfl⟩) (by assumption) ?_
    try simp only [Act.put, List.setIfInBounds_toArray, List.set_cons_zero, List.set_cons_succ, List.getElem_toArray, List.getElem_cons_succ, List.getElem_cons_zero]
    refine wpAnyH_take (i := 7) (v := undef) rfl (by kernel_rfl) (by kernel_rfl) (by kernel_rfl) (fun _ _ _ h => h) (Or.inr ⟨by kernel_rfl, rfl⟩) (by assumption) ?_
    try simp only [Act.put, List.setIfInBounds_toArray, List.set_cons_zero, List.set_cons_succ, List.getElem_toArray, List.getElem_cons_succ, List.getElem_cons_zero]
    refine wpAnyH_take (i := 8) (v := undef) rfl (by kernel_rfl) (by kernel_rfl) (by kernel_rfl) (fun _ _ _ h => h) (Or.inr ⟨by kernel_rfl, rfl⟩) (by assumption) ?_
    try simp only [Act.put, List.setIfInBounds_toArray, List.set_cons_zero, List.set_cons_succ, List.getElem_toArray, List.getElem_cons_succ, List.getElem_cons_zero]
    refine wpAnyH_take (i := 9) (v := undef) rfl (by kernel_rfl) (by kernel_rfl) (by kernel_rfl) (fun _ _ _ h => h) (Or.inr ⟨by kernel_rfl, rfl⟩) (by assumption) ?_
    try simp only [Act.put, List.setIfInBounds_toArray, List.set_cons_zero, List.set_cons_succ, List.getElem_toArray, List.getElem_cons_succ, List.getElem_cons_zero]
    refine wpAnyH_take (i := 10) (v := undef) rfl (by kernel_rfl) (by kernel_rfl) (by kernel_rfl) (fun _ _ _ h => h) (Or.inr ⟨by kernel_rfl, rfl⟩) (by assumption) ?_
    try simp only [Act.put, List.setIfInBounds_toArray, List.set_cons_zero, List.set_cons_succ, List.getElem_toArray, List.getElem_cons_succ, List.getElem_cons_zero]
    refine wpAnyH_take (i := 11) (v := ?gv4) rfl (by kernel_rfl) (by kernel_rfl) (by kernel_rfl) (fun _ _ _ h => h) (Or.inl ⟨by kernel_rfl, ?gy4⟩) (by assumption) ?gr4
    case gy4 => (intro w' hSw; (try dsimp only at hSw); go_simp; (try with_reducible rfl))
    try simp only [Act.put, List.setIfInBounds_toArray, List.set_cons_zero, List.set_cons_succ, List.getElem_toArray, List.getElem_cons_succ, List.getElem_cons_zero]
    refine wpAnyH_done (by kernel_rfl) (NoPanic.normal ?_) _
    clear t0 t1 z0
    go_wp2
    go_ret
    exact ⟨ret_bool hend.out, HB0.out.trans (B1.mono hws)⟩
  | true =>
    rw [htab] at hT1 hR
    rw [Bool.true_and] at hR
    have hcR := fun (W : World) (hW : Below w.heap.size w W) => reachedS a n cap nx rs W (HTW.out.keep hW)
    rw [HDS.out] at hcR
    have HCR : Hid _ := hcR
    clear hcT htab hcR
    obtain ⟨m, hm⟩ : ∃ m, (reachD ds).length = m := ⟨_, rfl⟩
    rw [hm, hdn.out] at hR
    by_cases hmn : m = n
    · have hmb : ((m : Int) != (n : Int)) = false := by simp [hmn]
      have hmb' : ((m : Int) == (n : Int)) = true := by simp [hmn]
      have hmi : (m : Int) = (n : Int) := by omega
      rw [decide_eq_true hmn, Bool.true_and] at hR
      have HR : Hid ((ds.drop 0).all (goodD ds) = R) := hR
      clear hR
      refine wp_region_noPanic ?_
      refine wp_region_held_drew (S := fun W : World => W.cell? ⟨w.heap.size, 0, none⟩ = some (.slice a n cap) ∧ W.cell? ⟨w.heap.size, 1, none⟩ = some (.int .i64 nx)) (by kernel_rfl) (by go_keep) (fun hS => ?_)
      refine wpAnyH_take (i := 0) (v := ?gv5) rfl (by kernel_rfl) (by kernel_rfl) (by kernel_rfl) (fun _ _ _ h => h) (Or.inl ⟨by kernel_rfl, ?gy5⟩) (by assumption) ?gr5
      case gy5 => (intro w' hSw; (try dsimp only at hSw); go_simp; (try with_reducible rfl))
      try simp only [Act.put, List.setIfInBounds_toArray, List.set_cons_zero, List.set_cons_succ, List.getElem_toArray, List.getElem_cons_zero]
      refine wpAnyH_ready (rs := [1]) (by kernel_rfl) (by simp) ?_
      refine AllReadyH.cons rfl (fun K hK => ?_) AllReadyH.nil
      go_simp
      go_at_call 42
      (with_reducible refine hT1.mono ?_)
      rintro e w1 ⟨rfl, bA⟩
      have B1 : Below W0.heap.size W0 w1 := (Below.refl _ W0).drew.trans bA
      clear hS
      dsimp only
      refine Shut.out hK _ _ (HK.out w1 B1) (fun hS => ?_)
      try simp only [Act.put, List.setIfInBounds_toArray, List.set_cons_zero, List.set_cons_succ, List.getElem_toArray, List.getElem_cons_succ, List.getElem_cons_zero]
      refine wpAnyH_take (i := 2) (v := ?gv6) rfl (by kernel_rfl) (by kernel_rfl) (by kernel_rfl) (fun _ _ _ h => h) (Or.inl ⟨by kernel_rfl, ?gy6⟩) (by assumption) ?gr6
      case gy6 => (intro w' hSw; (try dsimp only at hSw); go_simp; (try with_reducible rfl))
      try simp only [Act.put, List.setIfInBounds_toArray, List.set_cons_zero, List.set_cons_succ, List.getElem_toArray, List.getElem_cons_succ, List.getElem_cons_zero]
      refine wpAnyH_take (i := 3) (v := ?gv7) rfl (by kernel_rfl) (by kernel_rfl) (by kernel_rfl) (fun _ _ _ h => h) (Or.inl ⟨by kernel_rfl, ?gy7⟩) (by assumption) ?gr7
      case gy7 => (intro w' hSw; (try dsimp only at hSw); go_simp; (try with_reducible rfl))
      try simp only [Act.put, List.setIfInBounds_toArray, List.set_cons_zero, List.set_cons_succ, List.getElem_toArray, List.getElem_cons_succ, List.getElem_cons_zero]
      refine wpAnyH_take (i := 4) (v := ?gv8) rfl (by kernel_rfl) (by kernel_rfl) (by kernel_rfl) (fun _ _ _ h => h) (Or.inl ⟨by kernel_rfl, ?gy8⟩) (by assumption) ?gr8
      case gy8 => (intro w' hSw; (try dsimp only at hSw); go_simp; (try with_reducible rfl))
      try simp only [Act.put, List.setIfInBounds_toArray, List.set_cons_zero, List.set_cons_succ, List.getElem_toArray, List.getElem_cons_succ, List.getElem_cons_zero]
      refine wpAnyH_take (i := 7) (v := ?gv9) rfl (by kernel_rfl) (by kernel_rfl) (by kernel_rfl) (fun _ _ _ h => h) (Or.inl ⟨by kernel_rfl, ?gy9⟩) (by assumption) ?gr9
      case gy9 => (intro w' hSw; (try dsimp only at hSw); go_simp; (try with_reducible rfl))
      try simp only [Act.put, List.setIfInBounds_toArray, List.set_cons_zero, List.set_cons_succ, List.getElem_toArray, List.getElem_cons_succ, List.getElem_cons_zero]
      refine wpAnyH_take (i := 8) (v := ?gv10) rfl (by kernel_rfl) (by kernel_rfl) (by kernel_rfl) (fun _ _ _ h => h) (Or.inl ⟨by kernel_rfl, ?gy10⟩) (by assumption) ?gr10
      case gy10 => (intro w' hSw; (try dsimp only at hSw); go_simp; (try with_reducible rfl))
      try simp only [Act.put, List.setIfInBounds_toArray, List.set_cons_zero, List.set_cons_succ, List.getElem_toArray, List.getElem_cons_succ, List.getElem_cons_zero]
      refine wpAnyH_take (i := 9) (v := ?gv11) rfl (by kernel_rfl) (by kernel_rfl) (by kernel_rfl) (fun _ _ _ h => h) (Or.inl ⟨by kernel_rfl, ?gy11⟩) (by assumption) ?gr11
      case gy11 => (intro w' hSw; (try dsimp only at hSw); go_simp; (try with_reducible rfl))
      try simp only [Act.put, List.setIfInBounds_toArray, List.set_cons_zero, List.set_cons_succ, List.getElem_toArray, List.getElem_cons_succ, List.getElem_cons_zero]
      refine wpAnyH_ready (rs := [5]) (by kernel_rfl) (by simp) ?_
      refine AllReadyH.cons rfl (fun K hK => ?_) AllReadyH.nil
      go_simp
      go_at_call 43
      (with_reducible refine (HCR.out w1 (HB0.out.trans (B1.mono hws))).mono ?_)
      rintro e w2 ⟨ra, rc, rfl, rr, bR⟩
      rw [hm]
      have B2 : Below W0.heap.size W0 w2 := B1.trans (bR.mono B1.size)
      clear hS
      dsimp only
      refine Shut.out hK _ _ (HK.out w2 B2) (fun hS => ?_)
      try simp only [Act.put, List.setIfInBounds_toArray, List.set_cons_zero, List.set_cons_succ, List.getElem_toArray, List.getElem_cons_succ, List.getElem_cons_zero]
      refine wpAnyH_take (i := 6) (v := ?gv12) rfl (by kernel_rfl) (by kernel_rfl) (by kernel_rfl) (fun _ _ _ h => h) (Or.inl ⟨by kernel_rfl, ?gy12⟩) (by assumption) ?gr12
      case gy12 => (intro w' hSw; (try dsimp only at hSw); go_simp; (try with_reducible rfl))
      try simp only [Act.put, List.setIfInBounds_toArray, List.set_cons_zero, List.set_cons_succ, List.getElem_toArray, List.getElem_cons_succ, List.getElem_cons_zero]
      refine wpAnyH_take (i := 10) (v := ?gv13) rfl (by kernel_rfl) (by kernel_rfl) (by kernel_rfl) (fun _ _ _ h => h) (Or.inl ⟨by kernel_rfl, ?gy13⟩) (by assumption) ?gr13
      case gy13 => (intro w' hSw; (try dsimp only at hSw); go_simp; (try with_reducible rfl))
      try simp only [Act.put, List.setIfInBounds_toArray, List.set_cons_zero, List.set_cons_succ, List.getElem_toArray, List.getElem_cons_succ, List.getElem_cons_zero]
      refine wpAnyH_take (i := 11) (v := ?gv14) rfl (by kernel_rfl) (by kernel_rfl) (by kernel_rfl) (fun _ _ _ h => h) (Or.inl ⟨by kernel_rfl, ?gy14⟩) (by assumption) ?gr14
      case gy14 => (intro w' hSw; (try dsimp only at hSw); go_simp; (try with_reducible rfl))
      try simp only [Act.put, List.setIfInBounds_toArray, List.set_cons_zero, List.set_cons_succ, List.getElem_toArray, List.getElem_cons_succ, List.getElem_cons_zero]
      refine wpAnyH_done (by kernel_rfl) (NoPanic.normal ?_) _
      clear t0 t1 hT1 rr bR bA
      go_wp2
      clear HCR hm hmn hmb hmb' hmi
      go_loopw [3] (fun i wr => ∃ k : Nat, k ≤ n ∧ i = .int .i64 k ∧ Hid ((ds.drop k).all (goodD ds) = R) ∧ Below W0.heap.size W0 wr) (fun i _ => n - (intOf i).toNat)
      case atStart => exact ⟨0, Nat.zero_le _, rfl, HR, B2⟩
      case round =>
        obtain ⟨k, hk, rfl, hall, hB⟩ := hrel
        obtain ⟨U, hU⟩ : ∃ U, U = wr := ⟨_, rfl⟩
        subst hU
        clear HR B2 B1
        have t0 := (z0.keep hB).cell 0
        have t1 := (z0.keep hB).cell 1
        simp at t0 t1
        by_cases hkn : k < n
        · have hki : (k : Int) < (n : Int) := by omega
          have hBw : Below w.heap.size w U := HB0.out.trans (hB.mono hws)
          have hTr := HTW.out.keep hBw
          obtain ⟨r, hrk⟩ : ∃ r, rs[k]? = some r := ⟨_, List.getElem?_eq_getElem (by rw [hTr.len]; exact hkn)⟩
          obtain ⟨b, off, rfl, hlt, hc⟩ := RdI.lt hTr.rd (by intro h; rw [h] at hrk; simp at hrk)
          obtain ⟨x6, xr⟩ := hc k r hrk
          obtain ⟨x0, x1, x2, x3, x4, x5⟩ := x6
          have hall' := hall.out
          rw [all_drop (x := r.D) _ (by rw [← HDS.out]; simp [hrk])] at hall'
          unfold goodD at hall'
          have hsm := (hTr.small r (List.mem_of_getElem? hrk)).ents
          obtain ⟨es, hes⟩ : ∃ es, r.D.ents = es := ⟨_, rfl⟩
          have hre : RdP U r.a2 (eP es) := by rw [← hes]; exact InoRd.ents xr
          rw [hes] at x4 hall' hsm
          obtain ⟨n2, hn2⟩ : ∃ n2, es.length = n2 := ⟨_, rfl⟩
          rw [hn2] at x4 hsm
          have HN : Hid _ := hn2
          generalize r.D.data.length = n1 at x3
          generalize r.D.attrs.length = n3 at x5
          generalize r.D.ino = i1 at x0 hall'
          generalize r.D.kind = i2 at x1
          generalize r.D.links = i3 at x2 hall'
          have bx := Blk.new U 85 #[.int .i64 i1, .int .i64 i2, .int .i64 i3, .slice r.a1 n1 r.c1, .slice r.a2 n2 r.c2, .slice r.a3 n3 r.c3]
          have hbA : Below U.heap.size U (U.alloc (.cells #[.int .i64 i1, .int .i64 i2, .int .i64 i3, .slice r.a1 n1 r.c1, .slice r.a2 n2 r.c2, .slice r.a3 n3 r.c3] 85)) := (Below.refl _ U).alloc (Nat.le_refl _) _
          have hcK := linksS (some ⟨b, off, none⟩) n cap nx i1 rs (U.alloc (.cells #[.int .i64 i1, .int .i64 i2, .int .i64 i3, .slice r.a1 n1 r.c1, .slice r.a2 n2 r.c2, .slice r.a3 n3 r.c3] 85)).drew (hTr.keep hbA.drew)
          rw [HDS.out] at hcK
          have hKK : Hid (∀ W : World, Below (U.alloc (.cells #[.int .i64 i1, .int .i64 i2, .int .i64 i3, .slice r.a1 n1 r.c1, .slice r.a2 n2 r.c2, .slice r.a3 n3 r.c3] 85)).heap.size (U.alloc (.cells #[.int .i64 i1, .int .i64 i2, .int .i64 i3, .slice r.a1 n1 r.c1, .slice r.a2 n2 r.c2, .slice r.a3 n3 r.c3] 85)) W → W.cell? ⟨w.heap.size, 0, none⟩ = some (.slice (some ⟨b, off, none⟩) n cap) ∧ W.cell? ⟨w.heap.size, 1, none⟩ = some (.int .i64 nx) ∧ W.cell? ⟨U.heap.size, 0, none⟩ = some (.int .i64 i1) ∧ W.cell? ⟨U.heap.size, 2, none⟩ = some (.int .i64 i3)) := fun W hW => ⟨(((z0.keep hB).keep hbA).keep hW).cell 0, (((z0.keep hB).keep hbA).keep hW).cell 1, (bx.keep hW).cell 0, (bx.keep hW).cell 2⟩
          have HRE : Hid _ := hre.keep hbA
          have HBX : Hid _ := bx
          have HBA : Hid _ := hbA
          generalize linksD ds i1 = lk at hcK hall'
          have HTR : Hid _ := hTr
          clear hc hrk xr hes hn2 hre bx hbA hall hTr
          obtain ⟨g0, g1, g2, g3⟩ := hKK.out _ (Below.refl _ _)
          by_cases hlk : (lk : Int) = i3
          · have hlb : ((lk : Int) != i3) = false := by simp [hlk]
            have hlb' : ((lk : Int) == i3) = true := by simp [hlk]
            rw [decide_eq_true hlk, Bool.true_and] at hall'
            clear hlk
            have HA : Hid (((es.drop 0).all (goodE ds) && (ds.drop (k + 1)).all (goodD ds)) = R) := hall'
            clear hall'
            go_wp2
            go_region_held3 (fun W : World => W.cell? ⟨w.heap.size, 0, none⟩ = some (.slice (some ⟨b, off, none⟩) n cap) ∧ W.cell? ⟨w.heap.size, 1, none⟩ = some (.int .i64 nx) ∧ W.cell? ⟨U.heap.size, 0, none⟩ = some (.int .i64 i1) ∧ W.cell? ⟨U.heap.size, 2, none⟩ = some (.int .i64 i3)) (go_keep) ((go_at_call 44; (with_reducible refine hcK.mono ?_); rintro e w2 ⟨rfl, hb2⟩; obtain ⟨p0, p1, p2, p3⟩ := hKK.out w2 ((Below.refl _ _).drew.trans hb2)))
            have hB2 : Below (U.alloc (.cells #[.int .i64 i1, .int .i64 i2, .int .i64 i3, .slice r.a1 n1 r.c1, .slice r.a2 n2 r.c2, .slice r.a3 n3 r.c3] 85)).heap.size (U.alloc (.cells #[.int .i64 i1, .int .i64 i2, .int .i64 i3, .slice r.a1 n1 r.c1, .slice r.a2 n2 r.c2, .slice r.a3 n3 r.c3] 85)) w2 := (Below.refl _ _).drew.trans hb2
            clear p0 p1 p2 p3 g0 g1 g2 g3 t0 t1 x0 x1 x2 x3 x4 x5 hcK
            go_wp2
            go_loopw [5] (fun j wi => ∃ q : Nat, q ≤ n2 ∧ j = .int .i64 q ∧ Hid (((es.drop q).all (goodE ds) && (ds.drop (k + 1)).all (goodD ds)) = R) ∧ Below (U.alloc (.cells #[.int .i64 i1, .int .i64 i2, .int .i64 i3, .slice r.a1 n1 r.c1, .slice r.a2 n2 r.c2, .slice r.a3 n3 r.c3] 85)).heap.size (U.alloc (.cells #[.int .i64 i1, .int .i64 i2, .int .i64 i3, .slice r.a1 n1 r.c1, .slice r.a2 n2 r.c2, .slice r.a3 n3 r.c3] 85)) wi) (fun j _ => n2 - (intOf j).toNat)
            case atStart => exact ⟨0, Nat.zero_le _, rfl, HA, hB2⟩
            case round =>
              obtain ⟨q, hq, rfl, hap, hBi⟩ := hrel
              clear HA hB2 hb2
              have hBu : Below U.heap.size U wr := HBA.out.trans (hBi.mono HBA.out.size)
              have hB0r : Below W0.heap.size W0 wr := hB.trans (hBu.mono hB.size)
              have zXi := Blk.keep HBX.out hBi
              have y4 := zXi.cell 4
              simp at y4
              by_cases hqn : q < n2
              · have hqi : (q : Int) < (n2 : Int) := by omega
                have hql : q < es.length := by rw [HN.out]; exact hqn
                have hap' := hap.out
                rw [all_drop (x := es[q]) _ (List.getElem?_eq_getElem hql), goodE] at hap'
                obtain ⟨eb, eo, hea, helt, hec⟩ := RdP.lt HRE.out (by intro h; have := congrArg List.length h; rw [eP_length] at this; simp at this; rw [this] at hql; simp at hql)
                rw [hea] at y4
                have hx := hec q (by rw [eP_length]; exact hql)
                rw [eP_at es q hql] at hx
                obtain ⟨u, hu⟩ : ∃ u, es[q].2 = u := ⟨_, rfl⟩
                rw [hu] at hx hap'
                have x2 : wr.cell? ⟨eb, eo + q * 2 + 1, none⟩ = some (.int .i64 u) := (hBi.cell (p := ⟨eb, eo + q * 2 + 1, none⟩) helt).trans hx.2
                have zb := z0.keep hB0r
                have zt0 := zb.cell 0
                have zt1 := zb.cell 1
                simp at zt0 zt1
                have hTr := HTR.out.keep hBu
                have hcL := l4At_any (some ⟨b, off, none⟩) n cap nx u rs wr.drew hTr.len (by have := hTr.n; omega) (hTr.rd.keep (Below.refl _ _).drew)
                have HKI : Hid (∀ W : World, Below wr.heap.size wr W → W.cell? ⟨w.heap.size, 0, none⟩ = some (.slice (some ⟨b, off, none⟩) n cap) ∧ W.cell? ⟨w.heap.size, 1, none⟩ = some (.int .i64 nx) ∧ W.cell? ⟨U.heap.size, 4, none⟩ = some (.slice (some ⟨eb, eo, none⟩) n2 r.c2) ∧ W.cell? ⟨eb, eo + q * 2 + 1, none⟩ = some (.int .i64 u)) := fun W hW => by
                  refine ⟨(zb.keep hW).cell 0, (zb.keep hW).cell 1, ?_, (hW.cell (p := ⟨eb, eo + q * 2 + 1, none⟩) (Nat.lt_of_lt_of_le helt hBi.size)).trans x2⟩
                  have := (zXi.keep hW).cell 4
                  rw [hea] at this
                  exact this
                clear hea
                have hlo : atN rs u = if (look ds u).isSome then atN rs u else -1 := by
                  cases hl : look ds u with
                  | none => rw [atN_none (by rw [HDS.out]; exact hl)]; rfl
                  | some D => rfl
                cases hl : (look ds u).isSome with
                | false =>
                  rw [hl] at hap' hlo
                  simp only [Bool.false_eq_true, if_false] at hlo
                  rw [hlo] at hcL
                  rw [Bool.false_and, Bool.false_and] at hap'
                  have hend : Hid (false = R) := hap'
                  clear hap' hlo hec hx hTr hap hu
                  go_wp2
                  go_region_held3 (fun W : World => W.cell? ⟨w.heap.size, 0, none⟩ = some (.slice (some ⟨b, off, none⟩) n cap) ∧ W.cell? ⟨w.heap.size, 1, none⟩ = some (.int .i64 nx) ∧ W.cell? ⟨U.heap.size, 4, none⟩ = some (.slice (some ⟨eb, eo, none⟩) n2 r.c2) ∧ W.cell? ⟨eb, eo + q * 2 + 1, none⟩ = some (.int .i64 u)) (go_keep) ((go_at_call 45; (with_reducible refine hcL.mono ?_); rintro e w2 ⟨rfl, hb2⟩; obtain ⟨p0, p1, p2, p3⟩ := HKI.out w2 ((Below.refl _ _).drew.trans hb2)))
                  have hB2 : Below wr.heap.size wr w2 := (Below.refl _ wr).drew.trans hb2
                  clear zt0 zt1 y4 x2 hcL p0 p1 p2 p3
                  go_wp2
                  go_ret
                  exact ⟨ret_bool hend.out, HB0.out.trans ((hB0r.trans (hB2.mono hB0r.size)).mono hws)⟩
                | true =>
                  rw [hl, Bool.true_and] at hap'
                  obtain ⟨D, hD⟩ := Option.isSome_iff_exists.1 hl
                  obtain ⟨pp, _, hf, _, _, hpl⟩ := lookD_some (rs := rs) (by rw [HDS.out]; exact hD)
                  have hN : atN rs u = (pp : Int) := by unfold atN; rw [hf]
                  rw [hN] at hcL
                  have hge : ¬ (pp : Int) < 0 := by omega
                  have hnx : Hid _ := hap'
                  clear hap' hlo hec hx hTr hap hu hD hf hN
                  go_wp2
                  go_region_held3 (fun W : World => W.cell? ⟨w.heap.size, 0, none⟩ = some (.slice (some ⟨b, off, none⟩) n cap) ∧ W.cell? ⟨w.heap.size, 1, none⟩ = some (.int .i64 nx) ∧ W.cell? ⟨U.heap.size, 4, none⟩ = some (.slice (some ⟨eb, eo, none⟩) n2 r.c2) ∧ W.cell? ⟨eb, eo + q * 2 + 1, none⟩ = some (.int .i64 u)) (go_keep) ((go_at_call 45; (with_reducible refine hcL.mono ?_); rintro e w2 ⟨rfl, hb2⟩; obtain ⟨p0, p1, p2, p3⟩ := HKI.out w2 ((Below.refl _ _).drew.trans hb2)))
                  have hB2 : Below wr.heap.size wr w2 := (Below.refl _ wr).drew.trans hb2
                  clear zt0 zt1 y4 x2 hcL p0 p1 p2 p3
                  go_wp2
                  go_roundw
                  all_goals first
                    | (case rel => (repeat apply Exists.intro); exact ⟨⟨q + 1, by omega, by go_num, hnx, hBi.trans (hB2.mono hBi.size)⟩, rfl⟩)
                    | (case rel => exact ⟨q + 1, by omega, by go_num, hnx, hBi.trans (hB2.mono hBi.size)⟩)
                    | (case measure => simp [intOf]; omega)
              · have hqi : ¬ (q : Int) < (n2 : Int) := by omega
                have hfin : Hid ((ds.drop (k + 1)).all (goodD ds) = R) := by
                  have h1 := hap.out
                  rw [List.drop_of_length_le (by rw [HN.out]; omega)] at h1
                  exact h1
                go_wp2
                go_roundw
                case rel => exact ⟨k + 1, by omega, by go_num, hfin, hB0r⟩
                case measure => simp [intOf]; omega
          · have hlb : ((lk : Int) != i3) = true := by simpa using hlk
            have hlb' : ((lk : Int) == i3) = false := by simpa using hlk
            rw [decide_eq_false hlk, Bool.false_and, Bool.false_and] at hall'
            have hend : Hid (false = R) := hall'
            clear hall'
            go_wp2
            go_region_held3 (fun W : World => W.cell? ⟨w.heap.size, 0, none⟩ = some (.slice (some ⟨b, off, none⟩) n cap) ∧ W.cell? ⟨w.heap.size, 1, none⟩ = some (.int .i64 nx) ∧ W.cell? ⟨U.heap.size, 0, none⟩ = some (.int .i64 i1) ∧ W.cell? ⟨U.heap.size, 2, none⟩ = some (.int .i64 i3)) (go_keep) ((go_at_call 44; (with_reducible refine hcK.mono ?_); rintro e w2 ⟨rfl, hb2⟩; obtain ⟨p0, p1, p2, p3⟩ := hKK.out w2 ((Below.refl _ _).drew.trans hb2)))
            have hB2 : Below U.heap.size U w2 := HBA.out.drew.trans (hb2.mono HBA.out.size)
            clear p0 p1 p2 p3 g0 g1 g2 g3 t0 t1 x0 x1 x2 x3 x4 x5 hcK
            go_wp2
            go_ret
            exact ⟨ret_bool hend.out, HB0.out.trans ((hB.trans (hB2.mono hB.size)).mono hws)⟩
        · have hki : ¬ (k : Int) < (n : Int) := by omega
          have hend : Hid (true = R) := by
            have h1 := hall.out
            rw [List.drop_of_length_le (by rw [hdn.out]; omega)] at h1
            exact h1
          go_wp2
          go_ret
          exact ⟨ret_bool hend.out, HB0.out.trans (hB.mono hws)⟩
    · have hmb : ((m : Int) != (n : Int)) = true := by simp; omega
      have hmb' : ((m : Int) == (n : Int)) = false := by simp; omega
      have hmi : ¬ (m : Int) = (n : Int) := by omega
      rw [decide_eq_false hmn, Bool.false_and] at hR
      have hend : Hid (false = R) := hR
      clear hR
      refine wp_region_noPanic ?_
      refine wp_region_held_drew (S := fun W : World => W.cell? ⟨w.heap.size, 0, none⟩ = some (.slice a n cap) ∧ W.cell? ⟨w.heap.size, 1, none⟩ = some (.int .i64 nx)) (by kernel_rfl) (by go_keep) (fun hS => ?_)
      refine wpAnyH_take (i := 0) (v := ?gv15) rfl (by kernel_rfl) (by kernel_rfl) (by kernel_rfl) (fun _ _ _ h => h) (Or.inl ⟨by kernel_rfl, ?gy15⟩) (by assumption) ?gr15
      case gy15 => (intro w' hSw; (try dsimp only at hSw); go_simp; (try with_reducible rfl))
      try simp only [Act.put, List.setIfInBounds_toArray, List.set_cons_zero, List.set_cons_succ, List.getElem_toArray, List.getElem_cons_zero]
      refine wpAnyH_ready (rs := [1]) (by kernel_rfl) (by simp) ?_
      refine AllReadyH.cons rfl (fun K hK => ?_) AllReadyH.nil
      go_simp
      go_at_call 42
      (with_reducible refine hT1.mono ?_)
      rintro e w1 ⟨rfl, bA⟩
      have B1 : Below W0.heap.size W0 w1 := (Below.refl _ W0).drew.trans bA
      clear hS
      dsimp only
      refine Shut.out hK _ _ (HK.out w1 B1) (fun hS => ?_)
      try simp only [Act.put, List.setIfInBounds_toArray, List.set_cons_zero, List.set_cons_succ, List.getElem_toArray, List.getElem_cons_succ, List.getElem_cons_zero]
      refine wpAnyH_take (i := 2) (v := ?gv16) rfl (by kernel_rfl) (by kernel_rfl) (by kernel_rfl) (fun _ _ _ h => h) (Or.inl ⟨by kernel_rfl, ?gy16⟩) (by assumption) ?gr16
      case gy16 => (intro w' hSw; (try dsimp only at hSw); go_simp; (try with_reducible rfl))
      try simp only [Act.put, List.setIfInBounds_toArray, List.set_cons_zero, List.set_cons_succ, List.getElem_toArray, List.getElem_cons_succ, List.getElem_cons_zero]
      refine wpAnyH_take (i := 3) (v := ?gv17) rfl (by kernel_rfl) (by kernel_rfl) (by kernel_rfl) (fun _ _ _ h => h) (Or.inl ⟨by kernel_rfl, ?gy17⟩) (by assumption) ?gr17
      case gy17 => (intro w' hSw; (try dsimp only at hSw); go_simp; (try with_reducible rfl))
      try simp only [Act.put, List.setIfInBounds_toArray, List.set_cons_zero, List.set_cons_succ, List.getElem_toArray, List.getElem_cons_succ, List.getElem_cons_zero]
      refine wpAnyH_take (i := 4) (v := ?gv18) rfl (by kernel_rfl) (by kernel_rfl) (by kernel_rfl) (fun _ _ _ h => h) (Or.inl ⟨by kernel_rfl, ?gy18⟩) (by assumption) ?gr18
      case gy18 => (intro w' hSw; (try dsimp only at hSw); go_simp; (try with_reducible rfl))
      try simp only [Act.put, List.setIfInBounds_toArray, List.set_cons_zero, List.set_cons_succ, List.getElem_toArray, List.getElem_cons_succ, List.getElem_cons_zero]
      refine wpAnyH_take (i := 7) (v := ?gv19) rfl (by kernel_rfl) (by kernel_rfl) (by kernel_rfl) (fun _ _ _ h => h) (Or.inl ⟨by kernel_rfl, ?gy19⟩) (by assumption) ?gr19
      case gy19 => (intro w' hSw; (try dsimp only at hSw); go_simp; (try with_reducible rfl))
      try simp only [Act.put, List.setIfInBounds_toArray, List.set_cons_zero, List.set_cons_succ, List.getElem_toArray, List.getElem_cons_succ, List.getElem_cons_zero]
      refine wpAnyH_take (i := 8) (v := ?gv20) rfl (by kernel_rfl) (by kernel_rfl) (by kernel_rfl) (fun _ _ _ h => h) (Or.inl ⟨by kernel_rfl, ?gy20⟩) (by assumption) ?gr20
      case gy20 => (intro w' hSw; (try dsimp only at hSw); go_simp; (try with_reducible rfl))
      try simp only [Act.put, List.setIfInBounds_toArray, List.set_cons_zero, List.set_cons_succ, List.getElem_toArray, List.getElem_cons_succ, List.getElem_cons_zero]
      refine wpAnyH_take (i := 9) (v := ?gv21) rfl (by kernel_rfl) (by kernel_rfl) (by kernel_rfl) (fun _ _ _ h => h) (Or.inl ⟨by kernel_rfl, ?gy21⟩) (by assumption) ?gr21
      case gy21 => (intro w' hSw; (try dsimp only at hSw); go_simp; (try with_reducible rfl))
      try simp only [Act.put, List.setIfInBounds_toArray, List.set_cons_zero, List.set_cons_succ, List.getElem_toArray, List.getElem_cons_succ, List.getElem_cons_zero]
      refine wpAnyH_ready (rs := [5]) (by kernel_rfl) (by simp) ?_
      refine AllReadyH.cons rfl (fun K hK => ?_) AllReadyH.nil
      go_simp
      go_at_call 43
      (with_reducible refine (HCR.out w1 (HB0.out.trans (B1.mono hws))).mono ?_)
      rintro e w2 ⟨ra, rc, rfl, rr, bR⟩
      rw [hm]
      have B2 : Below W0.heap.size W0 w2 := B1.trans (bR.mono B1.size)
      clear hS
      dsimp only
      refine Shut.out hK _ _ (HK.out w2 B2) (fun hS => ?_)
      try simp only [Act.put, List.setIfInBounds_toArray, List.set_cons_zero, List.set_cons_succ, List.getElem_toArray, List.getElem_cons_succ, List.getElem_cons_zero]
      refine wpAnyH_take (i := 6) (v := ?gv22) rfl (by kernel_rfl) (by kernel_rfl) (by kernel_rfl) (fun _ _ _ h => h) (Or.inl ⟨by kernel_rfl, ?gy22⟩) (by assumption) ?gr22
      case gy22 => (intro w' hSw; (try dsimp only at hSw); go_simp; (try with_reducible rfl))
      try simp only [Act.put, List.setIfInBounds_toArray, List.set_cons_zero, List.set_cons_succ, List.getElem_toArray, List.getElem_cons_succ, List.getElem_cons_zero]
      refine wpAnyH_take (i := 10) (v := ?gv23) rfl (by kernel_rfl) (by kernel_rfl) (by kernel_rfl) (fun _ _ _ h => h) (Or.inl ⟨by kernel_rfl, ?gy23⟩) (by assumption) ?gr23
      case gy23 => (intro w' hSw; (try dsimp only at hSw); go_simp; (try with_reducible rfl))
      try simp only [Act.put, List.setIfInBounds_toArray, List.set_cons_zero, List.set_cons_succ, List.getElem_toArray, List.getElem_cons_succ, List.getElem_cons_zero]
      refine wpAnyH_take (i := 11) (v := ?gv24) rfl (by kernel_rfl) (by kernel_rfl) (by kernel_rfl) (fun _ _ _ h => h) (Or.inl ⟨by kernel_rfl, ?gy24⟩) (by assumption) ?gr24
      case gy24 => (intro w' hSw; (try dsimp only at hSw); go_simp; (try with_reducible rfl))
      try simp only [Act.put, List.setIfInBounds_toArray, List.set_cons_zero, List.set_cons_succ, List.getElem_toArray, List.getElem_cons_succ, List.getElem_cons_zero]
      refine wpAnyH_done (by kernel_rfl) (NoPanic.normal ?_) _
      clear t0 t1 hT1 rr bR bA
      go_wp2
      go_ret
      exact ⟨ret_bool hend.out, HB0.out.trans (B2.mono hws)⟩
end Go.Proofs.YtfjlemnohjnkhaaGreat
