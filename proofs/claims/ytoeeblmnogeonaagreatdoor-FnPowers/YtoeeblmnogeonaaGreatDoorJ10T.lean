/-
  Joined: ChRd, ChCs, ChSp, ChMk.
-/
import Derived.Test.YtoeeblmnogeonaaGreatDoorJ09T
namespace Go.Proofs.YtoeeblmnogeonaaGreatDoor
section
open Go.RowKit
/-- What is read of a page: nothing, if it is not written. -/
def readD (ds : List BkD) (x y : Int) : Option (List Int) :=
  if 0 ≤ x ∧ 0 ≤ y then (match ds[x.toNat]? with | some b => (match b.ps[y.toNat]? with | some p => if p.used then some p.zs else none | none => none) | none => none) else none
theorem readD_in {bs : List BkR} {k j : Nat} {r : BkR} {p : PgR} (h : bs[k]? = some r) (h2 : r.ps[j]? = some p) : readD (bs.map BkR.D) (k : Int) (j : Int) = if p.used then some p.zs else none := by
  unfold readD
  rw [if_pos (by omega)]
  simp [h, h2, BkR.D, PgR.D]
theorem readD_bk {ds : List BkD} {x y : Int} (h : ¬ (0 ≤ x ∧ x < (ds.length : Int))) : readD ds x y = none := by
  unfold readD
  split
  · rw [List.getElem?_eq_none (by omega)]
  · rfl
theorem readD_pg {bs : List BkR} {k : Nat} {r : BkR} {y : Int} (hb : bs[k]? = some r) (h : ¬ (0 ≤ y ∧ y < (r.ps.length : Int))) : readD (bs.map BkR.D) (k : Int) y = none := by
  unfold readD
  split
  · rename_i hxy
    have : (r.ps.map PgR.D)[y.toNat]? = none := List.getElem?_eq_none (by simp; omega)
    simp [hb, BkR.D]
    rw [List.getElem?_eq_none (by omega)]
    rfl
  · rfl
/-- What was answered: a new list (or nil) and whether it was there. -/
structure RdA (w : World) (o : Option (List Int)) (e : Ending) (w' : World) : Prop where
  ans : ∃ v, e = .returned (.tuple #[v, .bool o.isSome]) ∧ OwnV 0 w' v (o.getD []).length (o.getD []) ∧ ∀ g, v.ownBlock = some g → w.heap.size ≤ g
  bel : Below w.heap.size w w'
theorem ownV_fresh {W : World} : OwnV 0 (W.alloc (.cells #[] 5)) (.slice (some ⟨W.heap.size, 0, none⟩) 0 0) 0 [] := empty_row W 0 5 1 (Nat.zero_le _)
set_option maxRecDepth 100000 in
set_option maxHeartbeats 4000000 in
theorem readI (a : Option Addr) (n cap : Nat) (bs : List BkR) (x y : Int) (w : World) (ht : CR w a n bs) :
    Calls Tryz.prog 15 #[.agg #[.slice a n cap], .int .i64 x, .int .i64 y] w (RdA w (readD (bs.map BkR.D) x y)) := by
  have B0 : Below w.heap.size w (w.alloc (.cells #[.slice a n cap] 26)) := (Below.refl _ w).alloc (Nat.le_refl _) _
  have hn1 := ht.n
  have hh := hasBk a n cap x (w.alloc (.cells #[.slice a n cap] 26)) hn1
  by_cases hx : 0 ≤ x ∧ x < (n : Int)
  · obtain ⟨k, rfl⟩ : ∃ k : Nat, x = (k : Int) := ⟨x.toNat, by omega⟩
    have hkn : k < n := by omega
    have hki : (k : Int) < (n : Int) := by omega
    have hd : (decide (0 ≤ (k : Int)) && decide ((k : Int) < (n : Int))) = true := by simp [hki]
    rw [hd] at hh
    obtain ⟨b, off, r, rfl, hlt, hrk, x3, hrp, htp⟩ := (ht.keep B0).some hkn
    obtain ⟨x0, x1, x2⟩ := x3
    have hpl := totP_len (r.ps.map PgR.D)
    simp only [List.length_map] at hpl
    have hp := hasPg r.a r.ps.length r.cap y (w.alloc (.cells #[.slice (some ⟨b, off, none⟩) n cap] 26)) (by omega)
    by_cases hy : 0 ≤ y ∧ y < (r.ps.length : Int)
    · obtain ⟨j, rfl⟩ : ∃ j : Nat, y = (j : Int) := ⟨y.toNat, by omega⟩
      have hjn : j < r.ps.length := by omega
      have hd2 : (decide (0 ≤ (j : Int)) && decide ((j : Int) < (r.ps.length : Int))) = true := by simp; omega
      rw [hd2] at hp
      obtain ⟨p, hpj⟩ : ∃ p, r.ps[j]? = some p := ⟨_, List.getElem?_eq_getElem hjn⟩
      have hrd := readD_in hrk hpj
      obtain ⟨b2, off2, ha2, hlt2, hc2⟩ := hrp.lt (by intro h; rw [h] at hpj; simp at hpj)
      obtain ⟨⟨y0, y1⟩, hrz⟩ := hc2 j p hpj
      have htz := totP_at hpj
      rw [ha2] at x0 hp
      have hjl : (j : Int) < (r.ps.length : Int) := by omega
      obtain ⟨n2, hn2⟩ : ∃ n2, r.ps.length = n2 := ⟨_, rfl⟩
      rw [hn2] at x0 hp hjl
      obtain ⟨u, hu⟩ : ∃ u, p.used = u := ⟨_, rfl⟩
      rw [hu] at y0 hrd
      obtain ⟨n3, hn3⟩ : ∃ n3, p.zs.length = n3 := ⟨_, rfl⟩
      rw [hn3] at y1 htz
      have hn3m : n3 ≤ 1048576 := by omega
      have B1 : Below w.heap.size w ((w.alloc (.cells #[.slice (some ⟨b, off, none⟩) n cap] 26)).alloc (.cells #[.bool u, .slice p.a n3 p.cap] 92)) := B0.alloc B0.size _
      have hrz1 := hrz.keep ((Below.refl (w.alloc (.cells #[.slice (some ⟨b, off, none⟩) n cap] 26)).heap.size _).alloc (Nat.le_refl _) (.cells #[.bool u, .slice p.a n3 p.cap] 92))
      have happ := fun ty => app_bytes ((w.alloc (.cells #[.slice (some ⟨b, off, none⟩) n cap] 26)).alloc (.cells #[.bool u, .slice p.a n3 p.cap] 92)) (.slice none 0 0) 0 [] p.a n3 p.cap p.zs hn3 (by omega) (ownV_nil 0 _) hrz1 ty
      have HB : Hid _ := B1
      have HP : Hid _ := happ
      have HZ : Hid (p.zs.length = n3) := hn3
      rw [hrd]
      generalize hGP : RdA w (if u = true then some p.zs else none) = P
      have HGP : Hid _ := hGP
      clear hrd hrk hpj ht B0 B1 hrp hd hd2 hc2 hrz hrz1 happ ha2 hu hn2 hn3 htz hGP htp hpl
      go_enter Tryz.func15, Tryz.ntmps15
      go_wp2_with fail
      refine hh.mono ?_
      rintro e w1 ⟨rfl, hw⟩
      obtain rfl := hw.symm
      go_wp2_with fail
      refine hp.mono ?_
      rintro e w1 ⟨rfl, hw⟩
      obtain rfl := hw.symm
      cases u
      · go_wp2
        rw [← HGP.out]
        exact ⟨⟨.slice none 0 0, rfl, ownV_nil 0 _, fun g hg => by simp [Value.ownBlock] at hg⟩, HB.out⟩
      · go_wp2_with (at_builtin; refine wpList_appAny _ rfl (.const (.slice none 0 0)) (.tmp 38) 22 rfl (.slice none 0 0) (.slice p.a n3 p.cap) _ rfl rfl HP.out ?_; intro v' W' hap)
        rw [← HGP.out]
        have hbl := HB.out
        have hz := HZ.out
        refine ⟨⟨v', rfl, ?_, fun g hg => ?_⟩, hbl.trans ((hap.below rfl).mono hbl.size)⟩
        · have := hap.own
          rw [Nat.zero_add, List.nil_append, ← hz] at this
          exact this
        · have h5 := hbl.size
          rcases hap.at_ with h4 | h4
          · rw [hg] at h4; simp [Value.ownBlock] at h4
          · rw [hg] at h4; simp at h4; simp at h5; omega
    · have hd2 : (decide (0 ≤ y) && decide (y < (r.ps.length : Int))) = false := by
        rw [← Bool.not_eq_true]; intro h; simp at h; exact hy h
      rw [hd2] at hp
      have hrd := readD_pg hrk hy
      rw [hrd]
      generalize hGP : RdA w none = P
      have HGP : Hid _ := hGP
      obtain ⟨n2, hn2⟩ : ∃ n2, r.ps.length = n2 := ⟨_, rfl⟩
      rw [hn2] at x0 hp
      clear hrd hrk ht hrp hd hd2 hGP hn2 hy hpl htp
      go_enter Tryz.func15, Tryz.ntmps15
      go_wp2_with fail
      refine hh.mono ?_
      rintro e w1 ⟨rfl, hw⟩
      obtain rfl := hw.symm
      go_wp2_with fail
      refine hp.mono ?_
      rintro e w1 ⟨rfl, hw⟩
      obtain rfl := hw.symm
      go_wp2
      rw [← HGP.out]
      exact ⟨⟨.slice none 0 0, rfl, ownV_nil 0 _, fun g hg => by simp [Value.ownBlock] at hg⟩, B0⟩
  · have hd : (decide (0 ≤ x) && decide (x < (n : Int))) = false := by
      rw [← Bool.not_eq_true]; intro h; simp at h; exact hx h
    rw [hd] at hh
    have hrd : readD (bs.map BkR.D) x y = none := readD_bk (by simpa [ht.len] using hx)
    rw [hrd]
    generalize hGP : RdA w none = P
    have HGP : Hid _ := hGP
    clear hrd ht hd hGP hx
    go_enter Tryz.func15, Tryz.ntmps15
    go_wp2_with fail
    refine hh.mono ?_
    rintro e w1 ⟨rfl, hw⟩
    obtain rfl := hw.symm
    go_wp2
    rw [← HGP.out]
    exact ⟨⟨.slice none 0 0, rfl, ownV_nil 0 _, fun g hg => by simp [Value.ownBlock] at hg⟩, B0⟩
end

section
open Go.RowKit
/-- One page more, its bytes appended to a fresh empty list. -/
theorem CB.stepS {w0 W8 W9 W10 : World} {X k n1 F : Nat} {wear : Int} {bad : Bool} {v : Value} {us : List PgR} {ds : List PgD} {u : Bool} {pz : List Int} {a1 a2 : Option Addr} {c1 c2 m : Nat} (h : CB w0 W8 X wear bad v us ds) (_hus : us.length = k) (hz : pz.length = n1) (hF : F = W8.heap.size)
    (ha : AppB (W8.alloc (.cells #[] 5)) (.slice (some ⟨F, 0, none⟩) 0 0) n1 pz (.slice a1 n1 c1) W9) (ha2 : AppP (W9.alloc (.cells #[.bool u, .slice a1 n1 c1] 92)) v (us ++ [⟨u, a1, c1, pz⟩]) (.slice a2 m c2) W10) (hm : m = k + 1) : CB w0 (W10.setCell ⟨X, 0, none⟩ (.slice a2 (k + 1) c2)) X wear bad (.slice a2 (k + 1) c2) (us ++ [⟨u, a1, c1, pz⟩]) (ds ++ [⟨u, pz⟩]) := by
  subst hm
  subst hF
  have bA : Below W8.heap.size W8 (W8.alloc (.cells #[] 5)) := (Below.refl _ W8).alloc (Nat.le_refl _) _
  have b9 : Below W8.heap.size W8 W9 := bA.grown ha.gr bA.size (fun g hg => by simp [Value.ownBlock] at hg; omega)
  refine CB.app (B := W8.heap.size) (h.keep b9) (p := ⟨u, a1, c1, pz⟩) ?_ ?_ (fun g hg => h.inn.lt g hg) h.x.lt (fun g hg => h.row.lt hg) h.bel.size b9.size ha2
  · refine ⟨?_, ?_⟩
    · show RowB W9 (.slice a1 pz.length c1) pz.length pz
      rw [hz]
      exact OwnV.rowB ha.own
    · show pz.length ≤ c1
      rw [hz]
      exact ha.room
  · intro g hg
    have hg' : (Value.slice a1 n1 c1).ownBlock = some g := by rw [← hz]; exact hg
    rcases ha.at_ with e | e
    · rw [hg'] at e; simp [Value.ownBlock] at e; omega
    · rw [hg'] at e; simp at e; omega
set_option maxRecDepth 100000 in
set_option maxHeartbeats 8000000 in
theorem copyBlkS (a : Option Addr) (n cap : Nat) (wear : Int) (bad : Bool) (ps : List PgR) (w : World) (hn : ps.length = n) (hs : totP (ps.map PgR.D) ≤ 1048576) (hr : RdPs w a ps) :
    Calls Tryz.prog 130 #[.agg #[.slice a n cap, .int .i64 wear, .bool bad]] w (CpA w n wear bad (ps.map PgR.D)) := by
  have hnn : n ≤ 1048576 := by have hl := totP_len (ps.map PgR.D); simp at hl; omega
  have B0 : Below w.heap.size w ((w.alloc (.cells #[.slice a n cap, .int .i64 wear, .bool bad] 42)).alloc (.cells #[.slice none 0 0, .int .i64 0, .bool false] 42)) := ((Below.refl _ w).alloc (Nat.le_refl _) _).alloc (by simp) _
  have z0 := (Blk.new w 42 #[.slice a n cap, .int .i64 wear, .bool bad]).alloc (.cells #[.slice none 0 0, .int .i64 0, .bool false] 42)
  have z1 := Blk.new (w.alloc (.cells #[.slice a n cap, .int .i64 wear, .bool bad] 42)) 42 #[.slice none 0 0, .int .i64 0, .bool false]
  simp only [World.size_alloc] at z1
  have hws : ((w.alloc (.cells #[.slice a n cap, .int .i64 wear, .bool bad] 42)).alloc (.cells #[.slice none 0 0, .int .i64 0, .bool false] 42)).heap.size = w.heap.size + 2 := by simp
  obtain ⟨H, hH⟩ : ∃ H, w.heap.size = H := ⟨_, rfl⟩
  rw [hH] at z0 z1 hws
  go_enter Tryz.func130, Tryz.ntmps130
  go_upto_region 1 with fail
  obtain ⟨W0, hW0⟩ : ∃ W, (w.alloc (.cells #[.slice a n cap, .int .i64 wear, .bool bad] 42)).alloc (.cells #[.slice none 0 0, .int .i64 0, .bool false] 42) = W := ⟨_, rfl⟩
  rw [hW0] at B0 z0 z1 hws ⊢
  clear hW0
  have x1 := z0.cell 1
  have x2 := z0.cell 2
  simp at x1 x2
  have zX := Blk.new W0 42 #[.slice none 0 0, .int .i64 wear, .bool bad]
  have cb : CB W0 (W0.alloc (.cells #[.slice none 0 0, .int .i64 wear, .bool bad] 42)) W0.heap.size wear bad (.slice none 0 0) [] [] := ⟨(Below.refl _ W0).alloc (Nat.le_refl _) _, zX, Nat.le_refl _, ownE_nil _ _ _, Inn.nil _ _ _, by simp [Kd.fps], fun g hg => by simp [Value.ownBlock] at hg⟩
  have HW : Hid _ := hws
  have HH : Hid (w.heap.size = H) := hH
  have HRP : Hid (RdPs W0 a ps) := hr.keep B0
  have HN : Hid (ps.length = n) := hn
  have HS : Hid _ := hs
  have HB0 : Hid (Below H w W0) := by rw [← hH]; exact B0
  have HZ0 : Hid (Blk W0 H 42 #[.slice a n cap, .int .i64 wear, .bool bad]) := z0
  have HZ1 : Hid (Blk W0 (H + 1) 42 #[.slice none 0 0, .int .i64 0, .bool false]) := z1
  clear hr hn hs B0 z0 z1 zX hH
  rw [hws] at cb
  go_upto_region 3 with fail
  try rw [hws]
  clear x1 x2 hws
  go_loopw [4] (fun i wr => ∃ (k : Nat) (v : Value) (us : List PgR), k ≤ n ∧ i = .int .i64 k ∧ us.length = k ∧ Hid (CB W0 wr (H + 2) wear bad v us ((ps.take k).map PgR.D))) (fun i _ => n - (intOf i).toNat)
  case atStart => exact ⟨0, .slice none 0 0, [], by omega, rfl, rfl, cb⟩
  case round =>
    obtain ⟨k, v, us, hk, rfl, hus, hcb⟩ := hrel
    clear cb
    have y0 := (Blk.keep HZ0.out hcb.out.bel).cell 0
    simp at y0
    by_cases hkn : k < n
    · have hki : (k : Int) < (n : Int) := by omega
      obtain ⟨p, hpk⟩ : ∃ p, ps[k]? = some p := ⟨_, List.getElem?_eq_getElem (by rw [HN.out]; exact hkn)⟩
      obtain ⟨b, off, rfl, hlt, hc⟩ := RdPs.lt HRP.out (by intro h; rw [h] at hpk; simp at hpk)
      obtain ⟨⟨c0, c1⟩, hrz⟩ := hc k p hpk
      have htz := totP_at hpk
      have hso := HS.out
      have hpD : Hid ((ps.take (k + 1)).map PgR.D = (ps.take k).map PgR.D ++ [⟨p.used, p.zs⟩]) := by show _ = _; rw [List.take_add_one, hpk]; simp [PgR.D]
      obtain ⟨u, pa, pc, pz⟩ := p
      dsimp only at c0 c1 hrz htz hpD
      obtain ⟨n1, hn1⟩ : ∃ n1, pz.length = n1 := ⟨_, rfl⟩
      have HN1 : Hid (pz.length = n1) := hn1
      have hn1m : n1 ≤ 1048576 := by omega
      rw [hn1] at c1
      -- the cells that the region reads, in every world that is as W0 was below its size, and X's
      have hcells : Hid (∀ W : World, Below W0.heap.size W0 W → W.cell? ⟨H, 0, none⟩ = some (.slice (some ⟨b, off, none⟩) n cap) ∧ W.cell? ⟨b, off + k * 2, none⟩ = some (.bool u) ∧ W.cell? ⟨b, off + k * 2 + 1, none⟩ = some (.slice pa n1 pc)) := fun W hW => ⟨by have := (Blk.keep HZ0.out hW).cell 0; simpa using this, (hW.cell (p := ⟨b, off + k * 2, none⟩) hlt).trans c0, (hW.cell (p := ⟨b, off + k * 2 + 1, none⟩) hlt).trans c1⟩
      have cbd : CB W0 wr.drew (H + 2) wear bad v us ((ps.take k).map PgR.D) := hcb.out.keep (Below.refl _ _).drew
      have x0 := cbd.x.cell 0
      simp at x0
      obtain ⟨y1, y2, y3⟩ := hcells.out wr.drew cbd.bel
      have bA : Below wr.drew.heap.size wr.drew (wr.drew.alloc (.cells #[] 5)) := (Below.refl _ _).alloc (Nat.le_refl _) _
      have cbA := cbd.keep bA
      have HXA : Hid ((wr.drew.alloc (.cells #[] 5)).cell? ⟨H + 2, 0, none⟩ = some v) := by have := cbA.x.cell 0; simp at this; exact this
      have HCA : Hid (CB W0 (wr.drew.alloc (.cells #[] 5)) (H + 2) wear bad v us ((ps.take k).map PgR.D)) := cbA
      have hofr := ownV_fresh (W := wr.drew)
      have happ : ∀ ty, ∃ v' W', (Builtin.append_ #[22, 22] ty #[.slice (some ⟨wr.heap.size, 0, none⟩) 0 0, .slice pa n1 pc]).run Tryz.prog (wr.drew.alloc (.cells #[] 5)) = .ok v' W' ∧ AppB (wr.drew.alloc (.cells #[] 5)) (.slice (some ⟨wr.heap.size, 0, none⟩) 0 0) n1 pz v' W' := fun ty => by
        have := app_bytes (wr.drew.alloc (.cells #[] 5)) (.slice (some ⟨wr.heap.size, 0, none⟩) 0 0) 0 [] pa n1 pc pz HN1.out (by omega) hofr (hrz.keep cbA.bel) ty
        rw [Nat.zero_add, List.nil_append] at this
        exact this
      have HAP : Hid _ := happ
      have HCB : Hid (CB W0 wr.drew (H + 2) wear bad v us ((ps.take k).map PgR.D)) := cbd
      have hkk : ¬ (k : Int) < 0 := by omega
      clear hpk hc htz hso hn1 hrz hcb c0 c1 hlt cbd cbA hofr happ y0 bA
      have y0 : wr.cell? ⟨H, 0, none⟩ = some (.slice (some ⟨b, off, none⟩) n cap) := y1
      go_upto_region 5 with fail
      clear y0
      refine wp_region_noPanic ?_
      refine wp_region_last (fun W : World => W.cell? ⟨H + 2, 0, none⟩ = some v ∧ W.cell? ⟨H, 0, none⟩ = some (.slice (some ⟨b, off, none⟩) n cap) ∧ W.cell? ⟨b, off + k * 2, none⟩ = some (.bool u) ∧ W.cell? ⟨b, off + k * 2 + 1, none⟩ = some (.slice pa n1 pc)) 20 (by kernel_rfl) (by kernel_rfl) (by go_keep) 20 (by kernel_rfl) (fun hS => ?_)
      refine wpAnyH_take (i := 0) (v := ?gv1) rfl (by kernel_rfl) (by kernel_rfl) (by kernel_rfl) (fun _ _ _ h => h) (Or.inl ⟨by kernel_rfl, ?gy1⟩) (by assumption) ?gr1
      case gy1 => (intro w' hSw; (try dsimp only at hSw); go_simp; (try with_reducible rfl))
      try simp only [Act.put, List.setIfInBounds_toArray, List.set_cons_zero, List.set_cons_succ, List.getElem_toArray, List.getElem_cons_zero]
      refine wpAnyH_take (i := 1) (v := ?gv2) rfl (by kernel_rfl) (by kernel_rfl) (by kernel_rfl) (fun _ _ _ h => h) (Or.inl ⟨by kernel_rfl, ?gy2⟩) (by assumption) ?gr2
      case gy2 => (intro w' hSw; (try dsimp only at hSw); go_simp; (try with_reducible rfl))
      try simp only [Act.put, List.setIfInBounds_toArray, List.set_cons_zero, List.set_cons_succ, List.getElem_toArray, List.getElem_cons_succ, List.getElem_cons_zero]
      refine wpAnyH_take (i := 2) (v := ?gv3) rfl (by kernel_rfl) (by kernel_rfl) (by kernel_rfl) (fun _ _ _ h => h) (Or.inl ⟨by kernel_rfl, ?gy3⟩) (by assumption) ?gr3
      case gy3 => (intro w' hSw; (try dsimp only at hSw); go_simp; (try with_reducible rfl))
      try simp only [Act.put, List.setIfInBounds_toArray, List.set_cons_zero, List.set_cons_succ, List.getElem_toArray, List.getElem_cons_succ, List.getElem_cons_zero]
      refine wpAnyH_take (i := 3) (v := ?gv4) rfl (by kernel_rfl) (by kernel_rfl) (by kernel_rfl) (fun _ _ _ h => h) (Or.inl ⟨by kernel_rfl, ?gy4⟩) (by assumption) ?gr4
      case gy4 => (intro w' hSw; (try dsimp only at hSw); go_simp; (try with_reducible rfl))
      try simp only [Act.put, List.setIfInBounds_toArray, List.set_cons_zero, List.set_cons_succ, List.getElem_toArray, List.getElem_cons_succ, List.getElem_cons_zero]
      refine wpAnyH_take (i := 4) (v := ?gv5) rfl (by kernel_rfl) (by kernel_rfl) (by kernel_rfl) (fun _ _ _ h => h) (Or.inl ⟨by kernel_rfl, ?gy5⟩) (by assumption) ?gr5
      case gy5 => (intro w' hSw; (try dsimp only at hSw); go_simp; (try with_reducible rfl))
      try simp only [Act.put, List.setIfInBounds_toArray, List.set_cons_zero, List.set_cons_succ, List.getElem_toArray, List.getElem_cons_succ, List.getElem_cons_zero]
      refine wpAnyH_take (i := 5) (v := ?gv6) rfl (by kernel_rfl) (by kernel_rfl) (by kernel_rfl) (fun _ _ _ h => h) (Or.inl ⟨by kernel_rfl, ?gy6⟩) (by assumption) ?gr6
      case gy6 => (intro w' hSw; (try dsimp only at hSw); go_simp; (try with_reducible rfl))
      try simp only [Act.put, List.setIfInBounds_toArray, List.set_cons_zero, List.set_cons_succ, List.getElem_toArray, List.getElem_cons_succ, List.getElem_cons_zero]
      refine wpAnyH_take (i := 6) (v := ?gv7) rfl (by kernel_rfl) (by kernel_rfl) (by kernel_rfl) (fun _ _ _ h => h) (Or.inl ⟨by kernel_rfl, ?gy7⟩) (by assumption) ?gr7
      case gy7 => (intro w' hSw; (try dsimp only at hSw); go_simp; (try with_reducible rfl))
      try simp only [Act.put, List.setIfInBounds_toArray, List.set_cons_zero, List.set_cons_succ, List.getElem_toArray, List.getElem_cons_succ, List.getElem_cons_zero]
      refine wpAnyH_take (i := 7) (v := ?gv8) rfl (by kernel_rfl) (by kernel_rfl) (by kernel_rfl) (fun _ _ _ h => h) (Or.inl ⟨by kernel_rfl, ?gy8⟩) (by assumption) ?gr8
      case gy8 => (intro w' hSw; (try dsimp only at hSw); go_simp; (try with_reducible rfl))
      try simp only [Act.put, List.setIfInBounds_toArray, List.set_cons_zero, List.set_cons_succ, List.getElem_toArray, List.getElem_cons_succ, List.getElem_cons_zero]
      refine wpAnyH_take (i := 9) (v := ?gv9) rfl (by kernel_rfl) (by kernel_rfl) (by kernel_rfl) (fun _ _ _ h => h) (Or.inl ⟨by kernel_rfl, ?gy9⟩) (by assumption) ?gr9
      case gy9 => (intro w' hSw; (try dsimp only at hSw); go_simp; (try with_reducible rfl))
      try simp only [Act.put, List.setIfInBounds_toArray, List.set_cons_zero, List.set_cons_succ, List.getElem_toArray, List.getElem_cons_succ, List.getElem_cons_zero]
      refine wpAnyH_take (i := 10) (v := ?gv10) rfl (by kernel_rfl) (by kernel_rfl) (by kernel_rfl) (fun _ _ _ h => h) (Or.inl ⟨by kernel_rfl, ?gy10⟩) (by assumption) ?gr10
      case gy10 => (intro w' hSw; (try dsimp only at hSw); go_simp; (try with_reducible rfl))
      try simp only [Act.put, List.setIfInBounds_toArray, List.set_cons_zero, List.set_cons_succ, List.getElem_toArray, List.getElem_cons_succ, List.getElem_cons_zero]
      refine wpAnyH_take (i := 11) (v := ?gv11) rfl (by kernel_rfl) (by kernel_rfl) (by kernel_rfl) (fun _ _ _ h => h) (Or.inl ⟨by kernel_rfl, ?gy11⟩) (by assumption) ?gr11
      case gy11 => (intro w' hSw; (try dsimp only at hSw); go_simp; (try with_reducible rfl))
      try simp only [Act.put, List.setIfInBounds_toArray, List.set_cons_zero, List.set_cons_succ, List.getElem_toArray, List.getElem_cons_succ, List.getElem_cons_zero]
      refine wpAnyH_take (i := 12) (v := ?gv12) rfl (by kernel_rfl) (by kernel_rfl) (by kernel_rfl) (fun _ _ _ h => h) (Or.inl ⟨by kernel_rfl, ?gy12⟩) (by assumption) ?gr12
      case gy12 => (intro w' hSw; (try dsimp only at hSw); go_simp; (try with_reducible rfl))
      try simp only [Act.put, List.setIfInBounds_toArray, List.set_cons_zero, List.set_cons_succ, List.getElem_toArray, List.getElem_cons_succ, List.getElem_cons_zero]
      refine wpAnyH_take (i := 13) (v := ?gv13) rfl (by kernel_rfl) (by kernel_rfl) (by kernel_rfl) (fun _ _ _ h => h) (Or.inl ⟨by kernel_rfl, ?gy13⟩) (by assumption) ?gr13
      case gy13 => (intro w' hSw; (try dsimp only at hSw); go_simp; (try with_reducible rfl))
      try simp only [Act.put, List.setIfInBounds_toArray, List.set_cons_zero, List.set_cons_succ, List.getElem_toArray, List.getElem_cons_succ, List.getElem_cons_zero]
      refine wpAnyH_take (i := 14) (v := ?gv14) rfl (by kernel_rfl) (by kernel_rfl) (by kernel_rfl) (fun _ _ _ h => h) (Or.inl ⟨by kernel_rfl, ?gy14⟩) (by assumption) ?gr14
      case gy14 => (intro w' hSw; (try dsimp only at hSw); go_simp; (try with_reducible rfl))
      try simp only [Act.put, List.setIfInBounds_toArray, List.set_cons_zero, List.set_cons_succ, List.getElem_toArray, List.getElem_cons_succ, List.getElem_cons_zero]
      refine wpAnyH_ready (rs := [8]) (by kernel_rfl) (by simp) ?_
      refine AllReadyH.cons rfl (fun K hK => ?_) AllReadyH.nil
      go_simp
      clear hS
      try dsimp only
      refine Shut.out hK _ _ (⟨HXA.out, hcells.out _ HCA.out.bel⟩) (fun hS => ?_)
      try simp only [Act.put, List.setIfInBounds_toArray, List.set_cons_zero, List.set_cons_succ, List.getElem_toArray, List.getElem_cons_succ, List.getElem_cons_zero]
      refine wpAnyH_ready (rs := [15]) (by kernel_rfl) (by simp) ?_
      refine AllReadyH.cons rfl (fun K hK => ?_) AllReadyH.nil
      refine step_appAny (wr.drew.alloc (.cells #[] 5)) rfl (.tmp 25) (.tmp 31) 22 rfl (.slice (some ⟨wr.heap.size, 0, none⟩) 0 0) (.slice pa n1 pc) _ rfl rfl HAP.out ?_
      intro v1 W9 hap
      obtain ⟨a1, c1, rfl, _⟩ := (OwnV.rowB hap.own).form
      have bA : Below wr.drew.heap.size wr.drew (wr.drew.alloc (.cells #[] 5)) := (Below.refl _ _).alloc (Nat.le_refl _) _
      have b9 : Below wr.drew.heap.size wr.drew W9 := bA.grown hap.gr bA.size (fun g hg => by simp [Value.ownBlock] at hg; show wr.heap.size ≤ g; omega)
      have cb9 := HCB.out.keep b9
      have HX9 : Hid (W9.cell? ⟨H + 2, 0, none⟩ = some v) := (by have := cb9.x.cell 0; simp at this; exact this)
      have hrow := cb9.row
      rw [hus] at hrow
      have happ2 := fun ty => app_page W9 v us k hus (by omega) hrow ⟨u, a1, c1, pz⟩ ty n1 HN1.out
      have HAP2 : Hid _ := happ2
      have HC9 : Hid (CB W0 W9 (H + 2) wear bad v us ((ps.take k).map PgR.D)) := cb9
      clear happ2 hrow b9 bA cb9
      clear hS
      try dsimp only
      refine Shut.out hK _ _ (⟨HX9.out, hcells.out _ HC9.out.bel⟩) (fun hS => ?_)
      try simp only [Act.put, List.setIfInBounds_toArray, List.set_cons_zero, List.set_cons_succ, List.getElem_toArray, List.getElem_cons_succ, List.getElem_cons_zero]
      refine wpAnyH_take (i := 16) (v := ?gv15) rfl (by kernel_rfl) (by kernel_rfl) (by kernel_rfl) (fun _ _ _ h => h) (Or.inl ⟨by kernel_rfl, ?gy15⟩) (by assumption) ?gr15
      case gy15 => (intro w' hSw; (try dsimp only at hSw); go_simp; (try with_reducible rfl))
      try simp only [Act.put, List.setIfInBounds_toArray, List.set_cons_zero, List.set_cons_succ, List.getElem_toArray, List.getElem_cons_succ, List.getElem_cons_zero]
      refine wpAnyH_ready (rs := [17]) (by kernel_rfl) (by simp) ?_
      refine AllReadyH.cons rfl (fun K hK => ?_) AllReadyH.nil
      go_simp
      have cbB := HC9.out.keep ((Below.refl _ W9).alloc (Nat.le_refl _) (.cells #[.bool u, .slice a1 n1 c1] 92))
      have HXB : Hid ((W9.alloc (.cells #[.bool u, .slice a1 n1 c1] 92)).cell? ⟨H + 2, 0, none⟩ = some v) := (by have := cbB.x.cell 0; simp at this; exact this)
      have HBB : Hid (Below W0.heap.size W0 (W9.alloc (.cells #[.bool u, .slice a1 n1 c1] 92))) := cbB.bel
      have hxB := cbB.x
      have HxB : Hid (Blk (W9.alloc (.cells #[.bool u, .slice a1 n1 c1] 92)) (H + 2) 42 #[v, .int .i64 wear, .bool bad]) := hxB
      clear cbB hxB
      clear hS
      try dsimp only
      refine Shut.out hK _ _ (⟨HXB.out, hcells.out _ HBB.out⟩) (fun hS => ?_)
      try simp only [Act.put, List.setIfInBounds_toArray, List.set_cons_zero, List.set_cons_succ, List.getElem_toArray, List.getElem_cons_succ, List.getElem_cons_zero]
      refine wpAnyH_ready (rs := [18]) (by kernel_rfl) (by simp) ?_
      refine AllReadyH.cons rfl (fun K hK => ?_) AllReadyH.nil
      refine step_appAny (W9.alloc (.cells #[.bool u, .slice a1 n1 c1] 92)) rfl (.tmp 18) (.tmp 34) 40 rfl v (.slice (some ⟨W9.heap.size, 0, none⟩) 1 1) _ rfl rfl HAP2.out ?_
      intro v2 W10 hap2
      obtain ⟨a2, c2, rfl, _⟩ := OwnE.rd (rd := fun _ => True) hap2.own (fun _ _ => trivial)
      have hxg := blk_gr HxB.out hap2.gr (fun e => (HC9.out.vn (H + 2) e).2.1 rfl)
      have g0 := hxg.cell 0
      have gf := hxg.frozen 0
      simp at g0
      have HBT : Hid (Below W0.heap.size W0 W10) := HBB.out.grown hap2.gr HBB.out.size (fun g hg => (HC9.out.vn g hg).1)
      clear hS
      try dsimp only
      refine Shut.out hK _ _ (⟨g0, hcells.out _ HBT.out⟩) (fun hS => ?_)
      try simp only [Act.put, List.setIfInBounds_toArray, List.set_cons_zero, List.set_cons_succ, List.getElem_toArray, List.getElem_cons_succ, List.getElem_cons_zero]
      refine wpAnyH_take (i := 19) (v := ?gv16) rfl (by kernel_rfl) (by kernel_rfl) (by kernel_rfl) (fun _ _ _ h => h) (Or.inl ⟨by kernel_rfl, ?gy16⟩) (by assumption) ?gr16
      case gy16 => (intro w' hSw; (try dsimp only at hSw); go_simp; (try with_reducible rfl))
      try simp only [Act.put, List.setIfInBounds_toArray, List.set_cons_zero, List.set_cons_succ, List.getElem_toArray, List.getElem_cons_succ, List.getElem_cons_zero]
      refine wpAnyH_done (by kernel_rfl) ?_ _
      refine wpOp_last rfl (fun K hK => ?_)
      clear hS
      go_simp
      refine Shut.out hK _ _ (NoPanic.normal ?_)
      have cbn : CB W0 (W10.setCell ⟨H + 2, 0, none⟩ (.slice a2 (k + 1) c2)) (H + 2) wear bad (.slice a2 (k + 1) c2) (us ++ [⟨u, a1, c1, pz⟩]) ((ps.take k).map PgR.D ++ [⟨u, pz⟩]) := CB.stepS HCB.out hus HN1.out rfl hap hap2 (by simp [hus])
      rw [← hpD.out] at cbn
      have CBN : Hid _ := cbn
      have hul : (us ++ [⟨u, a1, c1, pz⟩] : List PgR).length = k + 1 := by simp [hus]
      clear cbn hap hap2 hxg g0 gf x0 y1 y2 y3
      go_wp2
      go_roundw
      case rel => exact ⟨k + 1, _, _, by omega, by go_num, hul, CBN⟩
      case measure => simp [intOf]; omega
    · have hki : ¬ (k : Int) < (n : Int) := by omega
      obtain rfl : k = n := by omega
      have hcbo := hcb.out
      rw [List.take_of_length_le (by rw [HN.out]; omega)] at hcbo
      obtain ⟨va, vc, rfl, _⟩ := OwnE.rd (rd := fun _ => True) hcbo.row (fun _ _ => trivial)
      rw [hus] at hcbo
      have x0 := hcbo.x.cell 0
      have x1 := hcbo.x.cell 1
      have x2 := hcbo.x.cell 2
      have zr := Blk.keep HZ1.out hcbo.bel
      have r0 := zr.cell 0
      have r1 := zr.cell 1
      have r2 := zr.cell 2
      have f0 := zr.frozen 0
      have f1 := zr.frozen 1
      have f2 := zr.frozen 2
      have zf := ((zr.set 0 (.slice va k vc)).set 1 (.int .i64 wear)).set 2 (.bool bad)
      have d0 := zf.cell 0
      have d1 := zf.cell 1
      have d2 := zf.cell 2
      simp at x0 x1 x2 r0 r1 r2 d0 d1 d2
      have HC : Hid _ := hcbo
      clear hcbo zr zf
      go_wp2
      refine bodyPost_ret (v := .agg #[.slice va k vc, .int .i64 wear, .bool bad]) (by simp [results, Tryz.f130, go_sem, d0, d1, d2]) rfl ?_
      have hc := HC.out
      have hw := HW.out
      have hH := HH.out
      have hbs := HB0.out
      have bel : Below w.heap.size w wr := by rw [hH]; exact hbs.trans (hc.bel.mono (by omega))
      have hnp : NewPs wr (w.heap.size + 2) (.slice va k vc) (ps.map PgR.D) us := hc.inn.newPs (by rw [hus]; have := hc.row; rw [hus] at this; exact this) (by omega) (fun g hg => by have := hc.vn g hg; exact ⟨by omega, this.2.2⟩)
      refine ⟨va, vc, us, rfl, (((hnp.set_below (by omega)).set_below (by omega)).set_below (by omega)).wider (by omega), ?_⟩
      exact ((bel.setCell (p := ⟨H + 1, 0, none⟩) (by simp only; omega) _).setCell (p := ⟨H + 1, 1, none⟩) (by simp only; omega) _).setCell (p := ⟨H + 1, 2, none⟩) (by simp only; omega) _
end

section
open Go.RowKit
set_option maxRecDepth 100000 in
set_option maxHeartbeats 8000000 in
theorem copyChS (a : Option Addr) (n cap : Nat) (bs : List BkR) (w : World) (ht : CR w a n bs) :
    Calls Tryz.prog 104 #[.agg #[.slice a n cap]] w (ChA w (bs.map BkR.D)) := by
  have hnn := ht.n
  have B0 : Below w.heap.size w ((w.alloc (.cells #[.slice a n cap] 26)).alloc (.cells #[.slice none 0 0] 26)) := ((Below.refl _ w).alloc (Nat.le_refl _) _).alloc (by simp) _
  have z0 := (Blk.new w 26 #[.slice a n cap]).alloc (.cells #[.slice none 0 0] 26)
  have z1 := Blk.new (w.alloc (.cells #[.slice a n cap] 26)) 26 #[.slice none 0 0]
  simp only [World.size_alloc] at z1
  have hws : ((w.alloc (.cells #[.slice a n cap] 26)).alloc (.cells #[.slice none 0 0] 26)).heap.size = w.heap.size + 2 := by simp
  obtain ⟨H, hH⟩ : ∃ H, w.heap.size = H := ⟨_, rfl⟩
  rw [hH] at z0 z1 hws
  go_enter Tryz.func104, Tryz.ntmps104
  go_upto_region 1 with fail
  obtain ⟨W0, hW0⟩ : ∃ W, (w.alloc (.cells #[.slice a n cap] 26)).alloc (.cells #[.slice none 0 0] 26) = W := ⟨_, rfl⟩
  rw [hW0] at B0 z0 z1 hws ⊢
  clear hW0
  have cc : CC W0 (W0.alloc (.cells #[.slice none 0 0] 26)) W0.heap.size (.slice none 0 0) [] [] := CC.new ((Below.refl _ _).alloc (Nat.le_refl _) _) (Blk.new W0 26 #[.slice none 0 0]) (Nat.le_refl _)
  have HW : Hid _ := hws
  have HH : Hid (w.heap.size = H) := hH
  have HT : Hid (CR W0 a n bs) := ht.keep B0
  have HB0 : Hid (Below H w W0) := by rw [← hH]; exact B0
  have HZ0 : Hid (Blk W0 H 26 #[.slice a n cap]) := z0
  have HZ1 : Hid (Blk W0 (H + 1) 26 #[.slice none 0 0]) := z1
  have hln : Hid (bs.length = n) := ht.len
  clear ht B0 z0 z1 hH
  rw [hws] at cc
  go_upto_region 3 with fail
  try rw [hws]
  clear hws
  go_loopw [4] (fun i wr => ∃ (k : Nat) (v : Value) (us : List BkR), k ≤ n ∧ i = .int .i64 k ∧ us.length = k ∧ Hid (CC W0 wr (H + 2) v us ((bs.take k).map BkR.D))) (fun i _ => n - (intOf i).toNat)
  case atStart => exact ⟨0, .slice none 0 0, [], by omega, rfl, rfl, cc⟩
  case round =>
    obtain ⟨k, v, us, hk, rfl, hus, hcc⟩ := hrel
    clear cc
    have y0 := (Blk.keep HZ0.out hcc.out.bel).cell 0
    simp at y0
    by_cases hkn : k < n
    · have hki : (k : Int) < (n : Int) := by omega
      obtain ⟨b, off, r, rfl, hlt, hrk, x3, hrp, htp⟩ := HT.out.some hkn
      obtain ⟨c0, c1, c2⟩ := x3
      have hbD : Hid ((bs.take (k + 1)).map BkR.D = (bs.take k).map BkR.D ++ [⟨r.ps.map PgR.D, r.wear, r.bad⟩]) := by show _ = _; rw [List.take_add_one, hrk]; simp [BkR.D]
      obtain ⟨ra, rc, rp, wear, bad⟩ := r
      dsimp only at c0 c1 c2 hrp htp hbD
      obtain ⟨n1, hn1⟩ : ∃ n1, rp.length = n1 := ⟨_, rfl⟩
      rw [hn1] at c0
      have HN1 : Hid (rp.length = n1) := hn1
      have hcells : Hid (∀ W : World, Below W0.heap.size W0 W → W.cell? ⟨H, 0, none⟩ = some (.slice (some ⟨b, off, none⟩) n cap) ∧ W.cell? ⟨b, off + k * 3, none⟩ = some (.slice ra n1 rc) ∧ W.cell? ⟨b, off + k * 3 + 1, none⟩ = some (.int .i64 wear) ∧ W.cell? ⟨b, off + k * 3 + 2, none⟩ = some (.bool bad)) := fun W hW => ⟨by have := (Blk.keep HZ0.out hW).cell 0; simpa using this, (hW.cell (p := ⟨b, off + k * 3, none⟩) hlt).trans c0, (hW.cell (p := ⟨b, off + k * 3 + 1, none⟩) hlt).trans c1, (hW.cell (p := ⟨b, off + k * 3 + 2, none⟩) hlt).trans c2⟩
      have ccd : CC W0 wr.drew (H + 2) v us ((bs.take k).map BkR.D) := hcc.out.keep (Below.refl _ _).drew
      have x0 := ccd.x.cell 0
      simp at x0
      obtain ⟨y1, y2, y3, y4⟩ := hcells.out wr.drew ccd.bel
      have hcall := copyBlkS ra n1 rc wear bad rp wr.drew hn1 htp (hrp.keep ccd.bel)
      have HCC : Hid (CC W0 wr.drew (H + 2) v us ((bs.take k).map BkR.D)) := ccd
      clear hrk hrp htp hn1 hcc c0 c1 c2 hlt ccd y0
      have y0 : wr.cell? ⟨H, 0, none⟩ = some (.slice (some ⟨b, off, none⟩) n cap) := y1
      go_upto_region 5 with fail
      clear y0
      refine wp_region_noPanic ?_
      refine wp_region_last (fun W : World => W.cell? ⟨H + 2, 0, none⟩ = some v ∧ W.cell? ⟨H, 0, none⟩ = some (.slice (some ⟨b, off, none⟩) n cap) ∧ W.cell? ⟨b, off + k * 3, none⟩ = some (.slice ra n1 rc) ∧ W.cell? ⟨b, off + k * 3 + 1, none⟩ = some (.int .i64 wear) ∧ W.cell? ⟨b, off + k * 3 + 2, none⟩ = some (.bool bad)) 11 (by kernel_rfl) (by kernel_rfl) (by go_keep) 11 (by kernel_rfl) (fun hS => ?_)
      refine wpAnyH_take (i := 0) (v := ?gv1) rfl (by kernel_rfl) (by kernel_rfl) (by kernel_rfl) (fun _ _ _ h => h) (Or.inl ⟨by kernel_rfl, ?gy1⟩) (by assumption) ?gr1
      case gy1 => (intro w' hSw; (try dsimp only at hSw); go_simp; (try with_reducible rfl))
      try simp only [Act.put, List.setIfInBounds_toArray, List.set_cons_zero, List.set_cons_succ, List.getElem_toArray, List.getElem_cons_zero]
      refine wpAnyH_take (i := 1) (v := ?gv2) rfl (by kernel_rfl) (by kernel_rfl) (by kernel_rfl) (fun _ _ _ h => h) (Or.inl ⟨by kernel_rfl, ?gy2⟩) (by assumption) ?gr2
      case gy2 => (intro w' hSw; (try dsimp only at hSw); go_simp; (try with_reducible rfl))
      try simp only [Act.put, List.setIfInBounds_toArray, List.set_cons_zero, List.set_cons_succ, List.getElem_toArray, List.getElem_cons_succ, List.getElem_cons_zero]
      refine wpAnyH_take (i := 2) (v := ?gv3) rfl (by kernel_rfl) (by kernel_rfl) (by kernel_rfl) (fun _ _ _ h => h) (Or.inl ⟨by kernel_rfl, ?gy3⟩) (by assumption) ?gr3
      case gy3 => (intro w' hSw; (try dsimp only at hSw); go_simp; (try with_reducible rfl))
      try simp only [Act.put, List.setIfInBounds_toArray, List.set_cons_zero, List.set_cons_succ, List.getElem_toArray, List.getElem_cons_succ, List.getElem_cons_zero]
      refine wpAnyH_take (i := 3) (v := ?gv4) rfl (by kernel_rfl) (by kernel_rfl) (by kernel_rfl) (fun _ _ _ h => h) (Or.inl ⟨by kernel_rfl, ?gy4⟩) (by assumption) ?gr4
      case gy4 => (intro w' hSw; (try dsimp only at hSw); go_simp; (try with_reducible rfl))
      try simp only [Act.put, List.setIfInBounds_toArray, List.set_cons_zero, List.set_cons_succ, List.getElem_toArray, List.getElem_cons_succ, List.getElem_cons_zero]
      refine wpAnyH_take (i := 4) (v := ?gv5) rfl (by kernel_rfl) (by kernel_rfl) (by kernel_rfl) (fun _ _ _ h => h) (Or.inl ⟨by kernel_rfl, ?gy5⟩) (by assumption) ?gr5
      case gy5 => (intro w' hSw; (try dsimp only at hSw); go_simp; (try with_reducible rfl))
      try simp only [Act.put, List.setIfInBounds_toArray, List.set_cons_zero, List.set_cons_succ, List.getElem_toArray, List.getElem_cons_succ, List.getElem_cons_zero]
      refine wpAnyH_take (i := 5) (v := ?gv6) rfl (by kernel_rfl) (by kernel_rfl) (by kernel_rfl) (fun _ _ _ h => h) (Or.inl ⟨by kernel_rfl, ?gy6⟩) (by assumption) ?gr6
      case gy6 => (intro w' hSw; (try dsimp only at hSw); go_simp; (try with_reducible rfl))
      try simp only [Act.put, List.setIfInBounds_toArray, List.set_cons_zero, List.set_cons_succ, List.getElem_toArray, List.getElem_cons_succ, List.getElem_cons_zero]
      refine wpAnyH_take (i := 6) (v := ?gv7) rfl (by kernel_rfl) (by kernel_rfl) (by kernel_rfl) (fun _ _ _ h => h) (Or.inl ⟨by kernel_rfl, ?gy7⟩) (by assumption) ?gr7
      case gy7 => (intro w' hSw; (try dsimp only at hSw); go_simp; (try with_reducible rfl))
      try simp only [Act.put, List.setIfInBounds_toArray, List.set_cons_zero, List.set_cons_succ, List.getElem_toArray, List.getElem_cons_succ, List.getElem_cons_zero]
      refine wpAnyH_ready (rs := [7]) (by kernel_rfl) (by simp) ?_
      refine AllReadyH.cons rfl (fun K hK => ?_) AllReadyH.nil
      go_simp
      (with_reducible refine hcall.mono ?_)
      rintro e W9 ⟨a1, c1, qs, rfl, hnp, b9⟩
      have cc9 := HCC.out.keep b9
      have HX9 : Hid (W9.cell? ⟨H + 2, 0, none⟩ = some v) := (by have := cc9.x.cell 0; simp at this; exact this)
      have hrow := cc9.row
      rw [hus] at hrow
      have hql : qs.length = n1 := (by rw [hnp.len]; simp [HN1.out])
      have happ2 := fun ty => app_block W9 v us k hus (by omega) hrow ⟨a1, c1, qs, wear, bad⟩ ty n1 hql
      have HAP2 : Hid _ := happ2
      have HC9 : Hid (CC W0 W9 (H + 2) v us ((bs.take k).map BkR.D)) := cc9
      have HNP : Hid _ := And.intro hnp b9
      have HQL : Hid (qs.length = n1) := hql
      clear happ2 hrow cc9 hnp b9 hql
      clear hS
      try dsimp only
      refine Shut.out hK _ _ (⟨HX9.out, hcells.out _ HC9.out.bel⟩) (fun hS => ?_)
      try simp only [Act.put, List.setIfInBounds_toArray, List.set_cons_zero, List.set_cons_succ, List.getElem_toArray, List.getElem_cons_succ, List.getElem_cons_zero]
      refine wpAnyH_ready (rs := [8]) (by kernel_rfl) (by simp) ?_
      refine AllReadyH.cons rfl (fun K hK => ?_) AllReadyH.nil
      go_simp
      have ccB := HC9.out.keep ((Below.refl _ W9).alloc (Nat.le_refl _) (.cells #[.slice a1 n1 c1, .int .i64 wear, .bool bad] 42))
      have HXB : Hid ((W9.alloc (.cells #[.slice a1 n1 c1, .int .i64 wear, .bool bad] 42)).cell? ⟨H + 2, 0, none⟩ = some v) := (by have := ccB.x.cell 0; simp at this; exact this)
      have HBB : Hid (Below W0.heap.size W0 (W9.alloc (.cells #[.slice a1 n1 c1, .int .i64 wear, .bool bad] 42))) := ccB.bel
      have HxB : Hid (Blk (W9.alloc (.cells #[.slice a1 n1 c1, .int .i64 wear, .bool bad] 42)) (H + 2) 26 #[v]) := ccB.x
      clear ccB
      clear hS
      try dsimp only
      refine Shut.out hK _ _ (⟨HXB.out, hcells.out _ HBB.out⟩) (fun hS => ?_)
      try simp only [Act.put, List.setIfInBounds_toArray, List.set_cons_zero, List.set_cons_succ, List.getElem_toArray, List.getElem_cons_succ, List.getElem_cons_zero]
      refine wpAnyH_ready (rs := [9]) (by kernel_rfl) (by simp) ?_
      refine AllReadyH.cons rfl (fun K hK => ?_) AllReadyH.nil
      refine step_appAny (W9.alloc (.cells #[.slice a1 n1 c1, .int .i64 wear, .bool bad] 42)) rfl (.tmp 14) (.tmp 21) 24 rfl v (.slice (some ⟨W9.heap.size, 0, none⟩) 1 1) _ rfl rfl HAP2.out ?_
      intro v2 W10 hap2
      obtain ⟨a2, c2, rfl, _⟩ := OwnE.rd (rd := fun _ => True) hap2.own (fun _ _ => trivial)
      have hxg := blk_gr HxB.out hap2.gr (fun e => (HC9.out.vn (H + 2) e).2.1 rfl)
      have g0 := hxg.cell 0
      have gf := hxg.frozen 0
      simp at g0
      have HBT : Hid (Below W0.heap.size W0 W10) := HBB.out.grown hap2.gr HBB.out.size (fun g hg => (HC9.out.vn g hg).1)
      clear hS
      try dsimp only
      refine Shut.out hK _ _ (⟨g0, hcells.out _ HBT.out⟩) (fun hS => ?_)
      try simp only [Act.put, List.setIfInBounds_toArray, List.set_cons_zero, List.set_cons_succ, List.getElem_toArray, List.getElem_cons_succ, List.getElem_cons_zero]
      refine wpAnyH_take (i := 10) (v := ?gv8) rfl (by kernel_rfl) (by kernel_rfl) (by kernel_rfl) (fun _ _ _ h => h) (Or.inl ⟨by kernel_rfl, ?gy8⟩) (by assumption) ?gr8
      case gy8 => (intro w' hSw; (try dsimp only at hSw); go_simp; (try with_reducible rfl))
      try simp only [Act.put, List.setIfInBounds_toArray, List.set_cons_zero, List.set_cons_succ, List.getElem_toArray, List.getElem_cons_succ, List.getElem_cons_zero]
      refine wpAnyH_done (by kernel_rfl) ?_ _
      refine wpOp_last rfl (fun K hK => ?_)
      clear hS
      go_simp
      refine Shut.out hK _ _ (NoPanic.normal ?_)
      have ccn : CC W0 (W10.setCell ⟨H + 2, 0, none⟩ (.slice a2 (k + 1) c2)) (H + 2) (.slice a2 (k + 1) c2) (us ++ [⟨a1, c1, qs, wear, bad⟩]) ((bs.take k).map BkR.D ++ [⟨rp.map PgR.D, wear, bad⟩]) := CC.step HCC.out hus HQL.out HNP.out.2 HNP.out.1 hap2 (by simp [hus])
      rw [← hbD.out] at ccn
      have CCN : Hid _ := ccn
      have hul : (us ++ [⟨a1, c1, qs, wear, bad⟩] : List BkR).length = k + 1 := by simp [hus]
      clear ccn hap2 hxg g0 gf x0 y1 y2 y3 y4
      go_wp2
      go_roundw
      case rel => exact ⟨k + 1, _, _, by omega, by go_num, hul, CCN⟩
      case measure => simp [intOf]; omega
    · have hki : ¬ (k : Int) < (n : Int) := by omega
      obtain rfl : k = n := by omega
      have hco := hcc.out
      rw [List.take_of_length_le (by rw [hln.out]; omega)] at hco
      obtain ⟨va, vc, rfl, _⟩ := OwnE.rd (rd := fun _ => True) hco.row (fun _ _ => trivial)
      rw [hus] at hco
      have x0 := hco.x.cell 0
      have zr := Blk.keep HZ1.out hco.bel
      have r0 := zr.cell 0
      have f0 := zr.frozen 0
      have zf := zr.set 0 (.slice va k vc)
      have d0 := zf.cell 0
      simp at x0 r0 d0
      have HC : Hid _ := hco
      clear hco zr zf hcc
      go_wp2
      refine bodyPost_ret (v := .agg #[.slice va k vc]) (by simp [results, Tryz.f104, go_sem, d0]) rfl ?_
      have hc := HC.out
      have hw := HW.out
      have hH := HH.out
      have hbs := HB0.out
      have bel : Below w.heap.size w wr := by rw [hH]; exact hbs.trans (hc.bel.mono (by omega))
      exact ⟨va, k, vc, us, rfl, NewBs.wider (B := W0.heap.size) (NewBs.set_below (B := W0.heap.size) (j := H + 1) (hc.done hus) (by omega)) (by omega), hus, bel.setCell (p := ⟨H + 1, 0, none⟩) (by simp only; omega) _⟩
/-- The code of what is to be done to a block: ok tells whether the chip is right, full whether there is no more of it. -/
def mayD (ok : Bool) (ds : List BkD) (x : Int) (full : Bool) : Int :=
  if ok = false ∨ x < 0 ∨ (ds.length : Int) ≤ x then 1 else if ((ds[x.toNat]?).map BkD.bad).getD false then 2 else if full then 5 else 0
theorem mayD_form {ok : Bool} {ds : List BkD} {x : Int} {full : Bool} (h : ok = false ∨ x < 0 ∨ (ds.length : Int) ≤ x) : mayD ok ds x full = 1 := by unfold mayD; rw [if_pos h]
theorem mayD_in {bs : List BkR} {k : Nat} {r : BkR} {full : Bool} (h : bs[k]? = some r) : mayD true (bs.map BkR.D) (k : Int) full = if r.bad then 2 else if full then 5 else 0 := by
  have hl := (List.getElem?_eq_some_iff.1 h).1
  unfold mayD
  rw [if_neg (by simp; omega)]
  simp [h, BkR.D]
set_option maxRecDepth 100000 in
set_option maxHeartbeats 4000000 in
theorem mayS (a : Option Addr) (n cap : Nat) (bs : List BkR) (x : Int) (full : Bool) (w : World) (ht : CR w a n bs) :
    Calls Tryz.prog 105 #[.agg #[.slice a n cap], .int .i64 x, .bool full] w fun e w' => e = .returned (.int .i64 (mayD (chipOkB (bs.map BkR.D)) (bs.map BkR.D) x full)) ∧ Below w.heap.size w w' := by
  have B0 : Below w.heap.size w (w.alloc (.cells #[.slice a n cap] 26)) := (Below.refl _ w).alloc (Nat.le_refl _) _
  have z0 := Blk.new w 26 #[.slice a n cap]
  have hnn := ht.n
  have hcall := chipOkS a n cap bs (w.alloc (.cells #[.slice a n cap] 26)) (ht.keep B0)
  have HB : Hid _ := B0
  obtain ⟨ok, hok⟩ : ∃ ok, chipOkB (bs.map BkR.D) = ok := ⟨_, rfl⟩
  rw [hok] at hcall ⊢
  have hln : (bs.map BkR.D).length = n := by simp [ht.len]
  cases ok with
  | false =>
    rw [mayD_form (.inl rfl)]
    clear ht B0 hok hln
    go_enter Tryz.func105, Tryz.ntmps105
    go_wp2_with fail
    refine hcall.mono ?_
    rintro e w1 ⟨rfl, b1⟩
    clear hcall
    go_wp2
    go_ret
    exact ⟨rfl, HB.out.trans (b1.mono HB.out.size)⟩
  | true =>
    by_cases hx : 0 ≤ x ∧ x < (n : Int)
    · obtain ⟨k, rfl⟩ : ∃ k : Nat, x = (k : Int) := ⟨x.toNat, by omega⟩
      have hkn : k < n := by omega
      have h1 : ¬ (k : Int) < 0 := by omega
      have h2 : ¬ (n : Int) ≤ (k : Int) := by omega
      have hki : (k : Int) < (n : Int) := by omega
      obtain ⟨b, off, r, rfl, hlt, hrk, x3, _, _⟩ := (ht.keep B0).some hkn
      rw [mayD_in hrk]
      have c2 := x3.c2
      obtain ⟨bad, hbad⟩ : ∃ bad, r.bad = bad := ⟨_, rfl⟩
      rw [hbad] at c2 ⊢
      clear ht B0 hok hln hrk x3 hbad hx
      go_enter Tryz.func105, Tryz.ntmps105
      go_wp2_with fail
      refine hcall.mono ?_
      rintro e w1 ⟨rfl, b1⟩
      have t0 := (z0.keep b1).cell 0
      simp at t0
      have c2' := (b1.cell (p := ⟨b, off + k * 3 + 2, none⟩) hlt).trans c2
      have HB1 : Hid (Below w.heap.size w w1) := HB.out.trans (b1.mono HB.out.size)
      clear hcall c2 z0 b1 hlt
      cases bad
      · cases full
        · go_wp2
          go_ret
          exact ⟨rfl, HB1.out⟩
        · go_wp2
          go_ret
          exact ⟨rfl, HB1.out⟩
      · go_wp2
        go_ret
        exact ⟨rfl, HB1.out⟩
    · rw [mayD_form (by right; rw [hln]; omega)]
      clear ht B0 hok hln
      by_cases h1 : x < 0
      · go_enter Tryz.func105, Tryz.ntmps105
        go_wp2_with fail
        refine hcall.mono ?_
        rintro e w1 ⟨rfl, b1⟩
        clear hcall
        go_wp2
        go_ret
        exact ⟨rfl, HB.out.trans (b1.mono HB.out.size)⟩
      · have h2 : (n : Int) ≤ x := by omega
        go_enter Tryz.func105, Tryz.ntmps105
        go_wp2_with fail
        refine hcall.mono ?_
        rintro e w1 ⟨rfl, b1⟩
        have t0 := (z0.keep b1).cell 0
        simp at t0
        clear hcall
        go_wp2
        go_ret
        exact ⟨rfl, HB.out.trans (b1.mono HB.out.size)⟩
end

section
open Go.RowKit
theorem mem_set {α : Type} {l : List α} {i : Nat} {x y : α} (h : y ∈ l.set i x) : y = x ∨ ∃ j, j ≠ i ∧ l[j]? = some y := by
  obtain ⟨j, hj⟩ := List.mem_iff_getElem?.1 h
  by_cases e : j = i
  · subst e
    left
    rw [List.getElem?_set_self (by have := (List.getElem?_eq_some_iff.1 hj).1; simpa using this)] at hj
    simpa using hj.symm
  · right
    rw [List.getElem?_set_ne (fun h => e h.symm)] at hj
    exact ⟨j, e, hj⟩
/-- Of a list without doubles what one element takes is not taken by another one. -/
theorem flat_apart {α : Type} {f : α → List Nat} {l : List α} (hd : (l.flatMap f).Nodup) {i j : Nat} {x y : α} (hi : l[i]? = some x) (hj : l[j]? = some y) (hne : i ≠ j) {g : Nat} (hx : g ∈ f x) : g ∉ f y := by
  induction l generalizing i j with
  | nil => simp at hi
  | cons z l ih =>
    rw [List.flatMap_cons, List.nodup_append] at hd
    cases i with
    | zero =>
      cases j with
      | zero => omega
      | succ j =>
        simp at hi hj
        subst hi
        intro hy
        exact hd.2.2 g hx g (List.mem_flatMap.2 ⟨y, List.mem_of_getElem? hj, hy⟩) rfl
    | succ i =>
      cases j with
      | zero =>
        simp at hi hj
        subst hj
        intro hy
        exact hd.2.2 g hy g (List.mem_flatMap.2 ⟨x, List.mem_of_getElem? hi, hx⟩) rfl
      | succ j => exact ih hd.2.1 (by simpa using hi) (by simpa using hj) (by omega)
end
end Go.Proofs.YtoeeblmnogeonaaGreatDoor
