/-
  Joined: ChRd, ChCs.
-/
import Derived.Test.YtmjifealomgcfaaJ20V
import Derived.Test.YtmjifealomgcfaaJ17V
namespace Go.Proofs.Ytmjifealomgcfaa
section
open Go.RowKit
theorem ownV_fresh {W : World} : OwnV 0 (W.alloc (.cells #[] 5)) (.slice (some ⟨W.heap.size, 0, none⟩) 0 0) 0 [] := empty_row W 0 5 1 (Nat.zero_le _)
end

section
open Go.RowKit
/-- One page more, its bytes appended to a fresh empty list. -/
theorem CB.stepS {w0 W8 W9 W10 : World} {X k n1 F : Nat} {wear : Int} {bad : Bool} {v : Value} {us : List PgR} {ds : List PgD} {u : Bool} {pz : List Int} {a1 a2 : Option Addr} {c1 c2 m : Nat} (h : CB w0 W8 X wear bad v us ds) (_hus : us.length = k) (hz : pz.length = n1) (hF : F = W8.heap.size)
    (ha : AppB (W8.alloc (.cells #[] 5)) (.slice (some ⟨F, 0, none⟩) 0 0) n1 pz (.slice a1 n1 c1) W9) (ha2 : AppP (W9.alloc (.cells #[.bool u, .slice a1 n1 c1] 84)) v (us ++ [⟨u, a1, c1, pz⟩]) (.slice a2 m c2) W10) (hm : m = k + 1) : CB w0 (W10.setCell ⟨X, 0, none⟩ (.slice a2 (k + 1) c2)) X wear bad (.slice a2 (k + 1) c2) (us ++ [⟨u, a1, c1, pz⟩]) (ds ++ [⟨u, pz⟩]) := by
  subst hm
  subst hF
  have bA : Below W8.heap.size W8 (W8.alloc (.cells #[] 5)) := (Below.refl _ W8).alloc (Nat.le_refl _) _
  have b9 : Below W8.heap.size W8 W9 := bA.grown ha.gr bA.size (fun g hg => by simp [Value.ownBlock] at hg; omega)
  refine CB.app (B := W8.heap.size) (h.keep b9) (p := ⟨u, a1, c1, pz⟩) ?_ ?_ (fun g hg => h.inn.lt g hg) h.x.lt (fun g hg => h.row.lt hg) h.bel.size b9.size ha2
  · show RowB W9 (.slice a1 pz.length c1) pz.length pz
    rw [hz]
    exact OwnV.rowB ha.own
  · intro g hg
    have hg' : (Value.slice a1 n1 c1).ownBlock = some g := by rw [← hz]; exact hg
    rcases ha.at_ with e | e
    · rw [hg'] at e; simp [Value.ownBlock] at e; omega
    · rw [hg'] at e; simp at e; omega
set_option maxRecDepth 100000 in
set_option maxHeartbeats 8000000 in
theorem copyBlkS (a : Option Addr) (n cap : Nat) (wear : Int) (bad : Bool) (ps : List PgR) (w : World) (hn : ps.length = n) (hs : totP (ps.map PgR.D) ≤ 1048576) (hr : RdPs w a ps) :
    Calls Try.prog 66 #[.agg #[.slice a n cap, .int .i64 wear, .bool bad]] w (CpA w n wear bad (ps.map PgR.D)) := by
  have hnn : n ≤ 1048576 := by have hl := totP_len (ps.map PgR.D); simp at hl; omega
  have B0 : Below w.heap.size w ((w.alloc (.cells #[.slice a n cap, .int .i64 wear, .bool bad] 67)).alloc (.cells #[.slice none 0 0, .int .i64 0, .bool false] 67)) := ((Below.refl _ w).alloc (Nat.le_refl _) _).alloc (by simp) _
  have z0 := (Blk.new w 67 #[.slice a n cap, .int .i64 wear, .bool bad]).alloc (.cells #[.slice none 0 0, .int .i64 0, .bool false] 67)
  have z1 := Blk.new (w.alloc (.cells #[.slice a n cap, .int .i64 wear, .bool bad] 67)) 67 #[.slice none 0 0, .int .i64 0, .bool false]
  simp only [World.size_alloc] at z1
  have hws : ((w.alloc (.cells #[.slice a n cap, .int .i64 wear, .bool bad] 67)).alloc (.cells #[.slice none 0 0, .int .i64 0, .bool false] 67)).heap.size = w.heap.size + 2 := by simp
  obtain ⟨H, hH⟩ : ∃ H, w.heap.size = H := ⟨_, rfl⟩
  rw [hH] at z0 z1 hws
  go_enter Try.func66, Try.ntmps66
  go_upto_region 1 with fail
  obtain ⟨W0, hW0⟩ : ∃ W, (w.alloc (.cells #[.slice a n cap, .int .i64 wear, .bool bad] 67)).alloc (.cells #[.slice none 0 0, .int .i64 0, .bool false] 67) = W := ⟨_, rfl⟩
  rw [hW0] at B0 z0 z1 hws ⊢
  clear hW0
  have x1 := z0.cell 1
  have x2 := z0.cell 2
  simp at x1 x2
  have zX := Blk.new W0 67 #[.slice none 0 0, .int .i64 wear, .bool bad]
  have cb : CB W0 (W0.alloc (.cells #[.slice none 0 0, .int .i64 wear, .bool bad] 67)) W0.heap.size wear bad (.slice none 0 0) [] [] := ⟨(Below.refl _ W0).alloc (Nat.le_refl _) _, zX, Nat.le_refl _, ownE_nil _ _ _, Inn.nil _ _ _, by simp [Kd.fps], fun g hg => by simp [Value.ownBlock] at hg⟩
  have HW : Hid _ := hws
  have HH : Hid (w.heap.size = H) := hH
  have HRP : Hid (RdPs W0 a ps) := hr.keep B0
  have HN : Hid (ps.length = n) := hn
  have HS : Hid _ := hs
  have HB0 : Hid (Below H w W0) := by rw [← hH]; exact B0
  have HZ0 : Hid (Blk W0 H 67 #[.slice a n cap, .int .i64 wear, .bool bad]) := z0
  have HZ1 : Hid (Blk W0 (H + 1) 67 #[.slice none 0 0, .int .i64 0, .bool false]) := z1
  clear hr hn hs B0 z0 z1 zX hH
  rw [hws] at cb
  go_upto_region 3 with fail
  try rw [hws]
  clear x1 x2 hws
  go_loopw [4] (fun i wr => ∃ (k : Nat) (v : Value) (us : List PgR), k ≤ n ∧ i = .int .i64 k ∧ us.length = k ∧ Hid (CB W0 wr (H + 2) wear bad v us ((ps.take k).map PgR.D))) (fun i _ => n - (intOf i).toNat)
  case atStart => exact ⟨0, .slice none 0 0, [], by omega, rfl, rfl, cb⟩
  case round =>
    obtain ⟨k, v, us, hk, rfl, hus, hcb⟩ := hrel
    clear cb
    have y0 := (Blk.keep HZ0.out hcb.out.bel).cell 0
    simp at y0
    by_cases hkn : k < n
    · have hki : (k : Int) < (n : Int) := by omega
      obtain ⟨p, hpk⟩ : ∃ p, ps[k]? = some p := ⟨_, List.getElem?_eq_getElem (by rw [HN.out]; exact hkn)⟩
      obtain ⟨b, off, rfl, hlt, hc⟩ := RdPs.lt HRP.out (by intro h; rw [h] at hpk; simp at hpk)
      obtain ⟨⟨c0, c1⟩, hrz⟩ := hc k p hpk
      have htz := totP_at hpk
      have hso := HS.out
      have hpD : Hid ((ps.take (k + 1)).map PgR.D = (ps.take k).map PgR.D ++ [⟨p.used, p.zs⟩]) := by show _ = _; rw [List.take_add_one, hpk]; simp [PgR.D]
      obtain ⟨u, pa, pc, pz⟩ := p
      dsimp only at c0 c1 hrz htz hpD
      obtain ⟨n1, hn1⟩ : ∃ n1, pz.length = n1 := ⟨_, rfl⟩
      have HN1 : Hid (pz.length = n1) := hn1
      have hn1m : n1 ≤ 1048576 := by omega
      rw [hn1] at c1
      -- the cells that the region reads, in every world that is as W0 was below its size, and X's
      have hcells : Hid (∀ W : World, Below W0.heap.size W0 W → W.cell? ⟨H, 0, none⟩ = some (.slice (some ⟨b, off, none⟩) n cap) ∧ W.cell? ⟨b, off + k * 2, none⟩ = some (.bool u) ∧ W.cell? ⟨b, off + k * 2 + 1, none⟩ = some (.slice pa n1 pc)) := fun W hW => ⟨by have := (Blk.keep HZ0.out hW).cell 0; simpa using this, (hW.cell (p := ⟨b, off + k * 2, none⟩) hlt).trans c0, (hW.cell (p := ⟨b, off + k * 2 + 1, none⟩) hlt).trans c1⟩
      have cbd : CB W0 wr.drew (H + 2) wear bad v us ((ps.take k).map PgR.D) := hcb.out.keep (Below.refl _ _).drew
      have x0 := cbd.x.cell 0
      simp at x0
      obtain ⟨y1, y2, y3⟩ := hcells.out wr.drew cbd.bel
      have bA : Below wr.drew.heap.size wr.drew (wr.drew.alloc (.cells #[] 5)) := (Below.refl _ _).alloc (Nat.le_refl _) _
      have cbA := cbd.keep bA
      have HXA : Hid ((wr.drew.alloc (.cells #[] 5)).cell? ⟨H + 2, 0, none⟩ = some v) := by have := cbA.x.cell 0; simp at this; exact this
      have HCA : Hid (CB W0 (wr.drew.alloc (.cells #[] 5)) (H + 2) wear bad v us ((ps.take k).map PgR.D)) := cbA
      have hofr := ownV_fresh (W := wr.drew)
      have happ : ∀ ty, ∃ v' W', (Builtin.append_ #[82, 82] ty #[.slice (some ⟨wr.heap.size, 0, none⟩) 0 0, .slice pa n1 pc]).run Try.prog (wr.drew.alloc (.cells #[] 5)) = .ok v' W' ∧ AppB (wr.drew.alloc (.cells #[] 5)) (.slice (some ⟨wr.heap.size, 0, none⟩) 0 0) n1 pz v' W' := fun ty => by
        have := app_bytes (wr.drew.alloc (.cells #[] 5)) (.slice (some ⟨wr.heap.size, 0, none⟩) 0 0) 0 [] pa n1 pc pz HN1.out (by omega) hofr (hrz.keep cbA.bel) ty
        rw [Nat.zero_add, List.nil_append] at this
        exact this
      have HAP : Hid _ := happ
      have HCB : Hid (CB W0 wr.drew (H + 2) wear bad v us ((ps.take k).map PgR.D)) := cbd
      have hkk : ¬ (k : Int) < 0 := by omega
      clear hpk hc htz hso hn1 hrz hcb c0 c1 hlt cbd cbA hofr happ y0 bA
      have y0 : wr.cell? ⟨H, 0, none⟩ = some (.slice (some ⟨b, off, none⟩) n cap) := y1
      go_upto_region 5 with fail
      clear y0
      refine wp_region_noPanic ?_
      refine wp_region_last (fun W : World => W.cell? ⟨H + 2, 0, none⟩ = some v ∧ W.cell? ⟨H, 0, none⟩ = some (.slice (some ⟨b, off, none⟩) n cap) ∧ W.cell? ⟨b, off + k * 2, none⟩ = some (.bool u) ∧ W.cell? ⟨b, off + k * 2 + 1, none⟩ = some (.slice pa n1 pc)) 20 (by kernel_rfl) (by kernel_rfl) (by go_keep) 20 (by kernel_rfl) (fun hS => ?_)
      refine wpAnyH_take (i := 0) (v := ?gv1) rfl (by kernel_rfl) (by kernel_rfl) (by kernel_rfl) (fun _ _ _ h => h) (Or.inl ⟨by kernel_rfl, ?gy1⟩) (by assumption) ?gr1
      case gy1 => (intro w' hSw; (try dsimp only at hSw); go_simp; (try with_reducible rfl))
      try simp only [Act.put, List.setIfInBounds_toArray, List.set_cons_zero, List.set_cons_succ, List.getElem_toArray, List.getElem_cons_zero]
      refine wpAnyH_take (i := 1) (v := ?gv2) rfl (by kernel_rfl) (by kernel_rfl) (by kernel_rfl) (fun _ _ _ h => h) (Or.inl ⟨by kernel_rfl, ?gy2⟩) (by assumption) ?gr2
      case gy2 => (intro w' hSw; (try dsimp only at hSw); go_simp; (try with_reducible rfl))
      try simp only [Act.put, List.setIfInBounds_toArray, List.set_cons_zero, List.set_cons_succ, List.getElem_toArray, List.getElem_cons_succ, List.getElem_cons_zero]
      refine wpAnyH_take (i := 2) (v := ?gv3) rfl (by kernel_rfl) (by kernel_rfl) (by kernel_rfl) (fun _ _ _ h => h) (Or.inl ⟨by kernel_rfl, ?gy3⟩) (by assumption) ?gr3
      case gy3 => (intro w' hSw; (try dsimp only at hSw); go_simp; (try with_reducible rfl))
      try simp only [Act.put, List.setIfInBounds_toArray, List.set_cons_zero, List.set_cons_succ, List.getElem_toArray, List.getElem_cons_succ, List.getElem_cons_zero]
      refine wpAnyH_take (i := 3) (v := ?gv4) rfl (by kernel_rfl) (by kernel_rfl) (by kernel_rfl) (fun _ _ _ h => h) (Or.inl ⟨by kernel_rfl, ?gy4⟩) (by assumption) ?gr4
      case gy4 => (intro w' hSw; (try dsimp only at hSw); go_simp; (try with_reducible rfl))
      try simp only [Act.put, List.setIfInBounds_toArray, List.set_cons_zero, List.set_cons_succ, List.getElem_toArray, List.getElem_cons_succ, List.getElem_cons_zero]
      refine wpAnyH_take (i := 4) (v := ?gv5) rfl (by kernel_rfl) (by kernel_rfl) (by kernel_rfl) (fun _ _ _ h => h) (Or.inl ⟨by kernel_rfl, ?gy5⟩) (by assumption) ?gr5
      case gy5 => (intro w' hSw; (try dsimp only at hSw); go_simp; (try with_reducible rfl))
      try simp only [Act.put, List.setIfInBounds_toArray, List.set_cons_zero, List.set_cons_succ, List.getElem_toArray, List.getElem_cons_succ, List.getElem_cons_zero]
      refine wpAnyH_take (i := 5) (v := ?gv6) rfl (by kernel_rfl) (by kernel_rfl) (by kernel_rfl) (fun _ _ _ h => h) (Or.inl ⟨by kernel_rfl, ?gy6⟩) (by assumption) ?gr6
      case gy6 => (intro w' hSw; (try dsimp only at hSw); go_simp; (try with_reducible rfl))
      try simp only [Act.put, List.setIfInBounds_toArray, List.set_cons_zero, List.set_cons_succ, List.getElem_toArray, List.getElem_cons_succ, List.getElem_cons_zero]
      refine wpAnyH_take (i := 6) (v := ?gv7) rfl (by kernel_rfl) (by kernel_rfl) (by kernel_rfl) (fun _ _ _ h => h) (Or.inl ⟨by kernel_rfl, ?gy7⟩) (by assumption) ?gr7
      case gy7 => (intro w' hSw; (try dsimp only at hSw); go_simp; (try with_reducible rfl))
      try simp only [Act.put, List.setIfInBounds_toArray, List.set_cons_zero, List.set_cons_succ, List.getElem_toArray, List.getElem_cons_succ, List.getElem_cons_zero]
      refine wpAnyH_take (i := 7) (v := ?gv8) rfl (by kernel_rfl) (by kernel_rfl) (by kernel_rfl) (fun _ _ _ h => h) (Or.inl ⟨by kernel_rfl, ?gy8⟩) (by assumption) ?gr8
      case gy8 => (intro w' hSw; (try dsimp only at hSw); go_simp; (try with_reducible rfl))
      try simp only [Act.put, List.setIfInBounds_toArray, List.set_cons_zero, List.set_cons_succ, List.getElem_toArray, List.getElem_cons_succ, List.getElem_cons_zero]
      refine wpAnyH_take (i := 9) (v := ?gv9) rfl (by kernel_rfl) (by kernel_rfl) (by kernel_rfl) (fun _ _ _ h => h) (Or.inl ⟨by kernel_rfl, ?gy9⟩) (by assumption) ?gr9
      case gy9 => (intro w' hSw; (try dsimp only at hSw); go_simp; (try with_reducible rfl))
      try simp only [Act.put, List.setIfInBounds_toArray, List.set_cons_zero, List.set_cons_succ, List.getElem_toArray, List.getElem_cons_succ, List.getElem_cons_zero]
      refine wpAnyH_take (i := 10) (v := ?gv10) rfl (by kernel_rfl) (by kernel_rfl) (by kernel_rfl) (fun _ _ _ h => h) (Or.inl ⟨by kernel_rfl, ?gy10⟩) (by assumption) ?gr10
      case gy10 => (intro w' hSw; (try dsimp only at hSw); go_simp; (try with_reducible rfl))
      try simp only [Act.put, List.setIfInBounds_toArray, List.set_cons_zero, List.set_cons_succ, List.getElem_toArray, List.getElem_cons_succ, List.getElem_cons_zero]
      refine wpAnyH_take (i := 11) (v := ?gv11) rfl (by kernel_rfl) (by kernel_rfl) (by kernel_rfl) (fun _ _ _ h => h) (Or.inl ⟨by kernel_rfl, ?gy11⟩) (by assumption) ?gr11
      case gy11 => (intro w' hSw; (try dsimp only at hSw); go_simp; (try with_reducible rfl))
      try simp only [Act.put, List.setIfInBounds_toArray, List.set_cons_zero, List.set_cons_succ, List.getElem_toArray, List.getElem_cons_succ, List.getElem_cons_zero]
      refine wpAnyH_take (i := 12) (v := ?gv12) rfl (by kernel_rfl) (by kernel_rfl) (by kernel_rfl) (fun _ _ _ h => h) (Or.inl ⟨by kernel_rfl, ?gy12⟩) (by assumption) ?gr12
      case gy12 => (intro w' hSw; (try dsimp only at hSw); go_simp; (try with_reducible rfl))
      try simp only [Act.put, List.setIfInBounds_toArray, List.set_cons_zero, List.set_cons_succ, List.getElem_toArray, List.getElem_cons_succ, List.getElem_cons_zero]
      refine wpAnyH_take (i := 13) (v := ?gv13) rfl (by kernel_rfl) (by kernel_rfl) (by kernel_rfl) (fun _ _ _ h => h) (Or.inl ⟨by kernel_rfl, ?gy13⟩) (by assumption) ?gr13
      case gy13 => (intro w' hSw; (try dsimp only at hSw); go_simp; (try with_reducible rfl))
      try simp only [Act.put, List.setIfInBounds_toArray, List.set_cons_zero, List.set_cons_succ, List.getElem_toArray, List.getElem_cons_succ, List.getElem_cons_zero]
      refine wpAnyH_take (i := 14) (v := ?gv14) rfl (by kernel_rfl) (by kernel_rfl) (by kernel_rfl) (fun _ _ _ h => h) (Or.inl ⟨by kernel_rfl, ?gy14⟩) (by assumption) ?gr14
      case gy14 => (intro w' hSw; (try dsimp only at hSw); go_simp; (try with_reducible rfl))
      try simp only [Act.put, List.setIfInBounds_toArray, List.set_cons_zero, List.set_cons_succ, List.getElem_toArray, List.getElem_cons_succ, List.getElem_cons_zero]
      refine wpAnyH_ready (rs := [8]) (by kernel_rfl) (by simp) ?_
      refine AllReadyH.cons rfl (fun K hK => ?_) AllReadyH.nil
      go_simp
      clear hS
      try dsimp only
      refine Shut.out hK _ _ (⟨HXA.out, hcells.out _ HCA.out.bel⟩) (fun hS => ?_)
      try simp only [Act.put, List.setIfInBounds_toArray, List.set_cons_zero, List.set_cons_succ, List.getElem_toArray, List.getElem_cons_succ, List.getElem_cons_zero]
      refine wpAnyH_ready (rs := [15]) (by kernel_rfl) (by simp) ?_
      refine AllReadyH.cons rfl (fun K hK => ?_) AllReadyH.nil
      refine step_appAny (wr.drew.alloc (.cells #[] 5)) rfl (.tmp 25) (.tmp 31) 82 rfl (.slice (some ⟨wr.heap.size, 0, none⟩) 0 0) (.slice pa n1 pc) _ rfl rfl HAP.out ?_
      intro v1 W9 hap
      obtain ⟨a1, c1, rfl, _⟩ := (OwnV.rowB hap.own).form
      have bA : Below wr.drew.heap.size wr.drew (wr.drew.alloc (.cells #[] 5)) := (Below.refl _ _).alloc (Nat.le_refl _) _
      have b9 : Below wr.drew.heap.size wr.drew W9 := bA.grown hap.gr bA.size (fun g hg => by simp [Value.ownBlock] at hg; show wr.heap.size ≤ g; omega)
      have cb9 := HCB.out.keep b9
      have HX9 : Hid (W9.cell? ⟨H + 2, 0, none⟩ = some v) := (by have := cb9.x.cell 0; simp at this; exact this)
      have hrow := cb9.row
      rw [hus] at hrow
      have happ2 := fun ty => app_page W9 v us k hus (by omega) hrow ⟨u, a1, c1, pz⟩ ty n1 HN1.out
      have HAP2 : Hid _ := happ2
      have HC9 : Hid (CB W0 W9 (H + 2) wear bad v us ((ps.take k).map PgR.D)) := cb9
      clear happ2 hrow b9 bA cb9
      clear hS
      try dsimp only
      refine Shut.out hK _ _ (⟨HX9.out, hcells.out _ HC9.out.bel⟩) (fun hS => ?_)
      try simp only [Act.put, List.setIfInBounds_toArray, List.set_cons_zero, List.set_cons_succ, List.getElem_toArray, List.getElem_cons_succ, List.getElem_cons_zero]
      refine wpAnyH_take (i := 16) (v := ?gv15) rfl (by kernel_rfl) (by kernel_rfl) (by kernel_rfl) (fun _ _ _ h => h) (Or.inl ⟨by kernel_rfl, ?gy15⟩) (by assumption) ?gr15
      case gy15 => (intro w' hSw; (try dsimp only at hSw); go_simp; (try with_reducible rfl))
      try simp only [Act.put, List.setIfInBounds_toArray, List.set_cons_zero, List.set_cons_succ, List.getElem_toArray, List.getElem_cons_succ, List.getElem_cons_zero]
      refine wpAnyH_ready (rs := [17]) (by kernel_rfl) (by simp) ?_
      refine AllReadyH.cons rfl (fun K hK => ?_) AllReadyH.nil
      go_simp
      have cbB := HC9.out.keep ((Below.refl _ W9).alloc (Nat.le_refl _) (.cells #[.bool u, .slice a1 n1 c1] 84))
      have HXB : Hid ((W9.alloc (.cells #[.bool u, .slice a1 n1 c1] 84)).cell? ⟨H + 2, 0, none⟩ = some v) := (by have := cbB.x.cell 0; simp at this; exact this)
      have HBB : Hid (Below W0.heap.size W0 (W9.alloc (.cells #[.bool u, .slice a1 n1 c1] 84))) := cbB.bel
      have hxB := cbB.x
      have HxB : Hid (Blk (W9.alloc (.cells #[.bool u, .slice a1 n1 c1] 84)) (H + 2) 67 #[v, .int .i64 wear, .bool bad]) := hxB
      clear cbB hxB
      clear hS
      try dsimp only
      refine Shut.out hK _ _ (⟨HXB.out, hcells.out _ HBB.out⟩) (fun hS => ?_)
      try simp only [Act.put, List.setIfInBounds_toArray, List.set_cons_zero, List.set_cons_succ, List.getElem_toArray, List.getElem_cons_succ, List.getElem_cons_zero]
      refine wpAnyH_ready (rs := [18]) (by kernel_rfl) (by simp) ?_
      refine AllReadyH.cons rfl (fun K hK => ?_) AllReadyH.nil
      refine step_appAny (W9.alloc (.cells #[.bool u, .slice a1 n1 c1] 84)) rfl (.tmp 18) (.tmp 34) 65 rfl v (.slice (some ⟨W9.heap.size, 0, none⟩) 1 1) _ rfl rfl HAP2.out ?_
      intro v2 W10 hap2
      obtain ⟨a2, c2, rfl, _⟩ := OwnE.rd (rd := fun _ => True) hap2.own (fun _ _ => trivial)
      have hxg := blk_gr HxB.out hap2.gr (fun e => (HC9.out.vn (H + 2) e).2.1 rfl)
      have g0 := hxg.cell 0
      have gf := hxg.frozen 0
      simp at g0
      have HBT : Hid (Below W0.heap.size W0 W10) := HBB.out.grown hap2.gr HBB.out.size (fun g hg => (HC9.out.vn g hg).1)
      clear hS
      try dsimp only
      refine Shut.out hK _ _ (⟨g0, hcells.out _ HBT.out⟩) (fun hS => ?_)
      try simp only [Act.put, List.setIfInBounds_toArray, List.set_cons_zero, List.set_cons_succ, List.getElem_toArray, List.getElem_cons_succ, List.getElem_cons_zero]
      refine wpAnyH_take (i := 19) (v := ?gv16) rfl (by kernel_rfl) (by kernel_rfl) (by kernel_rfl) (fun _ _ _ h => h) (Or.inl ⟨by kernel_rfl, ?gy16⟩) (by assumption) ?gr16
      case gy16 => (intro w' hSw; (try dsimp only at hSw); go_simp; (try with_reducible rfl))
      try simp only [Act.put, List.setIfInBounds_toArray, List.set_cons_zero, List.set_cons_succ, List.getElem_toArray, List.getElem_cons_succ, List.getElem_cons_zero]
      refine wpAnyH_done (by kernel_rfl) ?_ _
      refine wpOp_last rfl (fun K hK => ?_)
      clear hS
      go_simp
      refine Shut.out hK _ _ (NoPanic.normal ?_)
      have cbn : CB W0 (W10.setCell ⟨H + 2, 0, none⟩ (.slice a2 (k + 1) c2)) (H + 2) wear bad (.slice a2 (k + 1) c2) (us ++ [⟨u, a1, c1, pz⟩]) ((ps.take k).map PgR.D ++ [⟨u, pz⟩]) := CB.stepS HCB.out hus HN1.out rfl hap hap2 (by simp [hus])
      rw [← hpD.out] at cbn
      have CBN : Hid _ := cbn
      have hul : (us ++ [⟨u, a1, c1, pz⟩] : List PgR).length = k + 1 := by simp [hus]
      clear cbn hap hap2 hxg g0 gf x0 y1 y2 y3
      go_wp2
      go_roundw
      case rel => exact ⟨k + 1, _, _, by omega, by go_num, hul, CBN⟩
      case measure => simp [intOf]; omega
    · have hki : ¬ (k : Int) < (n : Int) := by omega
      obtain rfl : k = n := by omega
      have hcbo := hcb.out
      rw [List.take_of_length_le (by rw [HN.out]; omega)] at hcbo
      obtain ⟨va, vc, rfl, _⟩ := OwnE.rd (rd := fun _ => True) hcbo.row (fun _ _ => trivial)
      rw [hus] at hcbo
      have x0 := hcbo.x.cell 0
      have x1 := hcbo.x.cell 1
      have x2 := hcbo.x.cell 2
      have zr := Blk.keep HZ1.out hcbo.bel
      have r0 := zr.cell 0
      have r1 := zr.cell 1
      have r2 := zr.cell 2
      have f0 := zr.frozen 0
      have f1 := zr.frozen 1
      have f2 := zr.frozen 2
      have zf := ((zr.set 0 (.slice va k vc)).set 1 (.int .i64 wear)).set 2 (.bool bad)
      have d0 := zf.cell 0
      have d1 := zf.cell 1
      have d2 := zf.cell 2
      simp at x0 x1 x2 r0 r1 r2 d0 d1 d2
      have HC : Hid _ := hcbo
      clear hcbo zr zf
      go_wp2
      refine bodyPost_ret (v := .agg #[.slice va k vc, .int .i64 wear, .bool bad]) (by simp [results, Try.f66, go_sem, d0, d1, d2]) rfl ?_
      have hc := HC.out
      have hw := HW.out
      have hH := HH.out
      have hbs := HB0.out
      have bel : Below w.heap.size w wr := by rw [hH]; exact hbs.trans (hc.bel.mono (by omega))
      have hnp : NewPs wr (w.heap.size + 2) (.slice va k vc) (ps.map PgR.D) us := hc.inn.newPs (by rw [hus]; have := hc.row; rw [hus] at this; exact this) (by omega) (fun g hg => by have := hc.vn g hg; exact ⟨by omega, this.2.2⟩)
      refine ⟨va, vc, us, rfl, (((hnp.set_below (by omega)).set_below (by omega)).set_below (by omega)).wider (by omega), ?_⟩
      exact ((bel.setCell (p := ⟨H + 1, 0, none⟩) (by simp only; omega) _).setCell (p := ⟨H + 1, 1, none⟩) (by simp only; omega) _).setCell (p := ⟨H + 1, 2, none⟩) (by simp only; omega) _
end
end Go.Proofs.Ytmjifealomgcfaa
