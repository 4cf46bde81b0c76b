/-
  Joined: LogR, LdB, LogN, CrcT.
-/
import Derived.Test.YtoeeblmnogeonaaGreatDoorJ27T
namespace Go.Proofs.YtoeeblmnogeonaaGreatDoor
section
open Go.RowKit
/-- The bytes that lie at an address: none, where no page is written. -/
def pgA (ds : List BkD) (x : Int) : List Int := (readD ds (x.tdiv 8) (x.tmod 8)).getD []
/-- Each page has bytes. -/
def BytC (ds : List BkD) : Prop := ∀ b ∈ ds, ∀ p ∈ b.ps, Byt p.zs
theorem readD_some {ds : List BkD} {x y : Int} {zs : List Int} (h : readD ds x y = some zs) : ∃ b ∈ ds, ∃ p ∈ b.ps, p.used = true ∧ p.zs = zs := by
  unfold readD at h
  split at h
  · split at h
    · rename_i b hb
      split at h
      · rename_i p hp
        split at h
        · rename_i hu
          simp only [Option.some.injEq] at h
          exact ⟨b, List.mem_of_getElem? hb, p, List.mem_of_getElem? hp, hu, h⟩
        · simp at h
      · simp at h
    · simp at h
  · simp at h
theorem pgA_byt {ds : List BkD} (h : BytC ds) (x : Int) : Byt (pgA ds x) := by
  unfold pgA
  cases hr : readD ds (x.tdiv 8) (x.tmod 8) with
  | none => intro z hz; simp at hz
  | some zs =>
    obtain ⟨b, hb, p, hp, _, rfl⟩ := readD_some hr
    exact h b hb p hp
theorem pgA_len {ds : List BkD} {N : Nat} (h : totB ds ≤ N) (x : Int) : (pgA ds x).length ≤ N := by
  unfold pgA
  cases hr : readD ds (x.tdiv 8) (x.tmod 8) with
  | none => simp
  | some zs =>
    obtain ⟨b, hb, p, hp, _, rfl⟩ := readD_some hr
    have h1 := totB_mem hb
    have h2 := totP_mem hp
    show p.zs.length ≤ N
    omega
theorem OwnV.slc {B : Nat} {w : World} {v : Value} {n : Nat} {zs : List Int} (h : OwnV B w v n zs) : ∃ a c, v = .slice a n c ∧ n ≤ c ∧ Rd w a zs := by
  obtain ⟨a, c, e, hr⟩ := RowB.form (OwnV.rowB h)
  refine ⟨a, c, e, ?_, hr⟩
  rcases h.2 with ⟨h1, h2⟩ | ⟨g, c', cur, h1, _, _, h2, _⟩
  · subst h2; exact Nat.zero_le _
  · rw [e] at h1
    simp only [Value.slice.injEq] at h1
    omega
theorem RowB.set_ne {w : World} {v u : Value} {n : Nat} {zs : List Int} (h : RowB w v n zs) (j i : Nat) (hj : ∀ g, v.ownBlock = some g → g ≠ j) : RowB (w.setCell ⟨j, i, none⟩ u) v n zs := h.block fun g hg => Below.heap_setCell _ _ _ _ (hj g hg)
/-- A record was answered, its body in memory of its own. -/
def RcA (w : World) (D : RecD) (ok : Bool) (e : Ending) (w' : World) : Prop := (∃ a c, e = .returned (.tuple #[.agg (recC D a c), .bool ok]) ∧ RowB w' (.slice a D.body.length c) D.body.length D.body ∧ ∀ g, (Value.slice a D.body.length c).ownBlock = some g → w.heap.size ≤ g) ∧ Below w.heap.size w w'
set_option maxRecDepth 100000 in
set_option maxHeartbeats 4000000 in
theorem recAtI (a : Option Addr) (n cap : Nat) (bs : List BkR) (x : Int) (w : World) (ht : CR w a n bs) (hby : BytC (bs.map BkR.D)) (hx : -9223372036854775808 ≤ x ∧ x ≤ 9223372036854775807) :
    Calls Tryz.prog 80 #[.agg #[.slice a n cap], .int .i64 x] w (RcA w (rcR (pgA (bs.map BkR.D) x)) (rcOk (pgA (bs.map BkR.D) x))) := by
  have B0 : Below w.heap.size w ((w.alloc (.cells #[.slice a n cap] 26)).alloc (.cells #[.int .i64 0, .int .i64 0, .slice none 0 0] 61)) := ((Below.refl _ w).alloc (Nat.le_refl _) _).alloc (by simp) _
  have z0 := (Blk.new w 26 #[.slice a n cap]).alloc (.cells #[.int .i64 0, .int .i64 0, .slice none 0 0] 61)
  have z1 := Blk.new (w.alloc (.cells #[.slice a n cap] 26)) 61 #[.int .i64 0, .int .i64 0, .slice none 0 0]
  simp only [World.size_alloc] at z1
  obtain ⟨W0, hW0⟩ : ∃ W, ((w.alloc (.cells #[.slice a n cap] 26)).alloc (.cells #[.int .i64 0, .int .i64 0, .slice none 0 0] 61)) = W := ⟨_, rfl⟩
  have hs0 : W0.heap.size = w.heap.size + 1 + 1 := by rw [← hW0]; simp
  rw [hW0] at B0 z0 z1
  have q0 := z0.cell 0
  simp at q0
  obtain ⟨hx1, hx2⟩ := hx
  have hcall := readI a n cap bs (x.tdiv 8) (x.tmod 8) W0 (ht.keep B0)
  have hlen := pgA_len ht.tot x
  have hbt := pgA_byt hby x
  have hpg : (readD (bs.map BkR.D) (x.tdiv 8) (x.tmod 8)).getD [] = pgA (bs.map BkR.D) x := rfl
  generalize pgA (bs.map BkR.D) x = zs at hlen hbt hpg ⊢
  generalize readD (bs.map BkR.D) (x.tdiv 8) (x.tmod 8) = o at hcall hpg
  obtain ⟨H, hH⟩ : ∃ H, w.heap.size = H := ⟨_, rfl⟩
  have HB : Hid _ := B0
  have HBY : Hid (Byt zs) := hbt
  have HPG : Hid _ := hpg
  generalize hGP : RcA w (rcR zs) (rcOk zs) = P
  have HGP : Hid _ := hGP
  rw [hH] at z1 hs0 q0
  clear ht hby B0 hbt hpg hGP z0
  go_enter Tryz.func80, Tryz.ntmps80
  go_wp2_with fail
  try rw [hW0]
  try rw [hH]
  refine hcall.mono ?_
  rintro e w1 ⟨⟨v, rfl, ho, _⟩, hb1⟩
  rw [HPG.out] at ho
  obtain ⟨a1, c1, rfl, hc1, hr1⟩ := ho.slc
  have zr := z1.keep hb1
  obtain ⟨n1, hn1⟩ : ∃ m, zs.length = m := ⟨_, rfl⟩
  rw [hn1] at hlen hc1 ho ⊢
  have hcall2 := getRecIO a1 n1 c1 zs w1 hn1 hlen hc1 hr1 HBY.out
  have B1 := HB.out.trans (hb1.mono HB.out.size)
  have HB1 : Hid _ := B1
  have HS1 : Hid (H + 1 + 1 ≤ w1.heap.size) := by have := hb1.size; show _ ≤ _; omega
  obtain ⟨D, hD⟩ : ∃ D, rcR zs = D := ⟨_, rfl⟩
  obtain ⟨ok, hok⟩ : ∃ b, rcOk zs = b := ⟨_, rfl⟩
  have HDO : Hid _ := And.intro hD hok
  rw [hD, hok] at hcall2
  obtain ⟨kind, seq, body⟩ := D
  unfold recC at hcall2
  dsimp only at hcall2
  obtain ⟨nb, hnb⟩ : ∃ m, body.length = m := ⟨_, rfl⟩
  rw [hnb] at hcall2
  have HNB : Hid (body.length = nb) := hnb
  obtain ⟨q, hq⟩ : ∃ q, o.isSome = q := ⟨_, rfl⟩
  rw [hq]
  clear hcall hb1 z1 ho hr1 hD hok hnb hn1 hq B1 HPG HB
  go_wp2_with fail
  refine hcall2.mono ?_
  rintro e w2 ⟨⟨a2, c2, rfl, hrow, hnew⟩, hb2⟩
  have zr2 := zr.keep hb2
  have r0 := zr2.cell 0
  have r1 := zr2.cell 1
  have r2 := zr2.cell 2
  have f0 := zr2.frozen 0
  have f1 := zr2.frozen 1
  have f2 := zr2.frozen 2
  have zf := ((zr2.set 0 (.int .i64 kind)).set 1 (.int .i64 seq)).set 2 (.slice a2 nb c2)
  have d0 := zf.cell 0
  have d1 := zf.cell 1
  have d2 := zf.cell 2
  simp at r0 r1 r2 d0 d1 d2
  have B2 := HB1.out.trans (hb2.mono HB1.out.size)
  have HB2 : Hid _ := B2
  have HW : Hid _ := And.intro hrow (And.intro hnew hb2.size)
  clear zr zr2 zf hcall2 hrow hnew hb2 B2
  go_wp2
  refine bodyPost_ret (v := .tuple #[.agg #[.int .i64 kind, .int .i64 seq, .slice a2 nb c2], .bool ok]) (by simp [results, Tryz.f80, go_sem, d0, d1, d2]) rfl ?_
  rw [← HGP.out]
  obtain ⟨hD, hok⟩ := HDO.out
  obtain ⟨hrow, hnew, hsz⟩ := HW.out
  rw [hD, hok]
  have hs1 := HS1.out
  have hnb := HNB.out
  have s : ∀ (W : World) (i : Nat) (v : Value), Below w.heap.size w W → Below w.heap.size w (W.setCell ⟨H + 1, i, none⟩ v) := fun W i v hb => hb.setCell (p := ⟨H + 1, i, none⟩) (by simp only; omega) v
  refine ⟨⟨a2, c2, by unfold recC; rw [hnb], ?_, fun g hg => ?_⟩, s _ _ _ (s _ _ _ (s _ _ _ HB2.out))⟩
  · show RowB _ (.slice a2 body.length c2) body.length body
    rw [hnb]
    refine (((hrow.set_ne (H + 1) 0 ?_).set_ne (H + 1) 1 ?_).set_ne (H + 1) 2 ?_)
    all_goals
      intro g hg
      have := hnew g hg
      omega
  · show w.heap.size ≤ g
    have := hnew g (by rw [← hnb]; exact hg)
    omega
/-- Whether a record of this kind lies at an address. -/
def atOk (ds : List BkD) (x kd : Int) : Bool := rcOk (pgA ds x) && decide ((rcR (pgA ds x)).kind = kd)
/-- The record that is read. -/
def atRec (ds : List BkD) (x kd : Int) : RecD := if atOk ds x kd = true then rcR (pgA ds x) else ⟨0, 0, []⟩
theorem atOk_no {ds : List BkD} {x kd : Int} (h : rcOk (pgA ds x) = false ∨ (rcR (pgA ds x)).kind ≠ kd) : atRec ds x kd = ⟨0, 0, []⟩ ∧ atOk ds x kd = false := by
  have : atOk ds x kd = false := by
    unfold atOk
    rcases h with h | h
    · rw [h]; rfl
    · rw [decide_eq_false h, Bool.and_false]
  exact ⟨by unfold atRec; rw [this]; rfl, this⟩
theorem atOk_yes {ds : List BkD} {x kd : Int} (h1 : rcOk (pgA ds x) = true) (h2 : (rcR (pgA ds x)).kind = kd) : atRec ds x kd = rcR (pgA ds x) ∧ atOk ds x kd = true := by
  have : atOk ds x kd = true := by
    unfold atOk
    rw [h1, decide_eq_true h2]; rfl
  exact ⟨by unfold atRec; rw [this]; rfl, this⟩
set_option maxRecDepth 100000 in
set_option maxHeartbeats 4000000 in
theorem readAtI (a : Option Addr) (n cap : Nat) (bs : List BkR) (ops : Int) (fa : Option Addr) (m fc : Nat) (down : Bool) (seq x kd : Int) (w : World) (ht : CR w a n bs) (hby : BytC (bs.map BkR.D)) (hx : -9223372036854775808 ≤ x ∧ x ≤ 9223372036854775807) :
    Calls Tryz.prog 32 #[.agg #[.slice a n cap, .int .i64 ops, .slice fa m fc, .bool down, .int .i64 seq], .int .i64 x, .int .i64 kd] w (RcA w (atRec (bs.map BkR.D) x kd) (atOk (bs.map BkR.D) x kd)) := by
  have B0 : Below w.heap.size w ((w.alloc (.cells #[.slice a n cap, .int .i64 ops, .slice fa m fc, .bool down, .int .i64 seq] 55)).alloc (.cells #[.int .i64 0, .int .i64 0, .slice none 0 0] 61)) := ((Below.refl _ w).alloc (Nat.le_refl _) _).alloc (by simp) _
  have z0 := (Blk.new w 55 #[.slice a n cap, .int .i64 ops, .slice fa m fc, .bool down, .int .i64 seq]).alloc (.cells #[.int .i64 0, .int .i64 0, .slice none 0 0] 61)
  have z1 := Blk.new (w.alloc (.cells #[.slice a n cap, .int .i64 ops, .slice fa m fc, .bool down, .int .i64 seq] 55)) 61 #[.int .i64 0, .int .i64 0, .slice none 0 0]
  simp only [World.size_alloc] at z1
  obtain ⟨W0, hW0⟩ : ∃ W, ((w.alloc (.cells #[.slice a n cap, .int .i64 ops, .slice fa m fc, .bool down, .int .i64 seq] 55)).alloc (.cells #[.int .i64 0, .int .i64 0, .slice none 0 0] 61)) = W := ⟨_, rfl⟩
  have hs0 : W0.heap.size = w.heap.size + 1 + 1 := by rw [← hW0]; simp
  rw [hW0] at B0 z0 z1
  have q0 := z0.cell 0
  simp at q0
  have HNO1 : Hid (rcOk (pgA (bs.map BkR.D) x) = false ∨ (rcR (pgA (bs.map BkR.D) x)).kind ≠ kd → atRec (bs.map BkR.D) x kd = ⟨0, 0, []⟩ ∧ atOk (bs.map BkR.D) x kd = false) := atOk_no
  have HYES1 : Hid (rcOk (pgA (bs.map BkR.D) x) = true → (rcR (pgA (bs.map BkR.D) x)).kind = kd → atRec (bs.map BkR.D) x kd = rcR (pgA (bs.map BkR.D) x) ∧ atOk (bs.map BkR.D) x kd = true) := atOk_yes
  have hcall := recAtI a n cap bs x W0 (ht.keep B0) hby hx
  generalize hGP : RcA w (atRec (bs.map BkR.D) x kd) (atOk (bs.map BkR.D) x kd) = P
  have HGP : Hid _ := hGP
  generalize atRec (bs.map BkR.D) x kd = RR at HNO1 HYES1 HGP
  generalize atOk (bs.map BkR.D) x kd = RB at HNO1 HYES1 HGP
  generalize rcR (pgA (bs.map BkR.D) x) = D at hcall HNO1 HYES1
  generalize rcOk (pgA (bs.map BkR.D) x) = ok at hcall HNO1 HYES1
  obtain ⟨kind, seq0, body⟩ := D
  unfold RcA recC at hcall
  dsimp only at hcall
  obtain ⟨nb, hnb⟩ : ∃ m, body.length = m := ⟨_, rfl⟩
  rw [hnb] at hcall
  have HNB : Hid (body.length = nb) := hnb
  obtain ⟨H, hH⟩ : ∃ H, w.heap.size = H := ⟨_, rfl⟩
  have HB : Hid _ := B0
  rw [hH] at z1 hs0 q0
  clear ht hby B0 hGP z0 hnb hx
  go_enter Tryz.func32, Tryz.ntmps32
  go_wp2_with fail
  try rw [hW0]
  try rw [hH]
  refine hcall.mono ?_
  rintro e w1 ⟨⟨a1, c1, rfl, hrow, hnew⟩, hb1⟩
  have b2 : Below w1.heap.size w1 (w1.alloc (.cells #[.int .i64 kind, .int .i64 seq0, .slice a1 nb c1] 61)) := (Below.refl _ w1).alloc (Nat.le_refl _) _
  have y1 := Blk.new w1 61 #[.int .i64 kind, .int .i64 seq0, .slice a1 nb c1]
  have zr1 := z1.keep hb1
  have zr := zr1.keep b2
  obtain ⟨W2, hW2⟩ : ∃ W, w1.alloc (.cells #[.int .i64 kind, .int .i64 seq0, .slice a1 nb c1] 61) = W := ⟨_, rfl⟩
  rw [hW2] at b2 y1 zr
  obtain ⟨H1, hH1⟩ : ∃ H, w1.heap.size = H := ⟨_, rfl⟩
  have hrow2 := hrow.keep b2
  have B2 := (HB.out.trans (hb1.mono HB.out.size)).trans (b2.mono (HB.out.trans (hb1.mono HB.out.size)).size)
  have HB2 : Hid _ := B2
  have hH01 : H + 1 + 1 ≤ H1 := by have := hb1.size; omega
  have HW : Hid (RowB W2 (.slice a1 nb c1) nb body ∧ (∀ g, (Value.slice a1 nb c1).ownBlock = some g → H + 1 + 1 ≤ g) ∧ w.heap.size = H) := ⟨hrow2, fun g hg => by rw [← hs0]; exact hnew g hg, hH⟩
  rw [hH1] at y1
  have p0 := y1.cell 0
  have p1 := y1.cell 1
  have p2 := y1.cell 2
  have r0 := zr.cell 0
  have r1 := zr.cell 1
  have r2 := zr.cell 2
  have f0 := zr.frozen 0
  have f1 := zr.frozen 1
  have f2 := zr.frozen 2
  simp at p0 p1 p2 r0 r1 r2
  clear z1 zr1 hb1 b2 hrow hnew hrow2 B2 hcall y1 q0
  cases ok
  · have HNO : Hid _ := HNO1.out (.inl rfl)
    clear HNO1 HYES1 HW
    have zf := ((zr.set 0 (.int .i64 0)).set 1 (.int .i64 0)).set 2 (.slice none 0 0)
    have d0 := zf.cell 0
    have d1 := zf.cell 1
    have d2 := zf.cell 2
    simp at d0 d1 d2
    clear zr zf
    go_wp2
    refine bodyPost_ret (v := .tuple #[.agg #[.int .i64 0, .int .i64 0, .slice none 0 0], .bool false]) (by simp [results, Tryz.f32, go_sem, d0, d1, d2]) rfl ?_
    rw [← HGP.out]
    have s : ∀ (W : World) (i : Nat) (v : Value), Below w.heap.size w W → Below w.heap.size w (W.setCell ⟨H + 1, i, none⟩ v) := fun W i v hb => hb.setCell (p := ⟨H + 1, i, none⟩) (by simp only; omega) v
    obtain ⟨hR, hBB⟩ := HNO.out
    rw [hR, hBB]
    exact ⟨⟨none, 0, rfl, RowB.nil _, fun g hg => by simp [Value.ownBlock] at hg⟩, s _ _ _ (s _ _ _ (s _ _ _ HB2.out))⟩
  · by_cases hk : kind = kd
    · have HYES : Hid _ := HYES1.out rfl hk
      subst hk
      have hk1 : (kind != kind) = false := by simp
      have hk2 : (kind == kind) = true := by simp
      clear HNO1 HYES1
      have zf := ((zr.set 0 (.int .i64 kind)).set 1 (.int .i64 seq0)).set 2 (.slice a1 nb c1)
      have d0 := zf.cell 0
      have d1 := zf.cell 1
      have d2 := zf.cell 2
      simp at d0 d1 d2
      clear zr zf
      go_wp2
      refine bodyPost_ret (v := .tuple #[.agg #[.int .i64 kind, .int .i64 seq0, .slice a1 nb c1], .bool true]) (by simp [results, Tryz.f32, go_sem, d0, d1, d2]) rfl ?_
      rw [← HGP.out]
      have s : ∀ (W : World) (i : Nat) (v : Value), Below w.heap.size w W → Below w.heap.size w (W.setCell ⟨H + 1, i, none⟩ v) := fun W i v hb => hb.setCell (p := ⟨H + 1, i, none⟩) (by simp only; omega) v
      obtain ⟨hR, hBB⟩ := HYES.out
      rw [hR, hBB]
      obtain ⟨hrow, hnew, hsz⟩ := HW.out
      have hnb := HNB.out
      refine ⟨⟨a1, c1, by unfold recC; rw [hnb], ?_, fun g hg => ?_⟩, s _ _ _ (s _ _ _ (s _ _ _ HB2.out))⟩
      · show RowB _ (.slice a1 body.length c1) body.length body
        rw [hnb]
        refine (((hrow.set_ne (H + 1) 0 ?_).set_ne (H + 1) 1 ?_).set_ne (H + 1) 2 ?_)
        all_goals
          intro g hg
          have := hnew g hg
          omega
      · show w.heap.size ≤ g
        have := hnew g (by rw [← hnb]; exact hg)
        omega
    · have HNO : Hid _ := HNO1.out (.inr hk)
      have hk1 : (kind != kd) = true := by simpa using hk
      have hk2 : (kind == kd) = false := by simpa using hk
      clear HNO1 HYES1 HW
      have zf := ((zr.set 0 (.int .i64 0)).set 1 (.int .i64 0)).set 2 (.slice none 0 0)
      have d0 := zf.cell 0
      have d1 := zf.cell 1
      have d2 := zf.cell 2
      simp at d0 d1 d2
      clear zr zf
      go_wp2
      refine bodyPost_ret (v := .tuple #[.agg #[.int .i64 0, .int .i64 0, .slice none 0 0], .bool false]) (by simp [results, Tryz.f32, go_sem, d0, d1, d2]) rfl ?_
      rw [← HGP.out]
      have s : ∀ (W : World) (i : Nat) (v : Value), Below w.heap.size w W → Below w.heap.size w (W.setCell ⟨H + 1, i, none⟩ v) := fun W i v hb => hb.setCell (p := ⟨H + 1, i, none⟩) (by simp only; omega) v
      obtain ⟨hR, hBB⟩ := HNO.out
      rw [hR, hBB]
      exact ⟨⟨none, 0, rfl, RowB.nil _, fun g hg => by simp [Value.ownBlock] at hg⟩, s _ _ _ (s _ _ _ (s _ _ _ HB2.out))⟩
end

section
open Go.RowKit
theorem byt_take {zs : List Int} (h : Byt zs) (k : Nat) : Byt (zs.take k) := fun z hz => h z (List.mem_of_mem_take hz)
theorem bytC_set {ds : List BkD} {k : Nat} {b : BkD} (h : BytC ds) (hb : ∀ p ∈ b.ps, Byt p.zs) : BytC (ds.set k b) := fun d hd => by
  rcases List.mem_or_eq_of_mem_set hd with h1 | h1
  · exact h d h1
  · subst h1; exact hb
theorem bytC_prog {ds : List BkD} (h : BytC ds) (k : Nat) {zs : List Int} (hz : Byt zs) : BytC (progAt ds k zs) := by
  unfold progAt
  split
  · rename_i b hb
    refine bytC_set h fun p hp => ?_
    rcases List.mem_or_eq_of_mem_set hp with h1 | h1
    · exact h b (List.mem_of_getElem? hb) p h1
    · subst h1; exact hz
  · exact h
theorem bytC_bad {ds : List BkD} (h : BytC ds) (k : Nat) : BytC (badD ds k) := by
  unfold badD
  split
  · rename_i b hb
    exact bytC_set h (h b (List.mem_of_getElem? hb))
  · exact h
theorem byt_nil' : Byt [] := fun z hz => by simp at hz
theorem bytC_new (x : Int) : BytC (newD x) := by
  intro b hb p hp
  unfold newD at hb
  split at hb
  · have h1 := List.eq_of_mem_replicate hb
    subst h1
    have h2 := List.eq_of_mem_replicate hp
    subst h2
    exact byt_nil'
  · simp at hb
theorem bytC_out {ds a b : List BkD} {t : Int → List BkD} {cd : Int} {o : Option FtD} (h : BytC ds) (ha : BytC a) (hb : BytC b) (ht : ∀ k, BytC (t k)) : BytC (outDs cd o ds a b t) := by
  unfold outDs
  split
  · split
    · exact ha
    · split
      · exact hb
      · exact ht _
  · exact h
theorem bytC_stN {fs : List FtD} {k : Nat} {Z : List Int} {S : LgS} (h : BytC S.ds) (hz : Byt Z) : BytC (stN fs k Z S).ds :=
  bytC_out h (bytC_prog h _ hz) (bytC_bad h _) (fun _ => bytC_prog h _ (byt_take hz _))
theorem bytC_wrA {fs : List FtD} {Z : List Int} {spare : Int} (hz : Byt Z) : ∀ (f : Nat) (S : LgS), BytC S.ds → BytC (wrA fs Z spare f S).S.ds := by
  intro f
  induction f with
  | zero => intro S h; exact h
  | succ f ih =>
    intro S h
    unfold wrA
    split
    · exact h
    · split
      · exact bytC_stN h hz
      · split
        · exact ih _ (bytC_stN h hz)
        · exact bytC_stN h hz
theorem bytC_wrOut {ds : List BkD} {ops : Int} {fs : List FtD} {down : Bool} {seq kind : Int} {body : List Int} {spare : Int} (h : BytC ds) : BytC (wrOut ds ops fs down seq kind body spare).S.ds := by
  unfold wrOut
  split
  · exact h
  · split
    · exact h
    · exact bytC_wrA (summedOf_byt (recEnc_byt _)) _ _ h
end

section
open Go.RowKit
/-- The next number behind this page's record. -/
def mostF (n : Int) (zs : List Int) : Int := if rcOk zs = true ∧ n ≤ (rcR zs).seq then (rcR zs).seq + 1 else n
/-- One more than the greatest number of a record among these bytes; 0: there is none. -/
def mostL (l : List (List Int)) : Int := l.foldl mostF 0
theorem mostF_le (n s : Int) (z : List Int) : mostF n z ≤ s ↔ n ≤ s ∧ (rcOk z = true → (rcR z).seq < s) := by
  unfold mostF
  by_cases h : rcOk z = true
  · by_cases h2 : n ≤ (rcR z).seq
    · rw [if_pos ⟨h, h2⟩]
      exact ⟨fun h3 => ⟨by omega, fun _ => by omega⟩, fun h3 => by have := h3.2 h; omega⟩
    · rw [if_neg (fun h3 => h2 h3.2)]
      exact ⟨fun h3 => ⟨h3, fun _ => by omega⟩, fun h3 => h3.1⟩
  · rw [if_neg (fun h3 => h h3.1)]
    exact ⟨fun h3 => ⟨h3, fun h4 => absurd h4 h⟩, fun h3 => h3.1⟩
theorem fold_le (l : List (List Int)) (n s : Int) : l.foldl mostF n ≤ s ↔ n ≤ s ∧ ∀ z ∈ l, rcOk z = true → (rcR z).seq < s := by
  induction l generalizing n with
  | nil => simp
  | cons z l ih =>
    rw [List.foldl_cons, ih, mostF_le]
    constructor
    · rintro ⟨⟨h1, h2⟩, h3⟩
      refine ⟨h1, fun y hy => ?_⟩
      rcases List.mem_cons.1 hy with rfl | hy
      · exact h2
      · exact h3 y hy
    · rintro ⟨h1, h2⟩
      exact ⟨⟨h1, h2 z (List.mem_cons_self ..)⟩, fun y hy => h2 y (List.mem_cons_of_mem _ hy)⟩
theorem mostL_le (l : List (List Int)) (s : Int) : mostL l ≤ s ↔ 0 ≤ s ∧ ∀ z ∈ l, rcOk z = true → (rcR z).seq < s := fold_le l 0 s
/-- All pages' bytes. -/
def pgsL (ds : List BkD) : List (List Int) := ds.flatMap fun b => b.ps.map PgD.zs
theorem mem_pgsL {ds : List BkD} {z : List Int} : z ∈ pgsL ds ↔ ∃ b ∈ ds, ∃ p ∈ b.ps, p.zs = z := by simp [pgsL]
theorem pgA_at {ds : List BkD} (hC : ChOk ds) {i j : Nat} {b : BkD} {p : PgD} (hi : ds[i]? = some b) (hj : b.ps[j]? = some p) (hj8 : j < 8) : pgA ds ((8 * i + j : Nat) : Int) = p.zs := by
  have hd : ((8 * i + j : Nat) : Int).tdiv 8 = (i : Int) := by
    show ((8 * i + j : Nat) : Int).tdiv ((8 : Nat) : Int) = _
    rw [← Int.ofNat_tdiv]
    omega
  have hm : ((8 * i + j : Nat) : Int).tmod 8 = (j : Int) := by
    show ((8 * i + j : Nat) : Int).tmod ((8 : Nat) : Int) = _
    rw [← Int.ofNat_tmod]
    omega
  unfold pgA readD
  rw [hd, hm, if_pos (by omega)]
  simp only [Int.toNat_natCast, hi, hj]
  have hp := ((hC.2.2 b (List.mem_of_getElem? hi)).2.2.2 j p hj).1
  unfold pgOk at hp
  simp only [Bool.and_eq_true, Bool.or_eq_true, decide_eq_true_eq] at hp
  cases hu : p.used
  · rw [hu] at hp
    have : p.zs.length = 0 := by simpa using hp.2
    have : p.zs = [] := List.length_eq_zero_iff.1 this
    rw [this]; rfl
  · rfl
theorem pgsL_addr {ds : List BkD} (hC : ChOk ds) (s : Int) : (∀ z ∈ pgsL ds, rcOk z = true → (rcR z).seq < s) ↔ ∀ k, k < 8 * ds.length → rcOk (pgA ds (k : Nat)) = true → (rcR (pgA ds (k : Nat))).seq < s := by
  constructor
  · intro h k hk
    have h1 : k / 8 < ds.length := by omega
    have hb : ds[k / 8]? = some ds[k / 8] := List.getElem?_eq_getElem h1
    have hbm := hC.2.2 _ (List.mem_of_getElem? hb)
    have hl := hbm.1
    have hp : ds[k / 8].ps[k % 8]? = some (ds[k / 8].ps[k % 8]'(by omega)) := List.getElem?_eq_getElem (by omega)
    have := pgA_at hC hb hp (by omega)
    rw [show 8 * (k / 8) + k % 8 = k by omega] at this
    rw [this]
    exact h _ (mem_pgsL.2 ⟨_, List.mem_of_getElem? hb, _, List.mem_of_getElem? hp, rfl⟩)
  · intro h z hz
    obtain ⟨b, hb, p, hp, rfl⟩ := mem_pgsL.1 hz
    obtain ⟨i, hi⟩ := List.getElem?_of_mem hb
    obtain ⟨j, hj⟩ := List.getElem?_of_mem hp
    have hl := (hC.2.2 b hb).1
    have h1 := (List.getElem?_eq_some_iff.1 hi).1
    have h2 := (List.getElem?_eq_some_iff.1 hj).1
    have := h (8 * i + j) (by omega)
    rw [pgA_at hC hi hj (by omega)] at this
    exact this
/-- Whether a log is right. -/
noncomputable def lgB (ds : List BkD) (ops : Int) (fs : List FtD) (seq : Int) : Bool := devB ds ops fs && (decide (0 ≤ seq) && decide (seq ≤ 1000000)) && decide (mostL (pgsL ds) ≤ seq)
/-- Each page's bytes have room. -/
def CapB (bs : List BkR) : Prop := ∀ r ∈ bs, ∀ p ∈ r.ps, p.zs.length ≤ p.cap
theorem NewBs.caps {w : World} {B : Nat} {v : Value} {ds : List BkD} {bs : List BkR} (h : NewBs w B v ds bs) : CapB bs := by
  intro r hr p hp
  have ho := (h.own.2 r hr).2 p hp
  exact ho.2
theorem devB_ch {ds : List BkD} {ops : Int} {fs : List FtD} (h : devB ds ops fs = true) : ChOk ds := by
  unfold devB at h
  simp only [Bool.and_eq_true] at h
  exact (chipOkB_iff ds).1 h.1.1
end

section
open Go.RowKit
def atVal (zs : List Int) (n i : Nat) : Nat := if i < n then (zs.getD i 0).toNat else (i * 31 + n * 7) % 256
theorem atVal_le (zs : List Int) (n i : Nat) (hb : Byt zs) : atVal zs n i ≤ 255 := by
  unfold atVal
  have := getD_byt hb i
  split
  · simp; omega
  · omega
set_option maxHeartbeats 400000 in
theorem at_any (a : Option Addr) (n cap : Nat) (zs : List Int) (i : Nat) (w : World) (hn : zs.length = n) (hs : n ≤ 1048576) (hi : i ≤ 1000) (hr : Rd w a zs) (hb : Byt zs) :
    Calls Tryz.prog 38 #[.slice a n cap, .int .i64 i] w fun e w' => e = .returned (.int .i64 (atVal zs n i)) ∧ w' = w := by
  by_cases hin : i < n
  · obtain ⟨b, off, rfl, hlt, hc⟩ := hr.lt (by intro h; subst h; simp at hn; omega)
    have hcx := hc i (by omega)
    obtain ⟨Z, hZ, hZ1⟩ := byt_at hb i
    rw [hZ] at hcx
    have HV : atVal zs n i = Z := by unfold atVal; rw [if_pos hin, hZ]; rfl
    rw [HV]
    clear HV hZ hr hc
    have hin' : (i : Int) < (n : Int) := by omega
    go_enter Tryz.func38, Tryz.ntmps38
    go_wp2
    go_ret
    exact ⟨rfl, rfl⟩
  · have HV : atVal zs n i = (i * 31 + n * 7) % 256 := by unfold atVal; rw [if_neg hin]
    rw [HV]
    clear HV
    have hin' : ¬ (i : Int) < (n : Int) := by omega
    go_enter Tryz.func38, Tryz.ntmps38
    go_wp2
    go_ret
    exact ⟨ret_int (by omega), rfl⟩
end
end Go.Proofs.YtoeeblmnogeonaaGreatDoor
