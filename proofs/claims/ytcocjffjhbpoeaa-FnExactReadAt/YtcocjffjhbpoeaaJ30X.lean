/-
  Joined: LogR, ChOk.
-/
import Derived.Test.YtcocjffjhbpoeaaJ15X
import Derived.Test.YtcocjffjhbpoeaaJ29X
namespace Go.Proofs.Ytcocjffjhbpoeaa
section
open Go.RowKit
/-- The bytes that lie at an address: none, where no page is written. -/
def pgA (ds : List BkD) (x : Int) : List Int := (readD ds (x.tdiv 8) (x.tmod 8)).getD []
/-- Each page has bytes. -/
def BytC (ds : List BkD) : Prop := ∀ b ∈ ds, ∀ p ∈ b.ps, Byt p.zs
theorem readD_some {ds : List BkD} {x y : Int} {zs : List Int} (h : readD ds x y = some zs) : ∃ b ∈ ds, ∃ p ∈ b.ps, p.used = true ∧ p.zs = zs := by
  unfold readD at h
  split at h
  · split at h
    · rename_i b hb
      split at h
      · rename_i p hp
        split at h
        · rename_i hu
          simp only [Option.some.injEq] at h
          exact ⟨b, List.mem_of_getElem? hb, p, List.mem_of_getElem? hp, hu, h⟩
        · simp at h
      · simp at h
    · simp at h
  · simp at h
theorem pgA_byt {ds : List BkD} (h : BytC ds) (x : Int) : Byt (pgA ds x) := by
  unfold pgA
  cases hr : readD ds (x.tdiv 8) (x.tmod 8) with
  | none => intro z hz; simp at hz
  | some zs =>
    obtain ⟨b, hb, p, hp, _, rfl⟩ := readD_some hr
    exact h b hb p hp
theorem pgA_len {ds : List BkD} {N : Nat} (h : totB ds ≤ N) (x : Int) : (pgA ds x).length ≤ N := by
  unfold pgA
  cases hr : readD ds (x.tdiv 8) (x.tmod 8) with
  | none => simp
  | some zs =>
    obtain ⟨b, hb, p, hp, _, rfl⟩ := readD_some hr
    have h1 := totB_mem hb
    have h2 := totP_mem hp
    show p.zs.length ≤ N
    omega
theorem pgA_neg {ds : List BkD} {x : Int} (h : x < 0) : pgA ds x = [] := by
  unfold pgA readD
  have h1 := Int.mul_tdiv_add_tmod x 8
  have : ¬ (0 ≤ x.tdiv 8 ∧ 0 ≤ x.tmod 8) := by omega
  rw [if_neg this]
  rfl
theorem pgA_none {ds : List BkD} {x : Int} (h : readD ds (x.tdiv 8) (x.tmod 8) = none) : pgA ds x = [] := by
  unfold pgA
  rw [h]
  rfl
theorem OwnV.slc {B : Nat} {w : World} {v : Value} {n : Nat} {zs : List Int} (h : OwnV B w v n zs) : ∃ a c, v = .slice a n c ∧ n ≤ c ∧ Rd w a zs := by
  obtain ⟨a, c, e, hr⟩ := RowB.form (OwnV.rowB h)
  refine ⟨a, c, e, ?_, hr⟩
  rcases h.2 with ⟨h1, h2⟩ | ⟨g, c', cur, h1, _, _, h2, _⟩
  · subst h2; exact Nat.zero_le _
  · rw [e] at h1
    simp only [Value.slice.injEq] at h1
    omega
theorem RowB.set_ne {w : World} {v u : Value} {n : Nat} {zs : List Int} (h : RowB w v n zs) (j i : Nat) (hj : ∀ g, v.ownBlock = some g → g ≠ j) : RowB (w.setCell ⟨j, i, none⟩ u) v n zs := h.block fun g hg => Below.heap_setCell _ _ _ _ (hj g hg)
/-- A record was answered, its body in memory of its own. -/
def RcA (w : World) (D : RecD) (ok : Bool) (e : Ending) (w' : World) : Prop := (∃ a c, e = .returned (.tuple #[.agg (recC D a c), .bool ok]) ∧ RowB w' (.slice a D.body.length c) D.body.length D.body ∧ ∀ g, (Value.slice a D.body.length c).ownBlock = some g → w.heap.size ≤ g) ∧ Below w.heap.size w w'
set_option maxRecDepth 100000 in
set_option maxHeartbeats 4000000 in
theorem recAtI (a : Option Addr) (n cap : Nat) (bs : List BkR) (x : Int) (w : World) (ht : CR w a n bs) (hby : BytC (bs.map BkR.D)) (hx : -9223372036854775808 ≤ x ∧ x ≤ 9223372036854775807) :
    Calls Try.prog 36 #[.agg #[.slice a n cap], .int .i64 x] w (RcA w (rcR (pgA (bs.map BkR.D) x)) (rcOk (pgA (bs.map BkR.D) x))) := by
  have B0 : Below w.heap.size w ((w.alloc (.cells #[.slice a n cap] 34)).alloc (.cells #[.int .i64 0, .int .i64 0, .slice none 0 0] 47)) := ((Below.refl _ w).alloc (Nat.le_refl _) _).alloc (by simp) _
  have z0 := (Blk.new w 34 #[.slice a n cap]).alloc (.cells #[.int .i64 0, .int .i64 0, .slice none 0 0] 47)
  have z1 := Blk.new (w.alloc (.cells #[.slice a n cap] 34)) 47 #[.int .i64 0, .int .i64 0, .slice none 0 0]
  simp only [World.size_alloc] at z1
  obtain ⟨W0, hW0⟩ : ∃ W, ((w.alloc (.cells #[.slice a n cap] 34)).alloc (.cells #[.int .i64 0, .int .i64 0, .slice none 0 0] 47)) = W := ⟨_, rfl⟩
  have hs0 : W0.heap.size = w.heap.size + 1 + 1 := by rw [← hW0]; simp
  rw [hW0] at B0 z0 z1
  have q0 := z0.cell 0
  simp at q0
  obtain ⟨hx1, hx2⟩ := hx
  have hcall := readI a n cap bs (x.tdiv 8) (x.tmod 8) W0 (ht.keep B0)
  have hlen := pgA_len ht.tot x
  have hbt := pgA_byt hby x
  have hpg : (readD (bs.map BkR.D) (x.tdiv 8) (x.tmod 8)).getD [] = pgA (bs.map BkR.D) x := rfl
  generalize pgA (bs.map BkR.D) x = zs at hlen hbt hpg ⊢
  generalize readD (bs.map BkR.D) (x.tdiv 8) (x.tmod 8) = o at hcall hpg
  obtain ⟨H, hH⟩ : ∃ H, w.heap.size = H := ⟨_, rfl⟩
  have HB : Hid _ := B0
  have HBY : Hid (Byt zs) := hbt
  have HPG : Hid _ := hpg
  generalize hGP : RcA w (rcR zs) (rcOk zs) = P
  have HGP : Hid _ := hGP
  rw [hH] at z1 hs0 q0
  clear ht hby B0 hbt hpg hGP z0
  go_enter Try.func36, Try.ntmps36
  go_wp2_with fail
  try rw [hW0]
  try rw [hH]
  refine hcall.mono ?_
  rintro e w1 ⟨⟨v, rfl, ho, _⟩, hb1⟩
  rw [HPG.out] at ho
  obtain ⟨a1, c1, rfl, hc1, hr1⟩ := ho.slc
  have zr := z1.keep hb1
  obtain ⟨n1, hn1⟩ : ∃ m, zs.length = m := ⟨_, rfl⟩
  rw [hn1] at hlen hc1 ho ⊢
  have hcall2 := getRecIO a1 n1 c1 zs w1 hn1 hlen hc1 hr1 HBY.out
  have B1 := HB.out.trans (hb1.mono HB.out.size)
  have HB1 : Hid _ := B1
  have HS1 : Hid (H + 1 + 1 ≤ w1.heap.size) := by have := hb1.size; show _ ≤ _; omega
  obtain ⟨D, hD⟩ : ∃ D, rcR zs = D := ⟨_, rfl⟩
  obtain ⟨ok, hok⟩ : ∃ b, rcOk zs = b := ⟨_, rfl⟩
  have HDO : Hid _ := And.intro hD hok
  rw [hD, hok] at hcall2
  obtain ⟨kind, seq, body⟩ := D
  unfold recC at hcall2
  dsimp only at hcall2
  obtain ⟨nb, hnb⟩ : ∃ m, body.length = m := ⟨_, rfl⟩
  rw [hnb] at hcall2
  have HNB : Hid (body.length = nb) := hnb
  obtain ⟨q, hq⟩ : ∃ q, o.isSome = q := ⟨_, rfl⟩
  rw [hq]
  clear hcall hb1 z1 ho hr1 hD hok hnb hn1 hq B1 HPG HB
  go_wp2_with fail
  refine hcall2.mono ?_
  rintro e w2 ⟨⟨a2, c2, rfl, hrow, hnew⟩, hb2⟩
  have zr2 := zr.keep hb2
  have r0 := zr2.cell 0
  have r1 := zr2.cell 1
  have r2 := zr2.cell 2
  have f0 := zr2.frozen 0
  have f1 := zr2.frozen 1
  have f2 := zr2.frozen 2
  have zf := ((zr2.set 0 (.int .i64 kind)).set 1 (.int .i64 seq)).set 2 (.slice a2 nb c2)
  have d0 := zf.cell 0
  have d1 := zf.cell 1
  have d2 := zf.cell 2
  simp at r0 r1 r2 d0 d1 d2
  have B2 := HB1.out.trans (hb2.mono HB1.out.size)
  have HB2 : Hid _ := B2
  have HW : Hid _ := And.intro hrow (And.intro hnew hb2.size)
  clear zr zr2 zf hcall2 hrow hnew hb2 B2
  go_wp2
  refine bodyPost_ret (v := .tuple #[.agg #[.int .i64 kind, .int .i64 seq, .slice a2 nb c2], .bool ok]) (by simp [results, Try.f36, go_sem, d0, d1, d2]) rfl ?_
  rw [← HGP.out]
  obtain ⟨hD, hok⟩ := HDO.out
  obtain ⟨hrow, hnew, hsz⟩ := HW.out
  rw [hD, hok]
  have hs1 := HS1.out
  have hnb := HNB.out
  have s : ∀ (W : World) (i : Nat) (v : Value), Below w.heap.size w W → Below w.heap.size w (W.setCell ⟨H + 1, i, none⟩ v) := fun W i v hb => hb.setCell (p := ⟨H + 1, i, none⟩) (by simp only; omega) v
  refine ⟨⟨a2, c2, by unfold recC; rw [hnb], ?_, fun g hg => ?_⟩, s _ _ _ (s _ _ _ (s _ _ _ HB2.out))⟩
  · show RowB _ (.slice a2 body.length c2) body.length body
    rw [hnb]
    refine (((hrow.set_ne (H + 1) 0 ?_).set_ne (H + 1) 1 ?_).set_ne (H + 1) 2 ?_)
    all_goals
      intro g hg
      have := hnew g hg
      omega
  · show w.heap.size ≤ g
    have := hnew g (by rw [← hnb]; exact hg)
    omega
/-- Whether a record of this kind lies at an address. -/
def atOk (ds : List BkD) (x kd : Int) : Bool := rcOk (pgA ds x) && decide ((rcR (pgA ds x)).kind = kd)
/-- The record that is read. -/
def atRec (ds : List BkD) (x kd : Int) : RecD := if atOk ds x kd = true then rcR (pgA ds x) else ⟨0, 0, []⟩
theorem atOk_no {ds : List BkD} {x kd : Int} (h : rcOk (pgA ds x) = false ∨ (rcR (pgA ds x)).kind ≠ kd) : atRec ds x kd = ⟨0, 0, []⟩ ∧ atOk ds x kd = false := by
  have : atOk ds x kd = false := by
    unfold atOk
    rcases h with h | h
    · rw [h]; rfl
    · rw [decide_eq_false h, Bool.and_false]
  exact ⟨by unfold atRec; rw [this]; rfl, this⟩
theorem atOk_yes {ds : List BkD} {x kd : Int} (h1 : rcOk (pgA ds x) = true) (h2 : (rcR (pgA ds x)).kind = kd) : atRec ds x kd = rcR (pgA ds x) ∧ atOk ds x kd = true := by
  have : atOk ds x kd = true := by
    unfold atOk
    rw [h1, decide_eq_true h2]; rfl
  exact ⟨by unfold atRec; rw [this]; rfl, this⟩
theorem rcOk_nil : rcOk [] = false := rfl
set_option maxRecDepth 100000 in
set_option maxHeartbeats 4000000 in
theorem readAtI (a : Option Addr) (n cap : Nat) (bs : List BkR) (ops : Int) (fa : Option Addr) (m fc : Nat) (down : Bool) (seq x kd : Int) (w : World) (ht : CR w a n bs) (hby : BytC (bs.map BkR.D)) (hx : -9223372036854775808 ≤ x ∧ x ≤ 9223372036854775807) :
    Calls Try.prog 16 #[.agg #[.slice a n cap, .int .i64 ops, .slice fa m fc, .bool down, .int .i64 seq], .int .i64 x, .int .i64 kd] w (RcA w (atRec (bs.map BkR.D) x kd) (atOk (bs.map BkR.D) x kd)) := by
  have B0 : Below w.heap.size w ((w.alloc (.cells #[.slice a n cap, .int .i64 ops, .slice fa m fc, .bool down, .int .i64 seq] 39)).alloc (.cells #[.int .i64 0, .int .i64 0, .slice none 0 0] 47)) := ((Below.refl _ w).alloc (Nat.le_refl _) _).alloc (by simp) _
  have z0 := (Blk.new w 39 #[.slice a n cap, .int .i64 ops, .slice fa m fc, .bool down, .int .i64 seq]).alloc (.cells #[.int .i64 0, .int .i64 0, .slice none 0 0] 47)
  have z1 := Blk.new (w.alloc (.cells #[.slice a n cap, .int .i64 ops, .slice fa m fc, .bool down, .int .i64 seq] 39)) 47 #[.int .i64 0, .int .i64 0, .slice none 0 0]
  simp only [World.size_alloc] at z1
  obtain ⟨W0, hW0⟩ : ∃ W, ((w.alloc (.cells #[.slice a n cap, .int .i64 ops, .slice fa m fc, .bool down, .int .i64 seq] 39)).alloc (.cells #[.int .i64 0, .int .i64 0, .slice none 0 0] 47)) = W := ⟨_, rfl⟩
  have hs0 : W0.heap.size = w.heap.size + 1 + 1 := by rw [← hW0]; simp
  rw [hW0] at B0 z0 z1
  have q0 := z0.cell 0
  simp at q0
  have HNO1 : Hid (rcOk (pgA (bs.map BkR.D) x) = false ∨ (rcR (pgA (bs.map BkR.D) x)).kind ≠ kd → atRec (bs.map BkR.D) x kd = ⟨0, 0, []⟩ ∧ atOk (bs.map BkR.D) x kd = false) := atOk_no
  have HYES1 : Hid (rcOk (pgA (bs.map BkR.D) x) = true → (rcR (pgA (bs.map BkR.D) x)).kind = kd → atRec (bs.map BkR.D) x kd = rcR (pgA (bs.map BkR.D) x) ∧ atOk (bs.map BkR.D) x kd = true) := atOk_yes
  have hcall := recAtI a n cap bs x W0 (ht.keep B0) hby hx
  generalize hGP : RcA w (atRec (bs.map BkR.D) x kd) (atOk (bs.map BkR.D) x kd) = P
  have HGP : Hid _ := hGP
  generalize atRec (bs.map BkR.D) x kd = RR at HNO1 HYES1 HGP
  generalize atOk (bs.map BkR.D) x kd = RB at HNO1 HYES1 HGP
  generalize rcR (pgA (bs.map BkR.D) x) = D at hcall HNO1 HYES1
  generalize rcOk (pgA (bs.map BkR.D) x) = ok at hcall HNO1 HYES1
  obtain ⟨kind, seq0, body⟩ := D
  unfold RcA recC at hcall
  dsimp only at hcall
  obtain ⟨nb, hnb⟩ : ∃ m, body.length = m := ⟨_, rfl⟩
  rw [hnb] at hcall
  have HNB : Hid (body.length = nb) := hnb
  obtain ⟨H, hH⟩ : ∃ H, w.heap.size = H := ⟨_, rfl⟩
  have HB : Hid _ := B0
  rw [hH] at z1 hs0 q0
  clear ht hby B0 hGP z0 hnb hx
  go_enter Try.func16, Try.ntmps16
  go_wp2_with fail
  try rw [hW0]
  try rw [hH]
  refine hcall.mono ?_
  rintro e w1 ⟨⟨a1, c1, rfl, hrow, hnew⟩, hb1⟩
  have b2 : Below w1.heap.size w1 (w1.alloc (.cells #[.int .i64 kind, .int .i64 seq0, .slice a1 nb c1] 47)) := (Below.refl _ w1).alloc (Nat.le_refl _) _
  have y1 := Blk.new w1 47 #[.int .i64 kind, .int .i64 seq0, .slice a1 nb c1]
  have zr1 := z1.keep hb1
  have zr := zr1.keep b2
  obtain ⟨W2, hW2⟩ : ∃ W, w1.alloc (.cells #[.int .i64 kind, .int .i64 seq0, .slice a1 nb c1] 47) = W := ⟨_, rfl⟩
  rw [hW2] at b2 y1 zr
  obtain ⟨H1, hH1⟩ : ∃ H, w1.heap.size = H := ⟨_, rfl⟩
  have hrow2 := hrow.keep b2
  have B2 := (HB.out.trans (hb1.mono HB.out.size)).trans (b2.mono (HB.out.trans (hb1.mono HB.out.size)).size)
  have HB2 : Hid _ := B2
  have hH01 : H + 1 + 1 ≤ H1 := by have := hb1.size; omega
  have HW : Hid (RowB W2 (.slice a1 nb c1) nb body ∧ (∀ g, (Value.slice a1 nb c1).ownBlock = some g → H + 1 + 1 ≤ g) ∧ w.heap.size = H) := ⟨hrow2, fun g hg => by rw [← hs0]; exact hnew g hg, hH⟩
  rw [hH1] at y1
  have p0 := y1.cell 0
  have p1 := y1.cell 1
  have p2 := y1.cell 2
  have r0 := zr.cell 0
  have r1 := zr.cell 1
  have r2 := zr.cell 2
  have f0 := zr.frozen 0
  have f1 := zr.frozen 1
  have f2 := zr.frozen 2
  simp at p0 p1 p2 r0 r1 r2
  clear z1 zr1 hb1 b2 hrow hnew hrow2 B2 hcall y1 q0
  cases ok
  · have HNO : Hid _ := HNO1.out (.inl rfl)
    clear HNO1 HYES1 HW
    have zf := ((zr.set 0 (.int .i64 0)).set 1 (.int .i64 0)).set 2 (.slice none 0 0)
    have d0 := zf.cell 0
    have d1 := zf.cell 1
    have d2 := zf.cell 2
    simp at d0 d1 d2
    clear zr zf
    go_wp2
    refine bodyPost_ret (v := .tuple #[.agg #[.int .i64 0, .int .i64 0, .slice none 0 0], .bool false]) (by simp [results, Try.f16, go_sem, d0, d1, d2]) rfl ?_
    rw [← HGP.out]
    have s : ∀ (W : World) (i : Nat) (v : Value), Below w.heap.size w W → Below w.heap.size w (W.setCell ⟨H + 1, i, none⟩ v) := fun W i v hb => hb.setCell (p := ⟨H + 1, i, none⟩) (by simp only; omega) v
    obtain ⟨hR, hBB⟩ := HNO.out
    rw [hR, hBB]
    exact ⟨⟨none, 0, rfl, RowB.nil _, fun g hg => by simp [Value.ownBlock] at hg⟩, s _ _ _ (s _ _ _ (s _ _ _ HB2.out))⟩
  · by_cases hk : kind = kd
    · have HYES : Hid _ := HYES1.out rfl hk
      subst hk
      have hk1 : (kind != kind) = false := by simp
      have hk2 : (kind == kind) = true := by simp
      clear HNO1 HYES1
      have zf := ((zr.set 0 (.int .i64 kind)).set 1 (.int .i64 seq0)).set 2 (.slice a1 nb c1)
      have d0 := zf.cell 0
      have d1 := zf.cell 1
      have d2 := zf.cell 2
      simp at d0 d1 d2
      clear zr zf
      go_wp2
      refine bodyPost_ret (v := .tuple #[.agg #[.int .i64 kind, .int .i64 seq0, .slice a1 nb c1], .bool true]) (by simp [results, Try.f16, go_sem, d0, d1, d2]) rfl ?_
      rw [← HGP.out]
      have s : ∀ (W : World) (i : Nat) (v : Value), Below w.heap.size w W → Below w.heap.size w (W.setCell ⟨H + 1, i, none⟩ v) := fun W i v hb => hb.setCell (p := ⟨H + 1, i, none⟩) (by simp only; omega) v
      obtain ⟨hR, hBB⟩ := HYES.out
      rw [hR, hBB]
      obtain ⟨hrow, hnew, hsz⟩ := HW.out
      have hnb := HNB.out
      refine ⟨⟨a1, c1, by unfold recC; rw [hnb], ?_, fun g hg => ?_⟩, s _ _ _ (s _ _ _ (s _ _ _ HB2.out))⟩
      · show RowB _ (.slice a1 body.length c1) body.length body
        rw [hnb]
        refine (((hrow.set_ne (H + 1) 0 ?_).set_ne (H + 1) 1 ?_).set_ne (H + 1) 2 ?_)
        all_goals
          intro g hg
          have := hnew g hg
          omega
      · show w.heap.size ≤ g
        have := hnew g (by rw [← hnb]; exact hg)
        omega
    · have HNO : Hid _ := HNO1.out (.inr hk)
      have hk1 : (kind != kd) = true := by simpa using hk
      have hk2 : (kind == kd) = false := by simpa using hk
      clear HNO1 HYES1 HW
      have zf := ((zr.set 0 (.int .i64 0)).set 1 (.int .i64 0)).set 2 (.slice none 0 0)
      have d0 := zf.cell 0
      have d1 := zf.cell 1
      have d2 := zf.cell 2
      simp at d0 d1 d2
      clear zr zf
      go_wp2
      refine bodyPost_ret (v := .tuple #[.agg #[.int .i64 0, .int .i64 0, .slice none 0 0], .bool false]) (by simp [results, Try.f16, go_sem, d0, d1, d2]) rfl ?_
      rw [← HGP.out]
      have s : ∀ (W : World) (i : Nat) (v : Value), Below w.heap.size w W → Below w.heap.size w (W.setCell ⟨H + 1, i, none⟩ v) := fun W i v hb => hb.setCell (p := ⟨H + 1, i, none⟩) (by simp only; omega) v
      obtain ⟨hR, hBB⟩ := HNO.out
      rw [hR, hBB]
      exact ⟨⟨none, 0, rfl, RowB.nil _, fun g hg => by simp [Value.ownBlock] at hg⟩, s _ _ _ (s _ _ _ (s _ _ _ HB2.out))⟩
set_option maxRecDepth 100000 in
set_option maxHeartbeats 4000000 in
theorem readAtS (a : Option Addr) (n cap : Nat) (bs : List BkR) (ops : Int) (fa : Option Addr) (m fc : Nat) (down : Bool) (seq x kd : Int) (w : World) (ht : CR w a n bs) (hby : BytC (bs.map BkR.D)) (hx : -9223372036854775808 ≤ x ∧ x ≤ 9223372036854775807) :
    Calls Try.prog 15 #[.agg #[.slice a n cap, .int .i64 ops, .slice fa m fc, .bool down, .int .i64 seq], .int .i64 x, .int .i64 kd] w (RcA w (atRec (bs.map BkR.D) x kd) (atOk (bs.map BkR.D) x kd)) := by
  have B0 : Below w.heap.size w ((w.alloc (.cells #[.slice a n cap, .int .i64 ops, .slice fa m fc, .bool down, .int .i64 seq] 39)).alloc (.cells #[.int .i64 0, .int .i64 0, .slice none 0 0] 47)) := ((Below.refl _ w).alloc (Nat.le_refl _) _).alloc (by simp) _
  have z0 := (Blk.new w 39 #[.slice a n cap, .int .i64 ops, .slice fa m fc, .bool down, .int .i64 seq]).alloc (.cells #[.int .i64 0, .int .i64 0, .slice none 0 0] 47)
  have z1 := Blk.new (w.alloc (.cells #[.slice a n cap, .int .i64 ops, .slice fa m fc, .bool down, .int .i64 seq] 39)) 47 #[.int .i64 0, .int .i64 0, .slice none 0 0]
  simp only [World.size_alloc] at z1
  obtain ⟨W0, hW0⟩ : ∃ W, ((w.alloc (.cells #[.slice a n cap, .int .i64 ops, .slice fa m fc, .bool down, .int .i64 seq] 39)).alloc (.cells #[.int .i64 0, .int .i64 0, .slice none 0 0] 47)) = W := ⟨_, rfl⟩
  have hs0 : W0.heap.size = w.heap.size + 1 + 1 := by rw [← hW0]; simp
  rw [hW0] at B0 z0 z1
  have q0 := z0.cell 0
  simp at q0
  have HNO1 : Hid (rcOk (pgA (bs.map BkR.D) x) = false ∨ (rcR (pgA (bs.map BkR.D) x)).kind ≠ kd → atRec (bs.map BkR.D) x kd = ⟨0, 0, []⟩ ∧ atOk (bs.map BkR.D) x kd = false) := atOk_no
  have HYES1 : Hid (rcOk (pgA (bs.map BkR.D) x) = true → (rcR (pgA (bs.map BkR.D) x)).kind = kd → atRec (bs.map BkR.D) x kd = rcR (pgA (bs.map BkR.D) x) ∧ atOk (bs.map BkR.D) x kd = true) := atOk_yes
  have hlen := pgA_len ht.tot x
  have hbt := pgA_byt hby x
  generalize hGP : RcA w (atRec (bs.map BkR.D) x kd) (atOk (bs.map BkR.D) x kd) = P
  have HGP : Hid _ := hGP
  generalize atRec (bs.map BkR.D) x kd = RR at HNO1 HYES1 HGP
  generalize atOk (bs.map BkR.D) x kd = RB at HNO1 HYES1 HGP
  obtain ⟨H, hH⟩ : ∃ H, w.heap.size = H := ⟨_, rfl⟩
  have HB : Hid _ := B0
  rw [hH] at z1 hs0 q0
  by_cases hx0 : x < 0
  · have HNO : Hid _ := HNO1.out (.inl (by rw [pgA_neg hx0]; rfl))
    have zr := z1
    have HB2 : Hid _ := B0
    have r0 := zr.cell 0
    have r1 := zr.cell 1
    have r2 := zr.cell 2
    have f0 := zr.frozen 0
    have f1 := zr.frozen 1
    have f2 := zr.frozen 2
    simp at r0 r1 r2
    clear ht hby B0 hGP z0 hx HNO1 HYES1 z1 hlen hbt
    go_enter Try.func15, Try.ntmps15
    have zf := ((zr.set 0 (.int .i64 0)).set 1 (.int .i64 0)).set 2 (.slice none 0 0)
    have d0 := zf.cell 0
    have d1 := zf.cell 1
    have d2 := zf.cell 2
    simp at d0 d1 d2
    clear zr zf
    go_wp2
    refine bodyPost_ret (v := .tuple #[.agg #[.int .i64 0, .int .i64 0, .slice none 0 0], .bool false]) (by simp [results, Try.f15, go_sem, d0, d1, d2]) rfl ?_
    rw [← HGP.out]
    have s : ∀ (W : World) (i : Nat) (v : Value), Below w.heap.size w W → Below w.heap.size w (W.setCell ⟨H + 1, i, none⟩ v) := fun W i v hb => hb.setCell (p := ⟨H + 1, i, none⟩) (by simp only; omega) v
    obtain ⟨hR, hBB⟩ := HNO.out
    rw [hR, hBB]
    exact ⟨⟨none, 0, rfl, RowB.nil _, fun g hg => by simp [Value.ownBlock] at hg⟩, s _ _ _ (s _ _ _ (s _ _ _ HB2.out))⟩
  have hcall := readS a n cap bs (x.tdiv 8) (x.tmod 8) W0 (ht.keep B0)
  have hpg : (readD (bs.map BkR.D) (x.tdiv 8) (x.tmod 8)).getD [] = pgA (bs.map BkR.D) x := rfl
  generalize pgA (bs.map BkR.D) x = zs at hlen hbt hpg HNO1 HYES1
  generalize readD (bs.map BkR.D) (x.tdiv 8) (x.tmod 8) = o at hcall hpg
  rw [Int.tdiv_eq_ediv_of_nonneg (by omega), Int.tmod_eq_emod_of_nonneg (by omega)] at hcall
  have HBY : Hid (Byt zs) := hbt
  have HPG : Hid _ := hpg
  obtain ⟨hx1, hx2⟩ := hx
  clear ht hby B0 hGP z0 hbt hpg
  go_enter Try.func15, Try.ntmps15
  go_wp2_with fail
  try rw [hW0]
  try rw [hH]
  refine hcall.mono ?_
  rintro e w1 ⟨⟨v, rfl, ho, _⟩, hb1⟩
  rw [HPG.out] at ho
  obtain ⟨a0, c0, rfl, hc0, hr0⟩ := ho.slc
  have zr0 := z1.keep hb1
  obtain ⟨n1, hn1⟩ : ∃ m, zs.length = m := ⟨_, rfl⟩
  rw [hn1] at hlen hc0 ho ⊢
  have hcall2 := getRecSO a0 n1 c0 zs w1 hn1 hlen hc0 hr0 HBY.out
  have HB1 : Hid _ := HB.out.trans (hb1.mono HB.out.size)
  have HS1 : Hid (H + 1 + 1 ≤ w1.heap.size) := by have := hb1.size; show _ ≤ _; omega
  have HQ : Hid (o.isSome = false → rcOk zs = false) := fun h => by rw [← HPG.out]; cases o with | none => rfl | some z => simp at h
  generalize rcR zs = D at hcall2 HNO1 HYES1
  generalize rcOk zs = ok at hcall2 HNO1 HYES1 HQ
  obtain ⟨kind, seq0, body⟩ := D
  unfold recC at hcall2
  dsimp only at hcall2
  obtain ⟨nb, hnb⟩ : ∃ m, body.length = m := ⟨_, rfl⟩
  rw [hnb] at hcall2
  have HNB : Hid (body.length = nb) := hnb
  generalize o.isSome = q at HQ ⊢
  clear hcall hb1 z1 ho hr0 hnb hn1 HPG HB
  go_wp2_with fail
  refine hcall2.mono ?_
  rintro e w2 ⟨⟨a1, c1, rfl, hrow, hnew⟩, hb2⟩
  have b3 : Below w2.heap.size w2 (w2.alloc (.cells #[.int .i64 kind, .int .i64 seq0, .slice a1 nb c1] 47)) := (Below.refl _ w2).alloc (Nat.le_refl _) _
  have y1 := Blk.new w2 47 #[.int .i64 kind, .int .i64 seq0, .slice a1 nb c1]
  have zr := (zr0.keep hb2).keep b3
  obtain ⟨W3, hW3⟩ : ∃ W, w2.alloc (.cells #[.int .i64 kind, .int .i64 seq0, .slice a1 nb c1] 47) = W := ⟨_, rfl⟩
  rw [hW3] at b3 y1 zr
  obtain ⟨H1, hH1⟩ : ∃ H, w2.heap.size = H := ⟨_, rfl⟩
  have hrow2 := hrow.keep b3
  have B2 := HB1.out.trans (hb2.mono HB1.out.size)
  have HB2 : Hid _ := B2.trans (b3.mono B2.size)
  have hs1 := HS1.out
  have hH01 : H + 1 + 1 ≤ H1 := by have := hb2.size; omega
  have HW : Hid (RowB W3 (.slice a1 nb c1) nb body ∧ (∀ g, (Value.slice a1 nb c1).ownBlock = some g → H + 1 + 1 ≤ g) ∧ w.heap.size = H) := ⟨hrow2, fun g hg => Nat.le_trans hs1 (hnew g hg), hH⟩
  rw [hH1] at y1
  have p0 := y1.cell 0
  have p1 := y1.cell 1
  have p2 := y1.cell 2
  have r0 := zr.cell 0
  have r1 := zr.cell 1
  have r2 := zr.cell 2
  have f0 := zr.frozen 0
  have f1 := zr.frozen 1
  have f2 := zr.frozen 2
  simp at p0 p1 p2 r0 r1 r2
  clear zr0 hb2 b3 hrow hnew hrow2 B2 hcall2 y1 q0 hs1
  cases q
  · have hok : ok = false := HQ.out rfl
    subst hok
    have HNO : Hid _ := HNO1.out (.inl rfl)
    clear HNO1 HYES1 HW HQ
    have zf := ((zr.set 0 (.int .i64 0)).set 1 (.int .i64 0)).set 2 (.slice none 0 0)
    have d0 := zf.cell 0
    have d1 := zf.cell 1
    have d2 := zf.cell 2
    simp at d0 d1 d2
    clear zr zf
    go_wp2
    refine bodyPost_ret (v := .tuple #[.agg #[.int .i64 0, .int .i64 0, .slice none 0 0], .bool false]) (by simp [results, Try.f15, go_sem, d0, d1, d2]) rfl ?_
    rw [← HGP.out]
    have s : ∀ (W : World) (i : Nat) (v : Value), Below w.heap.size w W → Below w.heap.size w (W.setCell ⟨H + 1, i, none⟩ v) := fun W i v hb => hb.setCell (p := ⟨H + 1, i, none⟩) (by simp only; omega) v
    obtain ⟨hR, hBB⟩ := HNO.out
    rw [hR, hBB]
    exact ⟨⟨none, 0, rfl, RowB.nil _, fun g hg => by simp [Value.ownBlock] at hg⟩, s _ _ _ (s _ _ _ (s _ _ _ HB2.out))⟩
  cases ok
  · have HNO : Hid _ := HNO1.out (.inl rfl)
    clear HNO1 HYES1 HW HQ
    have zf := ((zr.set 0 (.int .i64 0)).set 1 (.int .i64 0)).set 2 (.slice none 0 0)
    have d0 := zf.cell 0
    have d1 := zf.cell 1
    have d2 := zf.cell 2
    simp at d0 d1 d2
    clear zr zf
    go_wp2
    refine bodyPost_ret (v := .tuple #[.agg #[.int .i64 0, .int .i64 0, .slice none 0 0], .bool false]) (by simp [results, Try.f15, go_sem, d0, d1, d2]) rfl ?_
    rw [← HGP.out]
    have s : ∀ (W : World) (i : Nat) (v : Value), Below w.heap.size w W → Below w.heap.size w (W.setCell ⟨H + 1, i, none⟩ v) := fun W i v hb => hb.setCell (p := ⟨H + 1, i, none⟩) (by simp only; omega) v
    obtain ⟨hR, hBB⟩ := HNO.out
    rw [hR, hBB]
    exact ⟨⟨none, 0, rfl, RowB.nil _, fun g hg => by simp [Value.ownBlock] at hg⟩, s _ _ _ (s _ _ _ (s _ _ _ HB2.out))⟩
  · by_cases hk : kind = kd
    · have HYES : Hid _ := HYES1.out rfl hk
      subst hk
      have hk1 : (kind != kind) = false := by simp
      have hk2 : (kind == kind) = true := by simp
      clear HNO1 HYES1 HQ
      have zf := ((zr.set 0 (.int .i64 kind)).set 1 (.int .i64 seq0)).set 2 (.slice a1 nb c1)
      have d0 := zf.cell 0
      have d1 := zf.cell 1
      have d2 := zf.cell 2
      simp at d0 d1 d2
      clear zr zf
      go_wp2
      refine bodyPost_ret (v := .tuple #[.agg #[.int .i64 kind, .int .i64 seq0, .slice a1 nb c1], .bool true]) (by simp [results, Try.f15, go_sem, d0, d1, d2]) rfl ?_
      rw [← HGP.out]
      have s : ∀ (W : World) (i : Nat) (v : Value), Below w.heap.size w W → Below w.heap.size w (W.setCell ⟨H + 1, i, none⟩ v) := fun W i v hb => hb.setCell (p := ⟨H + 1, i, none⟩) (by simp only; omega) v
      obtain ⟨hR, hBB⟩ := HYES.out
      rw [hR, hBB]
      obtain ⟨hrow, hnew, hsz⟩ := HW.out
      have hnb := HNB.out
      refine ⟨⟨a1, c1, by unfold recC; rw [hnb], ?_, fun g hg => ?_⟩, s _ _ _ (s _ _ _ (s _ _ _ HB2.out))⟩
      · show RowB _ (.slice a1 body.length c1) body.length body
        rw [hnb]
        refine (((hrow.set_ne (H + 1) 0 ?_).set_ne (H + 1) 1 ?_).set_ne (H + 1) 2 ?_)
        all_goals
          intro g hg
          have := hnew g hg
          omega
      · show w.heap.size ≤ g
        have := hnew g (by rw [← hnb]; exact hg)
        omega
    · have HNO : Hid _ := HNO1.out (.inr hk)
      have hk1 : (kind != kd) = true := by simpa using hk
      have hk2 : (kind == kd) = false := by simpa using hk
      clear HNO1 HYES1 HW HQ
      have zf := ((zr.set 0 (.int .i64 0)).set 1 (.int .i64 0)).set 2 (.slice none 0 0)
      have d0 := zf.cell 0
      have d1 := zf.cell 1
      have d2 := zf.cell 2
      simp at d0 d1 d2
      clear zr zf
      go_wp2
      refine bodyPost_ret (v := .tuple #[.agg #[.int .i64 0, .int .i64 0, .slice none 0 0], .bool false]) (by simp [results, Try.f15, go_sem, d0, d1, d2]) rfl ?_
      rw [← HGP.out]
      have s : ∀ (W : World) (i : Nat) (v : Value), Below w.heap.size w W → Below w.heap.size w (W.setCell ⟨H + 1, i, none⟩ v) := fun W i v hb => hb.setCell (p := ⟨H + 1, i, none⟩) (by simp only; omega) v
      obtain ⟨hR, hBB⟩ := HNO.out
      rw [hR, hBB]
      exact ⟨⟨none, 0, rfl, RowB.nil _, fun g hg => by simp [Value.ownBlock] at hg⟩, s _ _ _ (s _ _ _ (s _ _ _ HB2.out))⟩
end

section
open Go.RowKit
/-- What a page that is right may have. -/
def pgOk (p : PgD) : Bool := decide (p.zs.length ≤ 400) && (p.used || decide (p.zs.length = 0))
/-- A block is right. -/
def BkOk (b : BkD) : Prop := b.ps.length = 8 ∧ 0 ≤ b.wear ∧ b.wear ≤ 100000 ∧ ∀ (i : Nat) (p : PgD), b.ps[i]? = some p → pgOk p = true ∧ p.used = decide (i < nextP b.ps)
/-- A chip is right. -/
def ChOk (ds : List BkD) : Prop := 3 ≤ ds.length ∧ ds.length ≤ 24 ∧ ∀ b ∈ ds, BkOk b
open Classical in
noncomputable def bkOkB (b : BkD) : Bool := decide (BkOk b)
open Classical in
noncomputable def chipOkB (ds : List BkD) : Bool := decide (ChOk ds)
theorem chipOkB_eq {ds : List BkD} {r : Bool} (h : r = true ↔ ChOk ds) : r = chipOkB ds := by
  unfold chipOkB
  cases r <;> simp_all
theorem bkOkB_iff (b : BkD) : bkOkB b = true ↔ BkOk b := by simp [bkOkB]
theorem chipOkB_iff (ds : List BkD) : chipOkB ds = true ↔ ChOk ds := by simp [chipOkB]
/-- Of pages of which none that is written stands behind one that is not, those that are written come first. -/
theorem firsts (ps : List PgD) (h : ∀ (i : Nat) (p q : PgD), ps[i + 1]? = some p → ps[i]? = some q → p.used = true → q.used = true) : ∀ (i : Nat) (p : PgD), ps[i]? = some p → p.used = decide (i < nextP ps) := by
  induction ps with
  | nil => intro i p hp; simp at hp
  | cons x ps ih =>
    have h2 := ih (fun i p q hp hq => h (i + 1) p q (by simpa using hp) (by simpa using hq))
    cases hx : x.used with
    | true =>
      have hn : nextP (x :: ps) = nextP ps + 1 := by simp [nextP, hx]
      intro i p hp
      cases i with
      | zero => simp at hp; subst hp; rw [hx, hn]; simp
      | succ i =>
        have := h2 i p (by simpa using hp)
        rw [this, hn]
        simp
    | false =>
      have h0 : nextP ps = 0 := by
        cases hps : ps with
        | nil => simp [nextP]
        | cons y l =>
          have h3 := h2 0 y (by rw [hps]; rfl)
          have h4 := h 0 y x (by rw [hps]; rfl) rfl
          cases hy : y.used with
          | true => rw [hx] at h4; exact absurd (h4 hy) (by simp)
          | false =>
            rw [hy] at h3
            rw [← hps]
            have : ¬ 0 < nextP ps := by simpa using h3.symm
            omega
      have hn : nextP (x :: ps) = 0 := by
        have : nextP (x :: ps) = nextP ps := by simp [nextP, hx]
        omega
      intro i p hp
      cases i with
      | zero => simp at hp; subst hp; rw [hx, hn]; simp
      | succ i =>
        have := h2 i p (by simpa using hp)
        rw [this, hn, h0]
        simp
/-- What the specification asks of a page and the one ahead of it. -/
def pgS (ps : List PgD) (i : Nat) : Prop := ∀ p, ps[i]? = some p → pgOk p = true ∧ ∀ q, 0 < i → ps[i - 1]? = some q → p.used = true → q.used = true
theorem bkOk_spec {b : BkD} (h1 : b.ps.length = 8) (h2 : 0 ≤ b.wear) (h3 : b.wear ≤ 100000) (h : ∀ i, i < 8 → pgS b.ps i) : BkOk b := by
  have hf := firsts b.ps (fun i p q hp hq hu => (h (i + 1) (by have := (List.getElem?_eq_some_iff.1 hp).1; omega) p hp).2 q (by omega) (by simpa using hq) hu)
  exact ⟨h1, h2, h3, fun i p hp => ⟨(h i (by have := (List.getElem?_eq_some_iff.1 hp).1; omega) p hp).1, hf i p hp⟩⟩
theorem bkOk_pgS {b : BkD} (h : BkOk b) (i : Nat) : pgS b.ps i := fun p hp => by
  have h1 := h.2.2.2 i p hp
  refine ⟨h1.1, fun q hi hq hu => ?_⟩
  have h2 := h.2.2.2 (i - 1) q hq
  rw [h2.2]
  rw [h1.2] at hu
  simp at hu ⊢
  omega
set_option maxHeartbeats 1600000 in
theorem pageOkI (u : Bool) (a : Option Addr) (n cap : Nat) (zs : List Int) (w : World) (hn : zs.length = n) (hs : n ≤ 1048576) :
    Calls Try.prog 114 #[.agg #[.bool u, .slice a n cap]] w fun e w' => e = .returned (.bool (pgOk ⟨u, zs⟩)) ∧ Below w.heap.size w w' := by
  have B0 : Below w.heap.size w (w.alloc (.cells #[.bool u, .slice a n cap] 90)) := (Below.refl _ w).alloc (Nat.le_refl _) _
  have hp : pgOk ⟨u, zs⟩ = (decide (n ≤ 400) && (u || decide (n = 0))) := by unfold pgOk; rw [hn]
  rw [hp]
  clear hp hn
  by_cases h1 : n ≤ 400
  · have h2 : (n : Int) ≤ 400 := by omega
    cases u
    · by_cases h3 : n = 0
      · subst h3
        go_enter Try.func114, Try.ntmps114
        go_wp2
        go_ret
        exact ⟨by simp, B0⟩
      · have h4 : ((n : Int) == 0) = false := by simp; omega
        go_enter Try.func114, Try.ntmps114
        go_wp2
        go_ret
        exact ⟨by simp [h1, h3], B0⟩
    · go_enter Try.func114, Try.ntmps114
      go_wp2
      go_ret
      exact ⟨by simp [h1], B0⟩
  · have h2 : ¬ (n : Int) ≤ 400 := by omega
    go_enter Try.func114, Try.ntmps114
    go_wp2
    go_ret
    exact ⟨by simp, B0⟩
set_option maxRecDepth 100000 in
set_option maxHeartbeats 4000000 in
theorem blockOkI (a : Option Addr) (n cap : Nat) (wear : Int) (bad : Bool) (ps : List PgR) (w : World) (hn : ps.length = n) (hs : totP (ps.map PgR.D) ≤ 1048576) (hr : RdPs w a ps) :
    Calls Try.prog 94 #[.agg #[.slice a n cap, .int .i64 wear, .bool bad]] w fun e w' => e = .returned (.bool (bkOkB ⟨ps.map PgR.D, wear, bad⟩)) ∧ Below w.heap.size w w' := by
  have B0 : Below w.heap.size w (w.alloc (.cells #[.slice a n cap, .int .i64 wear, .bool bad] 63)) := (Below.refl _ w).alloc (Nat.le_refl _) _
  have hl := totP_len (ps.map PgR.D)
  have hn1 : n ≤ 1048576 := by simp at hl; omega
  have hf : ¬ BkOk ⟨ps.map PgR.D, wear, bad⟩ → bkOkB ⟨ps.map PgR.D, wear, bad⟩ = false := fun h => by
    have := bkOkB_iff ⟨ps.map PgR.D, wear, bad⟩
    cases hb : bkOkB ⟨ps.map PgR.D, wear, bad⟩ with
    | false => rfl
    | true => exact absurd (this.1 hb) h
  by_cases h8 : n = 8
  · subst h8
    by_cases hw0 : wear < 0
    · rw [hf (fun h => by have := h.2.1; simp at this; omega)]
      clear hf hr
      go_enter Try.func94, Try.ntmps94
      go_wp2
      go_ret
      exact ⟨rfl, B0⟩
    · by_cases hw1 : 100000 < wear
      · rw [hf (fun h => by have := h.2.2.1; simp at this; omega)]
        clear hf hr
        go_enter Try.func94, Try.ntmps94
        go_wp2
        go_ret
        exact ⟨rfl, B0⟩
      · have z0 := Blk.new w 63 #[.slice a 8 cap, .int .i64 wear, .bool bad]
        have hcall := writtenI a 8 cap ps _ hn hs (hr.keep B0)
        have HT : Hid (RdPs w a ps) := hr
        have HB : Hid _ := B0
        have HF : Hid _ := hf
        have HL : Hid (ps.length = 8) := hn
        have HS : Hid _ := hs
        have HW : Hid (0 ≤ wear ∧ wear ≤ 100000) := ⟨by omega, by omega⟩
        obtain ⟨R, hR⟩ : ∃ R, bkOkB ⟨ps.map PgR.D, wear, bad⟩ = R := ⟨_, rfl⟩
        have HR : Hid _ := hR
        rw [hR]
        obtain ⟨m, hm⟩ : ∃ m, nextP (ps.map PgR.D) = m := ⟨_, rfl⟩
        have hm8 : m ≤ 8 := by have := nextP_le (ps.map PgR.D); simp at this; omega
        rw [hm] at hcall
        have HM : Hid _ := hm
        clear hf hr B0 hn hs hl hR hm
        go_enter Try.func94, Try.ntmps94
        go_wp2_with fail
        refine hcall.mono ?_
        rintro e w1 ⟨rfl, b1⟩
        have t0 := (z0.keep b1).cell 0
        simp at t0
        have HB1 : Hid (Below w.heap.size w w1) := HB.out.trans (b1.mono HB.out.size)
        clear z0 b1 hcall
        go_wp2
        go_loopw [26] (fun i wr => ∃ (k : Nat), k ≤ 8 ∧ i = .int .i64 k ∧ Hid (∀ (j : Nat) (p : PgD), j < k → (ps.map PgR.D)[j]? = some p → pgOk p = true ∧ p.used = decide (j < m)) ∧ Hid (Below w.heap.size w wr)) (fun i _ => 8 - (intOf i).toNat)
        case atStart => exact ⟨0, by omega, rfl, fun j p hj => by omega, HB1⟩
        case round =>
          obtain ⟨k, hk, rfl, hall, hB⟩ := hrel
          by_cases hkn : k < 8
          · have hki : (k : Int) < 8 := by omega
            obtain ⟨r, hrk⟩ : ∃ r, ps[k]? = some r := ⟨_, List.getElem?_eq_getElem (by rw [HL.out]; exact hkn)⟩
            obtain ⟨b, off, rfl, hlt, hc⟩ := RdPs.lt (HT.out.keep hB.out) (by intro h; rw [h] at hrk; simp at hrk)
            obtain ⟨⟨x0, x1⟩, _⟩ := hc k _ hrk
            have htp := totP_at hrk
            have hs := HS.out
            have hB2 : Hid (Below w.heap.size w (wr.alloc (.cells #[.bool r.used, .slice r.a r.zs.length r.cap] 90))) := hB.out.alloc hB.out.size _
            have hpk := pageOkI r.used r.a r.zs.length r.cap r.zs (wr.alloc (.cells #[.bool r.used, .slice r.a r.zs.length r.cap] 90)) rfl (by omega)
            have zp := Blk.new wr 90 #[.bool r.used, .slice r.a r.zs.length r.cap]
            have hbad : Hid (¬ (pgOk ⟨r.used, r.zs⟩ = true ∧ r.used = decide (k < m)) → R = false) := fun h => by
              rw [← HR.out]
              refine HF.out fun hok => h ?_
              have := hok.2.2.2 k r.D (by simp [hrk])
              rw [HM.out] at this
              exact this
            have hnx : Hid (pgOk ⟨r.used, r.zs⟩ = true ∧ r.used = decide (k < m) → ∀ (j : Nat) (p : PgD), j < k + 1 → (ps.map PgR.D)[j]? = some p → pgOk p = true ∧ p.used = decide (j < m)) := fun h j p hj hp => by
              rcases (show j < k ∨ j = k by omega) with h1 | rfl
              · exact hall.out j p h1 hp
              · simp [hrk] at hp
                subst hp
                exact h
            obtain ⟨n1, hn1'⟩ : ∃ n1, r.zs.length = n1 := ⟨_, rfl⟩
            rw [hn1'] at x1 hpk zp hB2
            obtain ⟨G, hG⟩ : ∃ G, pgOk ⟨r.used, r.zs⟩ = G := ⟨_, rfl⟩
            rw [hG] at hpk hbad hnx
            obtain ⟨u, hu⟩ : ∃ u, r.used = u := ⟨_, rfl⟩
            rw [hu] at x0 hpk zp hB2 hbad hnx
            clear hc hrk htp hs hn1' hG hu hall
            cases G
            · go_wp2_with fail
              refine hpk.mono ?_
              rintro e w2 ⟨rfl, b2⟩
              clear hpk x0 x1 zp
              go_wp2
              go_ret
              exact ⟨by rw [hbad.out (by simp)]; rfl, hB2.out.trans (b2.mono hB2.out.size)⟩
            · go_wp2_with fail
              refine hpk.mono ?_
              rintro e w2 ⟨rfl, b2⟩
              have y0 := (zp.keep b2).cell 0
              simp at y0
              have hB3 : Hid (Below w.heap.size w w2) := hB2.out.trans (b2.mono hB2.out.size)
              clear hpk x0 x1 zp b2
              by_cases hkm : k < m
              · have hkmi : (k : Int) < (m : Int) := by omega
                cases u
                · have hR0 : R = false := hbad.out (by simp [hkm])
                  subst hR0
                  go_wp2
                  go_ret
                  exact ⟨rfl, hB3.out⟩
                · have hA : Hid _ := hnx.out ⟨by simp, by simp [hkm]⟩
                  go_wp2
                  go_roundw
                  case rel => exact ⟨k + 1, by omega, by go_num, hA, hB3⟩
                  case measure => simp [intOf]; omega
              · have hkmi : ¬ (k : Int) < (m : Int) := by omega
                cases u
                · have hA : Hid _ := hnx.out ⟨by simp, by simp [hkm]⟩
                  go_wp2
                  go_roundw
                  case rel => exact ⟨k + 1, by omega, by go_num, hA, hB3⟩
                  case measure => simp [intOf]; omega
                · have hR0 : R = false := hbad.out (by simp [hkm])
                  subst hR0
                  go_wp2
                  go_ret
                  exact ⟨rfl, hB3.out⟩
          · have hki : ¬ (k : Int) < 8 := by omega
            have hR1 : R = true := by
              rw [← HR.out, bkOkB_iff]
              refine ⟨by simp [HL.out], HW.out.1, HW.out.2, fun j p hp => ?_⟩
              have hjl := (List.getElem?_eq_some_iff.1 hp).1
              have hL8 := HL.out
              simp only [List.length_map] at hjl
              have := hall.out j p (by omega) hp
              rw [HM.out]
              exact this
            subst hR1
            go_wp2
            go_ret
            exact ⟨rfl, hB.out⟩
  · have h8i : ((n : Int) != 8) = true := by simp; omega
    have h8e : ((n : Int) == 8) = false := by simp; omega
    rw [hf (fun h => by have := h.1; simp at this; omega)]
    clear hf hr hl
    go_enter Try.func94, Try.ntmps94
    go_wp2
    go_ret
    exact ⟨rfl, B0⟩
set_option maxRecDepth 100000 in
set_option maxHeartbeats 4000000 in
theorem l10BlockS (a : Option Addr) (n cap : Nat) (wear : Int) (bad : Bool) (ps : List PgR) (w : World) (hn : ps.length = n) (hs : totP (ps.map PgR.D) ≤ 1048576) (hr : RdPs w a ps) :
    Calls Try.prog 92 #[.agg #[.slice a n cap, .int .i64 wear, .bool bad]] w fun e w' => e = .returned (.bool (bkOkB ⟨ps.map PgR.D, wear, bad⟩)) ∧ Below w.heap.size w w' := by
  have B0 : Below w.heap.size w (w.alloc (.cells #[.slice a n cap, .int .i64 wear, .bool bad] 63)) := (Below.refl _ w).alloc (Nat.le_refl _) _
  have hl := totP_len (ps.map PgR.D)
  have hn1 : n ≤ 1048576 := by simp at hl; omega
  have hf : ¬ BkOk ⟨ps.map PgR.D, wear, bad⟩ → bkOkB ⟨ps.map PgR.D, wear, bad⟩ = false := fun h => by
    have := bkOkB_iff ⟨ps.map PgR.D, wear, bad⟩
    cases hb : bkOkB ⟨ps.map PgR.D, wear, bad⟩ with
    | false => rfl
    | true => exact absurd (this.1 hb) h
  have hin := l1In_any wear 0 100000 (w.alloc (.cells #[.slice a n cap, .int .i64 wear, .bool bad] 63))
  by_cases h8 : n = 8
  · subst h8
    by_cases hw : 0 ≤ wear ∧ wear ≤ 100000
    · have hd : (decide (0 ≤ wear) && decide (wear ≤ 100000)) = true := by simp [hw.1, hw.2]
      rw [hd] at hin
      have z0 := Blk.new w 63 #[.slice a 8 cap, .int .i64 wear, .bool bad]
      have HT : Hid (RdPs w a ps) := hr
      have HB : Hid _ := B0
      have HF : Hid _ := hf
      have HL : Hid (ps.length = 8) := hn
      have HS : Hid _ := hs
      have HW : Hid (0 ≤ wear ∧ wear ≤ 100000) := hw
      obtain ⟨R, hR⟩ : ∃ R, bkOkB ⟨ps.map PgR.D, wear, bad⟩ = R := ⟨_, rfl⟩
      have HR : Hid _ := hR
      rw [hR]
      clear hf hr B0 hn hs hl hR hw hd
      go_enter Try.func92, Try.ntmps92
      go_wp2_with fail
      refine hin.mono ?_
      rintro e w1 ⟨rfl, hw⟩
      obtain rfl := hw.symm
      clear hin
      go_wp2
      obtain ⟨W0, hW0⟩ : ∃ W, w.alloc (.cells #[.slice a 8 cap, .int .i64 wear, .bool bad] 63) = W := ⟨_, rfl⟩
      rw [hW0] at z0 HB ⊢
      clear hW0
      obtain ⟨H, hH⟩ : ∃ H, w.heap.size = H := ⟨_, rfl⟩
      rw [hH] at z0 ⊢
      go_loopw [3] (fun i wr => ∃ (k : Nat), k ≤ 8 ∧ i = .int .i64 k ∧ Hid (∀ (j : Nat), j < k → pgS (ps.map PgR.D) j) ∧ Hid (Below W0.heap.size W0 wr)) (fun i _ => 8 - (intOf i).toNat)
      case atStart => exact ⟨0, by omega, rfl, fun j hj => by omega, Below.refl _ _⟩
      case round =>
        obtain ⟨k, hk, rfl, hall, hB⟩ := hrel
        have zk := z0.keep hB.out
        have t0 := zk.cell 0
        simp at t0
        by_cases hkn : k < 8
        · have hki : (k : Int) < 8 := by omega
          obtain ⟨r, hrk⟩ : ∃ r, ps[k]? = some r := ⟨_, List.getElem?_eq_getElem (by rw [HL.out]; exact hkn)⟩
          obtain ⟨b, off, rfl, hlt, hc⟩ := RdPs.lt ((HT.out.keep HB.out).keep hB.out) (by intro h; rw [h] at hrk; simp at hrk)
          obtain ⟨⟨x0, x1⟩, _⟩ := hc k _ hrk
          have htp := totP_at hrk
          have hs := HS.out
          have hB2 : Hid (Below W0.heap.size W0 (wr.alloc (.cells #[.bool r.used, .slice r.a r.zs.length r.cap] 90))) := hB.out.alloc hB.out.size _
          have t0' := (zk.alloc (.cells #[.bool r.used, .slice r.a r.zs.length r.cap] 90)).cell 0
          simp at t0'
          have hbad : Hid (¬ pgS (ps.map PgR.D) k → R = false) := fun h => by
            rw [← HR.out]
            exact HF.out fun hok => h (bkOk_pgS hok k)
          have hnx : Hid (pgS (ps.map PgR.D) k → ∀ (j : Nat), j < k + 1 → pgS (ps.map PgR.D) j) := fun h j hj => by
            rcases (show j < k ∨ j = k by omega) with h1 | rfl
            · exact hall.out j h1
            · exact h
          have hone : Hid (∀ q, pgOk ⟨r.used, r.zs⟩ = true → (0 < k → (ps.map PgR.D)[k - 1]? = some q → r.used = true → q.used = true) → (ps.map PgR.D)[k - 1]? = some q ∨ k = 0 → pgS (ps.map PgR.D) k) := fun q h1 h2 h3 p hp => by
            simp [hrk] at hp
            subst hp
            refine ⟨h1, fun q' hk0 hq' hu => ?_⟩
            rcases h3 with h3 | h3
            · rw [h3] at hq'
              simp at hq'
              subst hq'
              exact h2 hk0 h3 hu
            · omega
          have hno : Hid (pgS (ps.map PgR.D) k → pgOk ⟨r.used, r.zs⟩ = true ∧ ∀ q, 0 < k → (ps.map PgR.D)[k - 1]? = some q → r.used = true → q.used = true) := fun h => h r.D (by simp [hrk])
          obtain ⟨n1, hn1'⟩ : ∃ n1, r.zs.length = n1 := ⟨_, rfl⟩
          have hpo : Hid (pgOk ⟨r.used, r.zs⟩ = (decide (n1 ≤ 400) && (r.used || decide (n1 = 0)))) := by show _ = _; unfold pgOk; rw [← hn1']
          have hn1m : n1 ≤ 1048576 := by omega
          rw [hn1'] at x1 hB2 t0'
          by_cases h4 : n1 ≤ 400
          · have h4i : ¬ (400 : Int) < (n1 : Int) := by omega
            cases hu : r.used with
            | false =>
              rw [hu] at x0 hB2 t0'
              by_cases h0 : n1 = 0
              · have hA : Hid _ := hnx.out (hone.out (if h : 0 < k then (ps.map PgR.D)[k - 1]'(by simp [HL.out]; omega) else ⟨false, []⟩) (by rw [hpo.out, hu]; simp [h0]) (by intro _ _ h; simp [hu] at h) (by
                  by_cases hk0 : 0 < k
                  · left; rw [dif_pos hk0]; exact List.getElem?_eq_getElem _
                  · right; omega))
                subst h0
                have hc00 : ¬ (0 : Int) < ((0 : Nat) : Int) := by omega
                by_cases hk0 : 0 < k
                · have hk0i : (0 : Int) < (k : Int) := by omega
                  clear hc hrk htp hs hn1' hall hbad hone hno hpo hnx
                  go_wp2
                  go_roundw
                  case rel => exact ⟨k + 1, by omega, by go_num, hA, hB2⟩
                  case measure => simp [intOf]; omega
                · have hk0i : ¬ (0 : Int) < (k : Int) := by omega
                  clear hc hrk htp hs hn1' hall hbad hone hno hpo hnx
                  go_wp2
                  go_roundw
                  case rel => exact ⟨k + 1, by omega, by go_num, hA, hB2⟩
                  case measure => simp [intOf]; omega
              · have hR0 : R = false := hbad.out (fun h => by have := (hno.out h).1; rw [hpo.out, hu] at this; simp [h0] at this)
                subst hR0
                have h0i : (0 : Int) < (n1 : Int) := by omega
                clear hc hrk htp hs hn1' hall hbad hone hno hpo hnx
                go_wp2
                go_ret
                rw [← hH]
                exact ⟨rfl, HB.out.trans (hB2.out.mono HB.out.size)⟩
            | true =>
              rw [hu] at x0 hB2 t0'
              by_cases hk0 : 0 < k
              · have hk0i : (0 : Int) < (k : Int) := by omega
                obtain ⟨j, hjk⟩ : ∃ j, k = j + 1 := ⟨k - 1, by omega⟩
                obtain ⟨q, hqk⟩ : ∃ q, ps[j]? = some q := ⟨_, List.getElem?_eq_getElem (by rw [HL.out]; omega)⟩
                obtain ⟨⟨y0, y1⟩, _⟩ := hc j _ hqk
                have hjw : (k : Int) - 1 = (j : Int) := by omega
                have hji : (j : Int) < 8 := by omega
                have hj0 : (0 : Int) ≤ (j : Int) := by omega
                have hq1 : (ps.map PgR.D)[k - 1]? = some q.D := by rw [hjk]; simp [hqk]
                have y0a := (Below.cell (p := ⟨b, off + j * 2, none⟩) ((Below.refl wr.heap.size wr).alloc (Nat.le_refl _) (.cells #[.bool true, .slice r.a n1 r.cap] 90)) hlt).trans y0
                cases hq : q.used with
                | false =>
                  have hR0 : R = false := hbad.out (fun h => by have := (hno.out h).2 q.D hk0 hq1 hu; simp [PgR.D, hq] at this)
                  subst hR0
                  rw [hq] at y0a
                  clear hc hrk htp hs hn1' hall hbad hone hno hpo hnx hqk y0 y1 hq1 hjk
                  go_wp2
                  go_ret
                  rw [← hH]
                  exact ⟨rfl, HB.out.trans (hB2.out.mono HB.out.size)⟩
                | true =>
                  have hA : Hid _ := hnx.out (hone.out q.D (by rw [hpo.out, hu]; simp [h4]) (fun _ _ _ => hq) (.inl hq1))
                  rw [hq] at y0a
                  clear hc hrk htp hs hn1' hall hbad hone hno hpo hnx hqk y0 y1 hq1 hjk
                  go_wp2
                  go_roundw
                  case rel => exact ⟨k + 1, by omega, by go_num, hA, hB2⟩
                  case measure => simp [intOf]; omega
              · have hk0i : ¬ (0 : Int) < (k : Int) := by omega
                have hA : Hid _ := hnx.out (hone.out ⟨false, []⟩ (by rw [hpo.out, hu]; simp [h4]) (by intro h; omega) (.inr (by omega)))
                clear hc hrk htp hs hn1' hall hbad hone hno hpo hnx
                go_wp2
                go_roundw
                case rel => exact ⟨k + 1, by omega, by go_num, hA, hB2⟩
                case measure => simp [intOf]; omega
          · have h4i : (400 : Int) < (n1 : Int) := by omega
            have hR0 : R = false := hbad.out (fun h => by have := (hno.out h).1; rw [hpo.out] at this; simp [h4] at this)
            subst hR0
            clear hc hrk htp hs hn1' hall hbad hone hno hpo hnx
            go_wp2
            go_ret
            rw [← hH]
            exact ⟨rfl, HB.out.trans (hB2.out.mono HB.out.size)⟩
        · have hki : ¬ (k : Int) < 8 := by omega
          have hR1 : R = true := by
            rw [← HR.out, bkOkB_iff]
            exact bkOk_spec (by simp [HL.out]) HW.out.1 HW.out.2 (fun j hj => hall.out j (by omega))
          subst hR1
          go_wp2
          go_ret
          rw [← hH]
          exact ⟨rfl, HB.out.trans (hB.out.mono HB.out.size)⟩
    · have hd : (decide (0 ≤ wear) && decide (wear ≤ 100000)) = false := by
        rw [← Bool.not_eq_true]; intro h; simp at h; exact hw h
      rw [hd] at hin
      rw [hf (fun h => hw ⟨h.2.1, h.2.2.1⟩)]
      clear hf hr
      go_enter Try.func92, Try.ntmps92
      go_wp2_with fail
      refine hin.mono ?_
      rintro e w1 ⟨rfl, hw⟩
      obtain rfl := hw.symm
      go_wp2
      go_ret
      exact ⟨rfl, B0⟩
  · have h8i : ((n : Int) != 8) = true := by simp; omega
    have h8e : ((n : Int) == 8) = false := by simp; omega
    rw [hf (fun h => by have := h.1; simp at this; omega)]
    clear hf hr hl
    go_enter Try.func92, Try.ntmps92
    go_wp2
    go_ret
    exact ⟨rfl, B0⟩
end
end Go.Proofs.Ytcocjffjhbpoeaa
