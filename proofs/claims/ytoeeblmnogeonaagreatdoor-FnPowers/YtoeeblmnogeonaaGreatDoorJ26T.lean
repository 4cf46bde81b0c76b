/-
  Joined: FnI, RecP, LogY, LogZ.
-/
import Derived.Test.YtoeeblmnogeonaaGreatDoorJ23T
import Derived.Test.YtoeeblmnogeonaaGreatDoorJ25T
import Derived.Deep.OwnRows
namespace Go.Proofs.YtoeeblmnogeonaaGreatDoor
section
open Go.RowKit
theorem Own.cap' {w : World} {g n c : Nat} {zs : List Int} (h : Own w g n c zs) : n ≤ c := by
  rcases h.2 with ⟨h', _⟩ | ⟨g', c', cur, h', _, _, h5, _⟩
  · simp at h'
  · simp at h'
    omega
theorem Own.rd' {w : World} {g n c : Nat} {zs : List Int} (h : Own w g n c zs) : Rd w (some ⟨g, 0, none⟩) zs := by
  obtain ⟨b, d, e, hr⟩ := (OwnV.rowB (B := 0) h).form
  simp at e
  rw [e.1]
  exact hr
theorem encGo_byt' (f m : Nat) (h : m < 128 ^ (f + 1)) : Byt (encGo f m) := by
  induction f generalizing m with
  | zero =>
    intro z hz
    simp [encGo] at hz
    simp at h
    omega
  | succ f ih =>
    intro z hz
    by_cases hm : 128 ≤ m
    · rw [encGo_more hm] at hz
      rcases List.mem_cons.1 hz with rfl | hz
      · omega
      · exact ih (m / 128) (by rw [Nat.pow_succ] at h; omega) z hz
    · rw [encGo_last hm] at hz
      simp at hz
      omega
theorem enc_byt' (x : Int) : Byt (enc x) := encGo_byt' 3 _ (by have := clamp_le x; omega)
theorem byt_app {a b : List Int} (ha : Byt a) (hb : Byt b) : Byt (a ++ b) := by
  intro z hz
  rcases List.mem_append.1 hz with hz | hz
  · exact ha z hz
  · exact hb z hz
theorem encT_byt (s : ByteArray) : Byt (encT s) := byt_app (enc_byt' _) (strZ_byt' s)
end

section
open Go.RowKit
/-- The bytes of a record, ahead of their sum. -/
def recEnc (D : RecD) : List Int := encs [D.kind, D.seq] ++ encTs [str D.body]
theorem recEnc_len (D : RecD) : (recEnc D).length ≤ D.body.length + 12 := by
  have h1 := encs_len2 D.kind D.seq
  have h2 := encTs_len1 (str D.body)
  rw [str_size] at h2
  unfold recEnc
  rw [List.length_append]
  omega
theorem recEnc_eq (D : RecD) : recEnc D = enc D.kind ++ enc D.seq ++ encT (str D.body) := by simp [recEnc, encs, encTs]
theorem recEnc_byt (D : RecD) : Byt (recEnc D) := by
  rw [recEnc_eq]
  exact byt_app (byt_app (enc_byt' _) (enc_byt' _)) (encT_byt _)
set_option maxRecDepth 100000 in
set_option maxHeartbeats 2000000 in
theorem putRecI_yes (D : RecD) (a : Option Addr) (c : Nat) (w : World) (hr : RecRd w D a) (hok : recOk D = true) :
    Calls Tryz.prog 39 #[.agg (recC D a c)] w (PutPost w ((recEnc D).length + 4) (summedOf (recEnc D))) := by
  have hlen : D.body.length ≤ 380 := ((recOk_iff D).1 hok).2.2.2.2
  have B0 : Below w.heap.size w (w.alloc (.cells (recC D a c) 61)) := (Below.refl _ w).alloc (Nat.le_refl _) _
  have z0 : Blk _ _ _ (recC D a c) := Blk.new w 61 (recC D a c)
  have cF := fun (W : World) => recOkI D a c W (by omega)
  rw [hok] at cF
  obtain ⟨n, hn⟩ : ∃ n, D.body.length = n := ⟨_, rfl⟩
  have HY : Hid (recEnc D = encs [D.kind, D.seq] ++ encTs [str D.body]) := rfl
  have HB : Hid (Byt (recEnc D)) := recEnc_byt D
  have hYl := recEnc_len D
  have hst : (str D.body).size = n := by rw [str_size]; exact hn
  unfold recC at B0 z0 cF ⊢
  rw [hn] at B0 z0 cF hlen hYl ⊢
  have HN : Hid (D.body.length = n) := hn
  generalize recEnc D = Y at *
  clear hn hok
  go_enter Tryz.func39, Tryz.ntmps39
  go_wp2_with fail
  obtain ⟨W0, hW0⟩ : ∃ W, w.alloc (.cells #[.int .i64 D.kind, .int .i64 D.seq, .slice a n c] 61) = W := ⟨_, rfl⟩
  rw [hW0] at B0 z0 ⊢
  clear hW0
  refine (cF W0).mono ?_
  rintro e w1 ⟨rfl, b1⟩
  have B1 := B0.trans (b1.mono B0.size)
  have z1 := z0.keep b1
  obtain ⟨q0, q1, q2⟩ := z1.thr
  have r1 := hr.1.keep B1
  have hb1 := B1.size
  clear B0 z0 b1 hr cF
  go_wp2_with fail
  refine (putNums_many w1.heap.size _ 0 [] [D.kind, D.seq] w1.heap.size 2 _ rfl (by omega) (by omega) (by simp) (ownV_nil _ _) (Blk.new w1 3 _)).mono ?_
  rintro e w2 ⟨v2, rfl, o2, t2, kp2⟩
  rw [List.nil_append] at o2
  have T2 : Below w1.heap.size w1 w2 := (kp_b (Nat.le_refl _) (Below.refl _ _) _).trans t2
  have z2 := z1.keep T2
  clear q0 q1 q2 t2 kp2
  obtain ⟨q0, q1, q2⟩ := z2.thr
  have e1 := encs_len2 D.kind D.seq
  obtain ⟨A2, hA2⟩ : ∃ A, encs [D.kind, D.seq] = A := ⟨_, rfl⟩
  rw [hA2] at o2 e1 HY
  clear hA2
  have hw2 := T2.size
  have hcv := conv_any w2 a n c D.body HN.out (r1.keep T2)
  obtain ⟨S, hS⟩ : ∃ S, str D.body = S := ⟨_, rfl⟩
  rw [hS] at hcv hst HY
  clear hS
  go_wp2_with fail
  refine (putTexts_many w1.heap.size v2 A2.length A2 [S] w2.heap.size 1 _ rfl (by omega) (by omega) (by intro t ht; simp at ht; subst ht; omega) (by simp; omega) (o2.alloc _) (Blk.new w2 9 _)).mono ?_
  rintro e w3 ⟨v3, rfl, o3, t3, kp3⟩
  have T3 : Below w1.heap.size w1 w3 := (kp_b (Nat.le_refl _) T2 _).trans t3
  rw [← HY.out] at o3
  have hne : Y.length ≠ 0 := by
    rw [HY.out, List.length_append]
    have := encPos (S.size : Int)
    rw [encTs_one]
    unfold encT
    rw [List.length_append]
    omega
  obtain ⟨g, cg, rfl, hg, hown⟩ := o3.some hne
  have hw3 := T3.size
  go_wp2_with fail
  refine (withSum_own g Y.length cg Y w3 (by omega) HB.out hown).mono ?_
  rintro e w4 ⟨g4, c4, rfl, hg4, o4, gr4⟩
  have T4 : Below w1.heap.size w1 w4 := T3.grown gr4 hw3 (fun k hk => by simp at hk; omega)
  go_wp2
  go_ret
  exact ⟨g4, c4, rfl, by omega, o4, B1.trans (T4.mono hb1)⟩
set_option maxHeartbeats 1000000 in
theorem putRecI_no (D : RecD) (a : Option Addr) (c : Nat) (w : World) (hm : D.body.length ≤ 4000000) (hok : recOk D = false) :
    Calls Tryz.prog 39 #[.agg (recC D a c)] w fun e w' => e = .returned (.slice none 0 0) ∧ Below w.heap.size w w' := by
  have B0 : Below w.heap.size w (w.alloc (.cells (recC D a c) 61)) := (Below.refl _ w).alloc (Nat.le_refl _) _
  have cF := fun (W : World) => recOkI D a c W hm
  rw [hok] at cF
  unfold recC at B0 cF ⊢
  go_enter Tryz.func39, Tryz.ntmps39
  go_wp2_with fail
  refine (cF _).mono ?_
  rintro e w1 ⟨rfl, b1⟩
  go_wp2
  go_ret
  exact ⟨rfl, B0.trans (b1.mono B0.size)⟩
set_option maxRecDepth 100000 in
set_option maxHeartbeats 8000000 in
theorem putRecS_yes (D : RecD) (a : Option Addr) (c : Nat) (w : World) (hr : RecRd w D a) (hok : recOk D = true) :
    Calls Tryz.prog 120 #[.agg (recC D a c)] w (PutPost w ((recEnc D).length + 4) (summedOf (recEnc D))) := by
  have hlen : D.body.length ≤ 380 := ((recOk_iff D).1 hok).2.2.2.2
  have B00 : Below w.heap.size w (w.alloc (.cells (recC D a c) 61)) := (Below.refl _ w).alloc (Nat.le_refl _) _
  have z00 : Blk _ _ _ (recC D a c) := Blk.new w 61 (recC D a c)
  have cF := fun (W : World) => recOkS D a c W (by omega)
  rw [hok] at cF
  obtain ⟨n, hn⟩ : ∃ n, D.body.length = n := ⟨_, rfl⟩
  have hst : (str D.body).size = n := by rw [str_size]; exact hn
  have HB : Hid (Byt (recEnc D)) := recEnc_byt D
  have hYl := recEnc_len D
  unfold recC at B00 z00 cF ⊢
  rw [hn] at B00 z00 cF hlen hYl ⊢
  have HN : Hid (D.body.length = n) := hn
  have L1 := enc_len D.kind
  have L2 := enc_len D.seq
  obtain ⟨S, hS⟩ : ∃ S, str D.body = S := ⟨_, rfl⟩
  have n1 : ∀ (W : World) (ad : Addr), Calls Tryz.prog 135 #[.slice (some ad) 0 0, .int .i64 D.kind] W (PutPost W (enc D.kind).length (enc D.kind)) := fun W ad => specNum0 ad D.kind W
  have n2 : ∀ (W : World) (g c : Nat), Own W g (enc D.kind).length c (enc D.kind) → Calls Tryz.prog 135 #[.slice (some ⟨g, 0, none⟩) (enc D.kind).length c, .int .i64 D.seq] W (PutPost W (enc D.kind ++ enc D.seq).length (enc D.kind ++ enc D.seq)) := fun W g c h => specNumB g c _ D.seq W (by omega) h
  have n3 : ∀ (W : World) (g c : Nat), Own W g (enc D.kind ++ enc D.seq).length c (enc D.kind ++ enc D.seq) → Calls Tryz.prog 134 #[.slice (some ⟨g, 0, none⟩) (enc D.kind ++ enc D.seq).length c, .string S] W (PutPost W (enc D.kind ++ enc D.seq ++ encT S).length (enc D.kind ++ enc D.seq ++ encT S)) := fun W g c h => specTextB g c _ S W (by rw [List.length_append]; omega) (by rw [← hS]; omega) h
  have HY : Hid (recEnc D = enc D.kind ++ enc D.seq ++ encT S) := by show _ = _; rw [recEnc_eq, hS]
  rw [← HY.out] at n3
  generalize enc D.kind ++ enc D.seq = Y2 at *
  generalize enc D.kind = Y1 at *
  generalize recEnc D = Y at *
  clear HY L1 L2 hn hok hst
  go_enter Tryz.func120, Tryz.ntmps120
  go_wp2_with fail
  obtain ⟨w0, hW0⟩ : ∃ W, w.alloc (.cells #[.int .i64 D.kind, .int .i64 D.seq, .slice a n c] 61) = W := ⟨_, rfl⟩
  rw [hW0] at B00 z00 ⊢
  clear hW0
  refine (cF w0).mono ?_
  rintro e w1 ⟨rfl, b1⟩
  have B0 := B00.trans (b1.mono B00.size)
  have z0 := z00.keep b1
  clear B00 z00 b1 cF
  have r1 := hr.1.keep B0
  have hb1 := B0.size
  have HCV : ∀ W : World, Below w1.heap.size w1 W → (convert 22 9 (.slice a n c)).run Tryz.prog W = .ok (.string S) W := fun W h => by rw [← hS]; exact conv_any W a n c D.body HN.out (r1.keep h)
  have bX : Below w1.heap.size w1 (w1.alloc (.cells #[] 5)).drew := ((Below.refl _ w1).alloc (Nat.le_refl _) _).drew
  have zX := z0.keep bX
  have bX' : Below w1.heap.size w1 (w1.alloc (.cells #[] 5)) := (Below.refl _ w1).alloc (Nat.le_refl _) _
  obtain ⟨q0, q1, q2⟩ := z0.thr
  obtain ⟨j0, j1, j2⟩ := (z0.keep bX').thr
  have cv0 := HCV w1 (Below.refl _ _)
  have cv1 := HCV _ (Below.refl w1.heap.size w1).drew
  have cv2 := HCV _ bX
  have cv3 := HCV _ bX'
  have HCW : Hid _ := HCV
  clear HCV
  go_upto_region 3 with fail
  go_cut [3] (fun s wx => ∃ g c, s = .slice (some ⟨g, 0, none⟩) Y.length c ∧ w1.heap.size ≤ g ∧ Own wx g Y.length c Y ∧ Below w1.heap.size w1 wx)
  case first =>
    go_region_held3 (fun W : World => W.cell? ⟨w.heap.size, 0, none⟩ = some (.int .i64 D.kind) ∧ W.cell? ⟨w.heap.size, 1, none⟩ = some (.int .i64 D.seq) ∧ W.cell? ⟨w.heap.size, 2, none⟩ = some (.slice a n c) ∧ (convert 22 9 (.slice a n c)).run Tryz.prog W = .ok (.string S) W) (go_keep) (first
      | (go_at_call 135; (with_reducible refine (n1 _ _).mono ?_); rintro e wA ⟨gA, cA, rfl, hgA, oA, bA⟩; have zA := zX.keep bA; have tA := bX.trans (bA.mono bX.size); have cvA := HCW.out wA tA; obtain ⟨s0, s1, s2⟩ := zA.thr)
      | (go_at_call 135; (with_reducible refine (n2 wA gA cA oA).mono ?_); rintro e wB ⟨gB, cB, rfl, hgB, oB, bB⟩; have zB := zA.keep bB; have tB := tA.trans (bB.mono tA.size); have cvB := HCW.out wB tB; obtain ⟨t0, t1, t2⟩ := zB.thr)
      | (go_at_call 134; (with_reducible refine (n3 wB gB cB oB).mono ?_); rintro e wC ⟨gC, cC, rfl, hgC, oC, bC⟩; have cvC := HCW.out wC (tB.trans (bC.mono tB.size)); obtain ⟨r0, r1, r2⟩ := (zB.keep bC).thr))
    all_goals (go_wp2_with fail; go_meet; exact ⟨gC, cC, rfl, Nat.le_trans tB.size hgC, oC, tB.trans (bC.mono tB.size)⟩)
  case rest =>
  obtain ⟨g, cg, rfl, hg, o2, T2⟩ := hcut
  obtain ⟨w2, hwc⟩ : ∃ W, W = wc := ⟨_, rfl⟩
  subst hwc
  clear n1 n2 n3 q0 q1 q2 zX bX bX' j0 j1 j2 cv0 cv1 cv2 cv3 HCW
  have hc := specCrc_any (some ⟨g, 0, none⟩) Y.length cg Y w2 rfl (by omega) o2.rd HB.out
  have hlt := sumOf_lt Y HB.out
  have hSS : Hid (summedOf Y = Y ++ sum4 (sumOf Y)) := rfl
  rw [show ((crcTo Y ^^^ 4294967295 : Nat) : Int) = sumOf Y from rfl] at hc
  generalize sumOf Y = s at *
  generalize summedOf Y = Z at *
  have hw2 := T2.size
  obtain ⟨m, hm⟩ : ∃ m, Y.length = m := ⟨_, rfl⟩
  rw [hm] at hc hYl o2 ⊢
  have HM : Hid (Y.length = m) := hm
  clear hm
  go_wp2_with fail
  refine hc.mono ?_
  rintro e w2' ⟨rfl, hw⟩
  obtain rfl := hw.symm
  clear hc
  go_wp2_with (at_builtin; refine wpList_app _ rfl (.tmp 22) (.tmp 34) rfl g m cg Y rfl (World.ownsRow.alloc o2 _) ⟨w2.heap.size, 0, none⟩ 4 4 (sum4 s) rfl rfl (four_news w2 _ _ _ _) (by omega) (w2.heap.size + 1) (by simp) ?_; intro g3 c3 w3 ho3 hg3 ha3)
  go_wp2
  go_ret
  have B3 : Below w1.heap.size w1 w3 := (kp_b (Nat.le_refl _) T2 _).grown hg3 (by simp; omega) (fun k hk => by simp at hk; omega)
  exact ⟨g3, c3, by rw [HM.out]; rfl, by omega, by rw [hSS.out, HM.out]; exact ho3, B0.trans (B3.mono hb1)⟩
/-- The bytes that are put: none, if it is not right. -/
def recPut (D : RecD) : List Int := if recOk D = true then summedOf (recEnc D) else []
theorem recPut_len (D : RecD) : (recPut D).length ≤ 400 := by
  unfold recPut
  split
  · next h =>
    have h1 := recEnc_len D
    have h2 := ((recOk_iff D).1 h).2.2.2.2
    rw [summedOf_len]
    omega
  · simp
theorem putRecI (D : RecD) (a : Option Addr) (c : Nat) (w : World) (hm : RecSmall D) (hr : RecRd w D a) :
    Calls Tryz.prog 39 #[.agg (recC D a c)] w fun e w' => ∃ b d, e = .returned (.slice b (recPut D).length d) ∧ RowB w' (.slice b (recPut D).length d) (recPut D).length (recPut D) ∧ (∀ g, (Value.slice b (recPut D).length d).ownBlock = some g → w.heap.size ≤ g) ∧ Below w.heap.size w w' := by
  unfold RecSmall at hm
  unfold recPut
  cases hok : recOk D with
  | true =>
    simp only [if_true, summedOf_len]
    exact (putRecI_yes D a c w hr hok).mono fun e w' ⟨g, d, h1, h2, h3, h4⟩ => ⟨some ⟨g, 0, none⟩, d, h1, h3.rowB, fun k hk => by simp [Value.ownBlock] at hk; omega, h4⟩
  | false =>
    simp only [Bool.false_eq_true, if_false, List.length_nil]
    exact (putRecI_no D a c w (by omega) hok).mono fun e w' ⟨h1, h2⟩ => ⟨none, 0, h1, RowB.nil _, fun k hk => by simp [Value.ownBlock] at hk, h2⟩
end

section
open Go.RowKit
set_option maxRecDepth 100000 in
set_option maxHeartbeats 16000000 in
theorem loopS (fs : List FtD) (Z : List Int) (spare : Int) (B : Nat) (S : LgS) (a : Option Addr) (n c : Nat) (fa : Option Addr) (m fc : Nat) (qs : List BkR) (seq kind : Int) (body : List Int) (ab : Option Addr) (lb cbb nb : Nat) (w : World) (hN : NewDv w B a n c fa m fc S.ds fs qs) (hl : qs.length = n) (hI : LgI fs S) (hm : m ≤ 1048576) (hsq : 0 ≤ seq ∧ seq < 1000000) (hbl : body.length = lb) (hok : recOk ⟨kind, seq, body⟩ = true) (hrb : Rd w ab body) (hby : Byt body) (hZe : summedOf (recEnc ⟨kind, seq, body⟩) = Z) (hnbe : (recEnc ⟨kind, seq, body⟩).length + 4 = nb) (hB : B ≤ w.heap.size) :
    Calls Tryz.prog 79 #[.agg #[.slice a n c, .int .i64 S.ops, .slice fa m fc, .bool false, .int .i64 seq], .int .i64 kind, .slice ab lb cbb, .int .i64 spare] w (LwA w B ((wrA fs Z spare (n + 1) S).D fs) ((wrA fs Z spare (n + 1) S).sq seq) (wrA fs Z spare (n + 1) S).adr (wrA fs Z spare (n + 1) S).code) := by
  have B0 : Below w.heap.size w ((w.alloc (.cells #[.slice a n c, .int .i64 S.ops, .slice fa m fc, .bool false, .int .i64 seq] 55)).alloc (.cells #[.slice none 0 0, .int .i64 0, .slice none 0 0, .bool false, .int .i64 0] 55)) := ((Below.refl _ w).alloc (Nat.le_refl _) _).alloc (by simp) _
  have z0 := (Blk.new w 55 #[.slice a n c, .int .i64 S.ops, .slice fa m fc, .bool false, .int .i64 seq]).alloc (.cells #[.slice none 0 0, .int .i64 0, .slice none 0 0, .bool false, .int .i64 0] 55)
  have z1 := Blk.new (w.alloc (.cells #[.slice a n c, .int .i64 S.ops, .slice fa m fc, .bool false, .int .i64 seq] 55)) 55 #[.slice none 0 0, .int .i64 0, .slice none 0 0, .bool false, .int .i64 0]
  simp only [World.size_alloc] at z1
  have hnl : S.ds.length = n := by rw [← hN.bs.len]; exact hl
  have hfm : fs.length = m := OwnE.len hN.fs
  obtain ⟨W0, hW0⟩ : ∃ W, (w.alloc (.cells #[.slice a n c, .int .i64 S.ops, .slice fa m fc, .bool false, .int .i64 seq] 55)).alloc (.cells #[.slice none 0 0, .int .i64 0, .slice none 0 0, .bool false, .int .i64 0] 55) = W := ⟨_, rfl⟩
  rw [hW0] at B0 z0 z1
  obtain ⟨H, hH⟩ : ∃ H, w.heap.size = H := ⟨_, rfl⟩
  have HH : Hid (w.heap.size = H) := hH
  have hfp : H ∉ fpDv a n c fa m fc qs ∧ H + 1 ∉ fpDv a n c fa m fc qs := ⟨fun h => by have := hN.lt H h; omega, fun h => by have := hN.lt (H + 1) h; omega⟩
  have hN0 := hN.keep B0
  rw [hH] at z0 z1
  generalize hGP : LwA w B ((wrA fs Z spare (n + 1) S).D fs) ((wrA fs Z spare (n + 1) S).sq seq) (wrA fs Z spare (n + 1) S).adr (wrA fs Z spare (n + 1) S).code = P
  obtain ⟨R, hR⟩ : ∃ R, wrA fs Z spare (n + 1) S = R := ⟨_, rfl⟩
  rw [hR] at hGP
  have HGP : Hid _ := hGP
  have HS : Hid (∀ (W : World) (S' : LgS) (a' : Option Addr) (c' : Nat) (fa' : Option Addr) (fc' : Nat) (qs' : List BkR), NewDv W B a' n c' fa' m fc' S'.ds fs qs' → qs'.length = n → LgI fs S' → CR W a' n qs' ∧ FR W fa' m fs) := fun W S' a' c' fa' fc' qs' h1 h2 h3 => ⟨h1.cr h2 (devB_tot h3.1), OwnFa.fr h1.fs hm⟩
  have hpr := putRecS_yes ⟨kind, seq, body⟩ ab cbb W0 ⟨hrb.keep B0, hby⟩ hok
  have hz : Z.length = nb := by rw [← hZe, summedOf_len, hnbe]
  have hn4 : nb ≤ 400 := by
    have := recPut_len ⟨kind, seq, body⟩
    unfold recPut at this
    rw [if_pos hok, hZe, hz] at this
    exact this
  unfold recC at hpr
  dsimp only at hpr
  rw [hZe, hnbe, hbl] at hpr
  have hdn : S.down = false := hI.2
  have HZ : Hid (Z.length = nb) := hz
  have HFM : Hid (fs.length = m) := hfm
  have HB0 : Hid (Below w.heap.size w W0) := B0
  have HBB : Hid (B ≤ w.heap.size) := hB
  have hst : Hid (Blk W0 H 55 #[.slice a n c, .int .i64 S.ops, .slice fa m fc, .bool false, .int .i64 seq] ∧ Blk W0 (H + 1) 55 #[.slice none 0 0, .int .i64 0, .slice none 0 0, .bool false, .int .i64 0] ∧ NewDv W0 B a n c fa m fc S.ds fs qs ∧ qs.length = n ∧ LgI fs S ∧ S.ds.length = n ∧ wrA fs Z spare (n + 1) S = R ∧ H ∉ fpDv a n c fa m fc qs ∧ H + 1 ∉ fpDv a n c fa m fc qs) := ⟨z0, z1, hN0, hl, hI, hnl, hR, hfp.1, hfp.2⟩
  obtain ⟨q0, q1, q2, q3, q4⟩ := z0.log
  obtain ⟨hs0, hs1⟩ := hsq
  clear hN hl hI hrb hok hby B0 z0 z1 hN0 hnl hfm hfp hGP hR hB hz hdn hZe hnbe hbl
  go_enter Tryz.func79, Tryz.ntmps79
  go_wp2_with fail
  try rw [hW0]
  try rw [hH]
  refine hpr.mono ?_
  rintro e w1 ⟨gb, cb, rfl, hgb, ho1, b1⟩
  have hcb : nb ≤ cb := by
    rcases ho1.2 with ⟨h1, h2⟩ | ⟨g', c', cur, h1, _, _, h2, _⟩
    · simp at h1
    · simp only [Value.slice.injEq] at h1; omega
  have hgbH : H + 1 < gb := by have := hst.out.2.1.lt; omega
  have HO1 : Hid (Own w1 gb nb cb Z) := ho1
  clear ho1 hgb
  have HB1 : Hid (Below w.heap.size w w1) := HB0.out.trans (b1.mono HB0.out.size)
  obtain ⟨z0, z1, hN0, hl, hI, hnl, hR, hf0, hf1⟩ := hst.out
  have hst1 : Hid (Blk w1 H 55 #[.slice a n c, .int .i64 S.ops, .slice fa m fc, .bool false, .int .i64 seq] ∧ Blk w1 (H + 1) 55 #[.slice none 0 0, .int .i64 0, .slice none 0 0, .bool false, .int .i64 0] ∧ NewDv w1 B a n c fa m fc S.ds fs qs) := ⟨z0.keep b1, z1.keep b1, hN0.keep b1⟩
  clear hpr z0 z1 hN0 hst b1 HB0 hW0 q0 q1 q2 q3 q4
  go_wp2
  go_loopw [12] (fun i wr => ∃ (j : Nat) (S' : LgS) (a' : Option Addr) (c' : Nat) (fa' : Option Addr) (fc' : Nat) (qs' : List BkR), i = .int .i64 (j : Int) ∧ j ≤ n + 1 ∧ Hid (Blk wr H 55 #[.slice a' n c', .int .i64 S'.ops, .slice fa' m fc', .bool false, .int .i64 seq] ∧ Blk wr (H + 1) 55 #[.slice none 0 0, .int .i64 0, .slice none 0 0, .bool false, .int .i64 0] ∧ NewDv wr B a' n c' fa' m fc' S'.ds fs qs' ∧ qs'.length = n ∧ LgI fs S' ∧ S'.ds.length = n ∧ wrA fs Z spare (n + 1 - j) S' = R ∧ H ∉ fpDv a' n c' fa' m fc' qs' ∧ H + 1 ∉ fpDv a' n c' fa' m fc' qs' ∧ Below w.heap.size w wr ∧ Own wr gb nb cb Z)) (fun i _ => n + 1 - (intOf i).toNat)
  case atStart => exact ⟨0, S, a, c, fa, fc, qs, rfl, Nat.zero_le _, hst1.out.1, hst1.out.2.1, hst1.out.2.2, hl, hI, hnl, hR, hf0, hf1, HB1.out, HO1.out⟩
  case round =>
    obtain ⟨j, S', a', c', fa', fc', qs', rfl, hj, hst⟩ := hrel
    clear hst1 HB1 hl hI hnl hR hf0 hf1
    obtain ⟨z0, z1, hN0, hl, hI, hnl, hR, hf0, hf1, hB1, hBw⟩ := hst.out
    obtain ⟨q0, q1, q2, q3, q4⟩ := z0.log
    have hCF := HS.out wr S' a' c' fa' fc' qs' hN0 hl hI
    by_cases hjn : j ≤ n
    · have hji : (j : Int) ≤ (n : Int) := by omega
      obtain ⟨f', hf'⟩ : ∃ f', n + 1 - j = f' + 1 := ⟨n - j, by omega⟩
      have hf'2 : n + 1 - (j + 1) = f' := by omega
      rw [hf'] at hR
      have hop := openS a' n c' qs' S'.ops fa' m fc' false seq spare wr hCF.1
      rw [hN0.bs.D] at hop
      have hdn : S'.down = false := hI.2
      by_cases hneg : openD S'.ds spare < 0
      · have HR : Hid (WrA.mk S' false (-1) 9 = R) := by show _ = _; rw [← hR, wrA_neg hneg]
        have HNF : Hid (∀ W : World, Below wr.heap.size wr W → Blk W (H + 1) 55 #[.slice none 0 0, .int .i64 0, .slice none 0 0, .bool false, .int .i64 0] ∧ Blk W H 55 #[.slice a' n c', .int .i64 S'.ops, .slice fa' m fc', .bool false, .int .i64 seq] ∧ NewDv W B a' n c' fa' m fc' S'.ds fs qs' ∧ qs'.length = n ∧ Below w.heap.size w W ∧ H + 1 ∉ fpDv a' n c' fa' m fc' qs') := fun W hW => ⟨z1.keep hW, z0.keep hW, hN0.keep hW, hl, hB1.trans (hW.mono hB1.size), hf1⟩
        have hd : S'.down = false := hI.2
        generalize openD S'.ds spare = ok at hop hneg
        clear hst hN0 hl hI hnl hR hf0 hf1 hB1 hBw hCF z0 z1 hdn
        go_wp2_with fail
        refine hop.mono ?_
        rintro e w2 ⟨rfl, b2⟩
        obtain ⟨z1, z0, hn5⟩ := HNF.out w2 b2
        have HND : Hid _ := hn5
        obtain ⟨q0, q1, q2, q3, q4⟩ := z0.log
        clear hop b2 hn5 HNF z0
        obtain ⟨r0, r1, r2, r3, r4⟩ := z1.log
        have g0 := z1.frozen 0
        have g1 := z1.frozen 1
        have g2 := z1.frozen 2
        have g3 := z1.frozen 3
        have g4 := z1.frozen 4
        have zf := ((((z1.set 0 (.slice a' n c')).set 1 (.int .i64 S'.ops)).set 2 (.slice fa' m fc')).set 3 (.bool false)).set 4 (.int .i64 seq)
        obtain ⟨d0, d1, d2, d3, d4⟩ := zf.log
        clear z1 zf
        go_wp2
        refine bodyPost_ret (v := .tuple #[.agg #[.slice a' n c', .int .i64 S'.ops, .slice fa' m fc', .bool false, .int .i64 seq], .int .i64 (-1), .int .i64 9]) (by simp [results, Tryz.f79, go_sem, d0, d1, d2, d3, d4]) rfl ?_
        rw [← HGP.out, ← HR.out]
        obtain ⟨hnd, hql, hb, hf1⟩ := HND.out
        have s : ∀ (W : World) (i : Nat) (v : Value), Below w.heap.size w W → Below w.heap.size w (W.setCell ⟨H + 1, i, none⟩ v) := fun W i v hb => hb.setCell (p := ⟨H + 1, i, none⟩) (by have := HH.out; simp only; omega) v
        exact ⟨a', n, c', fa', m, fc', _, (by unfold WrA.D WrA.sq; dsimp only; rw [hd]; rfl), ((((hnd.setN hf1).setN hf1).setN hf1).setN hf1).setN hf1, hql, s _ _ _ (s _ _ _ (s _ _ _ (s _ _ _ (s _ _ _ hb))))⟩
      · obtain ⟨k, b, hk, hkb, hbb, hb8⟩ := openD_hit (devB_ch' hI.1) (by omega : 0 ≤ openD S'.ds spare)
        have hk24 := (List.getElem?_eq_some_iff.1 hkb).1
        have hn24 := (devB_parts.1 hI.1).1.2.1
        rw [hnl] at hk24 hn24
        have hops := (devB_parts.1 hI.1).2.1
        have hnx := fun (W : World) (hW : Below wr.heap.size wr W) => nextS a' n c' qs' (k : Int) W (hCF.1.keep hW)
        rw [hN0.bs.D, nextD_le hkb] at hnx
        obtain ⟨p, hp⟩ : ∃ p, nextP b.ps = p := ⟨_, rfl⟩
        rw [hp] at hnx hb8
        have hop := openS a' n c' qs' S'.ops fa' m fc' false seq spare wr hCF.1
        rw [hN0.bs.D, hk] at hop
        have hst3 := st_ok (Z := Z) hI hkb hbb (by omega) (by rw [HZ.out]; omega)
        have hgood := fun h => wrA_good (fs := fs) (Z := Z) (f := f') hk h
        have hbad := fun h => wrA_bad (fs := fs) (Z := Z) (f := f') hk h
        have hoff := fun h => wrA_off (fs := fs) (Z := Z) (f := f') hk h
        rw [hR] at hgood hbad hoff
        rw [nextD_le hkb, hp] at hgood
        have HDP : Hid (∀ W : World, Below wr.heap.size wr W → Calls Tryz.prog 13 #[.agg #[.slice a' n c', .int .i64 S'.ops, .slice fa' m fc', .bool false], .int .i64 (k : Int), .slice (some ⟨gb, 0, none⟩) nb cb] W (DvCA W ⟨(stN fs k Z S').ds, (stN fs k Z S').ops, fs, (stN fs k Z S').down⟩ (stO fs k Z S'))) := fun W hW => by
          have h1 := devPrS a' n c' qs' S'.ops fa' m fc' fs S'.down (k : Int) gb nb cb Z W (hCF.1.keep hW) (hCF.2.keep hW) HZ.out ⟨hcb, by omega⟩ ((hBw.keep hW hBw.lt).rd)
          rw [hN0.bs.D, hI.2] at h1
          unfold stN stO stC
          rw [HZ.out, hI.2]
          exact h1
        have HD0 : Hid (S'.down = false) := hI.2
        have hlen2 := hst3.2.1
        rw [hnl] at hlen2
        have HK : Hid (openD S'.ds spare = (k : Int)) := hk
        have hk0 : ¬ (k : Int) < 0 := by omega
        have hp8 : p ≤ 8 := by omega
        have hk25 : k ≤ 24 := by omega
        have hst3b := hst3.1
        have hst3c := hst3.2.2
        generalize stO fs k Z S' = cd at hst3c hgood hbad hoff HDP
        generalize stN fs k Z S' = S2 at hst3b hst3c hgood hbad hoff HDP hlen2
        have HST : Hid (Blk wr H 55 #[.slice a' n c', .int .i64 S'.ops, .slice fa' m fc', .bool false, .int .i64 seq] ∧ Blk wr (H + 1) 55 #[.slice none 0 0, .int .i64 0, .slice none 0 0, .bool false, .int .i64 0] ∧ Below w.heap.size w wr ∧ Own wr gb nb cb Z) := ⟨z0, z1, hB1, hBw⟩
        have HOPS : Hid (H + 1 + 1 ≤ wr.heap.size) := z1.lt
        obtain ⟨S0ops, hS0⟩ : ∃ x, S'.ops = x := ⟨_, rfl⟩
        obtain ⟨gd0, hgd0⟩ : ∃ x, gdN S'.ds = x := ⟨_, rfl⟩
        rw [hS0] at q1 HDP HST hst3c hop
        rw [hgd0] at hst3c
        clear hst hN0 hl hI hnl hR hf0 hf1 hB1 hBw hCF hneg z0 z1 hkb hbb hst3 hops hp hb8 hS0 hgd0 HD0 HK
        go_wp2_with fail
        refine hop.mono ?_
        rintro e w2a ⟨rfl, b2a⟩
        obtain ⟨q0, q1, q2, q3, q4⟩ := (HST.out.1.keep b2a).log
        go_wp2_with fail
        refine (hnx w2a b2a).mono ?_
        rintro e w2 ⟨rfl, b2b⟩
        have b2 := b2a.trans (b2b.mono b2a.size)
        obtain ⟨z0, z1, hB1, _⟩ := HST.out
        have z02 := z0.keep b2
        obtain ⟨q0, q1, q2, q3, q4⟩ := z02.log
        clear hop hnx z0 z1 hB1 b2a b2b
        go_wp2_with fail
        refine (HDP.out w2 b2).mono ?_
        rintro e w3 ⟨a2, n2, c2, fa2, m2, fc2, qs2, rfl, hN2, hl2, b3⟩
        have hn2 : n2 = n := by rw [← hl2, hN2.bs.len, hlen2]
        have hm2 : m2 = m := by rw [← OwnE.len hN2.fs, HFM.out]
        subst hn2 hm2
        dsimp only at hN2 ⊢
        obtain ⟨ds2, ops2, dn2⟩ := S2
        dsimp only at hN2 hst3b hst3c hgood hbad hoff hlen2 ⊢
        have b23 := b2.trans (b3.mono b2.size)
        have y4 := Blk.new w3 29 #[.slice a2 n2 c2, .int .i64 ops2, .slice fa2 m2 fc2, .bool dn2]
        have b4 : Below w3.heap.size w3 (w3.alloc (.cells #[.slice a2 n2 c2, .int .i64 ops2, .slice fa2 m2 fc2, .bool dn2] 29)) := (Below.refl _ w3).alloc (Nat.le_refl _) _
        have b234 := b23.trans (b4.mono b23.size)
        obtain ⟨z0, z1, hB1, hBw⟩ := HST.out
        have z04 := z0.keep b234
        have z14 := z1.keep b234
        have hN4 := hN2.keep b4
        have hB4 := hB1.trans (b234.mono hB1.size)
        have hBw4 := hBw.keep b234 hBw.lt
        have hfr := hN2.from
        have hsz2 := b2.size
        have hHs := HOPS.out
        obtain ⟨W4, hW4⟩ : ∃ W, w3.alloc (.cells #[.slice a2 n2 c2, .int .i64 ops2, .slice fa2 m2 fc2, .bool dn2] 29) = W := ⟨_, rfl⟩
        rw [hW4] at y4 z04 z14 hN4 hB4 hBw4
        obtain ⟨T, hT⟩ : ∃ T, w3.heap.size = T := ⟨_, rfl⟩
        rw [hT] at y4
        have hTH : H + 1 < T := by have := b23.size; omega
        have hf0 : H ∉ fpDv a2 n2 c2 fa2 m2 fc2 qs2 := fun h => by have := hfr H h; omega
        have hf1 : H + 1 ∉ fpDv a2 n2 c2 fa2 m2 fc2 qs2 := fun h => by have := hfr (H + 1) h; omega
        obtain ⟨y0, y1, y2, y3⟩ : _ ∧ _ ∧ _ ∧ _ := ⟨y4.cell 0, y4.cell 1, y4.cell 2, y4.cell 3⟩
        obtain ⟨q0, q1, q2, q3, q4⟩ := z04.log
        have fz0 := z04.frozen 0
        have fz1 := z04.frozen 1
        have fz2 := z04.frozen 2
        have fz3 := z04.frozen 3
        have z05 := (((z04.set 0 (.slice a2 n2 c2)).set 1 (.int .i64 ops2)).set 2 (.slice fa2 m2 fc2)).set 3 (.bool dn2)
        have hTne : H ≠ T := by omega
        have z15 := (((z14.other (B' := H) (by omega) 0 (.slice a2 n2 c2)).other (B' := H) (by omega) 1 (.int .i64 ops2)).other (B' := H) (by omega) 2 (.slice fa2 m2 fc2)).other (B' := H) (by omega) 3 (.bool dn2)
        have y5 := (((y4.other (B' := H) (by omega) 0 (.slice a2 n2 c2)).other (B' := H) (by omega) 1 (.int .i64 ops2)).other (B' := H) (by omega) 2 (.slice fa2 m2 fc2)).other (B' := H) (by omega) 3 (.bool dn2)
        have hN5 : NewDv _ B a2 n2 c2 fa2 m2 fc2 ds2 fs qs2 := ((((hN4.setN (i := 0) (u := .slice a2 n2 c2) hf0).setN (i := 1) (u := .int .i64 ops2) hf0).setN (i := 2) (u := .slice fa2 m2 fc2) hf0).setN (i := 3) (u := .bool dn2) hf0).wider (by have := HBB.out; have := HH.out; omega)
        have sH : ∀ (W : World) (i : Nat) (v : Value), Below w.heap.size w W → Below w.heap.size w (W.setCell ⟨H, i, none⟩ v) := fun W i v hb => hb.setCell (p := ⟨H, i, none⟩) (by have := HH.out; simp only; omega) v
        have hB5 := sH _ 3 (.bool dn2) (sH _ 2 (.slice fa2 m2 fc2) (sH _ 1 (.int .i64 ops2) (sH _ 0 (.slice a2 n2 c2) hB4)))
        have hd5 := y5.cell 3
        have hBw5 := (((hBw4.kept (gr_setC W4 H 0 (.slice a2 n2 c2)) (by omega)).kept (gr_setC _ H 1 (.int .i64 ops2)) (by omega)).kept (gr_setC _ H 2 (.slice fa2 m2 fc2)) (by omega)).kept (gr_setC _ H 3 (.bool dn2)) (by omega)
        obtain ⟨v0, v1, v2, v3, v4⟩ := z05.log
        have fz4 := z05.frozen 4
        simp at z05 v0 v1 v2 v3 v4 y0 y1 y2 y3 hd5
        have HBL : Hid (Below w.heap.size w W4) := hB4
        clear hfr HDP HST b2 b3 b23 b4 b234 z0 z1 hB1 z02 hN2 y4 z04 z14 hN4 hB4 y5 hl2
        have HALL : Hid (∀ W5 : World, ((((W4.setCell ⟨H, 0, none⟩ (.slice a2 n2 c2)).setCell ⟨H, 1, none⟩ (.int .i64 ops2)).setCell ⟨H, 2, none⟩ (.slice fa2 m2 fc2)).setCell ⟨H, 3, none⟩ (.bool dn2)) = W5 → Blk W5 H 55 #[.slice a2 n2 c2, .int .i64 ops2, .slice fa2 m2 fc2, .bool dn2, .int .i64 seq] ∧ Blk W5 (H + 1) 55 #[.slice none 0 0, .int .i64 0, .slice none 0 0, .bool false, .int .i64 0] ∧ NewDv W5 B a2 n2 c2 fa2 m2 fc2 ds2 fs qs2 ∧ Below w.heap.size w W5 ∧ W5.cell? ⟨T, 3, none⟩ = some (.bool dn2) ∧ Own W5 gb nb cb Z) := fun W5 hW5 => by subst hW5; exact ⟨z05, z15, hN5, hB5, hd5, hBw5⟩
        clear z05 z15 hN5 hB5 hd5 hBw5 hBw hBw4 v0 v1 v2 v3 v4 fz4
        go_upto_region 13 with fail
        obtain ⟨W5, hW5⟩ : ∃ W, ((((W4.setCell ⟨H, 0, none⟩ (.slice a2 n2 c2)).setCell ⟨H, 1, none⟩ (.int .i64 ops2)).setCell ⟨H, 2, none⟩ (.slice fa2 m2 fc2)).setCell ⟨H, 3, none⟩ (.bool dn2)) = W := ⟨_, rfl⟩
        obtain ⟨z05, z15, hN5, hB5, hd5, hBw5⟩ := HALL.out W5 hW5
        rw [hW5]
        have fz4 := z05.frozen 4
        obtain ⟨v0, v1, v2, v3, v4⟩ := z05.log
        clear hW5 hW4 HALL y0 y1 y2 y3 q0 q1 q2 q3 q4 fz0 fz1 fz2 fz3
        rcases hst3c with ⟨hc0, hd0⟩ | ⟨hc2, hd2, hg2, ho1, ho2⟩ | hc10
        · subst hc0
          subst hd0
          have HR : Hid (WrA.mk ⟨ds2, ops2, false⟩ true ((k : Int) * 8 + (p : Int)) 0 = R) := (hgood rfl).symm
          have z06 := z05.set 4 (.int .i64 (seq + 1))
          have z16 := z15.other (B' := H) (by omega) 4 (.int .i64 (seq + 1))
          have HND : Hid (NewDv (W5.setCell ⟨H, 4, none⟩ (.int .i64 (seq + 1))) B a2 n2 c2 fa2 m2 fc2 ds2 fs qs2 ∧ qs2.length = n2 ∧ Below w.heap.size w (W5.setCell ⟨H, 4, none⟩ (.int .i64 (seq + 1))) ∧ H + 1 ∉ fpDv a2 n2 c2 fa2 m2 fc2 qs2) := ⟨hN5.setN (i := 4) (u := .int .i64 (seq + 1)) hf0, by rw [hN5.bs.len]; exact hlen2, sH _ 4 (.int .i64 (seq + 1)) hB5, hf1⟩
          simp at z06
          obtain ⟨x0, x1, x2, x3, x4⟩ := z06.log
          clear hgood hbad hoff hN5 hB5 z05 z15 z06 hlen2 sH hBw5
          go_upto_region 15 with fail
          obtain ⟨W6, hW6⟩ : ∃ W, W5.setCell ⟨H, 4, none⟩ (.int .i64 (seq + 1)) = W := ⟨_, rfl⟩
          rw [hW6] at z16 HND x0 x1 x2 x3 x4
          rw [hW6]
          clear hW6 v0 v1 v2 v3 v4 fz4 hd5
          obtain ⟨r0, r1, r2, r3, r4⟩ := z16.log
          have g0 := z16.frozen 0
          have g1 := z16.frozen 1
          have g2 := z16.frozen 2
          have g3 := z16.frozen 3
          have g4 := z16.frozen 4
          have zf := ((((z16.set 0 (.slice a2 n2 c2)).set 1 (.int .i64 ops2)).set 2 (.slice fa2 m2 fc2)).set 3 (.bool false)).set 4 (.int .i64 (seq + 1))
          obtain ⟨d0, d1, d2, d3, d4⟩ := zf.log
          clear z16 zf
          go_wp2
          refine bodyPost_ret (v := .tuple #[.agg #[.slice a2 n2 c2, .int .i64 ops2, .slice fa2 m2 fc2, .bool false, .int .i64 (seq + 1)], .int .i64 ((k : Int) * 8 + (p : Int)), .int .i64 0]) (by simp [results, Tryz.f79, go_sem, d0, d1, d2, d3, d4]) rfl ?_
          rw [← HGP.out, ← HR.out]
          obtain ⟨hnd, hql, hb, hf1⟩ := HND.out
          have s : ∀ (W : World) (i : Nat) (v : Value), Below w.heap.size w W → Below w.heap.size w (W.setCell ⟨H + 1, i, none⟩ v) := fun W i v hb => hb.setCell (p := ⟨H + 1, i, none⟩) (by have := HH.out; simp only; omega) v
          exact ⟨a2, n2, c2, fa2, m2, fc2, _, (by unfold WrA.D WrA.sq; rfl), ((((hnd.setN hf1).setN hf1).setN hf1).setN hf1).setN hf1, hql, s _ _ _ (s _ _ _ (s _ _ _ (s _ _ _ (s _ _ _ hb))))⟩
        · subst hc2
          subst hd2
          have hR2 : Hid (R = wrA fs Z spare f' ⟨ds2, ops2, false⟩) := hbad rfl
          have hI2 : LgI fs ⟨ds2, ops2, false⟩ := ⟨hst3b, rfl⟩
          have hl2' : qs2.length = n2 := by rw [hN5.bs.len]; exact hlen2
          have HZZ : Hid (Blk W5 H 55 #[.slice a2 n2 c2, .int .i64 ops2, .slice fa2 m2 fc2, .bool false, .int .i64 seq] ∧ Blk W5 (H + 1) 55 #[.slice none 0 0, .int .i64 0, .slice none 0 0, .bool false, .int .i64 0] ∧ NewDv W5 B a2 n2 c2 fa2 m2 fc2 ds2 fs qs2 ∧ Below w.heap.size w W5 ∧ LgI fs ⟨ds2, ops2, false⟩ ∧ qs2.length = n2 ∧ ds2.length = n2 ∧ H ∉ fpDv a2 n2 c2 fa2 m2 fc2 qs2 ∧ H + 1 ∉ fpDv a2 n2 c2 fa2 m2 fc2 qs2 ∧ Own W5 gb nb cb Z) := ⟨z05, z15, hN5, hB5, hI2, hl2', hlen2, hf0, hf1, hBw5⟩
          clear hgood hbad hoff hN5 hB5 z05 z15 hlen2 sH hI2 hl2' hst3b hg2 ho1 ho2 hf0 hf1 HOPS hBw5
          go_wp2
          go_roundw
          case rel =>
            obtain ⟨z05, z15, hN5, hB5, hI2, hl2', hlen2, hf0, hf1, hBw5⟩ := HZZ.out
            exact ⟨j + 1, ⟨ds2, ops2, false⟩, a2, c2, fa2, fc2, qs2, by go_num, by omega, z05, z15, hN5, hl2', hI2, hlen2, by rw [hf'2]; exact hR2.out.symm, hf0, hf1, hB5, hBw5⟩
          case measure => simp [intOf]; omega
        · subst hc10
          have HR : Hid (WrA.mk ⟨ds2, ops2, dn2⟩ dn2 (-1) 10 = R) := (hoff rfl).symm
          clear hgood hbad hoff
          cases dn2
          · have HND : Hid (NewDv W5 B a2 n2 c2 fa2 m2 fc2 ds2 fs qs2 ∧ qs2.length = n2 ∧ Below w.heap.size w W5 ∧ H + 1 ∉ fpDv a2 n2 c2 fa2 m2 fc2 qs2) := ⟨hN5, by rw [hN5.bs.len]; exact hlen2, hB5, hf1⟩
            clear hN5 hB5 z05 hlen2 sH hBw5
            obtain ⟨r0, r1, r2, r3, r4⟩ := z15.log
            have g0 := z15.frozen 0
            have g1 := z15.frozen 1
            have g2 := z15.frozen 2
            have g3 := z15.frozen 3
            have g4 := z15.frozen 4
            have zf := ((((z15.set 0 (.slice a2 n2 c2)).set 1 (.int .i64 ops2)).set 2 (.slice fa2 m2 fc2)).set 3 (.bool false)).set 4 (.int .i64 seq)
            obtain ⟨d0, d1, d2, d3, d4⟩ := zf.log
            clear z15 zf
            go_wp2
            refine bodyPost_ret (v := .tuple #[.agg #[.slice a2 n2 c2, .int .i64 ops2, .slice fa2 m2 fc2, .bool false, .int .i64 seq], .int .i64 (-1), .int .i64 10]) (by simp [results, Tryz.f79, go_sem, d0, d1, d2, d3, d4]) rfl ?_
            rw [← HGP.out, ← HR.out]
            obtain ⟨hnd, hql, hb, hf1⟩ := HND.out
            have s : ∀ (W : World) (i : Nat) (v : Value), Below w.heap.size w W → Below w.heap.size w (W.setCell ⟨H + 1, i, none⟩ v) := fun W i v hb => hb.setCell (p := ⟨H + 1, i, none⟩) (by have := HH.out; simp only; omega) v
            exact ⟨a2, n2, c2, fa2, m2, fc2, _, (by unfold WrA.D WrA.sq; rfl), ((((hnd.setN hf1).setN hf1).setN hf1).setN hf1).setN hf1, hql, s _ _ _ (s _ _ _ (s _ _ _ (s _ _ _ (s _ _ _ hb))))⟩
          · have z06 := z05.set 4 (.int .i64 (seq + 1))
            have z16 := z15.other (B' := H) (by omega) 4 (.int .i64 (seq + 1))
            have HND : Hid (NewDv (W5.setCell ⟨H, 4, none⟩ (.int .i64 (seq + 1))) B a2 n2 c2 fa2 m2 fc2 ds2 fs qs2 ∧ qs2.length = n2 ∧ Below w.heap.size w (W5.setCell ⟨H, 4, none⟩ (.int .i64 (seq + 1))) ∧ H + 1 ∉ fpDv a2 n2 c2 fa2 m2 fc2 qs2) := ⟨hN5.setN (i := 4) (u := .int .i64 (seq + 1)) hf0, by rw [hN5.bs.len]; exact hlen2, sH _ 4 (.int .i64 (seq + 1)) hB5, hf1⟩
            simp at z06
            obtain ⟨x0, x1, x2, x3, x4⟩ := z06.log
            clear hN5 hB5 z05 z15 z06 hlen2 sH hBw5
            go_upto_region 19 with fail
            obtain ⟨W6, hW6⟩ : ∃ W, W5.setCell ⟨H, 4, none⟩ (.int .i64 (seq + 1)) = W := ⟨_, rfl⟩
            rw [hW6] at z16 HND x0 x1 x2 x3 x4
            rw [hW6]
            clear hW6 v0 v1 v2 v3 v4 fz4 hd5
            obtain ⟨r0, r1, r2, r3, r4⟩ := z16.log
            have g0 := z16.frozen 0
            have g1 := z16.frozen 1
            have g2 := z16.frozen 2
            have g3 := z16.frozen 3
            have g4 := z16.frozen 4
            have zf := ((((z16.set 0 (.slice a2 n2 c2)).set 1 (.int .i64 ops2)).set 2 (.slice fa2 m2 fc2)).set 3 (.bool true)).set 4 (.int .i64 (seq + 1))
            obtain ⟨d0, d1, d2, d3, d4⟩ := zf.log
            clear z16 zf
            go_wp2
            refine bodyPost_ret (v := .tuple #[.agg #[.slice a2 n2 c2, .int .i64 ops2, .slice fa2 m2 fc2, .bool true, .int .i64 (seq + 1)], .int .i64 (-1), .int .i64 10]) (by simp [results, Tryz.f79, go_sem, d0, d1, d2, d3, d4]) rfl ?_
            rw [← HGP.out, ← HR.out]
            obtain ⟨hnd, hql, hb, hf1⟩ := HND.out
            have s : ∀ (W : World) (i : Nat) (v : Value), Below w.heap.size w W → Below w.heap.size w (W.setCell ⟨H + 1, i, none⟩ v) := fun W i v hb => hb.setCell (p := ⟨H + 1, i, none⟩) (by have := HH.out; simp only; omega) v
            exact ⟨a2, n2, c2, fa2, m2, fc2, _, (by unfold WrA.D WrA.sq; rfl), ((((hnd.setN hf1).setN hf1).setN hf1).setN hf1).setN hf1, hql, s _ _ _ (s _ _ _ (s _ _ _ (s _ _ _ (s _ _ _ hb))))⟩
    · have hji : ¬ (j : Int) ≤ (n : Int) := by omega
      have HR : Hid (WrA.mk S' false (-1) 9 = R) := by show _ = _; rw [← hR, show n + 1 - j = 0 by omega]; rfl
      have HND : Hid (NewDv wr B a' n c' fa' m fc' S'.ds fs qs' ∧ qs'.length = n ∧ Below w.heap.size w wr ∧ H + 1 ∉ fpDv a' n c' fa' m fc' qs') := ⟨hN0, hl, hB1, hf1⟩
      have hd : S'.down = false := hI.2
      clear hst hN0 hl hI hnl hR hf0 hf1 hB1 hBw hCF z0
      obtain ⟨r0, r1, r2, r3, r4⟩ := z1.log
      have g0 := z1.frozen 0
      have g1 := z1.frozen 1
      have g2 := z1.frozen 2
      have g3 := z1.frozen 3
      have g4 := z1.frozen 4
      have zf := ((((z1.set 0 (.slice a' n c')).set 1 (.int .i64 S'.ops)).set 2 (.slice fa' m fc')).set 3 (.bool false)).set 4 (.int .i64 seq)
      obtain ⟨d0, d1, d2, d3, d4⟩ := zf.log
      clear z1 zf
      go_wp2
      refine bodyPost_ret (v := .tuple #[.agg #[.slice a' n c', .int .i64 S'.ops, .slice fa' m fc', .bool false, .int .i64 seq], .int .i64 (-1), .int .i64 9]) (by simp [results, Tryz.f79, go_sem, d0, d1, d2, d3, d4]) rfl ?_
      rw [← HGP.out, ← HR.out]
      obtain ⟨hnd, hql, hb, hf1⟩ := HND.out
      have s : ∀ (W : World) (i : Nat) (v : Value), Below w.heap.size w W → Below w.heap.size w (W.setCell ⟨H + 1, i, none⟩ v) := fun W i v hb => hb.setCell (p := ⟨H + 1, i, none⟩) (by have := HH.out; simp only; omega) v
      exact ⟨a', n, c', fa', m, fc', _, (by unfold WrA.D WrA.sq; dsimp only; rw [hd]; rfl), ((((hnd.setN hf1).setN hf1).setN hf1).setN hf1).setN hf1, hql, s _ _ _ (s _ _ _ (s _ _ _ (s _ _ _ (s _ _ _ hb))))⟩
end

section
open Go.RowKit
/-- What Write answers. -/
noncomputable def wrOut (ds : List BkD) (ops : Int) (fs : List FtD) (down : Bool) (seq kind : Int) (body : List Int) (spare : Int) : WrA :=
  if recOk ⟨kind, seq, body⟩ = false ∨ devB ds ops fs = false ∨ seq = 1000000 then ⟨⟨ds, ops, down⟩, false, -1, 1⟩
  else if down = true then ⟨⟨ds, ops, down⟩, false, -1, 10⟩
  else wrA fs (summedOf (recEnc ⟨kind, seq, body⟩)) spare (ds.length + 1) ⟨ds, ops, false⟩
theorem wrOut_form {ds : List BkD} {ops : Int} {fs : List FtD} {down : Bool} {seq kind : Int} {body : List Int} {spare : Int} (h : recOk ⟨kind, seq, body⟩ = false ∨ devB ds ops fs = false ∨ seq = 1000000) : wrOut ds ops fs down seq kind body spare = ⟨⟨ds, ops, down⟩, false, -1, 1⟩ := by unfold wrOut; rw [if_pos h]
theorem wrOut_down {ds : List BkD} {ops : Int} {fs : List FtD} {seq kind : Int} {body : List Int} {spare : Int} (h1 : recOk ⟨kind, seq, body⟩ = true) (h2 : devB ds ops fs = true) (h3 : seq ≠ 1000000) : wrOut ds ops fs true seq kind body spare = ⟨⟨ds, ops, true⟩, false, -1, 10⟩ := by
  unfold wrOut
  rw [if_neg (by simp [h1, h2, h3]), if_pos rfl]
theorem wrOut_go {ds : List BkD} {ops : Int} {fs : List FtD} {seq kind : Int} {body : List Int} {spare : Int} (h1 : recOk ⟨kind, seq, body⟩ = true) (h2 : devB ds ops fs = true) (h3 : seq ≠ 1000000) : wrOut ds ops fs false seq kind body spare = wrA fs (summedOf (recEnc ⟨kind, seq, body⟩)) spare (ds.length + 1) ⟨ds, ops, false⟩ := by
  unfold wrOut
  rw [if_neg (by simp [h1, h2, h3]), if_neg (by simp)]
set_option maxRecDepth 100000 in
set_option maxHeartbeats 16000000 in
theorem loopD (fs : List FtD) (spare : Int) (B : Nat) (S : LgS) (a : Option Addr) (n c : Nat) (fa : Option Addr) (m fc : Nat) (qs : List BkR) (seq kind : Int) (body : List Int) (ab : Option Addr) (lb cbb : Nat) (w : World) (hN : NewDv w B a n c fa m fc S.ds fs qs) (hl : qs.length = n) (hI : devB S.ds S.ops fs = true) (hdn : S.down = true) (hm : m ≤ 1048576) (hbl : body.length = lb) (hok : recOk ⟨kind, seq, body⟩ = true) (hrb : Rd w ab body) (hby : Byt body) (hB : B ≤ w.heap.size) :
    Calls Tryz.prog 79 #[.agg #[.slice a n c, .int .i64 S.ops, .slice fa m fc, .bool true, .int .i64 seq], .int .i64 kind, .slice ab lb cbb, .int .i64 spare] w (LwA w B (((WrA.mk S false (-1) 10)).D fs) (((WrA.mk S false (-1) 10)).sq seq) ((WrA.mk S false (-1) 10)).adr ((WrA.mk S false (-1) 10)).code) := by
  have B0 : Below w.heap.size w ((w.alloc (.cells #[.slice a n c, .int .i64 S.ops, .slice fa m fc, .bool true, .int .i64 seq] 55)).alloc (.cells #[.slice none 0 0, .int .i64 0, .slice none 0 0, .bool false, .int .i64 0] 55)) := ((Below.refl _ w).alloc (Nat.le_refl _) _).alloc (by simp) _
  have z0 := (Blk.new w 55 #[.slice a n c, .int .i64 S.ops, .slice fa m fc, .bool true, .int .i64 seq]).alloc (.cells #[.slice none 0 0, .int .i64 0, .slice none 0 0, .bool false, .int .i64 0] 55)
  have z1 := Blk.new (w.alloc (.cells #[.slice a n c, .int .i64 S.ops, .slice fa m fc, .bool true, .int .i64 seq] 55)) 55 #[.slice none 0 0, .int .i64 0, .slice none 0 0, .bool false, .int .i64 0]
  simp only [World.size_alloc] at z1
  have hnl : S.ds.length = n := by rw [← hN.bs.len]; exact hl
  have hfm : fs.length = m := OwnE.len hN.fs
  obtain ⟨W0, hW0⟩ : ∃ W, (w.alloc (.cells #[.slice a n c, .int .i64 S.ops, .slice fa m fc, .bool true, .int .i64 seq] 55)).alloc (.cells #[.slice none 0 0, .int .i64 0, .slice none 0 0, .bool false, .int .i64 0] 55) = W := ⟨_, rfl⟩
  rw [hW0] at B0 z0 z1
  obtain ⟨H, hH⟩ : ∃ H, w.heap.size = H := ⟨_, rfl⟩
  have HH : Hid (w.heap.size = H) := hH
  have hfp : H ∉ fpDv a n c fa m fc qs ∧ H + 1 ∉ fpDv a n c fa m fc qs := ⟨fun h => by have := hN.lt H h; omega, fun h => by have := hN.lt (H + 1) h; omega⟩
  have hN0 := hN.keep B0
  rw [hH] at z0 z1
  generalize hGP : LwA w B (((WrA.mk S false (-1) 10)).D fs) (((WrA.mk S false (-1) 10)).sq seq) ((WrA.mk S false (-1) 10)).adr ((WrA.mk S false (-1) 10)).code = P
  obtain ⟨R, hR⟩ : ∃ R, (WrA.mk S false (-1) 10) = R := ⟨_, rfl⟩
  rw [hR] at hGP
  have HGP : Hid _ := hGP
  have HS : Hid (∀ (W : World) (S' : LgS) (a' : Option Addr) (c' : Nat) (fa' : Option Addr) (fc' : Nat) (qs' : List BkR), NewDv W B a' n c' fa' m fc' S'.ds fs qs' → qs'.length = n → devB S'.ds S'.ops fs = true → CR W a' n qs' ∧ FR W fa' m fs) := fun W S' a' c' fa' fc' qs' h1 h2 h3 => ⟨h1.cr h2 (devB_tot h3), OwnFa.fr h1.fs hm⟩
  have hpr := putRecS_yes ⟨kind, seq, body⟩ ab cbb W0 ⟨hrb.keep B0, hby⟩ hok
  unfold recC at hpr
  dsimp only at hpr
  rw [hbl] at hpr
  generalize summedOf (recEnc ⟨kind, seq, body⟩) = Z at hpr
  generalize (recEnc ⟨kind, seq, body⟩).length + 4 = nb at hpr
  have HFM : Hid (fs.length = m) := hfm
  have HB0 : Hid (Below w.heap.size w W0) := B0
  have HBB : Hid (B ≤ w.heap.size) := hB
  have hst : Hid (Blk W0 H 55 #[.slice a n c, .int .i64 S.ops, .slice fa m fc, .bool true, .int .i64 seq] ∧ Blk W0 (H + 1) 55 #[.slice none 0 0, .int .i64 0, .slice none 0 0, .bool false, .int .i64 0] ∧ NewDv W0 B a n c fa m fc S.ds fs qs ∧ qs.length = n ∧ devB S.ds S.ops fs = true ∧ S.ds.length = n ∧ (WrA.mk S false (-1) 10) = R ∧ H ∉ fpDv a n c fa m fc qs ∧ H + 1 ∉ fpDv a n c fa m fc qs) := ⟨z0, z1, hN0, hl, hI, hnl, hR, hfp.1, hfp.2⟩
  obtain ⟨q0, q1, q2, q3, q4⟩ := z0.log
  clear hN hl hI hrb hok hby B0 z0 z1 hN0 hnl hfm hfp hGP hR hB hbl
  go_enter Tryz.func79, Tryz.ntmps79
  go_wp2_with fail
  try rw [hW0]
  try rw [hH]
  refine hpr.mono ?_
  rintro e w1 ⟨gb, cb, rfl, hgb, ho1, b1⟩
  clear ho1 hgb
  have HB1 : Hid (Below w.heap.size w w1) := HB0.out.trans (b1.mono HB0.out.size)
  obtain ⟨z0, z1, hN0, hl, hI, hnl, hR, hf0, hf1⟩ := hst.out
  have hst1 : Hid (Blk w1 H 55 #[.slice a n c, .int .i64 S.ops, .slice fa m fc, .bool true, .int .i64 seq] ∧ Blk w1 (H + 1) 55 #[.slice none 0 0, .int .i64 0, .slice none 0 0, .bool false, .int .i64 0] ∧ NewDv w1 B a n c fa m fc S.ds fs qs) := ⟨z0.keep b1, z1.keep b1, hN0.keep b1⟩
  clear hpr z0 z1 hN0 hst b1 HB0 hW0 q0 q1 q2 q3 q4
  have HR : Hid (WrA.mk S false (-1) 10 = R) := hR
  have hop := openS a n c qs S.ops fa m fc true seq spare w1 (HS.out w1 S a c fa fc qs hst1.out.2.2 hl hI).1
  rw [hst1.out.2.2.bs.D] at hop
  generalize openD S.ds spare = ok at hop
  have HNF : Hid (∀ W : World, Below w1.heap.size w1 W → Blk W (H + 1) 55 #[.slice none 0 0, .int .i64 0, .slice none 0 0, .bool false, .int .i64 0] ∧ Blk W H 55 #[.slice a n c, .int .i64 S.ops, .slice fa m fc, .bool true, .int .i64 seq] ∧ NewDv W B a n c fa m fc S.ds fs qs ∧ qs.length = n ∧ Below w.heap.size w W ∧ H + 1 ∉ fpDv a n c fa m fc qs) := fun W hW => ⟨hst1.out.2.1.keep hW, hst1.out.1.keep hW, hst1.out.2.2.keep hW, hl, HB1.out.trans (hW.mono HB1.out.size), hf1⟩
  have hn0 : (0 : Int) ≤ (n : Int) := by omega
  obtain ⟨q0, q1, q2, q3, q4⟩ := hst1.out.1.log
  have hdd : S.down = true := hdn
  clear hl hI hnl hR hf0 hf1 hst1 HB1
  go_wp2
  refine wp_loop_rounds 1 ?_; rw [rounds_succ]
  go_wp2_with fail
  refine hop.mono ?_
  rintro e w2 ⟨rfl, b2⟩
  obtain ⟨zr, z0, hn5⟩ := HNF.out w2 b2
  have HND : Hid _ := hn5
  obtain ⟨q0, q1, q2, q3, q4⟩ := z0.log
  clear hop b2 hn5 HNF z0
  obtain ⟨r0, r1, r2, r3, r4⟩ := zr.log
  have g0 := zr.frozen 0
  have g1 := zr.frozen 1
  have g2 := zr.frozen 2
  have g3 := zr.frozen 3
  have g4 := zr.frozen 4
  have zf := ((((zr.set 0 (.slice a n c)).set 1 (.int .i64 S.ops)).set 2 (.slice fa m fc)).set 3 (.bool true)).set 4 (.int .i64 seq)
  obtain ⟨d0, d1, d2, d3, d4⟩ := zf.log
  clear zr zf
  go_wp2
  refine bodyPost_ret (v := .tuple #[.agg #[.slice a n c, .int .i64 S.ops, .slice fa m fc, .bool true, .int .i64 seq], .int .i64 (-1), .int .i64 10]) (by simp [results, Tryz.f79, go_sem, d0, d1, d2, d3, d4]) rfl ?_
  rw [← HGP.out, ← HR.out]
  obtain ⟨hnd, hql, hb, hf1⟩ := HND.out
  have s : ∀ (W : World) (i : Nat) (v : Value), Below w.heap.size w W → Below w.heap.size w (W.setCell ⟨H + 1, i, none⟩ v) := fun W i v hb => hb.setCell (p := ⟨H + 1, i, none⟩) (by have := HH.out; simp only; omega) v
  exact ⟨a, n, c, fa, m, fc, _, (by unfold WrA.D WrA.sq; dsimp only; rw [hdd]; rfl), ((((hnd.setN hf1).setN hf1).setN hf1).setN hf1).setN hf1, hql, s _ _ _ (s _ _ _ (s _ _ _ (s _ _ _ (s _ _ _ hb))))⟩
set_option maxRecDepth 100000 in
set_option maxHeartbeats 8000000 in
theorem writeS (a : Option Addr) (n cap : Nat) (bs : List BkR) (ops : Int) (fa : Option Addr) (m fc : Nat) (fs : List FtD) (down : Bool) (seq kind : Int) (body : List Int) (ab : Option Addr) (lb cbb : Nat) (spare : Int) (w : World) (ht : CR w a n bs) (hf : FR w fa m fs) (hbl : body.length = lb) (hlb : lb ≤ 1048576) (hrb : Rd w ab body) (hby : Byt body) :
    Calls Tryz.prog 31 #[.agg #[.slice a n cap, .int .i64 ops, .slice fa m fc, .bool down, .int .i64 seq], .int .i64 kind, .slice ab lb cbb, .int .i64 spare] w (LwA w w.heap.size ((wrOut (bs.map BkR.D) ops fs down seq kind body spare).D fs) ((wrOut (bs.map BkR.D) ops fs down seq kind body spare).sq seq) (wrOut (bs.map BkR.D) ops fs down seq kind body spare).adr (wrOut (bs.map BkR.D) ops fs down seq kind body spare).code) := by
  have B0 : Below w.heap.size w ((w.alloc (.cells #[.slice a n cap, .int .i64 ops, .slice fa m fc, .bool down, .int .i64 seq] 55)).alloc (.cells #[.slice none 0 0, .int .i64 0, .slice none 0 0, .bool false, .int .i64 0] 55)) := ((Below.refl _ w).alloc (Nat.le_refl _) _).alloc (by simp) _
  have z0 := (Blk.new w 55 #[.slice a n cap, .int .i64 ops, .slice fa m fc, .bool down, .int .i64 seq]).alloc (.cells #[.slice none 0 0, .int .i64 0, .slice none 0 0, .bool false, .int .i64 0] 55)
  have z1 := Blk.new (w.alloc (.cells #[.slice a n cap, .int .i64 ops, .slice fa m fc, .bool down, .int .i64 seq] 55)) 55 #[.slice none 0 0, .int .i64 0, .slice none 0 0, .bool false, .int .i64 0]
  simp only [World.size_alloc] at z1
  obtain ⟨W0, hW0⟩ : ∃ W, (w.alloc (.cells #[.slice a n cap, .int .i64 ops, .slice fa m fc, .bool down, .int .i64 seq] 55)).alloc (.cells #[.slice none 0 0, .int .i64 0, .slice none 0 0, .bool false, .int .i64 0] 55) = W := ⟨_, rfl⟩
  have hs0 : W0.heap.size = w.heap.size + 1 + 1 := by rw [← hW0]; simp
  rw [hW0] at B0 z0 z1
  have hc0 := copyLogS a n cap bs ops fa m fc fs down seq W0 (ht.keep B0) (hf.keep B0)
  have hln : (bs.map BkR.D).length = n := by simp [ht.len]
  have HDV : Hid (∀ W : World, Below w.heap.size w W → Calls Tryz.prog 27 #[.agg #[.slice a n cap, .int .i64 ops, .slice fa m fc, .bool down]] W fun e w' => e = .returned (.bool (devB (bs.map BkR.D) ops fs)) ∧ Below W.heap.size W w') := fun W hW => devOkS a n cap bs ops fa m fc fs down W (ht.keep hW) (hf.keep hW)
  have hro := fun (W : World) => recOkS ⟨kind, seq, body⟩ ab cbb W (by dsimp only; omega)
  unfold recC at hro
  dsimp only at hro
  rw [hbl] at hro
  have HRB : Hid (∀ W : World, Below w.heap.size w W → Rd W ab body) := fun W hW => hrb.keep hW
  have hfm := hf.tot
  generalize hGP : LwA w w.heap.size ((wrOut (bs.map BkR.D) ops fs down seq kind body spare).D fs) ((wrOut (bs.map BkR.D) ops fs down seq kind body spare).sq seq) (wrOut (bs.map BkR.D) ops fs down seq kind body spare).adr (wrOut (bs.map BkR.D) ops fs down seq kind body spare).code = P
  obtain ⟨R, hR⟩ : ∃ R, wrOut (bs.map BkR.D) ops fs down seq kind body spare = R := ⟨_, rfl⟩
  rw [hR] at hGP
  have HGP : Hid _ := hGP
  obtain ⟨H, hH⟩ : ∃ H, w.heap.size = H := ⟨_, rfl⟩
  have HH : Hid (w.heap.size = H) := hH
  rw [hH] at z0 z1 hs0
  generalize hds : bs.map BkR.D = ds at hc0 hln HDV hR
  have HB0 : Hid (Below w.heap.size w W0) := B0
  have HZ : Hid (Blk W0 H 55 #[.slice a n cap, .int .i64 ops, .slice fa m fc, .bool down, .int .i64 seq] ∧ Blk W0 (H + 1) 55 #[.slice none 0 0, .int .i64 0, .slice none 0 0, .bool false, .int .i64 0]) := ⟨z0, z1⟩
  have HFL : Hid (fs.length = m) := hf.len
  obtain ⟨q0, q1, q2, q3, q4⟩ := z0.log
  clear ht hf hrb B0 z0 z1 hGP hds
  go_enter Tryz.func31, Tryz.ntmps31
  go_wp2_with fail
  try rw [hW0]
  try rw [hH]
  refine hc0.mono ?_
  rintro e w1 ⟨a1, n1, c1, fa1, m1, fc1, qs, rfl, hN, hl, b1⟩
  dsimp only at hN ⊢
  have hn1 : n1 = n := by rw [← hl, hN.bs.len, hln]
  have hm1 : m1 = m := by rw [← OwnE.len hN.fs, HFL.out]
  subst hn1 hm1
  have bA : Below w1.heap.size w1 (w1.alloc (.cells #[.slice a1 n1 c1, .int .i64 ops, .slice fa1 m1 fc1, .bool down, .int .i64 seq] 55)) := (Below.refl _ w1).alloc (Nat.le_refl _) _
  have y2 := Blk.new w1 55 #[.slice a1 n1 c1, .int .i64 ops, .slice fa1 m1 fc1, .bool down, .int .i64 seq]
  have b2 := b1.trans (bA.mono b1.size)
  obtain ⟨W2, hW2⟩ : ∃ W, w1.alloc (.cells #[.slice a1 n1 c1, .int .i64 ops, .slice fa1 m1 fc1, .bool down, .int .i64 seq] 55) = W := ⟨_, rfl⟩
  obtain ⟨X, hX⟩ : ∃ X, w1.heap.size = X := ⟨_, rfl⟩
  have hN2 := hN.keep bA
  rw [hW2] at bA y2 b2 hN2
  rw [hX] at y2
  have HB2 : Hid (Below w.heap.size w W2) := HB0.out.trans (b2.mono HB0.out.size)
  have HN : Hid (NewDv W2 (H + 1 + 1) a1 n1 c1 fa1 m1 fc1 ds fs qs ∧ qs.length = n1 ∧ Blk W2 X 55 #[.slice a1 n1 c1, .int .i64 ops, .slice fa1 m1 fc1, .bool down, .int .i64 seq] ∧ Blk W2 H 55 #[.slice a n1 cap, .int .i64 ops, .slice fa m1 fc, .bool down, .int .i64 seq] ∧ Blk W2 (H + 1) 55 #[.slice none 0 0, .int .i64 0, .slice none 0 0, .bool false, .int .i64 0]) := ⟨by rw [← hs0]; exact hN2, hl, y2, HZ.out.1.keep b2, HZ.out.2.keep b2⟩
  obtain ⟨q0, q1, q2, q3, q4⟩ := HN.out.2.2.2.1.log
  clear hc0 hN hl b1 bA y2 b2 hN2 HB0 HZ hW0
  go_wp2_with fail
  try rw [hW2]
  try rw [hX]
  clear hW2
  refine (HDV.out W2 HB2.out).mono ?_
  rintro e w3 ⟨rfl, b3⟩
  cases hd : devB ds ops fs with
  | false =>
    have bX := b3
    try rw [hd]
    have HR : Hid (WrA.mk ⟨ds, ops, down⟩ false (-1) 1 = R) := by show _ = _; rw [← hR, wrOut_form (.inr (.inl hd))]
    clear hR hd hro HDV HRB b3
    have HND : Hid (NewDv w3 w.heap.size a1 n1 c1 fa1 m1 fc1 ds fs qs ∧ qs.length = n1 ∧ Below w.heap.size w w3 ∧ H + 1 ∉ fpDv a1 n1 c1 fa1 m1 fc1 qs) := ⟨(HN.out.1.keep bX).wider (by have := HH.out; omega), HN.out.2.1, HB2.out.trans (bX.mono HB2.out.size), fun h => by have := HN.out.1.from (H + 1) h; omega⟩
    obtain ⟨x0, x1, x2, x3, x4⟩ := (HN.out.2.2.1.keep bX).log
    have zr := HN.out.2.2.2.2.keep bX
    clear bX
    obtain ⟨r0, r1, r2, r3, r4⟩ := zr.log
    have g0 := zr.frozen 0
    have g1 := zr.frozen 1
    have g2 := zr.frozen 2
    have g3 := zr.frozen 3
    have g4 := zr.frozen 4
    have zf := ((((zr.set 0 (.slice a1 n1 c1)).set 1 (.int .i64 ops)).set 2 (.slice fa1 m1 fc1)).set 3 (.bool down)).set 4 (.int .i64 seq)
    obtain ⟨d0, d1, d2, d3, d4⟩ := zf.log
    clear zr zf
    go_wp2
    refine bodyPost_ret (v := .tuple #[.agg #[.slice a1 n1 c1, .int .i64 ops, .slice fa1 m1 fc1, .bool down, .int .i64 seq], .int .i64 (-1), .int .i64 1]) (by simp [results, Tryz.f31, go_sem, d0, d1, d2, d3, d4]) rfl ?_
    rw [← HGP.out, ← HR.out]
    obtain ⟨hnd, hql, hb, hf1⟩ := HND.out
    have s : ∀ (W : World) (i : Nat) (v : Value), Below w.heap.size w W → Below w.heap.size w (W.setCell ⟨H + 1, i, none⟩ v) := fun W i v hb => hb.setCell (p := ⟨H + 1, i, none⟩) (by have := HH.out; simp only; omega) v
    exact ⟨a1, n1, c1, fa1, m1, fc1, _, (by unfold WrA.D WrA.sq; rfl), ((((hnd.setN hf1).setN hf1).setN hf1).setN hf1).setN hf1, hql, s _ _ _ (s _ _ _ (s _ _ _ (s _ _ _ (s _ _ _ hb))))⟩
  | true =>
    try rw [hd]
    obtain ⟨q0, q1, q2, q3, q4⟩ := (HN.out.2.2.2.1.keep b3).log
    clear HDV
    go_wp2_with fail
    refine (hro w3).mono ?_
    rintro e w4 ⟨rfl, b4⟩
    have b34 := b3.trans (b4.mono b3.size)
    obtain ⟨q0, q1, q2, q3, q4⟩ := (HN.out.2.2.2.1.keep b34).log
    clear hro b3 b4
    cases hk : recOk ⟨kind, seq, body⟩ with
    | false =>
      have bX := b34
      try rw [hk]
      have HR : Hid (WrA.mk ⟨ds, ops, down⟩ false (-1) 1 = R) := by show _ = _; rw [← hR, wrOut_form (.inl hk)]
      clear hR hd hk HRB b34
      have HND : Hid (NewDv w4 w.heap.size a1 n1 c1 fa1 m1 fc1 ds fs qs ∧ qs.length = n1 ∧ Below w.heap.size w w4 ∧ H + 1 ∉ fpDv a1 n1 c1 fa1 m1 fc1 qs) := ⟨(HN.out.1.keep bX).wider (by have := HH.out; omega), HN.out.2.1, HB2.out.trans (bX.mono HB2.out.size), fun h => by have := HN.out.1.from (H + 1) h; omega⟩
      obtain ⟨x0, x1, x2, x3, x4⟩ := (HN.out.2.2.1.keep bX).log
      have zr := HN.out.2.2.2.2.keep bX
      clear bX
      obtain ⟨r0, r1, r2, r3, r4⟩ := zr.log
      have g0 := zr.frozen 0
      have g1 := zr.frozen 1
      have g2 := zr.frozen 2
      have g3 := zr.frozen 3
      have g4 := zr.frozen 4
      have zf := ((((zr.set 0 (.slice a1 n1 c1)).set 1 (.int .i64 ops)).set 2 (.slice fa1 m1 fc1)).set 3 (.bool down)).set 4 (.int .i64 seq)
      obtain ⟨d0, d1, d2, d3, d4⟩ := zf.log
      clear zr zf
      go_wp2
      refine bodyPost_ret (v := .tuple #[.agg #[.slice a1 n1 c1, .int .i64 ops, .slice fa1 m1 fc1, .bool down, .int .i64 seq], .int .i64 (-1), .int .i64 1]) (by simp [results, Tryz.f31, go_sem, d0, d1, d2, d3, d4]) rfl ?_
      rw [← HGP.out, ← HR.out]
      obtain ⟨hnd, hql, hb, hf1⟩ := HND.out
      have s : ∀ (W : World) (i : Nat) (v : Value), Below w.heap.size w W → Below w.heap.size w (W.setCell ⟨H + 1, i, none⟩ v) := fun W i v hb => hb.setCell (p := ⟨H + 1, i, none⟩) (by have := HH.out; simp only; omega) v
      exact ⟨a1, n1, c1, fa1, m1, fc1, _, (by unfold WrA.D WrA.sq; rfl), ((((hnd.setN hf1).setN hf1).setN hf1).setN hf1).setN hf1, hql, s _ _ _ (s _ _ _ (s _ _ _ (s _ _ _ (s _ _ _ hb))))⟩
    | true =>
      try rw [hk]
      have hrange := (recOk_iff _).1 hk
      dsimp only at hrange
      obtain ⟨_, _, hs0', hs1', _⟩ := hrange
      by_cases hsq : seq ≥ 1000000
      · have bX := b34
        have HR : Hid (WrA.mk ⟨ds, ops, down⟩ false (-1) 1 = R) := by show _ = _; rw [← hR, wrOut_form (.inr (.inr (by omega)))]
        clear hR hd hk HRB b34
        have HND : Hid (NewDv w4 w.heap.size a1 n1 c1 fa1 m1 fc1 ds fs qs ∧ qs.length = n1 ∧ Below w.heap.size w w4 ∧ H + 1 ∉ fpDv a1 n1 c1 fa1 m1 fc1 qs) := ⟨(HN.out.1.keep bX).wider (by have := HH.out; omega), HN.out.2.1, HB2.out.trans (bX.mono HB2.out.size), fun h => by have := HN.out.1.from (H + 1) h; omega⟩
        obtain ⟨x0, x1, x2, x3, x4⟩ := (HN.out.2.2.1.keep bX).log
        have zr := HN.out.2.2.2.2.keep bX
        clear bX
        obtain ⟨r0, r1, r2, r3, r4⟩ := zr.log
        have g0 := zr.frozen 0
        have g1 := zr.frozen 1
        have g2 := zr.frozen 2
        have g3 := zr.frozen 3
        have g4 := zr.frozen 4
        have zf := ((((zr.set 0 (.slice a1 n1 c1)).set 1 (.int .i64 ops)).set 2 (.slice fa1 m1 fc1)).set 3 (.bool down)).set 4 (.int .i64 seq)
        obtain ⟨d0, d1, d2, d3, d4⟩ := zf.log
        clear zr zf
        go_wp2
        refine bodyPost_ret (v := .tuple #[.agg #[.slice a1 n1 c1, .int .i64 ops, .slice fa1 m1 fc1, .bool down, .int .i64 seq], .int .i64 (-1), .int .i64 1]) (by simp [results, Tryz.f31, go_sem, d0, d1, d2, d3, d4]) rfl ?_
        rw [← HGP.out, ← HR.out]
        obtain ⟨hnd, hql, hb, hf1⟩ := HND.out
        have s : ∀ (W : World) (i : Nat) (v : Value), Below w.heap.size w W → Below w.heap.size w (W.setCell ⟨H + 1, i, none⟩ v) := fun W i v hb => hb.setCell (p := ⟨H + 1, i, none⟩) (by have := HH.out; simp only; omega) v
        exact ⟨a1, n1, c1, fa1, m1, fc1, _, (by unfold WrA.D WrA.sq; rfl), ((((hnd.setN hf1).setN hf1).setN hf1).setN hf1).setN hf1, hql, s _ _ _ (s _ _ _ (s _ _ _ (s _ _ _ (s _ _ _ hb))))⟩
      · obtain ⟨x0, x1, x2, x3, x4⟩ := (HN.out.2.2.1.keep b34).log
        have hB4 := HB2.out.trans (b34.mono HB2.out.size)
        have hN4 := HN.out.1.keep b34
        have zr4 := HN.out.2.2.2.2.keep b34
        have hsz4 := zr4.lt
        have hnq := HN.out.2.1
        have HC : Hid (∀ (Q : WrA), wrOut ds ops fs down seq kind body spare = Q → Calls Tryz.prog 79 #[.agg #[.slice a1 n1 c1, .int .i64 ops, .slice fa1 m1 fc1, .bool down, .int .i64 seq], .int .i64 kind, .slice ab lb cbb, .int .i64 spare] w4 (LwA w4 (H + 1 + 1) (Q.D fs) (Q.sq seq) Q.adr Q.code)) := fun Q hQ => by
          subst hQ
          cases down with
          | true =>
            rw [wrOut_down hk hd (by omega)]
            exact loopD fs spare (H + 1 + 1) ⟨ds, ops, true⟩ a1 n1 c1 fa1 m1 fc1 qs seq kind body ab lb cbb w4 hN4 hnq hd rfl hfm hbl hk (HRB.out w4 hB4) hby (by omega)
          | false =>
            rw [wrOut_go hk hd (by omega), hln]
            exact loopS fs _ spare (H + 1 + 1) ⟨ds, ops, false⟩ a1 n1 c1 fa1 m1 fc1 qs seq kind body ab lb cbb _ w4 hN4 hnq ⟨hd, rfl⟩ hfm ⟨by omega, by omega⟩ hbl hk (HRB.out w4 hB4) hby rfl rfl (by omega)
        have hcall := HC.out R hR
        obtain ⟨⟨rds, rops, rdn⟩, rmore, radr, rcode⟩ := R
        unfold WrA.D at hcall
        dsimp only at hcall
        have HB4 : Hid (Below w.heap.size w w4 ∧ Blk w4 (H + 1) 55 #[.slice none 0 0, .int .i64 0, .slice none 0 0, .bool false, .int .i64 0] ∧ H + 1 ∉ fpDv a1 n1 c1 fa1 m1 fc1 qs) := ⟨hB4, zr4, fun h => by have := HN.out.1.from (H + 1) h; omega⟩
        obtain ⟨sqr, hsqr⟩ : ∃ x, WrA.sq ⟨⟨rds, rops, rdn⟩, rmore, radr, rcode⟩ seq = x := ⟨_, rfl⟩
        rw [hsqr] at hcall
        have HSQ : Hid _ := hsqr
        clear hR hd hk HRB b34 HC hN4 zr4 hB4 hsqr
        go_wp2_with fail
        refine hcall.mono ?_
        rintro e w5 ⟨a9, n9, c9, fa9, m9, fc9, qs9, rfl, hN9, hl9, b9⟩
        have HND : Hid (NewDv w5 w.heap.size a9 n9 c9 fa9 m9 fc9 rds fs qs9 ∧ qs9.length = n9 ∧ Below w.heap.size w w5 ∧ H + 1 ∉ fpDv a9 n9 c9 fa9 m9 fc9 qs9) := ⟨hN9.wider (by have := HH.out; omega), hl9, HB4.out.1.trans (b9.mono HB4.out.1.size), fun h => by have := hN9.from (H + 1) h; omega⟩
        have zr := HB4.out.2.1.keep b9
        clear hN9 hl9 b9 HB4 hcall q0 q1 q2 q3 q4 x0 x1 x2 x3 x4
        obtain ⟨r0, r1, r2, r3, r4⟩ := zr.log
        have g0 := zr.frozen 0
        have g1 := zr.frozen 1
        have g2 := zr.frozen 2
        have g3 := zr.frozen 3
        have g4 := zr.frozen 4
        have zf := ((((zr.set 0 (.slice a9 n9 c9)).set 1 (.int .i64 rops)).set 2 (.slice fa9 m9 fc9)).set 3 (.bool rdn)).set 4 (.int .i64 sqr)
        obtain ⟨d0, d1, d2, d3, d4⟩ := zf.log
        clear zr zf
        go_wp2
        refine bodyPost_ret (v := .tuple #[.agg #[.slice a9 n9 c9, .int .i64 rops, .slice fa9 m9 fc9, .bool rdn, .int .i64 sqr], .int .i64 radr, .int .i64 rcode]) (by simp [results, Tryz.f31, go_sem, d0, d1, d2, d3, d4]) rfl ?_
        rw [← HGP.out]
        obtain ⟨hnd, hql, hb, hf1⟩ := HND.out
        have s : ∀ (W : World) (i : Nat) (v : Value), Below w.heap.size w W → Below w.heap.size w (W.setCell ⟨H + 1, i, none⟩ v) := fun W i v hb => hb.setCell (p := ⟨H + 1, i, none⟩) (by have := HH.out; simp only; omega) v
        exact ⟨a9, n9, c9, fa9, m9, fc9, _, (by rw [← HSQ.out]; rfl), ((((hnd.setN hf1).setN hf1).setN hf1).setN hf1).setN hf1, hql, s _ _ _ (s _ _ _ (s _ _ _ (s _ _ _ (s _ _ _ hb))))⟩
end
end Go.Proofs.YtoeeblmnogeonaaGreatDoor
