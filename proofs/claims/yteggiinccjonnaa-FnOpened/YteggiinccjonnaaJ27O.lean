/-
  Joined: SpecGet, FnI, RecP.
-/
import Derived.Test.YteggiinccjonnaaJ25O
import Derived.Test.YteggiinccjonnaaJ24O
import Derived.Test.YteggiinccjonnaaJ26O
import Derived.Deep.CutBlock
import Derived.Deep.OwnRows
namespace Go.Proofs.Yteggiinccjonnaa
section
open Go.RowKit
theorem strZ_byt' (s : ByteArray) : Byt (strZ s) := by
  intro z hz
  simp only [strZ, List.mem_map] at hz
  obtain ⟨b, _, rfl⟩ := hz
  have := b.toNat_lt
  omega
theorem KpT.trans {W W1 W' : World} {ts : List TypeId} (h : KpT W W1 ts) (k : KpT W1 W' ts) : KpT W W' ts := fun B cur t fr hB ht => by
  have e := h B cur t fr hB ht
  rw [k B cur t fr (e.trans hB) ht, e]
end

section
open Go.RowKit
theorem Own.cap' {w : World} {g n c : Nat} {zs : List Int} (h : Own w g n c zs) : n ≤ c := by
  rcases h.2 with ⟨h', _⟩ | ⟨g', c', cur, h', _, _, h5, _⟩
  · simp at h'
  · simp at h'
    omega
theorem Own.rd' {w : World} {g n c : Nat} {zs : List Int} (h : Own w g n c zs) : Rd w (some ⟨g, 0, none⟩) zs := by
  obtain ⟨b, d, e, hr⟩ := (OwnV.rowB (B := 0) h).form
  simp at e
  rw [e.1]
  exact hr
theorem encGo_byt' (f m : Nat) (h : m < 128 ^ (f + 1)) : Byt (encGo f m) := by
  induction f generalizing m with
  | zero =>
    intro z hz
    simp [encGo] at hz
    simp at h
    omega
  | succ f ih =>
    intro z hz
    by_cases hm : 128 ≤ m
    · rw [encGo_more hm] at hz
      rcases List.mem_cons.1 hz with rfl | hz
      · omega
      · exact ih (m / 128) (by rw [Nat.pow_succ] at h; omega) z hz
    · rw [encGo_last hm] at hz
      simp at hz
      omega
theorem enc_byt' (x : Int) : Byt (enc x) := encGo_byt' 3 _ (by have := clamp_le x; omega)
theorem byt_app {a b : List Int} (ha : Byt a) (hb : Byt b) : Byt (a ++ b) := by
  intro z hz
  rcases List.mem_append.1 hz with hz | hz
  · exact ha z hz
  · exact hb z hz
theorem encT_byt (s : ByteArray) : Byt (encT s) := byt_app (enc_byt' _) (strZ_byt' s)
end

section
open Go.RowKit
/-- The bytes of a record, ahead of their sum. -/
def recEnc (D : RecD) : List Int := encs [D.kind, D.seq] ++ encTs [str D.body]
theorem recEnc_len (D : RecD) : (recEnc D).length ≤ D.body.length + 12 := by
  have h1 := encs_len2 D.kind D.seq
  have h2 := encTs_len1 (str D.body)
  rw [str_size] at h2
  unfold recEnc
  rw [List.length_append]
  omega
theorem recEnc_eq (D : RecD) : recEnc D = enc D.kind ++ enc D.seq ++ encT (str D.body) := by simp [recEnc, encs, encTs]
theorem recEnc_byt (D : RecD) : Byt (recEnc D) := by
  rw [recEnc_eq]
  exact byt_app (byt_app (enc_byt' _) (enc_byt' _)) (encT_byt _)
set_option maxRecDepth 100000 in
set_option maxHeartbeats 8000000 in
theorem putRecS_yes (D : RecD) (a : Option Addr) (c : Nat) (w : World) (hr : RecRd w D a) (hok : recOk D = true) :
    Calls Try.prog 78 #[.agg (recC D a c)] w (PutPost w ((recEnc D).length + 4) (summedOf (recEnc D))) := by
  have hlen : D.body.length ≤ 380 := ((recOk_iff D).1 hok).2.2.2.2
  have B00 : Below w.heap.size w (w.alloc (.cells (recC D a c) 46)) := (Below.refl _ w).alloc (Nat.le_refl _) _
  have z00 : Blk _ _ _ (recC D a c) := Blk.new w 46 (recC D a c)
  have cF := fun (W : World) => recOkS D a c W (by omega)
  rw [hok] at cF
  obtain ⟨n, hn⟩ : ∃ n, D.body.length = n := ⟨_, rfl⟩
  have hst : (str D.body).size = n := by rw [str_size]; exact hn
  have HB : Hid (Byt (recEnc D)) := recEnc_byt D
  have hYl := recEnc_len D
  unfold recC at B00 z00 cF ⊢
  rw [hn] at B00 z00 cF hlen hYl ⊢
  have HN : Hid (D.body.length = n) := hn
  have L1 := enc_len D.kind
  have L2 := enc_len D.seq
  obtain ⟨S, hS⟩ : ∃ S, str D.body = S := ⟨_, rfl⟩
  have n1 : ∀ (W : World) (ad : Addr), Calls Try.prog 96 #[.slice (some ad) 0 0, .int .i64 D.kind] W (PutPost W (enc D.kind).length (enc D.kind)) := fun W ad => specNum0 ad D.kind W
  have n2 : ∀ (W : World) (g c : Nat), Own W g (enc D.kind).length c (enc D.kind) → Calls Try.prog 96 #[.slice (some ⟨g, 0, none⟩) (enc D.kind).length c, .int .i64 D.seq] W (PutPost W (enc D.kind ++ enc D.seq).length (enc D.kind ++ enc D.seq)) := fun W g c h => specNumB g c _ D.seq W (by omega) h
  have n3 : ∀ (W : World) (g c : Nat), Own W g (enc D.kind ++ enc D.seq).length c (enc D.kind ++ enc D.seq) → Calls Try.prog 95 #[.slice (some ⟨g, 0, none⟩) (enc D.kind ++ enc D.seq).length c, .string S] W (PutPost W (enc D.kind ++ enc D.seq ++ encT S).length (enc D.kind ++ enc D.seq ++ encT S)) := fun W g c h => specTextB g c _ S W (by rw [List.length_append]; omega) (by rw [← hS]; omega) h
  have HY : Hid (recEnc D = enc D.kind ++ enc D.seq ++ encT S) := by show _ = _; rw [recEnc_eq, hS]
  rw [← HY.out] at n3
  generalize enc D.kind ++ enc D.seq = Y2 at *
  generalize enc D.kind = Y1 at *
  generalize recEnc D = Y at *
  clear HY L1 L2 hn hok hst
  go_enter Try.func78, Try.ntmps78
  go_wp2_with fail
  obtain ⟨w0, hW0⟩ : ∃ W, w.alloc (.cells #[.int .i64 D.kind, .int .i64 D.seq, .slice a n c] 46) = W := ⟨_, rfl⟩
  rw [hW0] at B00 z00 ⊢
  clear hW0
  refine (cF w0).mono ?_
  rintro e w1 ⟨rfl, b1⟩
  have B0 := B00.trans (b1.mono B00.size)
  have z0 := z00.keep b1
  clear B00 z00 b1 cF
  have r1 := hr.1.keep B0
  have hb1 := B0.size
  have HCV : ∀ W : World, Below w1.heap.size w1 W → (convert 22 9 (.slice a n c)).run Try.prog W = .ok (.string S) W := fun W h => by rw [← hS]; exact conv_any W a n c D.body HN.out (r1.keep h)
  have bX : Below w1.heap.size w1 (w1.alloc (.cells #[] 5)).drew := ((Below.refl _ w1).alloc (Nat.le_refl _) _).drew
  have zX := z0.keep bX
  have bX' : Below w1.heap.size w1 (w1.alloc (.cells #[] 5)) := (Below.refl _ w1).alloc (Nat.le_refl _) _
  obtain ⟨q0, q1, q2⟩ := z0.thr
  obtain ⟨j0, j1, j2⟩ := (z0.keep bX').thr
  have cv0 := HCV w1 (Below.refl _ _)
  have cv1 := HCV _ (Below.refl w1.heap.size w1).drew
  have cv2 := HCV _ bX
  have cv3 := HCV _ bX'
  have HCW : Hid _ := HCV
  clear HCV
  go_upto_region 3 with fail
  go_cut [3] (fun s wx => ∃ g c, s = .slice (some ⟨g, 0, none⟩) Y.length c ∧ w1.heap.size ≤ g ∧ Own wx g Y.length c Y ∧ Below w1.heap.size w1 wx)
  case first =>
    go_region_held3 (fun W : World => W.cell? ⟨w.heap.size, 0, none⟩ = some (.int .i64 D.kind) ∧ W.cell? ⟨w.heap.size, 1, none⟩ = some (.int .i64 D.seq) ∧ W.cell? ⟨w.heap.size, 2, none⟩ = some (.slice a n c) ∧ (convert 22 9 (.slice a n c)).run Try.prog W = .ok (.string S) W) (go_keep) (first
      | (go_at_call 96; (with_reducible refine (n1 _ _).mono ?_); rintro e wA ⟨gA, cA, rfl, hgA, oA, bA⟩; have zA := zX.keep bA; have tA := bX.trans (bA.mono bX.size); have cvA := HCW.out wA tA; obtain ⟨s0, s1, s2⟩ := zA.thr)
      | (go_at_call 96; (with_reducible refine (n2 wA gA cA oA).mono ?_); rintro e wB ⟨gB, cB, rfl, hgB, oB, bB⟩; have zB := zA.keep bB; have tB := tA.trans (bB.mono tA.size); have cvB := HCW.out wB tB; obtain ⟨t0, t1, t2⟩ := zB.thr)
      | (go_at_call 95; (with_reducible refine (n3 wB gB cB oB).mono ?_); rintro e wC ⟨gC, cC, rfl, hgC, oC, bC⟩; have cvC := HCW.out wC (tB.trans (bC.mono tB.size)); obtain ⟨r0, r1, r2⟩ := (zB.keep bC).thr))
    all_goals (go_wp2_with fail; go_meet; exact ⟨gC, cC, rfl, Nat.le_trans tB.size hgC, oC, tB.trans (bC.mono tB.size)⟩)
  case rest =>
  obtain ⟨g, cg, rfl, hg, o2, T2⟩ := hcut
  obtain ⟨w2, hwc⟩ : ∃ W, W = wc := ⟨_, rfl⟩
  subst hwc
  clear n1 n2 n3 q0 q1 q2 zX bX bX' j0 j1 j2 cv0 cv1 cv2 cv3 HCW
  have hc := specCrc_any (some ⟨g, 0, none⟩) Y.length cg Y w2 rfl (by omega) o2.rd HB.out
  have hlt := sumOf_lt Y HB.out
  have hSS : Hid (summedOf Y = Y ++ sum4 (sumOf Y)) := rfl
  rw [show ((crcTo Y ^^^ 4294967295 : Nat) : Int) = sumOf Y from rfl] at hc
  generalize sumOf Y = s at *
  generalize summedOf Y = Z at *
  have hw2 := T2.size
  obtain ⟨m, hm⟩ : ∃ m, Y.length = m := ⟨_, rfl⟩
  rw [hm] at hc hYl o2 ⊢
  have HM : Hid (Y.length = m) := hm
  clear hm
  go_wp2_with fail
  refine hc.mono ?_
  rintro e w2' ⟨rfl, hw⟩
  obtain rfl := hw.symm
  clear hc
  go_wp2_with (at_builtin; refine wpList_app _ rfl (.tmp 22) (.tmp 34) rfl g m cg Y rfl (World.ownsRow.alloc o2 _) ⟨w2.heap.size, 0, none⟩ 4 4 (sum4 s) rfl rfl (four_news w2 _ _ _ _) (by omega) (w2.heap.size + 1) (by simp) ?_; intro g3 c3 w3 ho3 hg3 ha3)
  go_wp2
  go_ret
  have B3 : Below w1.heap.size w1 w3 := (kp_b (Nat.le_refl _) T2 _).grown hg3 (by simp; omega) (fun k hk => by simp at hk; omega)
  exact ⟨g3, c3, by rw [HM.out]; rfl, by omega, by rw [hSS.out, HM.out]; exact ho3, B0.trans (B3.mono hb1)⟩
/-- The bytes that are put: none, if it is not right. -/
def recPut (D : RecD) : List Int := if recOk D = true then summedOf (recEnc D) else []
theorem recPut_len (D : RecD) : (recPut D).length ≤ 400 := by
  unfold recPut
  split
  · next h =>
    have h1 := recEnc_len D
    have h2 := ((recOk_iff D).1 h).2.2.2.2
    rw [summedOf_len]
    omega
  · simp
end
end Go.Proofs.Yteggiinccjonnaa
