/-
  Joined: LdM, RecG, RecH, RowX.
-/
import Derived.Test.YtoeeblmnogeonaaGreatDoorJ26T
namespace Go.Proofs.YtoeeblmnogeonaaGreatDoor
section
open Go.RowKit
theorem wrA_keep {fs : List FtD} {Z : List Int} {spare : Int} (hz : Z.length ≤ 400) : ∀ (f : Nat) (S : LgS), LgI fs S → devB (wrA fs Z spare f S).S.ds (wrA fs Z spare f S).S.ops fs = true ∧ (wrA fs Z spare f S).S.ds.length = S.ds.length := by
  intro f
  induction f with
  | zero => intro S hI; exact ⟨hI.1, rfl⟩
  | succ f ih =>
    intro S hI
    by_cases ho : openD S.ds spare < 0
    · rw [wrA_neg ho]; exact ⟨hI.1, rfl⟩
    · obtain ⟨k, b, e, hk, hb, hn⟩ := openD_hit (devB_ch' hI.1) (show 0 ≤ openD S.ds spare by omega)
      obtain ⟨h1, h2, h3⟩ := st_ok hI hk hb hn hz
      rcases h3 with ⟨h3, h4⟩ | ⟨h3, h4, _⟩ | h3
      · rw [wrA_good e h3]; exact ⟨h1, h2⟩
      · rw [wrA_bad e h3]
        have := ih (stN fs k Z S) ⟨h1, h4⟩
        exact ⟨this.1, this.2.trans h2⟩
      · rw [wrA_off e h3]; exact ⟨h1, h2⟩
theorem rec_len {D : RecD} (h : recOk D = true) : (summedOf (recEnc D)).length ≤ 400 := by
  have := recPut_len D
  unfold recPut at this
  rw [if_pos h] at this
  exact this
theorem wrOut_keep {ds : List BkD} {ops : Int} {fs : List FtD} {down : Bool} {seq kind : Int} {body : List Int} {spare : Int} (h : devB ds ops fs = true) : devB (wrOut ds ops fs down seq kind body spare).S.ds (wrOut ds ops fs down seq kind body spare).S.ops fs = true ∧ (wrOut ds ops fs down seq kind body spare).S.ds.length = ds.length := by
  by_cases h1 : recOk ⟨kind, seq, body⟩ = false ∨ devB ds ops fs = false ∨ seq = 1000000
  · rw [wrOut_form h1]; exact ⟨h, rfl⟩
  · have h2 : recOk ⟨kind, seq, body⟩ = true := by
      cases hr : recOk ⟨kind, seq, body⟩ with
      | true => rfl
      | false => exact absurd (.inl hr) h1
    have h3 : seq ≠ 1000000 := fun e => h1 (.inr (.inr e))
    cases down with
    | true => rw [wrOut_down h2 h h3]; exact ⟨h, rfl⟩
    | false =>
      rw [wrOut_go h2 h h3]
      exact wrA_keep (rec_len h2) _ ⟨ds, ops, false⟩ ⟨h, rfl⟩
end

section
open Go.RowKit
def rcA (zs : List Int) := rdN zs (some 0)
def rcB (zs : List Int) := rdN zs (rcA zs).2
def rcC (zs : List Int) := rdT zs (rcB zs).2
/-- The record that the bytes tell. -/
def rcD (zs : List Int) : RecD := ⟨((rcA zs).1 : Int), ((rcB zs).1 : Int), strZ (rcC zs).1⟩
/-- What stands ahead of the sum. -/
def rcAh (zs : List Int) : List Int := zs.take (zs.length - 4)
/-- It is there whole, has its sum, and is right. -/
def rcOk (zs : List Int) : Bool := decide (4 ≤ zs.length) && (sumB zs && (decide ((rcC (rcAh zs)).2 = some (rcAh zs).length) && recOk (rcD (rcAh zs))))
/-- What is answered: that record, in memory of its own, or the zero one. -/
def RPost (B : Nat) (w' : World) (zs : List Int) (e : Ending) : Prop :=
  (rcOk zs = true ∧ ∃ g c, e = .returned (.tuple #[.agg #[.int .i64 ((rcA (rcAh zs)).1 : Int), .int .i64 ((rcB (rcAh zs)).1 : Int), .slice (some ⟨g, 0, none⟩) (rcC (rcAh zs)).1.size c], .bool true]) ∧ B ≤ g ∧ OwnB w' g (rcC (rcAh zs)).1.size (strZ (rcC (rcAh zs)).1)) ∨
  (rcOk zs = false ∧ e = .returned (.tuple #[.agg #[.int .i64 0, .int .i64 0, .slice none 0 0], .bool false]))
theorem rcD_len (zs : List Int) (h : zs.length ≤ 1048576) : (rcD zs).body.length ≤ 4000000 := by
  show (strZ _).length ≤ _
  rw [strZ_len]
  have := rdT_size zs (rcB zs).2
  unfold rcC
  omega
/-- What is known while a record is read: the answer's cell, the record's box. -/
structure GRc (w0 W : World) (X : Nat) (xs : Array Value) : Prop where
  below : Below w0.heap.size w0 W
  res : Blk W w0.heap.size 61 #[.int .i64 0, .int .i64 0, .slice none 0 0]
  x : Blk W X 61 xs
  hX : w0.heap.size < X
theorem GRc.kp {w0 W W' : World} {X : Nat} {xs : Array Value} (h : GRc w0 W X xs) (k : KpT W W' [61]) (hb : Below w0.heap.size w0 W') : GRc w0 W' X xs :=
  ⟨hb, h.res.kp k (by decide), h.x.kp k (by decide), h.hX⟩
theorem GRc.keep {w0 W W' : World} {X : Nat} {xs : Array Value} (h : GRc w0 W X xs) (hb : Below W.heap.size W W') : GRc w0 W' X xs :=
  h.kp (KpT.below hb _) (h.below.trans (hb.mono h.below.size))
theorem GRc.setX {w0 W : World} {X : Nat} {xs : Array Value} (h : GRc w0 W X xs) (j : Nat) (v : Value) : GRc w0 (W.setCell ⟨X, j, none⟩ v) X (xs.setIfInBounds j v) :=
  ⟨h.below.setCell (p := ⟨X, j, none⟩) (Nat.le_of_lt h.hX) v, h.res.other (Nat.ne_of_lt h.hX) j v, h.x.set j v, h.hX⟩
theorem RI.kpr {W W' : World} {H : Nat} {a : Option Addr} {n cap : Nat} {st : Option Nat} (h : RI W H a n cap st) (g : But W W' (some (H + 1)) (some (H + 2)) none) : KpT W W' [61] := by
  obtain ⟨p, _, b1, b2, _⟩ := h
  exact KpT.but g b1 b2 (by decide) (by decide)
theorem RI.setR {W : World} {X H : Nat} {xs : Array Value} {a : Option Addr} {n cap : Nat} {st : Option Nat} (h : RI W H a n cap st) (hx : Blk W X 61 xs) (j : Nat) (v : Value) : RI (W.setCell ⟨X, j, none⟩ v) H a n cap st :=
  h.kp (KpT.grown (ts := [22, 3, 4]) (gr_setC W X j v) hx (by decide)) (by decide) (by decide) (by decide)
theorem ownB_set3 {W : World} {H g n : Nat} {zs : List Int} {u0 u1 u2 : Value} (h : OwnB W g n zs) (hx : Blk W H 61 #[u0, u1, u2]) (v0 v1 v2 : Value) : OwnB (((W.setCell ⟨H, 0, none⟩ v0).setCell ⟨H, 1, none⟩ v1).setCell ⟨H, 2, none⟩ v2) g n zs :=
  h.kp (KpT.grown (ts := [5]) (set3_gr W H v0 v1 v2) hx (by decide)) (by decide)
theorem below_set3 {B : Nat} {w W : World} (h : Below B w W) (H : Nat) (hB : B ≤ H) (hw : B ≤ w.heap.size) (v0 v1 v2 : Value) : Below B w (((W.setCell ⟨H, 0, none⟩ v0).setCell ⟨H, 1, none⟩ v1).setCell ⟨H, 2, none⟩ v2) :=
  below_gro h hw (set3_gr W H v0 v1 v2) (fun k hk => by simp at hk; omega)
set_option maxRecDepth 100000 in
set_option maxHeartbeats 2000000 in
theorem getRecI_short (a : Option Addr) (n cap : Nat) (zs : List Int) (w : World) (hn : zs.length = n) (h4 : n < 4) :
    Calls Tryz.prog 122 #[.slice a n cap] w fun e w' => RPost w.heap.size w' zs e ∧ Below w.heap.size w w' := by
  have HO : Hid (rcOk zs = false) := by show _ = _; unfold rcOk; rw [decide_eq_false (by omega)]; rfl
  have B0 : Below w.heap.size w (w.alloc (.cells #[.int .i64 0, .int .i64 0, .slice none 0 0] 61)) := (Below.refl _ w).alloc (Nat.le_refl _) _
  have res0 : Blk (w.alloc (.cells #[.int .i64 0, .int .i64 0, .slice none 0 0] 61)) w.heap.size 61 #[.int .i64 0, .int .i64 0, .slice none 0 0] := Blk.new w _ _
  have h4' : ((n : Int) - 4) < 0 := by omega
  clear hn
  go_enter Tryz.func122, Tryz.ntmps122
  go_wp2_with fail
  refine (summed_no a n cap _ h4).mono ?_
  rintro e W0 ⟨rfl, hw⟩
  rw [← hw] at B0 res0
  clear hw
  have fz0 := res0.frozen 0
  have fz1 := res0.frozen 1
  have fz2 := res0.frozen 2
  obtain ⟨t0, t1, t2⟩ := res0.thr
  have HR : Hid _ := res0
  have HB : Hid _ := B0
  clear res0 B0
  go_wp2
  have zf := set3_blk HR.out (.int .i64 0) (.int .i64 0) (.slice none 0 0)
  obtain ⟨dd0, dd1, dd2⟩ := zf.thr
  refine bodyPost_ret (v := .tuple #[.agg #[.int .i64 0, .int .i64 0, .slice none 0 0], .bool false]) (by simp [results, Tryz.f122, go_sem, dd0, dd1, dd2]) rfl ?_
  exact ⟨.inr ⟨HO.out, rfl⟩, below_set3 HB.out w.heap.size (Nat.le_refl _) (Nat.le_refl _) _ _ _⟩
set_option maxRecDepth 100000 in
set_option maxHeartbeats 8000000 in
theorem getRecI_long (b off m cap : Nat) (zs ms : List Int) (w : World) (hn : zs.length = m + 4) (hms : rcAh zs = ms) (hml : ms.length = m) (hmt : zs.take m = ms) (hs : m + 4 ≤ 1048576) (hcap : m + 4 ≤ cap) (hr : Rd w (some ⟨b, off, none⟩) zs) (hb : Byt zs) :
    Calls Tryz.prog 122 #[.slice (some ⟨b, off, none⟩) (m + 4) cap] w fun e w' => RPost w.heap.size w' zs e ∧ Below w.heap.size w w' := by
  have hrm : Rd w (some ⟨b, off, none⟩) ms := by rw [← hmt]; exact hr.tk m
  have hbm : Byt ms := by rw [← hmt]; exact hb.take m
  have HO1 : Hid (rcOk zs = (sumB zs && (decide ((rcC ms).2 = some m) && recOk (rcD ms)))) := by
    show _ = _
    unfold rcOk
    rw [hms, hml, decide_eq_true (by omega)]
    rfl
  have CS : Hid _ := fun (W : World) (hB : Below w.heap.size w W) => summed_yes b off cap m zs W hn hs hcap hb (hr.keep hB)
  have CN : Hid _ := fun (H : Nat) (W : World) (st : Option Nat) (h : RI W H (some ⟨b, off, none⟩) m m st) (hB : Below w.heap.size w W) => num_any H (some ⟨b, off, none⟩) m m ms st W hml (by omega) (Nat.le_refl _) (hrm.keep hB) hbm h
  have CT : Hid _ := fun (H : Nat) (W : World) (st : Option Nat) (h : RI W H (some ⟨b, off, none⟩) m m st) (hB : Below w.heap.size w W) => text_any H (some ⟨b, off, none⟩) m m ms st W hml (by omega) (Nat.le_refl _) (hrm.keep hB) hbm h
  have CE : Hid _ := fun (H : Nat) (W : World) (st : Option Nat) (h : RI W H (some ⟨b, off, none⟩) m m st) => atEnd_any H (some ⟨b, off, none⟩) m m st W (by omega) h
  have CF : Hid _ := fun (W : World) (a : Option Addr) (c : Nat) => recOkI (rcD ms) a c W (rcD_len ms (by omega))
  unfold RPost
  rw [hms]
  have B0 : Below w.heap.size w (w.alloc (.cells #[.int .i64 0, .int .i64 0, .slice none 0 0] 61)) := (Below.refl _ w).alloc (Nat.le_refl _) _
  have res0 : Blk (w.alloc (.cells #[.int .i64 0, .int .i64 0, .slice none 0 0] 61)) w.heap.size 61 #[.int .i64 0, .int .i64 0, .slice none 0 0] := Blk.new w _ _
  generalize rcOk zs = RO at *
  generalize sumB zs = SB at *
  clear hn hr hb hrm hbm hmt hms
  go_enter Tryz.func122, Tryz.ntmps122
  go_wp2_with fail
  obtain ⟨W0, hW0⟩ : ∃ W, w.alloc (.cells #[.int .i64 0, .int .i64 0, .slice none 0 0] 61) = W := ⟨_, rfl⟩
  rw [hW0] at B0 res0 ⊢
  clear hW0
  refine (CS.out W0 B0).mono ?_
  rintro e w0 ⟨rfl, b0⟩
  have B1 := B0.trans (b0.mono B0.size)
  have res1 := res0.keep b0
  clear B0 res0 b0 CS
  cases SB with
  | false =>
    have HO : Hid (RO = false) := by show _ = _; rw [HO1.out]; rfl
    clear CN CT CE CF HO1
    have fz0 := res1.frozen 0
    have fz1 := res1.frozen 1
    have fz2 := res1.frozen 2
    obtain ⟨t0, t1, t2⟩ := res1.thr
    have HR : Hid _ := res1
    have HB : Hid _ := B1
    clear res1 B1
    go_wp2
    have zf := set3_blk HR.out (.int .i64 0) (.int .i64 0) (.slice none 0 0)
    obtain ⟨dd0, dd1, dd2⟩ := zf.thr
    refine bodyPost_ret (v := .tuple #[.agg #[.int .i64 0, .int .i64 0, .slice none 0 0], .bool false]) (by simp [results, Tryz.f122, go_sem, dd0, dd1, dd2]) rfl ?_
    exact ⟨.inr ⟨HO.out, rfl⟩, below_set3 HB.out w.heap.size (Nat.le_refl _) (Nat.le_refl _) _ _ _⟩
  | true =>
  rw [Bool.true_and] at HO1
  go_wp2_with fail
  have hRd := readingOf_any (some ⟨b, off, none⟩) m m w0
  have hHw := res1.lt
  obtain ⟨H, hH⟩ : ∃ H, w0.heap.size = H := ⟨_, rfl⟩
  rw [hH] at hRd hHw
  refine hRd.mono ?_
  rintro e w1 ⟨rfl, rs1, b1⟩
  have B2 := B1.trans (b1.mono (by omega))
  have res2 := res1.keep (show Below w0.heap.size w0 w1 by rw [hH]; exact b1)
  clear res1 B1 b1 hRd hH
  have bX : Below w1.heap.size w1 (w1.alloc (.cells #[.int .i64 0, .int .i64 0, .slice none 0 0] 61)) := (Below.refl _ w1).alloc (Nat.le_refl _) _
  have gb0 : GRc w (w1.alloc (.cells #[.int .i64 0, .int .i64 0, .slice none 0 0] 61)) w1.heap.size #[.int .i64 0, .int .i64 0, .slice none 0 0] := ⟨B2.alloc B2.size _, res2.alloc _, Blk.new w1 _ _, res2.lt⟩
  have rb0 := rs1.keep bX
  go_wp2_with fail
  obtain ⟨W1, hW1⟩ : ∃ W, w1.alloc (.cells #[.int .i64 0, .int .i64 0, .slice none 0 0] 61) = W := ⟨_, rfl⟩
  obtain ⟨X, hX⟩ : ∃ X, w1.heap.size = X := ⟨_, rfl⟩
  rw [hW1] at gb0 rb0 ⊢
  rw [hX] at gb0 ⊢
  clear hW1 bX rs1 res2 B2
  refine (CN.out H W1 (some 0) rb0 gb0.below).mono ?_
  rintro e v1 ⟨rfl, ra1, gr1⟩
  have ga1 := gb0.kp (rb0.kpr gr1) (below_but gb0.below gr1 (Nat.le_refl _) (by omega) (by omega))
  clear gb0 rb0 gr1
  obtain ⟨i1, hi1⟩ : ∃ i, (rdN ms (some 0)).1 = i := ⟨_, rfl⟩
  obtain ⟨s1, hs1⟩ : ∃ i, (rdN ms (some 0)).2 = i := ⟨_, rfl⟩
  rw [hi1]
  rw [hs1] at ra1
  have E1 : Hid ((rcA ms).1 = i1) := hi1
  have S1 : Hid ((rcA ms).2 = s1) := hs1
  clear hi1 hs1
  have c1 := ga1.x.cell 0
  have f1 := ga1.x.frozen 0
  simp at c1
  have gb1 : GRc w (v1.setCell ⟨X, 0, none⟩ (.int .i64 (i1 : Int))) X #[.int .i64 (i1 : Int), .int .i64 0, .slice none 0 0] := ga1.setX 0 _
  have rb1 := ra1.setR ga1.x 0 (.int .i64 (i1 : Int))
  go_wp2_with fail
  obtain ⟨V1, hV1⟩ : ∃ W, v1.setCell ⟨X, 0, none⟩ (.int .i64 (i1 : Int)) = W := ⟨_, rfl⟩
  rw [hV1] at gb1 rb1 ⊢
  clear hV1 c1 f1 ga1 ra1
  refine (CN.out H V1 s1 rb1 gb1.below).mono ?_
  rintro e v2 ⟨rfl, ra2, gr2⟩
  have ga2 := gb1.kp (rb1.kpr gr2) (below_but gb1.below gr2 (Nat.le_refl _) (by omega) (by omega))
  clear gb1 rb1 gr2
  obtain ⟨i2, hi2⟩ : ∃ i, (rdN ms s1).1 = i := ⟨_, rfl⟩
  obtain ⟨s2, hs2⟩ : ∃ i, (rdN ms s1).2 = i := ⟨_, rfl⟩
  rw [hi2]
  rw [hs2] at ra2
  have E2 : Hid ((rcB ms).1 = i2) := by show _ = _; unfold rcB; rw [S1.out, hi2]
  have S2 : Hid ((rcB ms).2 = s2) := by show _ = _; unfold rcB; rw [S1.out, hs2]
  clear hi2 hs2
  have c1 := ga2.x.cell 1
  have f1 := ga2.x.frozen 1
  simp at c1
  have gb2 : GRc w (v2.setCell ⟨X, 1, none⟩ (.int .i64 (i2 : Int))) X #[.int .i64 (i1 : Int), .int .i64 (i2 : Int), .slice none 0 0] := ga2.setX 1 _
  have rb2 := ra2.setR ga2.x 1 (.int .i64 (i2 : Int))
  go_wp2_with fail
  obtain ⟨V2, hV2⟩ : ∃ W, v2.setCell ⟨X, 1, none⟩ (.int .i64 (i2 : Int)) = W := ⟨_, rfl⟩
  rw [hV2] at gb2 rb2 ⊢
  clear hV2 c1 f1 ga2 ra2
  refine (CT.out H V2 s2 rb2 gb2.below).mono ?_
  rintro e v3 ⟨rfl, ra3, gr3⟩
  have ga3 := gb2.kp (rb2.kpr gr3) (below_but gb2.below gr3 (Nat.le_refl _) (by omega) (by omega))
  clear gb2 rb2 gr3
  obtain ⟨i3, hi3⟩ : ∃ i, (rdT ms s2).1 = i := ⟨_, rfl⟩
  obtain ⟨s3, hs3⟩ : ∃ i, (rdT ms s2).2 = i := ⟨_, rfl⟩
  rw [hi3]
  rw [hs3] at ra3
  have E3 : Hid ((rcC ms).1 = i3) := by show _ = _; unfold rcC; rw [S2.out, hi3]
  have S3 : Hid ((rcC ms).2 = s3) := by show _ = _; unfold rcC; rw [S2.out, hs3]
  clear hi3 hs3
  obtain ⟨cD, WD, hcv, oD', bD⟩ := conv_str v3 i3
  have hgD := ga3.below.size
  have raD := ra3.keep bD
  have gaD := ga3.keep bD
  have c1 := gaD.x.cell 2
  have f1 := gaD.x.frozen 2
  simp at c1
  have gb3 : GRc w (WD.setCell ⟨X, 2, none⟩ (.slice (some ⟨v3.heap.size, 0, none⟩) i3.size cD)) X #[.int .i64 (i1 : Int), .int .i64 (i2 : Int), .slice (some ⟨v3.heap.size, 0, none⟩) i3.size cD] := gaD.setX 2 _
  have rb3 := raD.setR gaD.x 2 (.slice (some ⟨v3.heap.size, 0, none⟩) i3.size cD)
  have ob3 : OwnB (WD.setCell ⟨X, 2, none⟩ (.slice (some ⟨v3.heap.size, 0, none⟩) i3.size cD)) v3.heap.size i3.size (strZ i3) := oD'.kp (KpT.grown (ts := [5]) (gr_setC WD X 2 _) gaD.x (by decide)) (by decide)
  clear ga3 ra3 bD oD' raD gaD
  go_upto_region 9 with fail
  obtain ⟨V3, hV3⟩ : ∃ W, WD.setCell ⟨X, 2, none⟩ (.slice (some ⟨v3.heap.size, 0, none⟩) i3.size cD) = W := ⟨_, rfl⟩
  rw [hV3] at gb3 rb3 ob3 ⊢
  clear hV3 c1 f1 hcv
  obtain ⟨G, hG⟩ : ∃ G, v3.heap.size = G := ⟨_, rfl⟩
  rw [hG] at gb3 ob3 hgD ⊢
  clear hG
  have hD := CF.out V3 (some ⟨G, 0, none⟩) cD
  obtain ⟨ok, hok⟩ : ∃ ok, recOk (rcD ms) = ok := ⟨_, rfl⟩
  rw [hok] at hD HO1
  unfold recC rcD at hD
  simp only [E1.out, E2.out, E3.out, strZ_len] at hD
  rw [S3.out] at HO1
  clear hok
  have hcE := CE.out H V3 s3 rb3
  by_cases hE : s3 = some m
  · rw [decide_eq_true hE] at hcE HO1
    rw [Bool.true_and] at HO1
    clear hE
    obtain ⟨x0, x1, x2⟩ := gb3.x.thr
    cases ok with
    | false =>
      have HO : Hid (RO = false) := HO1
      clear HO1
      go_wp2_with fail
      refine hcE.mono ?_
      rintro e vE ⟨rfl, hw⟩
      obtain rfl := hw.symm
      go_wp2_with fail
      refine hD.mono ?_
      rintro e vF ⟨rfl, bF⟩
      have gbF := gb3.keep bF
      clear gb3 ob3 bF x0 x1 x2 hcE hD rb3
      have fz0 := gbF.res.frozen 0
      have fz1 := gbF.res.frozen 1
      have fz2 := gbF.res.frozen 2
      obtain ⟨t0, t1, t2⟩ := gbF.res.thr
      have HG : Hid _ := gbF
      clear gbF
      go_wp2
      have zf := set3_blk HG.out.res (.int .i64 0) (.int .i64 0) (.slice none 0 0)
      obtain ⟨dd0, dd1, dd2⟩ := zf.thr
      refine bodyPost_ret (v := .tuple #[.agg #[.int .i64 0, .int .i64 0, .slice none 0 0], .bool false]) (by simp [results, Tryz.f122, go_sem, dd0, dd1, dd2]) rfl ?_
      exact ⟨.inr ⟨HO.out, rfl⟩, below_set3 HG.out.below w.heap.size (Nat.le_refl _) (Nat.le_refl _) _ _ _⟩
    | true =>
      have HO : Hid (RO = true) := HO1
      clear HO1
      go_wp2_with fail
      refine hcE.mono ?_
      rintro e vE ⟨rfl, hw⟩
      obtain rfl := hw.symm
      go_wp2_with fail
      refine hD.mono ?_
      rintro e vF ⟨rfl, bF⟩
      have gbF := gb3.keep bF
      have obF := ob3.keep bF
      clear gb3 ob3 bF x0 x1 x2 hcE hD rb3
      have fz0 := gbF.res.frozen 0
      have fz1 := gbF.res.frozen 1
      have fz2 := gbF.res.frozen 2
      obtain ⟨t0, t1, t2⟩ := gbF.res.thr
      obtain ⟨x0, x1, x2⟩ := gbF.x.thr
      have HF : Hid _ := ownB_set3 obF gbF.res (.int .i64 (i1 : Int)) (.int .i64 (i2 : Int)) (.slice (some ⟨G, 0, none⟩) i3.size cD)
      have HG : Hid _ := gbF
      clear gbF obF
      go_wp2
      have zf := set3_blk HG.out.res (.int .i64 (i1 : Int)) (.int .i64 (i2 : Int)) (.slice (some ⟨G, 0, none⟩) i3.size cD)
      obtain ⟨dd0, dd1, dd2⟩ := zf.thr
      refine bodyPost_ret (v := .tuple #[.agg #[.int .i64 (i1 : Int), .int .i64 (i2 : Int), .slice (some ⟨G, 0, none⟩) i3.size cD], .bool true]) (by simp [results, Tryz.f122, go_sem, dd0, dd1, dd2]) rfl ?_
      refine ⟨.inl ⟨HO.out, G, cD, by rw [E1.out, E2.out, E3.out], hgD, ?_⟩, below_set3 HG.out.below w.heap.size (Nat.le_refl _) (Nat.le_refl _) _ _ _⟩
      rw [E3.out]
      exact HF.out
  · have HO : Hid (RO = false) := by show _ = _; rw [HO1.out, decide_eq_false hE]; rfl
    rw [decide_eq_false hE] at hcE
    clear HO1 hE hD
    go_wp2_with fail
    refine hcE.mono ?_
    rintro e vE ⟨rfl, hw⟩
    obtain rfl := hw.symm
    clear hcE rb3 ob3
    have fz0 := gb3.res.frozen 0
    have fz1 := gb3.res.frozen 1
    have fz2 := gb3.res.frozen 2
    obtain ⟨t0, t1, t2⟩ := gb3.res.thr
    have HG : Hid _ := gb3
    clear gb3
    go_wp2
    have zf := set3_blk HG.out.res (.int .i64 0) (.int .i64 0) (.slice none 0 0)
    obtain ⟨dd0, dd1, dd2⟩ := zf.thr
    refine bodyPost_ret (v := .tuple #[.agg #[.int .i64 0, .int .i64 0, .slice none 0 0], .bool false]) (by simp [results, Tryz.f122, go_sem, dd0, dd1, dd2]) rfl ?_
    exact ⟨.inr ⟨HO.out, rfl⟩, below_set3 HG.out.below w.heap.size (Nat.le_refl _) (Nat.le_refl _) _ _ _⟩
end

section
open Go.RowKit
/-- The record that is answered: the one that the bytes tell, or the zero one. -/
def rcR (zs : List Int) : RecD := if rcOk zs = true then rcD (rcAh zs) else ⟨0, 0, []⟩
theorem RPost.out {B : Nat} {w' : World} {zs : List Int} {e : Ending} (h : RPost B w' zs e) : ∃ a c, e = .returned (.tuple #[.agg (recC (rcR zs) a c), .bool (rcOk zs)]) ∧ RowB w' (.slice a (rcR zs).body.length c) (rcR zs).body.length (rcR zs).body ∧ ∀ g, (Value.slice a (rcR zs).body.length c).ownBlock = some g → B ≤ g := by
  unfold rcR
  rcases h with ⟨hok, g, c, rfl, hB, ho⟩ | ⟨hok, rfl⟩
  · rw [hok]
    have hl := ho.1
    refine ⟨some ⟨g, 0, none⟩, c, ?_, ?_, fun k hk => by simp [Value.ownBlock] at hk; omega⟩
    · simp only [if_true, recC, rcD, hl]
    · simp only [if_true, rcD, hl]
      obtain ⟨_, cur, fr, h3, h4, h5, h6⟩ := ho
      exact ⟨hl, .inr ⟨g, c, cur, fr, rfl, h3, h4, h5, .inl h6⟩⟩
  · rw [hok]
    refine ⟨none, 0, rfl, RowB.nil _, fun k hk => by simp [Value.ownBlock] at hk⟩
theorem getRecIO (a : Option Addr) (n cap : Nat) (zs : List Int) (w : World) (hn : zs.length = n) (hs : n ≤ 1048576) (hcap : n ≤ cap) (hr : Rd w a zs) (hb : Byt zs) :
    Calls Tryz.prog 122 #[.slice a n cap] w fun e w' => (∃ a c, e = .returned (.tuple #[.agg (recC (rcR zs) a c), .bool (rcOk zs)]) ∧ RowB w' (.slice a (rcR zs).body.length c) (rcR zs).body.length (rcR zs).body ∧ ∀ g, (Value.slice a (rcR zs).body.length c).ownBlock = some g → w.heap.size ≤ g) ∧ Below w.heap.size w w' := by
  by_cases h4 : n < 4
  · exact (getRecI_short a n cap zs w hn h4).mono fun _ _ ⟨h1, h2⟩ => ⟨h1.out, h2⟩
  · obtain ⟨b, off, rfl, _, _⟩ := hr.lt (by intro h; rw [h] at hn; simp at hn; omega)
    obtain ⟨m, rfl⟩ : ∃ m, n = m + 4 := ⟨n - 4, by omega⟩
    have hah : rcAh zs = zs.take m := by unfold rcAh; rw [hn]; rfl
    exact (getRecI_long b off m cap zs (zs.take m) w hn hah (by rw [List.length_take]; omega) rfl hs hcap hr hb).mono fun _ _ ⟨h1, h2⟩ => ⟨h1.out, h2⟩
end

section
open Go.RowKit
theorem RowB.svs {w w' : World} {v : Value} {n : Nat} {zs : List Int} {F : List Nat} (h : RowB w v n zs) (k : Sv F w w') (hd : ∀ g, v.ownBlock = some g → g ∉ F) : RowB w' v n zs := h.block fun g hg => k.block g (h.at_ hg).1 (hd g hg)
end
end Go.Proofs.YtoeeblmnogeonaaGreatDoor
