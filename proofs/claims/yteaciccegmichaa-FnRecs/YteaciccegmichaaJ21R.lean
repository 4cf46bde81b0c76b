/-
  Joined: RecV, RecG.
-/
import Derived.Test.YteaciccegmichaaJ20R
namespace Go.Proofs.Yteaciccegmichaa
section
open Go.RowKit
/-- Drawn bytes, in memory of their own. -/
def DrawnB (w : World) (e : Ending) (w' : World) : Prop := ∃ (g m c : Nat) (ys : List Int), e = .returned (.slice (some ⟨g, 0, none⟩) m c) ∧ w.heap.size ≤ g ∧ Own w' g m c ys ∧ Byt ys ∧ m ≤ 401 ∧ Below w.heap.size w w'
theorem byt_set {zs : List Int} (h : Byt zs) (k : Nat) (v : Nat) (hv : v ≤ 255) : Byt (zs.set k (v : Int)) := by
  intro z hz
  rcases List.mem_or_eq_of_mem_set hz with h1 | h1
  · exact h z h1
  · omega
theorem own_cut {w : World} {g cap n k : Nat} {zs : List Int} (h : Own w g n cap zs) (hk : k ≤ n) : Own w g k cap (zs.take k) := by
  have hl := h.len
  refine ⟨by simp; omega, ?_⟩
  rcases h.2 with ⟨h1, _⟩ | ⟨g', c', cur, h1, h2, h3, h4, h5, h6, h7⟩
  · simp at h1
  · simp only [Value.slice.injEq] at h1
    obtain ⟨h1a, h1b, h1c⟩ := h1
    refine .inr ⟨g', c', cur, by rw [h1a, h1c], h2, h3, by omega, h5, h6, ?_⟩
    rw [List.map_take, ← h7, List.take_take]
    congr 1
    omega
theorem shl_in (y : Nat) (hy : y < 8) : IntKind.u8.wrap (2 ^ min (IntKind.u64.wrap (y : Int)).toNat 8) = 2 ^ min y 8 % 256 := by
  rcases (show y = 0 ∨ y = 1 ∨ y = 2 ∨ y = 3 ∨ y = 4 ∨ y = 5 ∨ y = 6 ∨ y = 7 by omega) with rfl | rfl | rfl | rfl | rfl | rfl | rfl | rfl <;> rfl
set_option maxRecDepth 100000 in
set_option maxHeartbeats 4000000 in
theorem drawGetRec_any (a : Option Addr) (n cap : Nat) (zs : List Int) (w : World) (hn : zs.length = n) (hs : n ≤ 1048576) (hr : Rd w a zs) (hb : Byt zs) :
    Calls Try.prog 14 #[.slice a n cap] w (DrawnB w) := by
  obtain ⟨P, hP⟩ : ∃ P, DrawnB w = P := ⟨_, rfl⟩
  have HP : Hid _ := hP
  rw [hP]
  clear hP
  go_enter Try.func14, Try.ntmps14
  go_wp2_with fail
  refine (new_step a n cap zs _ hn hs hr hb).mono ?_
  rintro e w1 ⟨rfl, s1, b1⟩
  obtain ⟨gc, hgc⟩ : ∃ g, w.heap.size = g := ⟨_, rfl⟩
  have HG : Hid (w.heap.size = gc) := hgc
  rw [hgc] at s1 ⊢
  have hs1 := s1.cur.lt
  have HB1 : Hid (Below w.heap.size w w1) := b1
  clear hr hb hn b1 hgc
  go_wp2_with fail
  refine (l12DrawS gc n cap a zs w1 s1).mono ?_
  rintro e w2 ⟨D, g, c, rfl, hg, ⟨hok, hby⟩, ho, s2, g2⟩
  have HB2 : Hid (Below w.heap.size w w2) := HB1.out.grown g2 HB1.out.size (fun m hm => by simp at hm; have := HG.out; omega)
  have hs2 := s2.cur.lt
  clear s1 g2
  go_wp2_with fail
  refine (putRecS_yes D (some ⟨g, 0, none⟩) c w2 ⟨ho.rd, hby⟩ hok).mono ?_
  rintro e w3 ⟨g1, c1, rfl, hg1, o3, b3⟩
  have hpl := recPut_len D
  have hpu : recPut D = summedOf (recEnc D) := by unfold recPut; rw [if_pos hok]
  rw [hpu] at hpl
  have hzb := summedOf_byt (recEnc_byt D)
  have hzl := o3.len
  generalize summedOf (recEnc D) = Z at o3 hpl hzb hzl
  obtain ⟨L, hL⟩ : ∃ L, (recEnc D).length + 4 = L := ⟨_, rfl⟩
  have hL4 : 4 ≤ L := by omega
  rw [hL] at o3 hzl ⊢
  rw [hzl] at hpl
  have HZ : Hid (Byt Z) := hzb
  have HZL : Hid (Z.length = L) := hzl
  have HB3 : Hid (Below w.heap.size w w3) := HB2.out.trans (b3.mono HB2.out.size)
  have s3 := s2.keep b3
  have hg1w : gc < g1 := by omega
  have hc1 : L ≤ c1 := by
    rcases o3.2 with ⟨h1, h2⟩ | ⟨g', c', cur, h1, _, _, h2, _⟩
    · simp at h1
    · simp only [Value.slice.injEq] at h1; omega
  clear ho hok hby s2 hL hpu hzb hzl b3 hg hg1
  go_wp2_with fail
  refine (below_step gc n cap a zs 5 w3 s3 (by omega) (by omega)).mono ?_
  rintro e w4 ⟨x, rfl, hx, s4, g4⟩
  have o4 := o3.kept g4 (by omega)
  have HB4 : Hid (Below w.heap.size w w4) := HB3.out.grown g4 HB3.out.size (fun m hm => by simp at hm; have := HG.out; omega)
  clear s3 g4 o3
  by_cases h0 : x = 0
  · subst h0
    have s4d : Src w4.drew gc n cap a zs := s4.keep (Below.refl _ _).drew
    have o4d := own_drew o4
    have hw4d : w4.drew.heap.size = w4.heap.size := rfl
    go_wp2
    go_region_with (first
      | (go_at_call_of 34 (Value.int IntKind.i64 8); refine (below_step gc n cap a zs 8 w5 s5 (by omega) (by omega)).mono ?_; rintro e w6 ⟨y, rfl, hy, s6, g6⟩; have o6 := o5.kept g6 (by omega); have hc6 := World.ownsRow.cellAt o6 k (by omega); have hf6 := World.ownsRow.frozenAt o6 k; rw [cells_getD _ _ (by rw [HZL.out]; exact hk), HQ.out] at hc6)
      | (refine (below_step gc n cap a zs L w4.drew s4d (by omega) (by omega)).mono ?_; rintro e w5 ⟨k, rfl, hk, s5, g5⟩; have o5 := o4d.kept g5 (by omega); obtain ⟨q, hq, hq255⟩ := byt_at HZ.out k; have HQ : Hid (Z.getD k 0 = (q : Int)) := hq; have hc5 := World.ownsRow.cellAt o5 k (by omega); have hf5 := World.ownsRow.frozenAt o5 k; rw [cells_getD _ _ (by rw [HZL.out]; exact hk), HQ.out] at hc5; clear hq))
    all_goals
      have HB6 : Hid (Below w.heap.size w w6) := by
        have h4 := HB4.out
        have hh := HG.out
        exact (h4.drew.grown g5 h4.size (fun m hm => by simp at hm; omega)).grown g6 (Nat.le_trans h4.size g5.size) (fun m hm => by simp at hm; omega)
      have hq255' : q ≤ 255 := hq255
      have HV : Hid (bits .xor .u8 (q : Int) (2 ^ min y 8 % 256) = ((q ^^^ 2 ^ y : Nat) : Int)) := flip_in q y hy hq255'
      have hfl := flip_ne q y hy hq255'
      have HO6 : Hid _ := own_stored o6 k ((q ^^^ 2 ^ y : Nat) : Int)
      have HB7 : Hid _ := HB6.out.setCell (p := ⟨g1, k, none⟩) (by show w.heap.size ≤ g1; have := HG.out; omega) (.int .u8 ((q ^^^ 2 ^ y : Nat) : Int))
      have HBS : Hid _ := byt_set HZ.out k (q ^^^ 2 ^ y) hfl.2
      go_wp2
      rw [← HP.out, shl_in y hy, HV.out]
      exact ⟨g1, L, c1, Z.set k ((q ^^^ 2 ^ y : Nat) : Int), rfl, by have := HG.out; omega, HO6.out, HBS.out, by omega, HB7.out⟩
  have hx0 : ((x : Int) == 0) = false := by simpa using h0
  by_cases h1 : x = 1
  · subst h1
    go_wp2_with fail
    refine (below_step gc n cap a zs L w4 s4 (by omega) (by omega)).mono ?_
    rintro e w5 ⟨k, rfl, hk, s5, g5⟩
    have o5 := own_cut (o4.kept g5 (by omega)) (Nat.le_of_lt hk)
    have HB5 : Hid (Below w.heap.size w w5) := HB4.out.grown g5 HB4.out.size (fun m hm => by simp at hm; have := HG.out; omega)
    have hkc : ¬ (c1 : Int) < (k : Int) := by omega
    have hk0 : ¬ (k : Int) < 0 := by omega
    have HO : Hid _ := o5
    clear o4 o5 s5 g5 s4
    go_wp2
    rw [← HP.out]
    exact ⟨g1, k, c1, Z.take k, rfl, by have := HG.out; omega, HO.out, Byt.take HZ.out k, by omega, HB5.out⟩
  have hx1 : ((x : Int) == 1) = false := by simp; omega
  by_cases h2 : x = 2
  · subst h2
    go_wp2_with (at_builtin; refine wpList_app _ rfl (.tmp 37) (.tmp 38) rfl g1 L c1 Z rfl (World.ownsRow.alloc o4 _) ⟨w4.heap.size, 0, none⟩ 1 1 [0] rfl rfl (one_news w4 _) (by omega) (w4.heap.size + 1) (by simp) ?_; intro g c w5 ho5 hg5 ha5)
    have HB5 : Hid (Below w.heap.size w w5) := (HB4.out.alloc HB4.out.size _).grown hg5 (by have := HB4.out.size; simp; omega) (fun m hm => by simp at hm; have := HG.out; omega)
    rw [← HP.out]
    refine ⟨g, L + 1, c, Z ++ [0], rfl, ?_, ho5, (fun z hz => by rcases List.mem_append.1 hz with h | h; exact HZ.out z h; simp at h; omega), by omega, HB5.out⟩
    have := HG.out
    have := HB4.out.size
    rcases ha5 with h | h <;> omega
  have hx2 : ((x : Int) == 2) = false := by simp; omega
  go_wp2
  rw [← HP.out]
  exact ⟨g1, L, c1, Z, rfl, by have := HG.out; omega, o4, HZ.out, by omega, HB4.out⟩
end

section
open Go.RowKit
def rcA (zs : List Int) := rdN zs (some 0)
def rcB (zs : List Int) := rdN zs (rcA zs).2
def rcC (zs : List Int) := rdT zs (rcB zs).2
/-- The record that the bytes tell. -/
def rcD (zs : List Int) : RecD := ⟨((rcA zs).1 : Int), ((rcB zs).1 : Int), strZ (rcC zs).1⟩
/-- What stands ahead of the sum. -/
def rcAh (zs : List Int) : List Int := zs.take (zs.length - 4)
/-- It is there whole, has its sum, and is right. -/
def rcOk (zs : List Int) : Bool := decide (4 ≤ zs.length) && (sumB zs && (decide ((rcC (rcAh zs)).2 = some (rcAh zs).length) && recOk (rcD (rcAh zs))))
/-- What is answered: that record, in memory of its own, or the zero one. -/
def RPost (B : Nat) (w' : World) (zs : List Int) (e : Ending) : Prop :=
  (rcOk zs = true ∧ ∃ g c, e = .returned (.tuple #[.agg #[.int .i64 ((rcA (rcAh zs)).1 : Int), .int .i64 ((rcB (rcAh zs)).1 : Int), .slice (some ⟨g, 0, none⟩) (rcC (rcAh zs)).1.size c], .bool true]) ∧ B ≤ g ∧ OwnB w' g (rcC (rcAh zs)).1.size (strZ (rcC (rcAh zs)).1)) ∨
  (rcOk zs = false ∧ e = .returned (.tuple #[.agg #[.int .i64 0, .int .i64 0, .slice none 0 0], .bool false]))
theorem rcD_len (zs : List Int) (h : zs.length ≤ 1048576) : (rcD zs).body.length ≤ 4000000 := by
  show (strZ _).length ≤ _
  rw [strZ_len]
  have := rdT_size zs (rcB zs).2
  unfold rcC
  omega
/-- What is known while a record is read: the answer's cell, the record's box. -/
structure GRc (w0 W : World) (X : Nat) (xs : Array Value) : Prop where
  below : Below w0.heap.size w0 W
  res : Blk W w0.heap.size 25 #[.int .i64 0, .int .i64 0, .slice none 0 0]
  x : Blk W X 25 xs
  hX : w0.heap.size < X
theorem GRc.kp {w0 W W' : World} {X : Nat} {xs : Array Value} (h : GRc w0 W X xs) (k : KpT W W' [25]) (hb : Below w0.heap.size w0 W') : GRc w0 W' X xs :=
  ⟨hb, h.res.kp k (by decide), h.x.kp k (by decide), h.hX⟩
theorem GRc.keep {w0 W W' : World} {X : Nat} {xs : Array Value} (h : GRc w0 W X xs) (hb : Below W.heap.size W W') : GRc w0 W' X xs :=
  h.kp (KpT.below hb _) (h.below.trans (hb.mono h.below.size))
theorem GRc.setX {w0 W : World} {X : Nat} {xs : Array Value} (h : GRc w0 W X xs) (j : Nat) (v : Value) : GRc w0 (W.setCell ⟨X, j, none⟩ v) X (xs.setIfInBounds j v) :=
  ⟨h.below.setCell (p := ⟨X, j, none⟩) (Nat.le_of_lt h.hX) v, h.res.other (Nat.ne_of_lt h.hX) j v, h.x.set j v, h.hX⟩
theorem RS.kpr {W W' : World} {R : Nat} {a : Option Addr} {n cap : Nat} {st : Option Nat} (h : RS W R a n cap st) (g : W.grownBy W' (some R)) : KpT W W' [25] := by
  obtain ⟨p, hb, _⟩ := h
  exact KpT.grown g hb (by decide)
theorem RS.setR {W : World} {X R : Nat} {xs : Array Value} {a : Option Addr} {n cap : Nat} {st : Option Nat} (h : RS W R a n cap st) (hx : Blk W X 25 xs) (j : Nat) (v : Value) : RS (W.setCell ⟨X, j, none⟩ v) R a n cap st :=
  h.kp (KpT.grown (ts := [60]) (gr_setC W X j v) hx (by decide)) (by decide)
theorem RI.kpr {W W' : World} {H : Nat} {a : Option Addr} {n cap : Nat} {st : Option Nat} (h : RI W H a n cap st) (g : But W W' (some (H + 1)) (some (H + 2)) none) : KpT W W' [25] := by
  obtain ⟨p, _, b1, b2, _⟩ := h
  exact KpT.but g b1 b2 (by decide) (by decide)
theorem RI.setR {W : World} {X H : Nat} {xs : Array Value} {a : Option Addr} {n cap : Nat} {st : Option Nat} (h : RI W H a n cap st) (hx : Blk W X 25 xs) (j : Nat) (v : Value) : RI (W.setCell ⟨X, j, none⟩ v) H a n cap st :=
  h.kp (KpT.grown (ts := [22, 3, 4]) (gr_setC W X j v) hx (by decide)) (by decide) (by decide) (by decide)
theorem ownB_set3 {W : World} {H g n : Nat} {zs : List Int} {u0 u1 u2 : Value} (h : OwnB W g n zs) (hx : Blk W H 25 #[u0, u1, u2]) (v0 v1 v2 : Value) : OwnB (((W.setCell ⟨H, 0, none⟩ v0).setCell ⟨H, 1, none⟩ v1).setCell ⟨H, 2, none⟩ v2) g n zs :=
  h.kp (KpT.grown (ts := [5]) (set3_gr W H v0 v1 v2) hx (by decide)) (by decide)
theorem below_set3 {B : Nat} {w W : World} (h : Below B w W) (H : Nat) (hB : B ≤ H) (hw : B ≤ w.heap.size) (v0 v1 v2 : Value) : Below B w (((W.setCell ⟨H, 0, none⟩ v0).setCell ⟨H, 1, none⟩ v1).setCell ⟨H, 2, none⟩ v2) :=
  below_gro h hw (set3_gr W H v0 v1 v2) (fun k hk => by simp at hk; omega)
set_option maxRecDepth 100000 in
set_option maxHeartbeats 2000000 in
theorem getRecI_short (a : Option Addr) (n cap : Nat) (zs : List Int) (w : World) (hn : zs.length = n) (h4 : n < 4) :
    Calls Try.prog 11 #[.slice a n cap] w fun e w' => RPost w.heap.size w' zs e ∧ Below w.heap.size w w' := by
  have HO : Hid (rcOk zs = false) := by show _ = _; unfold rcOk; rw [decide_eq_false (by omega)]; rfl
  have B0 : Below w.heap.size w (w.alloc (.cells #[.int .i64 0, .int .i64 0, .slice none 0 0] 25)) := (Below.refl _ w).alloc (Nat.le_refl _) _
  have res0 : Blk (w.alloc (.cells #[.int .i64 0, .int .i64 0, .slice none 0 0] 25)) w.heap.size 25 #[.int .i64 0, .int .i64 0, .slice none 0 0] := Blk.new w _ _
  have h4' : ((n : Int) - 4) < 0 := by omega
  clear hn
  go_enter Try.func11, Try.ntmps11
  go_wp2_with fail
  refine (summed_no a n cap _ h4).mono ?_
  rintro e W0 ⟨rfl, hw⟩
  rw [← hw] at B0 res0
  clear hw
  have fz0 := res0.frozen 0
  have fz1 := res0.frozen 1
  have fz2 := res0.frozen 2
  obtain ⟨t0, t1, t2⟩ := res0.thr
  have HR : Hid _ := res0
  have HB : Hid _ := B0
  clear res0 B0
  go_wp2
  have zf := set3_blk HR.out (.int .i64 0) (.int .i64 0) (.slice none 0 0)
  obtain ⟨dd0, dd1, dd2⟩ := zf.thr
  refine bodyPost_ret (v := .tuple #[.agg #[.int .i64 0, .int .i64 0, .slice none 0 0], .bool false]) (by simp [results, Try.f11, go_sem, dd0, dd1, dd2]) rfl ?_
  exact ⟨.inr ⟨HO.out, rfl⟩, below_set3 HB.out w.heap.size (Nat.le_refl _) (Nat.le_refl _) _ _ _⟩
set_option maxRecDepth 100000 in
set_option maxHeartbeats 2000000 in
theorem getRecS_short (a : Option Addr) (n cap : Nat) (zs : List Int) (w : World) (hn : zs.length = n) (h4 : n < 4) :
    Calls Try.prog 15 #[.slice a n cap] w fun e w' => RPost w.heap.size w' zs e ∧ Below w.heap.size w w' := by
  have HO : Hid (rcOk zs = false) := by show _ = _; unfold rcOk; rw [decide_eq_false (by omega)]; rfl
  have B0 : Below w.heap.size w (w.alloc (.cells #[.int .i64 0, .int .i64 0, .slice none 0 0] 25)) := (Below.refl _ w).alloc (Nat.le_refl _) _
  have h4' : ((n : Int) - 4) < 0 := by omega
  clear hn
  go_enter Try.func15, Try.ntmps15
  go_wp2_with fail
  have HB : Hid _ := B0
  refine bodyPost_ret (v := .tuple #[.agg #[.int .i64 0, .int .i64 0, .slice none 0 0], .bool false]) (by simp [results, Try.f15, go_sem]) rfl ?_
  exact ⟨.inr ⟨HO.out, rfl⟩, HB.out⟩
set_option maxRecDepth 100000 in
set_option maxHeartbeats 8000000 in
theorem getRecI_long (b off m cap : Nat) (zs ms : List Int) (w : World) (hn : zs.length = m + 4) (hms : rcAh zs = ms) (hml : ms.length = m) (hmt : zs.take m = ms) (hs : m + 4 ≤ 1048576) (hcap : m + 4 ≤ cap) (hr : Rd w (some ⟨b, off, none⟩) zs) (hb : Byt zs) :
    Calls Try.prog 11 #[.slice (some ⟨b, off, none⟩) (m + 4) cap] w fun e w' => RPost w.heap.size w' zs e ∧ Below w.heap.size w w' := by
  have hrm : Rd w (some ⟨b, off, none⟩) ms := by rw [← hmt]; exact hr.tk m
  have hbm : Byt ms := by rw [← hmt]; exact hb.take m
  have HO1 : Hid (rcOk zs = (sumB zs && (decide ((rcC ms).2 = some m) && recOk (rcD ms)))) := by
    show _ = _
    unfold rcOk
    rw [hms, hml, decide_eq_true (by omega)]
    rfl
  have CS : Hid _ := fun (W : World) (hB : Below w.heap.size w W) => summed_yes b off cap m zs W hn hs hcap hb (hr.keep hB)
  have CN : Hid _ := fun (H : Nat) (W : World) (st : Option Nat) (h : RI W H (some ⟨b, off, none⟩) m m st) (hB : Below w.heap.size w W) => num_any H (some ⟨b, off, none⟩) m m ms st W hml (by omega) (Nat.le_refl _) (hrm.keep hB) hbm h
  have CT : Hid _ := fun (H : Nat) (W : World) (st : Option Nat) (h : RI W H (some ⟨b, off, none⟩) m m st) (hB : Below w.heap.size w W) => text_any H (some ⟨b, off, none⟩) m m ms st W hml (by omega) (Nat.le_refl _) (hrm.keep hB) hbm h
  have CE : Hid _ := fun (H : Nat) (W : World) (st : Option Nat) (h : RI W H (some ⟨b, off, none⟩) m m st) => atEnd_any H (some ⟨b, off, none⟩) m m st W (by omega) h
  have CF : Hid _ := fun (W : World) (a : Option Addr) (c : Nat) => recOkI (rcD ms) a c W (rcD_len ms (by omega))
  unfold RPost
  rw [hms]
  have B0 : Below w.heap.size w (w.alloc (.cells #[.int .i64 0, .int .i64 0, .slice none 0 0] 25)) := (Below.refl _ w).alloc (Nat.le_refl _) _
  have res0 : Blk (w.alloc (.cells #[.int .i64 0, .int .i64 0, .slice none 0 0] 25)) w.heap.size 25 #[.int .i64 0, .int .i64 0, .slice none 0 0] := Blk.new w _ _
  generalize rcOk zs = RO at *
  generalize sumB zs = SB at *
  clear hn hr hb hrm hbm hmt hms
  go_enter Try.func11, Try.ntmps11
  go_wp2_with fail
  obtain ⟨W0, hW0⟩ : ∃ W, w.alloc (.cells #[.int .i64 0, .int .i64 0, .slice none 0 0] 25) = W := ⟨_, rfl⟩
  rw [hW0] at B0 res0 ⊢
  clear hW0
  refine (CS.out W0 B0).mono ?_
  rintro e w0 ⟨rfl, b0⟩
  have B1 := B0.trans (b0.mono B0.size)
  have res1 := res0.keep b0
  clear B0 res0 b0 CS
  cases SB with
  | false =>
    have HO : Hid (RO = false) := by show _ = _; rw [HO1.out]; rfl
    clear CN CT CE CF HO1
    have fz0 := res1.frozen 0
    have fz1 := res1.frozen 1
    have fz2 := res1.frozen 2
    obtain ⟨t0, t1, t2⟩ := res1.thr
    have HR : Hid _ := res1
    have HB : Hid _ := B1
    clear res1 B1
    go_wp2
    have zf := set3_blk HR.out (.int .i64 0) (.int .i64 0) (.slice none 0 0)
    obtain ⟨dd0, dd1, dd2⟩ := zf.thr
    refine bodyPost_ret (v := .tuple #[.agg #[.int .i64 0, .int .i64 0, .slice none 0 0], .bool false]) (by simp [results, Try.f11, go_sem, dd0, dd1, dd2]) rfl ?_
    exact ⟨.inr ⟨HO.out, rfl⟩, below_set3 HB.out w.heap.size (Nat.le_refl _) (Nat.le_refl _) _ _ _⟩
  | true =>
  rw [Bool.true_and] at HO1
  go_wp2_with fail
  have hRd := readingOf_any (some ⟨b, off, none⟩) m m w0
  have hHw := res1.lt
  obtain ⟨H, hH⟩ : ∃ H, w0.heap.size = H := ⟨_, rfl⟩
  rw [hH] at hRd hHw
  refine hRd.mono ?_
  rintro e w1 ⟨rfl, rs1, b1⟩
  have B2 := B1.trans (b1.mono (by omega))
  have res2 := res1.keep (show Below w0.heap.size w0 w1 by rw [hH]; exact b1)
  clear res1 B1 b1 hRd hH
  have bX : Below w1.heap.size w1 (w1.alloc (.cells #[.int .i64 0, .int .i64 0, .slice none 0 0] 25)) := (Below.refl _ w1).alloc (Nat.le_refl _) _
  have gb0 : GRc w (w1.alloc (.cells #[.int .i64 0, .int .i64 0, .slice none 0 0] 25)) w1.heap.size #[.int .i64 0, .int .i64 0, .slice none 0 0] := ⟨B2.alloc B2.size _, res2.alloc _, Blk.new w1 _ _, res2.lt⟩
  have rb0 := rs1.keep bX
  go_wp2_with fail
  obtain ⟨W1, hW1⟩ : ∃ W, w1.alloc (.cells #[.int .i64 0, .int .i64 0, .slice none 0 0] 25) = W := ⟨_, rfl⟩
  obtain ⟨X, hX⟩ : ∃ X, w1.heap.size = X := ⟨_, rfl⟩
  rw [hW1] at gb0 rb0 ⊢
  rw [hX] at gb0 ⊢
  clear hW1 bX rs1 res2 B2
  refine (CN.out H W1 (some 0) rb0 gb0.below).mono ?_
  rintro e v1 ⟨rfl, ra1, gr1⟩
  have ga1 := gb0.kp (rb0.kpr gr1) (below_but gb0.below gr1 (Nat.le_refl _) (by omega) (by omega))
  clear gb0 rb0 gr1
  obtain ⟨i1, hi1⟩ : ∃ i, (rdN ms (some 0)).1 = i := ⟨_, rfl⟩
  obtain ⟨s1, hs1⟩ : ∃ i, (rdN ms (some 0)).2 = i := ⟨_, rfl⟩
  rw [hi1]
  rw [hs1] at ra1
  have E1 : Hid ((rcA ms).1 = i1) := hi1
  have S1 : Hid ((rcA ms).2 = s1) := hs1
  clear hi1 hs1
  have c1 := ga1.x.cell 0
  have f1 := ga1.x.frozen 0
  simp at c1
  have gb1 : GRc w (v1.setCell ⟨X, 0, none⟩ (.int .i64 (i1 : Int))) X #[.int .i64 (i1 : Int), .int .i64 0, .slice none 0 0] := ga1.setX 0 _
  have rb1 := ra1.setR ga1.x 0 (.int .i64 (i1 : Int))
  go_wp2_with fail
  obtain ⟨V1, hV1⟩ : ∃ W, v1.setCell ⟨X, 0, none⟩ (.int .i64 (i1 : Int)) = W := ⟨_, rfl⟩
  rw [hV1] at gb1 rb1 ⊢
  clear hV1 c1 f1 ga1 ra1
  refine (CN.out H V1 s1 rb1 gb1.below).mono ?_
  rintro e v2 ⟨rfl, ra2, gr2⟩
  have ga2 := gb1.kp (rb1.kpr gr2) (below_but gb1.below gr2 (Nat.le_refl _) (by omega) (by omega))
  clear gb1 rb1 gr2
  obtain ⟨i2, hi2⟩ : ∃ i, (rdN ms s1).1 = i := ⟨_, rfl⟩
  obtain ⟨s2, hs2⟩ : ∃ i, (rdN ms s1).2 = i := ⟨_, rfl⟩
  rw [hi2]
  rw [hs2] at ra2
  have E2 : Hid ((rcB ms).1 = i2) := by show _ = _; unfold rcB; rw [S1.out, hi2]
  have S2 : Hid ((rcB ms).2 = s2) := by show _ = _; unfold rcB; rw [S1.out, hs2]
  clear hi2 hs2
  have c1 := ga2.x.cell 1
  have f1 := ga2.x.frozen 1
  simp at c1
  have gb2 : GRc w (v2.setCell ⟨X, 1, none⟩ (.int .i64 (i2 : Int))) X #[.int .i64 (i1 : Int), .int .i64 (i2 : Int), .slice none 0 0] := ga2.setX 1 _
  have rb2 := ra2.setR ga2.x 1 (.int .i64 (i2 : Int))
  go_wp2_with fail
  obtain ⟨V2, hV2⟩ : ∃ W, v2.setCell ⟨X, 1, none⟩ (.int .i64 (i2 : Int)) = W := ⟨_, rfl⟩
  rw [hV2] at gb2 rb2 ⊢
  clear hV2 c1 f1 ga2 ra2
  refine (CT.out H V2 s2 rb2 gb2.below).mono ?_
  rintro e v3 ⟨rfl, ra3, gr3⟩
  have ga3 := gb2.kp (rb2.kpr gr3) (below_but gb2.below gr3 (Nat.le_refl _) (by omega) (by omega))
  clear gb2 rb2 gr3
  obtain ⟨i3, hi3⟩ : ∃ i, (rdT ms s2).1 = i := ⟨_, rfl⟩
  obtain ⟨s3, hs3⟩ : ∃ i, (rdT ms s2).2 = i := ⟨_, rfl⟩
  rw [hi3]
  rw [hs3] at ra3
  have E3 : Hid ((rcC ms).1 = i3) := by show _ = _; unfold rcC; rw [S2.out, hi3]
  have S3 : Hid ((rcC ms).2 = s3) := by show _ = _; unfold rcC; rw [S2.out, hs3]
  clear hi3 hs3
  obtain ⟨cD, WD, hcv, oD', bD⟩ := conv_str v3 i3
  have hgD := ga3.below.size
  have raD := ra3.keep bD
  have gaD := ga3.keep bD
  have c1 := gaD.x.cell 2
  have f1 := gaD.x.frozen 2
  simp at c1
  have gb3 : GRc w (WD.setCell ⟨X, 2, none⟩ (.slice (some ⟨v3.heap.size, 0, none⟩) i3.size cD)) X #[.int .i64 (i1 : Int), .int .i64 (i2 : Int), .slice (some ⟨v3.heap.size, 0, none⟩) i3.size cD] := gaD.setX 2 _
  have rb3 := raD.setR gaD.x 2 (.slice (some ⟨v3.heap.size, 0, none⟩) i3.size cD)
  have ob3 : OwnB (WD.setCell ⟨X, 2, none⟩ (.slice (some ⟨v3.heap.size, 0, none⟩) i3.size cD)) v3.heap.size i3.size (strZ i3) := oD'.kp (KpT.grown (ts := [5]) (gr_setC WD X 2 _) gaD.x (by decide)) (by decide)
  clear ga3 ra3 bD oD' raD gaD
  go_upto_region 9 with fail
  obtain ⟨V3, hV3⟩ : ∃ W, WD.setCell ⟨X, 2, none⟩ (.slice (some ⟨v3.heap.size, 0, none⟩) i3.size cD) = W := ⟨_, rfl⟩
  rw [hV3] at gb3 rb3 ob3 ⊢
  clear hV3 c1 f1 hcv
  obtain ⟨G, hG⟩ : ∃ G, v3.heap.size = G := ⟨_, rfl⟩
  rw [hG] at gb3 ob3 hgD ⊢
  clear hG
  have hD := CF.out V3 (some ⟨G, 0, none⟩) cD
  obtain ⟨ok, hok⟩ : ∃ ok, recOk (rcD ms) = ok := ⟨_, rfl⟩
  rw [hok] at hD HO1
  unfold recC rcD at hD
  simp only [E1.out, E2.out, E3.out, strZ_len] at hD
  rw [S3.out] at HO1
  clear hok
  have hcE := CE.out H V3 s3 rb3
  by_cases hE : s3 = some m
  · rw [decide_eq_true hE] at hcE HO1
    rw [Bool.true_and] at HO1
    clear hE
    obtain ⟨x0, x1, x2⟩ := gb3.x.thr
    cases ok with
    | false =>
      have HO : Hid (RO = false) := HO1
      clear HO1
      go_wp2_with fail
      refine hcE.mono ?_
      rintro e vE ⟨rfl, hw⟩
      obtain rfl := hw.symm
      go_wp2_with fail
      refine hD.mono ?_
      rintro e vF ⟨rfl, bF⟩
      have gbF := gb3.keep bF
      clear gb3 ob3 bF x0 x1 x2 hcE hD rb3
      have fz0 := gbF.res.frozen 0
      have fz1 := gbF.res.frozen 1
      have fz2 := gbF.res.frozen 2
      obtain ⟨t0, t1, t2⟩ := gbF.res.thr
      have HG : Hid _ := gbF
      clear gbF
      go_wp2
      have zf := set3_blk HG.out.res (.int .i64 0) (.int .i64 0) (.slice none 0 0)
      obtain ⟨dd0, dd1, dd2⟩ := zf.thr
      refine bodyPost_ret (v := .tuple #[.agg #[.int .i64 0, .int .i64 0, .slice none 0 0], .bool false]) (by simp [results, Try.f11, go_sem, dd0, dd1, dd2]) rfl ?_
      exact ⟨.inr ⟨HO.out, rfl⟩, below_set3 HG.out.below w.heap.size (Nat.le_refl _) (Nat.le_refl _) _ _ _⟩
    | true =>
      have HO : Hid (RO = true) := HO1
      clear HO1
      go_wp2_with fail
      refine hcE.mono ?_
      rintro e vE ⟨rfl, hw⟩
      obtain rfl := hw.symm
      go_wp2_with fail
      refine hD.mono ?_
      rintro e vF ⟨rfl, bF⟩
      have gbF := gb3.keep bF
      have obF := ob3.keep bF
      clear gb3 ob3 bF x0 x1 x2 hcE hD rb3
      have fz0 := gbF.res.frozen 0
      have fz1 := gbF.res.frozen 1
      have fz2 := gbF.res.frozen 2
      obtain ⟨t0, t1, t2⟩ := gbF.res.thr
      obtain ⟨x0, x1, x2⟩ := gbF.x.thr
      have HF : Hid _ := ownB_set3 obF gbF.res (.int .i64 (i1 : Int)) (.int .i64 (i2 : Int)) (.slice (some ⟨G, 0, none⟩) i3.size cD)
      have HG : Hid _ := gbF
      clear gbF obF
      go_wp2
      have zf := set3_blk HG.out.res (.int .i64 (i1 : Int)) (.int .i64 (i2 : Int)) (.slice (some ⟨G, 0, none⟩) i3.size cD)
      obtain ⟨dd0, dd1, dd2⟩ := zf.thr
      refine bodyPost_ret (v := .tuple #[.agg #[.int .i64 (i1 : Int), .int .i64 (i2 : Int), .slice (some ⟨G, 0, none⟩) i3.size cD], .bool true]) (by simp [results, Try.f11, go_sem, dd0, dd1, dd2]) rfl ?_
      refine ⟨.inl ⟨HO.out, G, cD, by rw [E1.out, E2.out, E3.out], hgD, ?_⟩, below_set3 HG.out.below w.heap.size (Nat.le_refl _) (Nat.le_refl _) _ _ _⟩
      rw [E3.out]
      exact HF.out
  · have HO : Hid (RO = false) := by show _ = _; rw [HO1.out, decide_eq_false hE]; rfl
    rw [decide_eq_false hE] at hcE
    clear HO1 hE hD
    go_wp2_with fail
    refine hcE.mono ?_
    rintro e vE ⟨rfl, hw⟩
    obtain rfl := hw.symm
    clear hcE rb3 ob3
    have fz0 := gb3.res.frozen 0
    have fz1 := gb3.res.frozen 1
    have fz2 := gb3.res.frozen 2
    obtain ⟨t0, t1, t2⟩ := gb3.res.thr
    have HG : Hid _ := gb3
    clear gb3
    go_wp2
    have zf := set3_blk HG.out.res (.int .i64 0) (.int .i64 0) (.slice none 0 0)
    obtain ⟨dd0, dd1, dd2⟩ := zf.thr
    refine bodyPost_ret (v := .tuple #[.agg #[.int .i64 0, .int .i64 0, .slice none 0 0], .bool false]) (by simp [results, Try.f11, go_sem, dd0, dd1, dd2]) rfl ?_
    exact ⟨.inr ⟨HO.out, rfl⟩, below_set3 HG.out.below w.heap.size (Nat.le_refl _) (Nat.le_refl _) _ _ _⟩
end
end Go.Proofs.Yteaciccegmichaa
