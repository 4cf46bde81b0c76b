/-
  Joined: SameI, SameT.
-/
import Derived.Test.YtfjlemnohjnkhaaGreatInoOkF
import Derived.Test.YtfjlemnohjnkhaaGreatJ33F
namespace Go.Proofs.YtfjlemnohjnkhaaGreat
section
open Go.RowKit
/-- Both inodes are the same, part by part. -/
def sameOf (D E : InoD) : Bool := (D.ino == E.ino) && ((D.kind == E.kind) && ((D.links == E.links) && (decide (D.data = E.data) && (decide (D.ents = E.ents) && decide (D.attrs = E.attrs)))))
theorem two_boxes (w : World) (D E : InoD) (a1 a2 a3 b1 b2 b3 : Option Addr) (c1 c2 c3 d1 d2 d3 : Nat) :
    ∃ W, (w.alloc (.cells #[.int .i64 D.ino, .int .i64 D.kind, .int .i64 D.links, .slice a1 D.data.length c1, .slice a2 D.ents.length c2, .slice a3 D.attrs.length c3] 85)).alloc (.cells #[.int .i64 E.ino, .int .i64 E.kind, .int .i64 E.links, .slice b1 E.data.length d1, .slice b2 E.ents.length d2, .slice b3 E.attrs.length d3] 85) = W ∧ Below w.heap.size w W ∧ Box W w.heap.size 85 D a1 c1 a2 c2 a3 c3 ∧ Box W (w.heap.size + 1) 85 E b1 d1 b2 d2 b3 d3 := by
  refine ⟨_, rfl, ((Below.refl _ w).alloc (Nat.le_refl _) _).alloc (by simp) _, (Blk.new w 85 _).alloc _, ?_⟩
  have := Blk.new (w.alloc (.cells #[.int .i64 D.ino, .int .i64 D.kind, .int .i64 D.links, .slice a1 D.data.length c1, .slice a2 D.ents.length c2, .slice a3 D.attrs.length c3] 85)) 85 #[.int .i64 E.ino, .int .i64 E.kind, .int .i64 E.links, .slice b1 E.data.length d1, .slice b2 E.ents.length d2, .slice b3 E.attrs.length d3]
  simp only [World.size_alloc] at this
  exact this
set_option maxHeartbeats 2000000 in
theorem sameI (D E : InoD) (a1 a2 a3 b1 b2 b3 : Option Addr) (c1 c2 c3 d1 d2 d3 : Nat) (w : World) (hD : InoSmall D) (hE : InoSmall E) (hr : InoRd w D a1 a2 a3) (hr' : InoRd w E b1 b2 b3) :
    Calls Tryz.prog 121 #[inoV D a1 c1 a2 c2 a3 c3, inoV E b1 d1 b2 d2 b3 d3] w fun e w' => e = .returned (.bool (sameOf D E)) ∧ Below w.heap.size w w' := by
  obtain ⟨W0, hW0, B0, z0, y0⟩ := two_boxes w D E a1 a2 a3 b1 b2 b3 c1 c2 c3 d1 d2 d3
  have HW0 : Hid _ := hW0
  have i1 := hD.data
  have i2 := hD.ents
  have i3 := hD.attrs
  have j1 := hE.data
  have j2 := hE.ents
  have j3 := hE.attrs
  clear hW0
  unfold inoV
  cases h1 : (D.ino == E.ino) with
  | false =>
    have hf : Hid (sameOf D E = false) := by show _ = _; unfold sameOf; rw [h1]; rfl
    go_enter Tryz.func121, Tryz.ntmps121
    go_wp2
    go_ret
    exact ⟨ret_bool hf.out.symm, by rw [HW0.out]; exact B0⟩
  | true =>
  cases h2 : (D.kind == E.kind) with
  | false =>
    have hf : Hid (sameOf D E = false) := by show _ = _; unfold sameOf; rw [h1, h2]; rfl
    go_enter Tryz.func121, Tryz.ntmps121
    go_wp2
    go_ret
    exact ⟨ret_bool hf.out.symm, by rw [HW0.out]; exact B0⟩
  | true =>
  cases h3 : (D.links == E.links) with
  | false =>
    have hf : Hid (sameOf D E = false) := by show _ = _; unfold sameOf; rw [h1, h2, h3]; rfl
    go_enter Tryz.func121, Tryz.ntmps121
    go_wp2
    go_ret
    exact ⟨ret_bool hf.out.symm, by rw [HW0.out]; exact B0⟩
  | true =>
  have hf : Hid (sameOf D E = (decide (D.data = E.data) && (decide (D.ents = E.ents) && decide (D.attrs = E.attrs)))) := by show _ = _; unfold sameOf; rw [h1, h2, h3]; rfl
  go_enter Tryz.func121, Tryz.ntmps121
  go_wp2_with fail
  rw [HW0.out]
  refine (bytesEq_any a1 b1 _ _ c1 d1 D.data E.data W0 rfl rfl (hr.data.keep B0) (hr'.data.keep B0) hr.byt hr'.byt).mono ?_
  rintro e w1 ⟨rfl, rfl⟩
  obtain ⟨q0, q1, q2, q3, q4, q5⟩ := z0.six
  obtain ⟨p0, p1, p2, p3, p4, p5⟩ := y0.six
  cases h4 : decide (D.data = E.data) with
  | false =>
    go_wp2
    go_ret
    exact ⟨ret_bool (by rw [hf.out, h4]; rfl), B0⟩
  | true =>
  go_wp2_with fail
  refine (eqSE_any a2 b2 _ _ c2 d2 D.ents E.ents w1 rfl rfl (by omega) (by omega) (hr.ents.keep B0) (hr'.ents.keep B0)).mono ?_
  rintro e w2 ⟨rfl, hdr⟩
  have t2 : Below w1.heap.size w1 w2 := drewN_below hdr
  have B2 := B0.trans (t2.mono B0.size)
  have z2 := z0.keep t2
  have y2 := y0.keep t2
  clear q0 q1 q2 q3 q4 q5 p0 p1 p2 p3 p4 p5 hdr
  obtain ⟨q0, q1, q2, q3, q4, q5⟩ := z2.six
  obtain ⟨p0, p1, p2, p3, p4, p5⟩ := y2.six
  cases h5 : decide (D.ents = E.ents) with
  | false =>
    go_wp2
    go_ret
    exact ⟨ret_bool (by rw [hf.out, h4, h5]; rfl), B2⟩
  | true =>
  go_wp2_with fail
  refine (eqSA_any a3 b3 _ _ c3 d3 D.attrs E.attrs w2 rfl rfl (by omega) (by omega) (hr.attrs.keep B2) (hr'.attrs.keep B2)).mono ?_
  rintro e w3 ⟨rfl, hdr⟩
  have t3 : Below w2.heap.size w2 w3 := drewN_below hdr
  have B3 := B2.trans (t3.mono B2.size)
  clear hdr
  go_wp2
  go_ret
  exact ⟨ret_bool (by rw [hf.out, h4, h5]; rfl), B3⟩
end

section
open Go.RowKit
/-- All are the same, one by one. -/
def sameAll : List InoD → List InoD → Bool
  | [], [] => true
  | d :: ds, e :: es => sameOf d e && sameAll ds es
  | _, _ => false
theorem sameAll_len {ds es : List InoD} (h : ds.length ≠ es.length) : sameAll ds es = false := by
  induction ds generalizing es with
  | nil => cases es with
    | nil => simp at h
    | cons e es => rfl
  | cons d ds ih => cases es with
    | nil => rfl
    | cons e es =>
      simp only [sameAll]
      rw [ih (by simpa using h), Bool.and_false]
theorem drop_at {α : Type} {l : List α} {k : Nat} {x : α} (h : l[k]? = some x) : l.drop k = x :: l.drop (k + 1) := by
  obtain ⟨hk, rfl⟩ := List.getElem?_eq_some_iff.1 h
  exact List.drop_eq_getElem_cons hk
set_option maxHeartbeats 3200000 in
theorem equalFunc_any (a a' : Option Addr) (n m cap cap' : Nat) (rs ts : List InoR) (w : World) (hn : rs.length = n) (hm : ts.length = m) (hs : n ≤ 4000000) (hs' : m ≤ 4000000) (h1 : ∀ r ∈ rs, InoSmall r.D) (h2 : ∀ r ∈ ts, InoSmall r.D) (hr : RdI w a rs) (hr' : RdI w a' ts) :
    Calls Tryz.prog 120 #[.slice a n cap, .slice a' m cap', .func (.func 121) #[] #[]] w fun e w' => e = .returned (.bool (sameAll (rs.map InoR.D) (ts.map InoR.D))) ∧ Below w.heap.size w w' := by
  by_cases hnm : n = m
  · subst hnm
    by_cases h0 : n = 0
    · subst h0
      obtain rfl : rs = [] := List.length_eq_zero_iff.1 hn
      obtain rfl : ts = [] := List.length_eq_zero_iff.1 hm
      go_enter Tryz.func120, Tryz.ntmps120
      go_wp2
      refine wp_loop_rounds 1 ?_; rw [rounds_succ]
      go_wp2
      go_ret
      exact ⟨rfl, Below.refl _ _⟩
    · obtain ⟨b, off, rfl, hlt, hc⟩ := hr.lt (by intro h; subst h; simp at hn; omega)
      obtain ⟨b', off', rfl, hlt', hc'⟩ := hr'.lt (by intro h; subst h; simp at hm; omega)
      obtain ⟨S, hS⟩ : ∃ S, sameAll (rs.map InoR.D) (ts.map InoR.D) = S := ⟨_, rfl⟩
      rw [hS]
      have HS0 : Hid _ := hS
      have hn' : Hid (rs.length = n) := hn
      have hm' : Hid (ts.length = n) := hm
      have HC : Hid _ := hc
      have HC' : Hid _ := hc'
      have H1 : Hid _ := h1
      have H2 : Hid _ := h2
      clear hr hr' hn hm hc hc' h1 h2 hS
      go_enter Tryz.func120, Tryz.ntmps120
      go_wp2
      go_loopw [17] (fun i wr => ∃ k : Nat, k ≤ n ∧ i = .int .i64 k ∧ Hid (sameAll ((rs.map InoR.D).drop k) ((ts.map InoR.D).drop k) = S) ∧ Below w.heap.size w wr) (fun i _ => n - (intOf i).toNat)
      case atStart => exact ⟨0, Nat.zero_le _, rfl, HS0, Below.refl _ _⟩
      case round =>
        obtain ⟨k, hk, rfl, hsm, hB⟩ := hrel
        by_cases hkn : k < n
        · have hki : (k : Int) < (n : Int) := by omega
          obtain ⟨r, hrk⟩ : ∃ r, rs[k]? = some r := ⟨_, List.getElem?_eq_getElem (by rw [hn'.out]; exact hkn)⟩
          obtain ⟨t, htk⟩ : ∃ t, ts[k]? = some t := ⟨_, List.getElem?_eq_getElem (by rw [hm'.out]; exact hkn)⟩
          obtain ⟨x6, xr⟩ := HC.out k r hrk
          obtain ⟨y6, yr⟩ := HC'.out k t htk
          have hr1 := H1.out r (List.mem_of_getElem? hrk)
          have ht1 := H2.out t (List.mem_of_getElem? htk)
          have hcall := fun (W : World) (hW : Below w.heap.size w W) => sameI r.D t.D r.a1 r.a2 r.a3 t.a1 t.a2 t.a3 r.c1 r.c2 r.c3 t.c1 t.c2 t.c3 W hr1 ht1 (xr.keep hW) (yr.keep hW)
          have hstep : Hid ((sameOf r.D t.D && sameAll ((rs.map InoR.D).drop (k + 1)) ((ts.map InoR.D).drop (k + 1))) = S) := by
            have := hsm.out
            rw [drop_at (l := rs.map InoR.D) (x := r.D) (by simp [hrk]), drop_at (l := ts.map InoR.D) (k := k) (x := t.D) (by simp [htk])] at this
            exact this
          obtain ⟨x0, x1, x2, x3, x4, x5⟩ := x6.keep hB hlt
          obtain ⟨y0, y1, y2, y3, y4, y5⟩ := y6.keep hB hlt'
          have hwz := hB.size
          have hltr : b < wr.heap.size := by omega
          have hltr' : b' < wr.heap.size := by omega
          unfold inoV at hcall
          generalize sameOf r.D t.D = sm at hcall hstep
          generalize r.D.data.length = n1 at x3 hcall
          generalize r.D.ents.length = n2 at x4 hcall
          generalize r.D.attrs.length = n3 at x5 hcall
          generalize t.D.data.length = m1 at y3 hcall
          generalize t.D.ents.length = m2 at y4 hcall
          generalize t.D.attrs.length = m3 at y5 hcall
          generalize r.D.ino = i1 at x0 hcall
          generalize r.D.kind = i2 at x1 hcall
          generalize r.D.links = i3 at x2 hcall
          generalize t.D.ino = j1 at y0 hcall
          generalize t.D.kind = j2 at y1 hcall
          generalize t.D.links = j3 at y2 hcall
          have HK : Hid _ := hcall
          clear hcall xr yr x6 y6 hrk htk hsm
          cases sm with
          | true =>
            go_wp2_with fail
            refine (HK.out _ (by exact (hB.alloc hwz _).alloc (by simp; omega) _)).mono ?_
            rintro e w1 ⟨rfl, hb1⟩
            have hB1 : Below w.heap.size w w1 := ((hB.alloc hwz _).alloc (by simp; omega) _).trans (hb1.mono (by simp; omega))
            have hs1 : Hid (sameAll ((rs.map InoR.D).drop (k + 1)) ((ts.map InoR.D).drop (k + 1)) = S) := by have := hstep.out; rw [Bool.true_and] at this; exact this
            clear x0 x1 x2 x3 x4 x5 y0 y1 y2 y3 y4 y5
            go_wp2
            go_roundw
            case rel => exact ⟨k + 1, by omega, by go_num, hs1, hB1⟩
            case measure => simp [intOf]; omega
          | false =>
            go_wp2_with fail
            refine (HK.out _ (by exact (hB.alloc hwz _).alloc (by simp; omega) _)).mono ?_
            rintro e w1 ⟨rfl, hb1⟩
            have hB1 : Below w.heap.size w w1 := ((hB.alloc hwz _).alloc (by simp; omega) _).trans (hb1.mono (by simp; omega))
            have hs1 : Hid (false = S) := by have := hstep.out; rw [Bool.false_and] at this; exact this
            clear x0 x1 x2 x3 x4 x5 y0 y1 y2 y3 y4 y5
            go_wp2
            go_ret
            exact ⟨ret_bool hs1.out, hB1⟩
        · have hki : ¬ (k : Int) < (n : Int) := by omega
          have hs1 : Hid (true = S) := by
            have := hsm.out
            rw [List.drop_eq_nil_of_le (by simp [hn'.out]; omega), List.drop_eq_nil_of_le (by simp [hm'.out]; omega)] at this
            exact this
          go_wp2
          go_ret
          exact ⟨ret_bool hs1.out, hB⟩
  · have hsf : Hid (sameAll (rs.map InoR.D) (ts.map InoR.D) = false) := sameAll_len (by simp [hn, hm, hnm])
    have hb : ((n : Int) == (m : Int)) = false := by simp; omega
    have hb' : ((n : Int) != (m : Int)) = true := by simp; omega
    go_enter Tryz.func120, Tryz.ntmps120
    go_wp2
    go_ret
    exact ⟨ret_bool hsf.out.symm, Below.refl _ _⟩
/-- What both SameTab functions answer. -/
def sameTabOf (nx ny : Int) (rs ts : List InoR) : Bool := (nx == ny) && sameAll (rs.map InoR.D) (ts.map InoR.D)
set_option maxHeartbeats 1600000 in
theorem sameTabI (a a' : Option Addr) (n m cap cap' : Nat) (nx ny : Int) (rs ts : List InoR) (w : World) (hn : rs.length = n) (hm : ts.length = m) (hs : n ≤ 4000000) (hs' : m ≤ 4000000) (h1 : ∀ r ∈ rs, InoSmall r.D) (h2 : ∀ r ∈ ts, InoSmall r.D) (hr : RdI w a rs) (hr' : RdI w a' ts) :
    Calls Tryz.prog 94 #[.agg #[.slice a n cap, .int .i64 nx], .agg #[.slice a' m cap', .int .i64 ny]] w fun e w' => e = .returned (.bool (sameTabOf nx ny rs ts)) ∧ Below w.heap.size w w' := by
  have B0 : Below w.heap.size w ((w.alloc (.cells #[.slice a n cap, .int .i64 nx] 47)).alloc (.cells #[.slice a' m cap', .int .i64 ny] 47)) := ((Below.refl _ w).alloc (Nat.le_refl _) _).alloc (by simp) _
  have hcall := equalFunc_any a a' n m cap cap' rs ts _ hn hm hs hs' h1 h2 (hr.keep B0) (hr'.keep B0)
  have HE : Hid (sameTabOf nx ny rs ts = ((nx == ny) && sameAll (rs.map InoR.D) (ts.map InoR.D))) := rfl
  generalize sameTabOf nx ny rs ts = R at HE ⊢
  generalize sameAll (rs.map InoR.D) (ts.map InoR.D) = S at hcall HE
  have HB : Hid _ := B0
  clear h1 h2 hr hr' hn hm B0
  cases hxy : nx == ny with
  | true =>
    go_enter Tryz.func94, Tryz.ntmps94
    go_wp2_with fail
    refine hcall.mono ?_
    rintro e w1 ⟨rfl, hb1⟩
    go_wp2
    go_ret
    exact ⟨ret_bool (by rw [HE.out, hxy]; rfl), HB.out.trans (hb1.mono HB.out.size)⟩
  | false =>
    go_enter Tryz.func94, Tryz.ntmps94
    go_wp2
    go_ret
    exact ⟨ret_bool (by rw [HE.out, hxy]; rfl), HB.out⟩
end
end Go.Proofs.YtfjlemnohjnkhaaGreat
