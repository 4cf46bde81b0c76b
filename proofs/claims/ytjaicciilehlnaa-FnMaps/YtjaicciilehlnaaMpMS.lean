/-
  Places of maps: two numbers each; a row of them read, owned, measured, copied, compared, marked, held.
-/
import Derived.Test.YtjaicciilehlnaaJ04S
import Derived.Test.YtjaicciilehlnaaJ08S
namespace Go.Proofs.Ytjaicciilehlnaa
open Go.RowKit
/-- A place: an inode's number, and where it is. -/
structure PlD where
  ino : Int
  adr : Int
deriving Inhabited
def plE : El PlD := ⟨2, by omega, fun f => [.int .i64 f.ino, .int .i64 f.adr], fun _ => rfl⟩
def RdPl (w : World) (a : Option Addr) (ps : List PlD) : Prop := RdE plE (fun _ => True) w a ps
theorem RdPl.keep {w w' : World} {a : Option Addr} {ps : List PlD} (h : RdPl w a ps) (hb : Below w.heap.size w w') : RdPl w' a ps := RdE.mono h hb fun _ _ hr => hr
/-- The cells of a place. -/
structure TwoL (w : World) (b off : Nat) (r : PlD) : Prop where
  c0 : w.cell? ⟨b, off, none⟩ = some (.int .i64 r.ino)
  c1 : w.cell? ⟨b, off + 1, none⟩ = some (.int .i64 r.adr)
theorem TwoL.keep {w w' : World} {b off B : Nat} {r : PlD} (h : TwoL w b off r) (hb : Below B w w') (hlt : b < B) : TwoL w' b off r := ⟨(hb.cell hlt).trans h.c0, (hb.cell hlt).trans h.c1⟩
theorem RdPl.lt {w : World} {a : Option Addr} {ps : List PlD} (h : RdPl w a ps) (hz : ps ≠ []) : ∃ b off, a = some ⟨b, off, none⟩ ∧ b < w.heap.size ∧ ∀ i r, ps[i]? = some r → TwoL w b (off + i * 2) r := by
  obtain ⟨b, off, h1, h2, h3⟩ := RdE.lt h hz
  exact ⟨b, off, h1, h2, fun i p hi => ⟨(h3 i p hi).1 0 (by decide), (h3 i p hi).1 1 (by decide)⟩⟩
/-- Places that can be read. -/
structure PR (w : World) (a : Option Addr) (m : Nat) (ps : List PlD) : Prop where
  len : ps.length = m
  tot : m ≤ 1048576
  rd : RdPl w a ps
theorem PR.keep {w w' : World} {a : Option Addr} {m : Nat} {ps : List PlD} (h : PR w a m ps) (hb : Below w.heap.size w w') : PR w' a m ps := ⟨h.len, h.tot, h.rd.keep hb⟩
theorem PR.some {w : World} {a : Option Addr} {m k : Nat} {ps : List PlD} (h : PR w a m ps) (hk : k < m) : ∃ b off r, a = some ⟨b, off, none⟩ ∧ b < w.heap.size ∧ ps[k]? = .some r ∧ TwoL w b (off + k * 2) r := by
  have hl := h.len
  have hrk : ps[k]? = .some ps[k] := List.getElem?_eq_getElem (by omega)
  obtain ⟨b, off, e, hlt, hc⟩ := h.rd.lt (by intro h0; subst h0; simp at hl; omega)
  exact ⟨b, off, ps[k], e, hlt, hrk, hc k _ hrk⟩
/-- Places of the call's own. -/
def OwnPl (w : World) (v : Value) (m : Nat) (ps : List PlD) : Prop := OwnE plE 36 w v m ps
theorem OwnPl.rd {w : World} {a : Option Addr} {c n m : Nat} {ps : List PlD} (h : OwnPl w (.slice a n c) m ps) : RdPl w a ps := by
  obtain ⟨a', c', e, r⟩ := OwnE.rd (rd := fun _ => True) h (fun _ _ => trivial)
  simp only [Value.slice.injEq] at e
  rw [e.1]; exact r
theorem OwnPl.pr {w : World} {a : Option Addr} {c m : Nat} {ps : List PlD} (h : OwnPl w (.slice a m c) m ps) (hm : m ≤ 1048576) : PR w a m ps := ⟨OwnE.len h, hm, h.rd⟩
set_option maxHeartbeats 1600000 in
theorem szPlaceS_w (a : Option Addr) (n cap x : Nat) (w : World) (hm : n ≤ maxLen) (hx : x ≤ 1048576) :
    Calls Try.prog 41 #[.slice a n cap, .int .i64 x] w fun e w' => SzQ x n True e ∧ w' = w := by
  unfold maxLen at hm
  by_cases h : x < n
  · have h1 : ((x : Int) - (n : Int)) < 0 := by omega
    go_enter Try.func41, Try.ntmps41
    go_wp2
    go_ret
    exact ⟨.inl rfl, rfl⟩
  · have h1 : ¬ ((x : Int) - (n : Int)) < 0 := by omega
    go_enter Try.func41, Try.ntmps41
    go_wp2
    go_ret
    exact ⟨.inr ⟨x - n, by omega, ret_int (by omega), trivial⟩, rfl⟩
set_option maxHeartbeats 1600000 in
theorem szMap_any (nx : Int) (a : Option Addr) (n cap : Nat) (w : World) (hm : n ≤ maxLen) :
    Calls Try.prog 18 #[.agg #[.int .i64 nx, .slice a n cap], .int .i64 1048576] w fun e w' => SzP (n ≤ 1048576) e ∧ Below w.heap.size w w' := by
  have B0 : Below w.heap.size w (w.alloc (.cells #[.int .i64 nx, .slice a n cap] 39)) := (Below.refl _ w).alloc (Nat.le_refl _) _
  have hcall := szPlaceS_w a n cap 1048576 (w.alloc (.cells #[.int .i64 nx, .slice a n cap] 39)) hm (Nat.le_refl _)
  have HB : Hid _ := B0
  clear B0
  go_enter Try.func18, Try.ntmps18
  go_wp2_with fail
  refine hcall.mono ?_
  rintro e w1 ⟨(rfl | ⟨v, hv, rfl, hzz⟩), hw⟩
  · obtain rfl := hw.symm
    go_wp2
    go_ret
    exact ⟨.inl rfl, HB.out⟩
  · obtain rfl := hw.symm
    have hv0 : ¬ (v : Int) < 0 := by omega
    go_wp2
    go_ret
    exact ⟨.inr ⟨v, by omega, rfl, by omega⟩, HB.out⟩
set_option maxHeartbeats 1600000 in
theorem toPlace_any (t k : Int) (w : World) :
    Calls Try.prog 55 #[.agg #[.int .i64 t, .int .i64 k]] w fun e w' => e = .returned (.agg #[.int .i64 t, .int .i64 k]) ∧ Below w.heap.size w w' := by
  have B0 : Below w.heap.size w (((w.alloc (.cells #[.int .i64 t, .int .i64 k] 82)).alloc (.cells #[.int .i64 0, .int .i64 0] 36)).alloc (.cells #[.int .i64 0, .int .i64 0] 36)) := (((Below.refl _ w).alloc (Nat.le_refl _) _).alloc (by simp) _).alloc (by simp; omega) _
  obtain ⟨H, hH⟩ : ∃ H, w.heap.size = H := ⟨_, rfl⟩
  have t0 : Blk (((w.alloc (.cells #[.int .i64 t, .int .i64 k] 82)).alloc (.cells #[.int .i64 0, .int .i64 0] 36)).alloc (.cells #[.int .i64 0, .int .i64 0] 36)) w.heap.size 82 #[.int .i64 t, .int .i64 k] := ((Blk.new w 82 _).alloc _).alloc _
  have t1 := (Blk.new (w.alloc (.cells #[.int .i64 t, .int .i64 k] 82)) 36 #[.int .i64 0, .int .i64 0]).alloc (.cells #[.int .i64 0, .int .i64 0] 36)
  have t2 := Blk.new ((w.alloc (.cells #[.int .i64 t, .int .i64 k] 82)).alloc (.cells #[.int .i64 0, .int .i64 0] 36)) 36 #[.int .i64 0, .int .i64 0]
  simp only [World.size_alloc] at t1 t2
  go_enter Try.func55, Try.ntmps55
  obtain ⟨W0, hW0⟩ : ∃ W, ((w.alloc (.cells #[.int .i64 t, .int .i64 k] 82)).alloc (.cells #[.int .i64 0, .int .i64 0] 36)).alloc (.cells #[.int .i64 0, .int .i64 0] 36) = W := ⟨_, rfl⟩
  rw [hW0] at B0 t0 t1 t2
  rw [hH] at t0 t1 t2 B0
  have a0 := t0.cell 0
  have a1 := t0.cell 1
  have c0 := t2.cell 0
  have c1 := t2.cell 1
  have f0 := t2.frozen 0
  have f1 := t2.frozen 1
  have v2 := (t2.set 0 (.int .i64 t)).set 1 (.int .i64 k)
  have v1 := (t1.other (B' := H + 1 + 1) (by omega) 0 (.int .i64 t)).other (B' := H + 1 + 1) (by omega) 1 (.int .i64 k)
  have d0 := v2.cell 0
  have d1 := v2.cell 1
  have g0 := v1.cell 0
  have g1 := v1.cell 1
  have h0 := v1.frozen 0
  have h1 := v1.frozen 1
  have r0 := ((v1.set 0 (.int .i64 t)).set 1 (.int .i64 k)).cell 0
  have r1 := ((v1.set 0 (.int .i64 t)).set 1 (.int .i64 k)).cell 1
  simp at a0 a1 c0 c1 d0 d1 g0 g1 r0 r1
  have HO : Hid (Below H w W0) := B0
  clear B0 v1 v2 t0 t1 t2
  go_wp2
  refine bodyPost_ret (v := .agg #[.int .i64 t, .int .i64 k]) (by simp [results, Try.f55, go_sem, r0, r1]) rfl ?_
  have B2 := HO.out
  have s : ∀ (W : World) (j i : Nat) (v : Value), H ≤ j → Below H w W → Below H w (W.setCell ⟨j, i, none⟩ v) := fun W j i v hj hb => hb.setCell (p := ⟨j, i, none⟩) hj v
  refine ⟨rfl, ?_⟩
  rw [hH]
  exact s _ _ _ _ (by omega) (s _ _ _ _ (by omega) (s _ _ _ _ (by omega) (s _ _ _ _ (by omega) B2)))
def plZ : PlD := ⟨0, 0⟩
theorem Try.infoPlace : (Try.prog.info? 36).map (fun i => (i.zero, i.size, i.bytes)) = some (some (.agg #[.int .i64 0, .int .i64 0]), 2, 16) := by kernel_rfl
theorem made_ownPl {w : World} {g n : Nat} (h : w.ownsRow 0 36 2 (.slice (some ⟨g, 0, none⟩) n n) n (madeCells (Value.agg #[.int .i64 0, .int .i64 0]).cells (n * 2)).toList) : OwnE plE 36 w (.slice (some ⟨g, 0, none⟩) n n) n (List.replicate n plZ) := made_row plE plZ (.agg #[.int .i64 0, .int .i64 0]) rfl h
set_option maxHeartbeats 3200000 in
theorem toPlaceS_any (a : Option Addr) (n cap : Nat) (ps : List PlD) (w : World) (hr : PR w a n ps) :
    Calls Try.prog 42 #[.slice a n cap] w fun e w' => e = .returned (.slice (some ⟨w.heap.size, 0, none⟩) n n) ∧ OwnPl w' (.slice (some ⟨w.heap.size, 0, none⟩) n n) n ps ∧ Below w.heap.size w w' := by
  obtain ⟨i0, hi, hz0, hz1, hz2⟩ := info_parts Try.infoPlace
  have hnn := hr.tot
  have hm : n ≤ maxLen := by unfold maxLen; omega
  have hby : i0.bytes * n ≤ 281474976710656 := by rw [hz2]; omega
  have HR : Hid (PR w a n ps) := hr
  clear hr
  go_enter Try.func42, Try.ntmps42
  go_wp2_with (at_make; refine wpList_make_full _ rfl (.tmp 6) (.tmp 6) 24 rfl 0 36 i0 (.agg #[.int .i64 0, .int .i64 0]) 2 Try.underlying24 hi hz0 hz1 .i64 .i64 _ _ n rfl rfl rfl rfl hby hm (Nat.zero_le _) ?_; intro w1 hown hgrow)
  have ho := made_ownPl hown
  have hB : Below w.heap.size w w1 := (Below.refl _ _).grown hgrow (Nat.le_refl _) (by simp)
  clear hown hgrow
  go_loopw [4] (fun i wr => ∃ (k : Nat) (us : List PlD), k ≤ n ∧ i = .int .i64 k ∧ us.length = k ∧ Hid (us = ps.take k) ∧ OwnE plE 36 wr (.slice (some ⟨w.heap.size, 0, none⟩) n n) n (us ++ List.replicate (n - k) plZ) ∧ Below w.heap.size w wr) (fun i _ => n - (intOf i).toNat)
  case atStart => exact ⟨0, [], Nat.zero_le _, rfl, rfl, rfl, ho, hB⟩
  case round =>
    obtain ⟨k, us, hk, rfl, htk, hcp, hown, hbel⟩ := hrel
    clear ho hB
    by_cases hkn : k < n
    · have hki : (k : Int) < (n : Int) := by omega
      obtain ⟨b, off, r, rfl, hlt, hrk, x6⟩ := HR.out.some hkn
      have hcp' : Hid (us ++ [r] = ps.take (k + 1)) := by show _ = _; rw [List.take_add_one, hrk, hcp.out]; rfl
      obtain ⟨x0, x1⟩ := x6.keep hbel hlt
      obtain ⟨rt, rk⟩ := r
      dsimp only at x0 x1
      have hcall := toPlace_any rt rk wr
      have hwz := hbel.size
      clear x6 hrk
      go_wp2_with fail
      refine hcall.mono ?_
      rintro e w1 ⟨rfl, hb1⟩
      have ho1 := hown.keep hb1
      have hlc := ho1.lt (g := w.heap.size) rfl
      have hzk : (us ++ List.replicate (n - k) plZ)[k]? = some plZ := list_mid us plZ (n - k) k htk (by omega)
      have q0 := ho1.cell k 0 plZ hzk (by decide)
      have q1 := ho1.cell k 1 plZ hzk (by decide)
      have f0 := ho1.frozen (k * 2)
      have f1 := ho1.frozen (k * 2 + 1)
      have s0 := ho1.set k 0 plZ ⟨rt, 0⟩ (.int .i64 rt) hzk (by decide) (by simp [plE, plZ])
      have hzk1 : ((us ++ List.replicate (n - k) plZ).set k ⟨rt, 0⟩)[k]? = some ⟨rt, 0⟩ := by
        rw [List.getElem?_set_self (by simp; omega)]
      have s1 := s0.set k 1 ⟨rt, 0⟩ ⟨rt, rk⟩ (.int .i64 rk) hzk1 (by decide) (by simp [plE])
      rw [set_set_at, show (us ++ List.replicate (n - k) plZ).set k ⟨rt, rk⟩ = (us ++ [⟨rt, rk⟩]) ++ List.replicate (n - (k + 1)) plZ by rw [← htk, set_mid us _ _ _ (by omega), htk, show n - k - 1 = n - (k + 1) by omega]] at s1
      have hgr : w1.grownBy ((w1.setCell ⟨w.heap.size, k * 2, none⟩ (.int .i64 rt)).setCell ⟨w.heap.size, k * 2 + 1, none⟩ (.int .i64 rk)) (some w.heap.size) := gr_more (gr_setC w1 w.heap.size (k * 2) _) _ _
      have hbel1 : Below w.heap.size w w1 := hbel.trans (hb1.mono hwz)
      have hbel' := hbel1.grown hgr hbel1.size (by intro g hg; simp at hg; omega)
      have hl' : (us ++ [⟨rt, rk⟩] : List PlD).length = k + 1 := by simp [htk]
      have q0' : w1.cell? ⟨w.heap.size, k * 2, none⟩ = some (.int .i64 0) := q0
      have q1' : w1.cell? ⟨w.heap.size, k * 2 + 1, none⟩ = some (.int .i64 0) := q1
      have S1 : Hid _ := s1
      clear hown hbel hcp ho1 hb1 hbel1 hgr hcall hzk hzk1 s0 s1 q0 q1
      go_wp2
      go_roundw
      case rel => exact ⟨k + 1, _, by omega, by go_num, hl', hcp', S1.out, hbel'⟩
      case measure => simp [intOf]; omega
    · go_wp2
      go_ret
      obtain rfl : k = n := by omega
      have := hcp.out
      rw [List.take_of_length_le (by rw [HR.out.len]; omega)] at this
      rw [Nat.sub_self, List.replicate_zero, List.append_nil, this] at hown
      exact ⟨rfl, hown, hbel⟩
set_option maxHeartbeats 1600000 in
theorem eqPlace_same (t k : Int) (w : World) :
    Calls Try.prog 56 #[.agg #[.int .i64 t, .int .i64 k], .agg #[.int .i64 t, .int .i64 k]] w fun e w' => e = .returned (.bool true) ∧ Below w.heap.size w w' := by
  have B0 : Below w.heap.size w ((w.alloc (.cells #[.int .i64 t, .int .i64 k] 36)).alloc (.cells #[.int .i64 t, .int .i64 k] 36)) := ((Below.refl _ w).alloc (Nat.le_refl _) _).alloc (by simp) _
  have z0 := (Blk.new w 36 #[.int .i64 t, .int .i64 k]).alloc (.cells #[.int .i64 t, .int .i64 k] 36)
  have z1 := Blk.new (w.alloc (.cells #[.int .i64 t, .int .i64 k] 36)) 36 #[.int .i64 t, .int .i64 k]
  simp only [World.size_alloc] at z1
  have e0 : (t != t) = false := by simp
  have e1 : (k != k) = false := by simp
  obtain ⟨q0, q1⟩ : _ ∧ _ := ⟨z0.cell 0, z0.cell 1⟩
  obtain ⟨p0, p1⟩ : _ ∧ _ := ⟨z1.cell 0, z1.cell 1⟩
  simp at q0 q1 p0 p1
  have HB : Hid _ := B0
  clear z0 z1 B0
  go_enter Try.func56, Try.ntmps56
  go_wp2
  go_ret
  exact ⟨rfl, HB.out⟩
set_option maxHeartbeats 3200000 in
theorem eqPlaceS_same (a a' : Option Addr) (n cap cap' : Nat) (ps : List PlD) (w : World) (hr : PR w a n ps) (hr' : PR w a' n ps) :
    Calls Try.prog 43 #[.slice a n cap, .slice a' n cap'] w fun e w' => e = .returned (.bool true) ∧ Below w.heap.size w w' := by
  have hnn := hr.tot
  have HR : Hid (PR w a n ps) := hr
  have HR' : Hid (PR w a' n ps) := hr'
  clear hr hr'
  go_enter Try.func43, Try.ntmps43
  go_wp2
  go_loopw [5] (fun i wr => ∃ k : Nat, k ≤ n ∧ i = .int .i64 k ∧ Below w.heap.size w wr) (fun i _ => n - (intOf i).toNat)
  case atStart => exact ⟨0, Nat.zero_le _, rfl, Below.refl _ _⟩
  case round =>
    obtain ⟨k, hk, rfl, hB⟩ := hrel
    by_cases hkn : k < n
    · have hki : (k : Int) < (n : Int) := by omega
      obtain ⟨b, off, r, rfl, hlt, hrk, x6⟩ := HR.out.some hkn
      obtain ⟨b', off', r', rfl, hlt', hrk', y6⟩ := HR'.out.some hkn
      obtain rfl : r' = r := by rw [hrk] at hrk'; simpa using hrk'.symm
      have hcd := eqPlace_same r'.ino r'.adr wr.drew
      obtain ⟨x0, x1⟩ := x6.keep hB hlt
      obtain ⟨y0, y1⟩ := y6.keep hB hlt'
      have hwz := hB.size
      clear x6 y6 hrk hrk'
      go_wp2
      go_region_with ((go_at_call 56; (with_reducible refine hcd.mono ?_); rintro e w1 ⟨rfl, hb1⟩))
      all_goals go_wp2
      all_goals go_roundw
      all_goals first
        | (case rel => exact ⟨k + 1, by omega, by go_num, hB.drew.trans (hb1.mono hwz)⟩)
        | (case measure => simp [intOf]; omega)
    · have hki : ¬ (k : Int) < (n : Int) := by omega
      go_wp2
      go_ret
      exact ⟨rfl, hB⟩
/-- The marks. -/
def mkPl (k m : Nat) : List PlD := (List.range m).map fun i => ⟨((k + 2 * i : Nat) : Int), ((k + 2 * i + 1 : Nat) : Int)⟩
theorem mkPl_len (k m : Nat) : (mkPl k m).length = m := by simp [mkPl]
theorem mkPl_at {k m i : Nat} (h : i < m) : (mkPl k m)[i]? = some ⟨((k + 2 * i : Nat) : Int), ((k + 2 * i + 1 : Nat) : Int)⟩ := by simp [mkPl, h]
theorem mkPl_set {k i : Nat} {ps : List PlD} (h : i < ps.length) : (mkPl k i ++ ps.drop i).set i ⟨((k + 2 * i : Nat) : Int), ((k + 2 * i + 1 : Nat) : Int)⟩ = mkPl k (i + 1) ++ ps.drop (i + 1) := by
  rw [List.set_append_right _ _ (by rw [mkPl_len]; omega), mkPl_len, Nat.sub_self, List.drop_eq_getElem_cons h, List.set_cons_zero]
  simp [mkPl, List.range_succ]
theorem mkPl_now {k i : Nat} {ps : List PlD} {r : PlD} (h : ps[i]? = some r) : (mkPl k i ++ ps.drop i)[i]? = some r := by
  rw [List.getElem?_append_right (by rw [mkPl_len]; omega), mkPl_len, Nat.sub_self, List.getElem?_drop]
  simpa using h
set_option maxRecDepth 100000 in
set_option maxHeartbeats 4000000 in
theorem markPlaceS_any (v : Value) (n k0 : Nat) (ps : List PlD) (w : World) (h1 : 1 ≤ k0) (hs : k0 + 2 * n ≤ 9999990) (hO : OwnPl w v n ps) :
    Calls Try.prog 45 #[v, .int .i64 k0] w fun e w' => e = .returned (.int .i64 ((k0 + 2 * n : Nat) : Int)) ∧ OwnPl w' v n (mkPl k0 n) ∧ Sv v.ownBlock.toList w w' := by
  have hln : ps.length = n := OwnE.len hO
  have hO1 : OwnE plE 36 w v n ps := hO
  rcases hO1.cases with ⟨rfl, rfl, rfl⟩ | ⟨g, c, rfl, hglt⟩
  · go_enter Try.func45, Try.ntmps45
    go_wp2
    refine wp_loop_rounds 1 ?_; rw [rounds_succ]
    go_wp2
    go_ret
    exact ⟨by simp, hO, Sv.refl _ _⟩
  · have HO : Hid (OwnE plE 36 w (.slice (some ⟨g, 0, none⟩) n c) n (mkPl k0 0 ++ ps.drop 0)) := hO
    have HN : Hid (ps.length = n) := hln
    clear hO hO1 hln
    go_enter Try.func45, Try.ntmps45
    go_wp2
    go_loopw [1, 5] (fun q i wr => ∃ (k m : Nat), k ≤ n ∧ i = .int .i64 k ∧ q = .int .i64 (m : Int) ∧ Hid (m = k0 + 2 * k) ∧ Hid (OwnE plE 36 wr (.slice (some ⟨g, 0, none⟩) n c) n (mkPl k0 k ++ ps.drop k)) ∧ Hid (Sv [g] w wr)) (fun _ i _ => n - (intOf i).toNat)
    case atStart => exact ⟨0, k0, Nat.zero_le _, rfl, rfl, by show _ = _; omega, HO, Sv.refl _ _⟩
    case round =>
      obtain ⟨k, m, hk, rfl, rfl, hm, hOw, hSv⟩ := hrel
      by_cases hkn : k < n
      · have hki : (k : Int) < (n : Int) := by omega
        have hmo := hm.out
        have hm9 : m + 2 ≤ 9999990 := by omega
        obtain ⟨r, hrk⟩ : ∃ r, ps[k]? = some r := ⟨_, List.getElem?_eq_getElem (by rw [HN.out]; exact hkn)⟩
        have hat := mkPl_now (k := k0) hrk
        have hown := hOw.out
        have q0 : wr.cell? ⟨g, k * 2, none⟩ = some (.int .i64 r.ino) := hown.cell k 0 r hat (by decide)
        have f0 : wr.frozen? ⟨g, k * 2, none⟩ = false := hown.frozen (k * 2)
        have s0 := hown.set k 0 r ⟨(m : Int), r.adr⟩ (.int .i64 (m : Int)) hat (by decide) (by simp [plE])
        have a1 : ((mkPl k0 k ++ ps.drop k).set k ⟨(m : Int), r.adr⟩)[k]? = some ⟨(m : Int), r.adr⟩ := by rw [List.getElem?_set_self (List.getElem?_eq_some_iff.1 hat).1]
        have q1 : (wr.setCell ⟨g, k * 2, none⟩ (.int .i64 (m : Int))).cell? ⟨g, k * 2 + 1, none⟩ = some (.int .i64 r.adr) := s0.cell k 1 ⟨(m : Int), r.adr⟩ a1 (by decide)
        have f1 : (wr.setCell ⟨g, k * 2, none⟩ (.int .i64 (m : Int))).frozen? ⟨g, k * 2 + 1, none⟩ = false := s0.frozen (k * 2 + 1)
        have s1 := s0.set k 1 ⟨(m : Int), r.adr⟩ ⟨(m : Int), (m : Int) + 1⟩ (.int .i64 ((m : Int) + 1)) a1 (by decide) (by simp [plE])
        rw [set_set_at, show (⟨(m : Int), (m : Int) + 1⟩ : PlD) = ⟨((k0 + 2 * k : Nat) : Int), ((k0 + 2 * k + 1 : Nat) : Int)⟩ by rw [PlD.mk.injEq]; omega, mkPl_set (by rw [HN.out]; exact hkn)] at s1
        have S2 : Hid _ := s1
        have HSV : Hid (Sv [g] w ((wr.setCell ⟨g, k * 2, none⟩ (.int .i64 (m : Int))).setCell ⟨g, k * 2 + 1, none⟩ (.int .i64 ((m : Int) + 1)))) := hSv.out.trans (Sv.gr (gr_more (gr_setC wr g (k * 2) _) _ _) (fun x hx => by simp at hx; simp [hx]))
        have HT : Hid (m + 2 = k0 + 2 * (k + 1)) := by show _ = _; omega
        clear hmo hown s0 s1 a1 hat hrk
        go_wp2
        go_roundw
        case rel => exact ⟨k + 1, m + 2, by omega, by go_num, by go_num, HT, S2, HSV⟩
        case measure => simp [intOf]; omega
      · have hki : ¬ (k : Int) < (n : Int) := by omega
        obtain rfl : k = n := by omega
        go_wp2
        go_ret
        have := hOw.out
        rw [List.drop_of_length_le (by rw [HN.out]; omega), List.append_nil] at this
        have hmm := hm.out
        exact ⟨by show Ending.returned (.int .i64 (m : Int)) = _; exact ret_int (by omega), this, hSv.out⟩
set_option maxRecDepth 100000 in
set_option maxHeartbeats 4000000 in
theorem heldPlaceS_any (v : Value) (n k0 : Nat) (w : World) (h1 : 1 ≤ k0) (hs : k0 + 2 * n ≤ 9999990) (hO : OwnPl w v n (mkPl k0 n)) :
    Calls Try.prog 46 #[v, .int .i64 k0] w fun e w' => e = .returned (.int .i64 ((k0 + 2 * n : Nat) : Int)) ∧ w' = w := by
  have hO1 : OwnE plE 36 w v n (mkPl k0 n) := hO
  rcases hO1.cases with ⟨rfl, rfl, _⟩ | ⟨g, c, rfl, hglt⟩
  · go_enter Try.func46, Try.ntmps46
    go_wp2
    refine wp_loop_rounds 1 ?_; rw [rounds_succ]
    go_wp2
    go_ret
    exact ⟨by simp, rfl⟩
  · have HO : Hid (OwnE plE 36 w (.slice (some ⟨g, 0, none⟩) n c) n (mkPl k0 n)) := hO
    clear hO hO1
    go_enter Try.func46, Try.ntmps46
    go_wp2
    go_loopw [1, 5] (fun q i wr => ∃ (k m : Nat), k ≤ n ∧ i = .int .i64 k ∧ q = .int .i64 (m : Int) ∧ Hid (m = k0 + 2 * k) ∧ w = wr) (fun _ i _ => n - (intOf i).toNat)
    case atStart => exact ⟨0, k0, Nat.zero_le _, rfl, rfl, by show _ = _; omega, rfl⟩
    case round =>
      obtain ⟨k, m, hk, rfl, rfl, hm, rfl⟩ := hrel
      by_cases hkn : k < n
      · have hki : (k : Int) < (n : Int) := by omega
        have hmo := hm.out
        have hm9 : m + 2 ≤ 9999990 := by omega
        have hat := mkPl_at (k := k0) hkn
        have q0 : w.cell? ⟨g, k * 2, none⟩ = some (.int .i64 (m : Int)) := (HO.out.cell k 0 _ hat (by decide)).trans (by simp [plE]; omega)
        have q1 : w.cell? ⟨g, k * 2 + 1, none⟩ = some (.int .i64 ((m : Int) + 1)) := (HO.out.cell k 1 _ hat (by decide)).trans (by simp [plE]; omega)
        have e0 : ((m : Int) != (m : Int)) = false := by simp
        have e1 : ((m : Int) + 1 != (m : Int) + 1) = false := by simp
        have HT : Hid (m + 2 = k0 + 2 * (k + 1)) := by show _ = _; omega
        clear hmo hat
        go_wp2
        go_roundw
        case rel => exact ⟨k + 1, m + 2, by omega, by go_num, by go_num, HT, trivial⟩
        case measure => simp [intOf]; omega
      · have hki : ¬ (k : Int) < (n : Int) := by omega
        obtain rfl : k = n := by omega
        go_wp2
        go_ret
        have hmm := hm.out
        exact ⟨by show Ending.returned (.int .i64 (m : Int)) = _; exact ret_int (by omega), rfl⟩
set_option maxHeartbeats 3200000 in
theorem toMap_any (nx : Int) (a : Option Addr) (n cap : Nat) (ps : List PlD) (w : World) (hf : PR w a n ps) :
    Calls Try.prog 19 #[.agg #[.int .i64 nx, .slice a n cap]] w fun e w' => ∃ g : Nat, e = .returned (.agg #[.int .i64 nx, .slice (some ⟨g, 0, none⟩) n n]) ∧ w.heap.size ≤ g ∧ OwnPl w' (.slice (some ⟨g, 0, none⟩) n n) n ps ∧ Below w.heap.size w w' := by
  have B0 : Below w.heap.size w (((w.alloc (.cells #[.int .i64 nx, .slice a n cap] 39)).alloc (.cells #[.int .i64 0, .slice none 0 0] 26)).alloc (.cells #[.int .i64 0, .slice none 0 0] 26)) := (((Below.refl _ w).alloc (Nat.le_refl _) _).alloc (by simp) _).alloc (by simp; omega) _
  obtain ⟨H, hH⟩ : ∃ H, w.heap.size = H := ⟨_, rfl⟩
  have z0 : Blk (((w.alloc (.cells #[.int .i64 nx, .slice a n cap] 39)).alloc (.cells #[.int .i64 0, .slice none 0 0] 26)).alloc (.cells #[.int .i64 0, .slice none 0 0] 26)) w.heap.size 39 #[.int .i64 nx, .slice a n cap] := ((Blk.new w 39 _).alloc _).alloc _
  have z1 := (Blk.new (w.alloc (.cells #[.int .i64 nx, .slice a n cap] 39)) 26 #[.int .i64 0, .slice none 0 0]).alloc (.cells #[.int .i64 0, .slice none 0 0] 26)
  have z2 := Blk.new ((w.alloc (.cells #[.int .i64 nx, .slice a n cap] 39)).alloc (.cells #[.int .i64 0, .slice none 0 0] 26)) 26 #[.int .i64 0, .slice none 0 0]
  have hs0 : (((w.alloc (.cells #[.int .i64 nx, .slice a n cap] 39)).alloc (.cells #[.int .i64 0, .slice none 0 0] 26)).alloc (.cells #[.int .i64 0, .slice none 0 0] 26)).heap.size = w.heap.size + 1 + 1 + 1 := by simp
  simp only [World.size_alloc] at z1 z2
  obtain ⟨W0, hW0⟩ : ∃ W, ((w.alloc (.cells #[.int .i64 nx, .slice a n cap] 39)).alloc (.cells #[.int .i64 0, .slice none 0 0] 26)).alloc (.cells #[.int .i64 0, .slice none 0 0] 26) = W := ⟨_, rfl⟩
  rw [hW0] at B0 z0 z1 z2 hs0
  have HF : Hid (PR w a n ps) := hf
  rw [hH] at z0 z1 z2 hs0 B0
  have x0 := z0.cell 0
  have c0 := z2.cell 0
  have f0 := z2.frozen 0
  have u0 := z0.other (B' := H + 1 + 1) (by omega) 0 (.int .i64 nx)
  have u1 := z1.other (B' := H + 1 + 1) (by omega) 0 (.int .i64 nx)
  have u2 := z2.set 0 (.int .i64 nx)
  have a2 := u0.cell 1
  simp at x0 c0 a2 u2
  have hsz1 : (W0.setCell ⟨H + 1 + 1, 0, none⟩ (.int .i64 nx)).heap.size = H + 1 + 1 + 1 := by rw [size_setC, hs0]
  have B3 : Below H w (W0.setCell ⟨H + 1 + 1, 0, none⟩ (.int .i64 nx)) := B0.setCell (p := ⟨H + 1 + 1, 0, none⟩) (by simp only; omega) _
  have hcall2 := toPlaceS_any a n cap ps (W0.setCell ⟨H + 1 + 1, 0, none⟩ (.int .i64 nx)) (HF.out.keep (by rw [hH]; exact B3))
  have HB3 : Hid _ := B3
  rw [hsz1] at hcall2
  clear B0 B3 z0 z1 z2 hf
  go_enter Try.func19, Try.ntmps19
  go_wp2_with fail
  refine hcall2.mono ?_
  rintro e w2 ⟨rfl, hfo, hb2⟩
  have hb2' : Below (W0.setCell ⟨H + 1 + 1, 0, none⟩ (.int .i64 nx)).heap.size (W0.setCell ⟨H + 1 + 1, 0, none⟩ (.int .i64 nx)) w2 := by rw [hsz1]; exact hb2
  have t0 := u0.keep hb2'
  have t1 := u1.keep hb2'
  have t2 := u2.keep hb2'
  have B4 := HB3.out.trans (hb2.mono (by omega))
  have c2 := t2.cell 1
  have f2 := t2.frozen 1
  have v2 := t2.set 1 (.slice (some ⟨H + 1 + 1 + 1, 0, none⟩) n n)
  have v1 := t1.other (B' := H + 1 + 1) (by omega) 1 (.slice (some ⟨H + 1 + 1 + 1, 0, none⟩) n n)
  have d0 := v2.cell 0
  have d1 := v2.cell 1
  have g0 := v1.cell 0
  have g1 := v1.cell 1
  have h0 := v1.frozen 0
  have h1 := v1.frozen 1
  have vr := (v1.set 0 (.int .i64 nx)).set 1 (.slice (some ⟨H + 1 + 1 + 1, 0, none⟩) n n)
  have r0 := vr.cell 0
  have r1 := vr.cell 1
  simp at c2 d0 d1 g0 g1 r0 r1
  have HN : Hid _ := And.intro hfo B4
  clear B4 hfo hb2 hb2' HB3 hcall2 u0 u1 u2 t0 t1 t2 v1 v2 vr x0 c0 f0 a2
  go_wp2
  refine bodyPost_ret (v := .agg #[.int .i64 nx, .slice (some ⟨H + 1 + 1 + 1, 0, none⟩) n n]) (by simp [results, Try.f19, go_sem, r0, r1]) rfl ?_
  obtain ⟨hnd, B2⟩ := HN.out
  have s : ∀ (W : World) (j i : Nat) (v : Value), H ≤ j → Below H w W → Below H w (W.setCell ⟨j, i, none⟩ v) := fun W j i v hj hb => hb.setCell (p := ⟨j, i, none⟩) hj v
  have k : ∀ (W : World) (j i : Nat) (v : Value), j < H + 1 + 1 + 1 → OwnPl W (.slice (some ⟨H + 1 + 1 + 1, 0, none⟩) n n) n ps → OwnPl (W.setCell ⟨j, i, none⟩ v) (.slice (some ⟨H + 1 + 1 + 1, 0, none⟩) n n) n ps := fun W j i v hj h => OwnE.block h fun g hg => Below.heap_setCell _ _ _ _ (by simp [Value.ownBlock] at hg; subst hg; show H + 1 + 1 + 1 ≠ j; omega)
  refine ⟨H + 1 + 1 + 1, rfl, by omega, k _ _ _ _ (by omega) (k _ _ _ _ (by omega) (k _ _ _ _ (by omega) hnd)), ?_⟩
  rw [hH]
  exact s _ _ _ _ (by omega) (s _ _ _ _ (by omega) (s _ _ _ _ (by omega) B2))
set_option maxHeartbeats 1600000 in
/-- eqMap of two that say the same. -/
theorem eqMap_same (nx : Int) (a a' : Option Addr) (n c c' : Nat) (ps : List PlD) (w : World) (h : PR w a n ps) (h' : PR w a' n ps) :
    Calls Try.prog 20 #[.agg #[.int .i64 nx, .slice a n c], .agg #[.int .i64 nx, .slice a' n c']] w fun e w' => e = .returned (.bool true) ∧ Below w.heap.size w w' := by
  have B0 : Below w.heap.size w ((w.alloc (.cells #[.int .i64 nx, .slice a n c] 26)).alloc (.cells #[.int .i64 nx, .slice a' n c'] 26)) := ((Below.refl _ w).alloc (Nat.le_refl _) _).alloc (by simp) _
  have z0 := (Blk.new w 26 #[.int .i64 nx, .slice a n c]).alloc (.cells #[.int .i64 nx, .slice a' n c'] 26)
  have z1 := Blk.new (w.alloc (.cells #[.int .i64 nx, .slice a n c] 26)) 26 #[.int .i64 nx, .slice a' n c']
  simp only [World.size_alloc] at z1
  have e0 : (nx != nx) = false := by simp
  have hcall := eqPlaceS_same a a' n c c' ps _ (h.keep B0) (h'.keep B0)
  have q0 := z0.cell 0
  have q1 := z0.cell 1
  have p0 := z1.cell 0
  have p1 := z1.cell 1
  simp at q0 q1 p0 p1
  have HB : Hid _ := B0
  clear h h' B0 z0 z1
  go_enter Try.func20, Try.ntmps20
  go_wp2_with fail
  refine hcall.mono ?_
  rintro e w1 ⟨rfl, hb1⟩
  go_wp2
  go_ret
  exact ⟨rfl, HB.out.trans (hb1.mono HB.out.size)⟩
set_option maxHeartbeats 1600000 in
theorem markMap_any (nx : Int) (a : Option Addr) (n c : Nat) (ps : List PlD) (w : World) (hs : 1 + 2 * n ≤ 9999990) (h : OwnPl w (.slice a n c) n ps) :
    Calls Try.prog 23 #[.agg #[.int .i64 nx, .slice a n c], .int .i64 1] w fun e w' => e = .returned (.int .i64 ((1 + 2 * n : Nat) : Int)) ∧ OwnPl w' (.slice a n c) n (mkPl 1 n) ∧ Sv (Value.slice a n c).ownBlock.toList w w' := by
  have B0 : Below w.heap.size w (w.alloc (.cells #[.int .i64 nx, .slice a n c] 26)) := (Below.refl _ w).alloc (Nat.le_refl _) _
  have hcall := markPlaceS_any (.slice a n c) n 1 ps (w.alloc (.cells #[.int .i64 nx, .slice a n c] 26)) (Nat.le_refl _) hs (OwnE.keep h B0)
  have HB : Hid _ := B0
  clear h B0
  go_enter Try.func23, Try.ntmps23
  go_wp2_with fail
  refine hcall.mono ?_
  rintro e w1 ⟨rfl, hO, hsv⟩
  clear hcall
  go_wp2
  go_ret
  exact ⟨ret_int (by omega), hO, (Below.sv HB.out _).trans hsv⟩
set_option maxHeartbeats 1600000 in
theorem heldMap_any (nx : Int) (a : Option Addr) (n c : Nat) (w : World) (Q : Nat) (hQ : 1 + 2 * n = Q) (hs : Q ≤ 9999990) (h : OwnPl w (.slice a n c) n (mkPl 1 n)) :
    Calls Try.prog 27 #[.agg #[.int .i64 nx, .slice a n c], .int .i64 1] w fun e w' => e = .returned (.int .i64 (Q : Int)) ∧ Below w.heap.size w w' := by
  have B0 : Below w.heap.size w (w.alloc (.cells #[.int .i64 nx, .slice a n c] 26)) := (Below.refl _ w).alloc (Nat.le_refl _) _
  have hcall := heldPlaceS_any (.slice a n c) n 1 (w.alloc (.cells #[.int .i64 nx, .slice a n c] 26)) (Nat.le_refl _) (by omega) (OwnE.keep h B0)
  have HB : Hid _ := B0
  rw [hQ] at hcall
  have hQ0 : ¬ (Q : Int) < 0 := by omega
  clear h B0 hQ
  go_enter Try.func27, Try.ntmps27
  go_wp2_with fail
  refine hcall.mono ?_
  rintro e w1 ⟨rfl, hw⟩
  obtain rfl := hw.symm
  clear hcall
  go_wp2
  go_ret
  exact ⟨rfl, HB.out⟩
end Go.Proofs.Ytjaicciilehlnaa

