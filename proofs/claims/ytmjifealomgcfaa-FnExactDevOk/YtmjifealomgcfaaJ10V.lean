/-
  Joined: DvM, ChMk.
-/
import Derived.Test.YtmjifealomgcfaaJ09V
namespace Go.Proofs.Ytmjifealomgcfaa
section
open Go.RowKit
/-- A fault. -/
structure FtD where
  tm : Int
  kd : Int
  kp : Int
deriving Inhabited
def ftE : El FtD := ⟨3, by omega, fun f => [.int .i64 f.tm, .int .i64 f.kd, .int .i64 f.kp], fun _ => rfl⟩
def RdFa (w : World) (a : Option Addr) (fs : List FtD) : Prop := RdE ftE (fun _ => True) w a fs
theorem RdFa.keep {w w' : World} {a : Option Addr} {fs : List FtD} (h : RdFa w a fs) (hb : Below w.heap.size w w') : RdFa w' a fs := RdE.mono h hb fun _ _ hr => hr
/-- The cells of a fault. -/
structure ThreeF (w : World) (b off : Nat) (r : FtD) : Prop where
  c0 : w.cell? ⟨b, off, none⟩ = some (.int .i64 r.tm)
  c1 : w.cell? ⟨b, off + 1, none⟩ = some (.int .i64 r.kd)
  c2 : w.cell? ⟨b, off + 2, none⟩ = some (.int .i64 r.kp)
theorem ThreeF.keep {w w' : World} {b off B : Nat} {r : FtD} (h : ThreeF w b off r) (hb : Below B w w') (hlt : b < B) : ThreeF w' b off r := ⟨(hb.cell hlt).trans h.c0, (hb.cell hlt).trans h.c1, (hb.cell hlt).trans h.c2⟩
theorem RdFa.lt {w : World} {a : Option Addr} {fs : List FtD} (h : RdFa w a fs) (hz : fs ≠ []) : ∃ b off, a = some ⟨b, off, none⟩ ∧ b < w.heap.size ∧ ∀ i r, fs[i]? = some r → ThreeF w b (off + i * 3) r := by
  obtain ⟨b, off, h1, h2, h3⟩ := RdE.lt h hz
  exact ⟨b, off, h1, h2, fun i p hi => ⟨(h3 i p hi).1 0 (by decide), (h3 i p hi).1 1 (by decide), (h3 i p hi).1 2 (by decide)⟩⟩
/-- Faults that can be read. -/
structure FR (w : World) (a : Option Addr) (m : Nat) (fs : List FtD) : Prop where
  len : fs.length = m
  tot : m ≤ 1048576
  rd : RdFa w a fs
theorem FR.keep {w w' : World} {a : Option Addr} {m : Nat} {fs : List FtD} (h : FR w a m fs) (hb : Below w.heap.size w w') : FR w' a m fs := ⟨h.len, h.tot, h.rd.keep hb⟩
theorem FR.some {w : World} {a : Option Addr} {m k : Nat} {fs : List FtD} (h : FR w a m fs) (hk : k < m) : ∃ b off r, a = some ⟨b, off, none⟩ ∧ b < w.heap.size ∧ fs[k]? = .some r ∧ ThreeF w b (off + k * 3) r := by
  have hl := h.len
  have hrk : fs[k]? = .some fs[k] := List.getElem?_eq_getElem (by omega)
  obtain ⟨b, off, e, hlt, hc⟩ := h.rd.lt (by intro h0; subst h0; simp at hl; omega)
  exact ⟨b, off, fs[k], e, hlt, hrk, hc k _ hrk⟩
/-- Faults of the call's own. -/
def OwnFa (w : World) (v : Value) (m : Nat) (fs : List FtD) : Prop := OwnE ftE 47 w v m fs
theorem OwnFa.rd {w : World} {a : Option Addr} {c n m : Nat} {fs : List FtD} (h : OwnFa w (.slice a n c) m fs) : RdFa w a fs := by
  obtain ⟨a', c', e, r⟩ := OwnE.rd (rd := fun _ => True) h (fun _ _ => trivial)
  simp only [Value.slice.injEq] at e
  rw [e.1]; exact r
set_option maxHeartbeats 1600000 in
theorem szFaultS_w (a : Option Addr) (n cap x : Nat) (w : World) (hm : n ≤ maxLen) (hx : x ≤ 1048576) :
    Calls Try.prog 7 #[.slice a n cap, .int .i64 x] w fun e w' => SzQ x n True e ∧ w' = w := by
  unfold maxLen at hm
  by_cases h : x < n
  · have h1 : ((x : Int) - (n : Int)) < 0 := by omega
    go_enter Try.func7, Try.ntmps7
    go_wp2
    go_ret
    exact ⟨.inl rfl, rfl⟩
  · have h1 : ¬ ((x : Int) - (n : Int)) < 0 := by omega
    go_enter Try.func7, Try.ntmps7
    go_wp2
    go_ret
    exact ⟨.inr ⟨x - n, by omega, ret_int (by omega), trivial⟩, rfl⟩
set_option maxHeartbeats 1600000 in
theorem szDev_w (a : Option Addr) (n cap x : Nat) (bs : List BkR) (ops : Int) (fa : Option Addr) (m fc : Nat) (down : Bool) (w : World) (hn : bs.length = n) (hm : n ≤ maxLen) (hfm : m ≤ maxLen) (hx : x ≤ 1048576) (hin : ∀ r ∈ bs, BkIn r) (hr : RdBs w a bs) :
    Calls Try.prog 16 #[.agg #[.slice a n cap, .int .i64 ops, .slice fa m fc, .bool down], .int .i64 x] w fun e w' => SzQ x (totB (bs.map BkR.D) + m) True e ∧ Below w.heap.size w w' := by
  have B0 : Below w.heap.size w (w.alloc (.cells #[.slice a n cap, .int .i64 ops, .slice fa m fc, .bool down] 41)) := (Below.refl _ w).alloc (Nat.le_refl _) _
  have z0 := Blk.new w 41 #[.slice a n cap, .int .i64 ops, .slice fa m fc, .bool down]
  have hcall := szChip_w a n cap x bs (w.alloc (.cells #[.slice a n cap, .int .i64 ops, .slice fa m fc, .bool down] 41)) hn hm hx hin (hr.keep B0)
  have HB : Hid _ := B0
  clear B0 hin hr hn
  go_enter Try.func16, Try.ntmps16
  go_wp2_with fail
  refine hcall.mono ?_
  rintro e w1 ⟨(rfl | ⟨v, hv, rfl, hzz⟩), hb1⟩
  · go_wp2
    go_ret
    exact ⟨.inl rfl, HB.out.trans (hb1.mono HB.out.size)⟩
  · have hv0 : ¬ (v : Int) < 0 := by omega
    have z1 := (z0.keep hb1).cell 2
    simp at z1
    have hcall2 := szFaultS_w fa m fc v w1 hfm (by omega)
    go_wp2_with fail
    refine hcall2.mono ?_
    rintro e w2 ⟨(rfl | ⟨v2, hv2, rfl, hzz2⟩), hw⟩
    · obtain rfl := hw.symm
      go_wp2
      go_ret
      exact ⟨.inl rfl, HB.out.trans (hb1.mono HB.out.size)⟩
    · obtain rfl := hw.symm
      have hv1 : ¬ (v2 : Int) < 0 := by omega
      go_wp2
      go_ret
      exact ⟨.inr ⟨v2, by omega, rfl, trivial⟩, HB.out.trans (hb1.mono HB.out.size)⟩
set_option maxHeartbeats 1600000 in
theorem toFault_any (t k m : Int) (w : World) :
    Calls Try.prog 26 #[.agg #[.int .i64 t, .int .i64 k, .int .i64 m]] w fun e w' => e = .returned (.agg #[.int .i64 t, .int .i64 k, .int .i64 m]) ∧ Below w.heap.size w w' := by
  have B0 : Below w.heap.size w (((w.alloc (.cells #[.int .i64 t, .int .i64 k, .int .i64 m] 54)).alloc (.cells #[.int .i64 0, .int .i64 0, .int .i64 0] 47)).alloc (.cells #[.int .i64 0, .int .i64 0, .int .i64 0] 47)) := (((Below.refl _ w).alloc (Nat.le_refl _) _).alloc (by simp) _).alloc (by simp; omega) _
  obtain ⟨H, hH⟩ : ∃ H, w.heap.size = H := ⟨_, rfl⟩
  have t0 : Blk (((w.alloc (.cells #[.int .i64 t, .int .i64 k, .int .i64 m] 54)).alloc (.cells #[.int .i64 0, .int .i64 0, .int .i64 0] 47)).alloc (.cells #[.int .i64 0, .int .i64 0, .int .i64 0] 47)) w.heap.size 54 #[.int .i64 t, .int .i64 k, .int .i64 m] := ((Blk.new w 54 _).alloc _).alloc _
  have t1 := (Blk.new (w.alloc (.cells #[.int .i64 t, .int .i64 k, .int .i64 m] 54)) 47 #[.int .i64 0, .int .i64 0, .int .i64 0]).alloc (.cells #[.int .i64 0, .int .i64 0, .int .i64 0] 47)
  have t2 := Blk.new ((w.alloc (.cells #[.int .i64 t, .int .i64 k, .int .i64 m] 54)).alloc (.cells #[.int .i64 0, .int .i64 0, .int .i64 0] 47)) 47 #[.int .i64 0, .int .i64 0, .int .i64 0]
  simp only [World.size_alloc] at t1 t2
  go_enter Try.func26, Try.ntmps26
  obtain ⟨W0, hW0⟩ : ∃ W, ((w.alloc (.cells #[.int .i64 t, .int .i64 k, .int .i64 m] 54)).alloc (.cells #[.int .i64 0, .int .i64 0, .int .i64 0] 47)).alloc (.cells #[.int .i64 0, .int .i64 0, .int .i64 0] 47) = W := ⟨_, rfl⟩
  rw [hW0] at B0 t0 t1 t2
  rw [hH] at t0 t1 t2 B0
  have a0 := t0.cell 0
  have a1 := t0.cell 1
  have a2 := t0.cell 2
  have c0 := t2.cell 0
  have c1 := t2.cell 1
  have c2 := t2.cell 2
  have f0 := t2.frozen 0
  have f1 := t2.frozen 1
  have f2 := t2.frozen 2
  have v2 := ((t2.set 0 (.int .i64 t)).set 1 (.int .i64 k)).set 2 (.int .i64 m)
  have v1 := ((t1.other (B' := H + 1 + 1) (by omega) 0 (.int .i64 t)).other (B' := H + 1 + 1) (by omega) 1 (.int .i64 k)).other (B' := H + 1 + 1) (by omega) 2 (.int .i64 m)
  have d0 := v2.cell 0
  have d1 := v2.cell 1
  have d2 := v2.cell 2
  have g0 := v1.cell 0
  have g1 := v1.cell 1
  have g2 := v1.cell 2
  have h0 := v1.frozen 0
  have h1 := v1.frozen 1
  have h2 := v1.frozen 2
  have r0 := (((v1.set 0 (.int .i64 t)).set 1 (.int .i64 k)).set 2 (.int .i64 m)).cell 0
  have r1 := (((v1.set 0 (.int .i64 t)).set 1 (.int .i64 k)).set 2 (.int .i64 m)).cell 1
  have r2 := (((v1.set 0 (.int .i64 t)).set 1 (.int .i64 k)).set 2 (.int .i64 m)).cell 2
  simp at a0 a1 a2 c0 c1 c2 d0 d1 d2 g0 g1 g2 r0 r1 r2
  have HO : Hid (Below H w W0) := B0
  clear B0 v1 v2 t0 t1 t2
  go_wp2
  refine bodyPost_ret (v := .agg #[.int .i64 t, .int .i64 k, .int .i64 m]) (by simp [results, Try.f26, go_sem, r0, r1, r2]) rfl ?_
  have B2 := HO.out
  have s : ∀ (W : World) (j i : Nat) (v : Value), H ≤ j → Below H w W → Below H w (W.setCell ⟨j, i, none⟩ v) := fun W j i v hj hb => hb.setCell (p := ⟨j, i, none⟩) hj v
  refine ⟨rfl, ?_⟩
  rw [hH]
  exact s _ _ _ _ (by omega) (s _ _ _ _ (by omega) (s _ _ _ _ (by omega) (s _ _ _ _ (by omega) (s _ _ _ _ (by omega) (s _ _ _ _ (by omega) B2)))))
def ftZ : FtD := ⟨0, 0, 0⟩
theorem Try.infoFault : (Try.prog.info? 47).map (fun i => (i.zero, i.size, i.bytes)) = some (some (.agg #[.int .i64 0, .int .i64 0, .int .i64 0]), 3, 24) := by kernel_rfl
theorem made_ownFa {w : World} {g n : Nat} (h : w.ownsRow 0 47 3 (.slice (some ⟨g, 0, none⟩) n n) n (madeCells (Value.agg #[.int .i64 0, .int .i64 0, .int .i64 0]).cells (n * 3)).toList) : OwnE ftE 47 w (.slice (some ⟨g, 0, none⟩) n n) n (List.replicate n ftZ) := made_row ftE ftZ (.agg #[.int .i64 0, .int .i64 0, .int .i64 0]) rfl h
set_option maxHeartbeats 3200000 in
theorem toFaultS_any (a : Option Addr) (n cap : Nat) (fs : List FtD) (w : World) (hr : FR w a n fs) :
    Calls Try.prog 9 #[.slice a n cap] w fun e w' => e = .returned (.slice (some ⟨w.heap.size, 0, none⟩) n n) ∧ OwnFa w' (.slice (some ⟨w.heap.size, 0, none⟩) n n) n fs ∧ Below w.heap.size w w' := by
  obtain ⟨i0, hi, hz0, hz1, hz2⟩ := info_parts Try.infoFault
  have hnn := hr.tot
  have hm : n ≤ maxLen := by unfold maxLen; omega
  have hby : i0.bytes * n ≤ 281474976710656 := by rw [hz2]; omega
  have HR : Hid (FR w a n fs) := hr
  clear hr
  go_enter Try.func9, Try.ntmps9
  go_wp2_with (at_make; refine wpList_make_full _ rfl (.tmp 6) (.tmp 6) 27 rfl 0 47 i0 (.agg #[.int .i64 0, .int .i64 0, .int .i64 0]) 3 Try.underlying27 hi hz0 hz1 .i64 .i64 _ _ n rfl rfl rfl rfl hby hm (Nat.zero_le _) ?_; intro w1 hown hgrow)
  have ho := made_ownFa hown
  have hB : Below w.heap.size w w1 := (Below.refl _ _).grown hgrow (Nat.le_refl _) (by simp)
  clear hown hgrow
  go_loopw [4] (fun i wr => ∃ (k : Nat) (us : List FtD), k ≤ n ∧ i = .int .i64 k ∧ us.length = k ∧ Hid (us = fs.take k) ∧ OwnE ftE 47 wr (.slice (some ⟨w.heap.size, 0, none⟩) n n) n (us ++ List.replicate (n - k) ftZ) ∧ Below w.heap.size w wr) (fun i _ => n - (intOf i).toNat)
  case atStart => exact ⟨0, [], Nat.zero_le _, rfl, rfl, rfl, ho, hB⟩
  case round =>
    obtain ⟨k, us, hk, rfl, htk, hcp, hown, hbel⟩ := hrel
    clear ho hB
    by_cases hkn : k < n
    · have hki : (k : Int) < (n : Int) := by omega
      obtain ⟨b, off, r, rfl, hlt, hrk, x6⟩ := HR.out.some hkn
      have hcp' : Hid (us ++ [r] = fs.take (k + 1)) := by show _ = _; rw [List.take_add_one, hrk, hcp.out]; rfl
      obtain ⟨x0, x1, x2⟩ := x6.keep hbel hlt
      obtain ⟨rt, rk, rm⟩ := r
      dsimp only at x0 x1 x2
      have hcall := toFault_any rt rk rm wr
      have hwz := hbel.size
      clear x6 hrk
      go_wp2_with fail
      refine hcall.mono ?_
      rintro e w1 ⟨rfl, hb1⟩
      have ho1 := hown.keep hb1
      have hlc := ho1.lt (g := w.heap.size) rfl
      have hzk : (us ++ List.replicate (n - k) ftZ)[k]? = some ftZ := list_mid us ftZ (n - k) k htk (by omega)
      have q0 := ho1.cell k 0 ftZ hzk (by decide)
      have q1 := ho1.cell k 1 ftZ hzk (by decide)
      have q2 := ho1.cell k 2 ftZ hzk (by decide)
      have f0 := ho1.frozen (k * 3)
      have f1 := ho1.frozen (k * 3 + 1)
      have f2 := ho1.frozen (k * 3 + 2)
      have s0 := ho1.set k 0 ftZ ⟨rt, 0, 0⟩ (.int .i64 rt) hzk (by decide) (by simp [ftE, ftZ])
      have hzk1 : ((us ++ List.replicate (n - k) ftZ).set k ⟨rt, 0, 0⟩)[k]? = some ⟨rt, 0, 0⟩ := by
        rw [List.getElem?_set_self (by simp; omega)]
      have s1 := s0.set k 1 ⟨rt, 0, 0⟩ ⟨rt, rk, 0⟩ (.int .i64 rk) hzk1 (by decide) (by simp [ftE])
      rw [set_set_at] at s1
      have hzk2 : ((us ++ List.replicate (n - k) ftZ).set k ⟨rt, rk, 0⟩)[k]? = some ⟨rt, rk, 0⟩ := by
        rw [List.getElem?_set_self (by simp; omega)]
      have s2 := s1.set k 2 ⟨rt, rk, 0⟩ ⟨rt, rk, rm⟩ (.int .i64 rm) hzk2 (by decide) (by simp [ftE])
      rw [set_set_at, show (us ++ List.replicate (n - k) ftZ).set k ⟨rt, rk, rm⟩ = (us ++ [⟨rt, rk, rm⟩]) ++ List.replicate (n - (k + 1)) ftZ by rw [← htk, set_mid us _ _ _ (by omega), htk, show n - k - 1 = n - (k + 1) by omega]] at s2
      have hgr : w1.grownBy (((w1.setCell ⟨w.heap.size, k * 3, none⟩ (.int .i64 rt)).setCell ⟨w.heap.size, k * 3 + 1, none⟩ (.int .i64 rk)).setCell ⟨w.heap.size, k * 3 + 2, none⟩ (.int .i64 rm)) (some w.heap.size) := gr_more (gr_more (gr_setC w1 w.heap.size (k * 3) _) _ _) _ _
      have hbel1 : Below w.heap.size w w1 := hbel.trans (hb1.mono hwz)
      have hbel' := hbel1.grown hgr hbel1.size (by intro g hg; simp at hg; omega)
      have hl' : (us ++ [⟨rt, rk, rm⟩] : List FtD).length = k + 1 := by simp [htk]
      have q0' : w1.cell? ⟨w.heap.size, k * 3, none⟩ = some (.int .i64 0) := q0
      have q1' : w1.cell? ⟨w.heap.size, k * 3 + 1, none⟩ = some (.int .i64 0) := q1
      have q2' : w1.cell? ⟨w.heap.size, k * 3 + 2, none⟩ = some (.int .i64 0) := q2
      have S1 : Hid _ := s2
      clear hown hbel hcp ho1 hb1 hbel1 hgr hcall hzk hzk1 hzk2 s0 s1 s2 q0 q1 q2
      go_wp2
      go_roundw
      case rel => exact ⟨k + 1, _, by omega, by go_num, hl', hcp', S1.out, hbel'⟩
      case measure => simp [intOf]; omega
    · go_wp2
      go_ret
      obtain rfl : k = n := by omega
      have := hcp.out
      rw [List.take_of_length_le (by rw [HR.out.len]; omega)] at this
      rw [Nat.sub_self, List.replicate_zero, List.append_nil, this] at hown
      exact ⟨rfl, hown, hbel⟩
set_option maxHeartbeats 1600000 in
theorem eqFault_same (t k m : Int) (w : World) :
    Calls Try.prog 22 #[.agg #[.int .i64 t, .int .i64 k, .int .i64 m], .agg #[.int .i64 t, .int .i64 k, .int .i64 m]] w fun e w' => e = .returned (.bool true) ∧ Below w.heap.size w w' := by
  have B0 : Below w.heap.size w ((w.alloc (.cells #[.int .i64 t, .int .i64 k, .int .i64 m] 47)).alloc (.cells #[.int .i64 t, .int .i64 k, .int .i64 m] 47)) := ((Below.refl _ w).alloc (Nat.le_refl _) _).alloc (by simp) _
  have z0 := (Blk.new w 47 #[.int .i64 t, .int .i64 k, .int .i64 m]).alloc (.cells #[.int .i64 t, .int .i64 k, .int .i64 m] 47)
  have z1 := Blk.new (w.alloc (.cells #[.int .i64 t, .int .i64 k, .int .i64 m] 47)) 47 #[.int .i64 t, .int .i64 k, .int .i64 m]
  simp only [World.size_alloc] at z1
  have e0 : (t != t) = false := by simp
  have e1 : (k != k) = false := by simp
  have e2 : (m != m) = false := by simp
  obtain ⟨q0, q1, q2⟩ : _ ∧ _ ∧ _ := ⟨z0.cell 0, z0.cell 1, z0.cell 2⟩
  obtain ⟨p0, p1, p2⟩ : _ ∧ _ ∧ _ := ⟨z1.cell 0, z1.cell 1, z1.cell 2⟩
  simp at q0 q1 q2 p0 p1 p2
  have HB : Hid _ := B0
  clear z0 z1 B0
  go_enter Try.func22, Try.ntmps22
  go_wp2
  go_ret
  exact ⟨rfl, HB.out⟩
set_option maxHeartbeats 3200000 in
theorem eqFaultS_same (a a' : Option Addr) (n cap cap' : Nat) (fs : List FtD) (w : World) (hr : FR w a n fs) (hr' : FR w a' n fs) :
    Calls Try.prog 12 #[.slice a n cap, .slice a' n cap'] w fun e w' => e = .returned (.bool true) ∧ Below w.heap.size w w' := by
  have hnn := hr.tot
  have HR : Hid (FR w a n fs) := hr
  have HR' : Hid (FR w a' n fs) := hr'
  clear hr hr'
  go_enter Try.func12, Try.ntmps12
  go_wp2
  go_loopw [5] (fun i wr => ∃ k : Nat, k ≤ n ∧ i = .int .i64 k ∧ Below w.heap.size w wr) (fun i _ => n - (intOf i).toNat)
  case atStart => exact ⟨0, Nat.zero_le _, rfl, Below.refl _ _⟩
  case round =>
    obtain ⟨k, hk, rfl, hB⟩ := hrel
    by_cases hkn : k < n
    · have hki : (k : Int) < (n : Int) := by omega
      obtain ⟨b, off, r, rfl, hlt, hrk, x6⟩ := HR.out.some hkn
      obtain ⟨b', off', r', rfl, hlt', hrk', y6⟩ := HR'.out.some hkn
      obtain rfl : r' = r := by rw [hrk] at hrk'; simpa using hrk'.symm
      have hcd := eqFault_same r'.tm r'.kd r'.kp wr.drew
      obtain ⟨x0, x1, x2⟩ := x6.keep hB hlt
      obtain ⟨y0, y1, y2⟩ := y6.keep hB hlt'
      have hwz := hB.size
      clear x6 y6 hrk hrk'
      go_wp2
      go_region_with ((go_at_call 22; (with_reducible refine hcd.mono ?_); rintro e w1 ⟨rfl, hb1⟩))
      all_goals go_wp2
      all_goals go_roundw
      all_goals first
        | (case rel => exact ⟨k + 1, by omega, by go_num, hB.drew.trans (hb1.mono hwz)⟩)
        | (case measure => simp [intOf]; omega)
    · have hki : ¬ (k : Int) < (n : Int) := by omega
      go_wp2
      go_ret
      exact ⟨rfl, hB⟩
end

section
open Go.RowKit
/-- A page, a block, marked from k on. -/
def mkPg (k : Nat) (p : PgR) : PgR := ⟨decide (k % 3 = 0), p.a, p.cap, marksG (k + 1) p.zs.length⟩
def mkPs : Nat → List PgR → List PgR
  | _, [] => []
  | k, p :: ps => mkPg k p :: mkPs (k + (1 + p.zs.length)) ps
theorem mkPg_v (k : Nat) (p : PgR) : (mkPg k p).v = p.v := by simp [mkPg, PgR.v, marksG]
theorem mkPs_append (k : Nat) (xs ys : List PgR) : mkPs k (xs ++ ys) = mkPs k xs ++ mkPs (k + totP (xs.map PgR.D)) ys := by
  induction xs generalizing k with
  | nil => simp [mkPs, totP]
  | cons x xs ih =>
    simp only [List.cons_append, mkPs, List.map_cons]
    rw [ih, totP_cons, show k + (1 + x.zs.length) + totP (xs.map PgR.D) = k + (1 + x.D.zs.length + totP (xs.map PgR.D)) by simp only [PgR.D]; omega]
theorem mkPs_length (k : Nat) (ps : List PgR) : (mkPs k ps).length = ps.length := by
  induction ps generalizing k with
  | nil => rfl
  | cons p ps ih => simp [mkPs, ih]
theorem mkPs_take {k i : Nat} {ps : List PgR} {p : PgR} (h : ps[i]? = some p) : mkPs k (ps.take (i + 1)) = mkPs k (ps.take i) ++ [mkPg (k + totP ((ps.take i).map PgR.D)) p] := by
  rw [List.take_add_one, h, mkPs_append]
  rfl
theorem totP_take {i : Nat} {ps : List PgR} {p : PgR} (h : ps[i]? = some p) : totP ((ps.take (i + 1)).map PgR.D) = totP ((ps.take i).map PgR.D) + (1 + p.zs.length) := by
  rw [List.take_add_one, h]
  simp [totP, PgR.D]
theorem totP_take_le (i : Nat) (ps : List PgR) : totP ((ps.take i).map PgR.D) ≤ totP (ps.map PgR.D) := by
  have : totP (ps.map PgR.D) = totP ((ps.take i).map PgR.D) + totP ((ps.drop i).map PgR.D) := by rw [← totP_append, ← List.map_append, List.take_append_drop]
  omega
theorem fp_mkPs (k : Nat) (ps : List PgR) : (mkPs k ps).flatMap (fun p => p.v.ownBlock.toList) = ps.flatMap fun p => p.v.ownBlock.toList := by
  induction ps generalizing k with
  | nil => rfl
  | cons p ps ih => simp only [mkPs, List.flatMap_cons, ih, mkPg_v]
/-- The pages behind i rounds. -/
def rowP (k : Nat) (ps : List PgR) (i : Nat) : List PgR := mkPs k (ps.take i) ++ ps.drop i
theorem fp_rowP (v : Value) (k : Nat) (ps : List PgR) (i : Nat) : fpPs v (rowP k ps i) = fpPs v ps := by
  unfold fpPs rowP
  rw [List.flatMap_append, fp_mkPs, ← List.flatMap_append, List.take_append_drop]
theorem rowP_all (k : Nat) (ps : List PgR) (n : Nat) (h : ps.length = n) : rowP k ps n = mkPs k ps := by subst h; simp [rowP]
theorem rowP_len (k : Nat) (ps : List PgR) (i : Nat) : (rowP k ps i).length = ps.length := by
  unfold rowP
  rw [List.length_append, mkPs_length, ← List.length_append, List.take_append_drop]
theorem rowP_at {k i : Nat} {ps : List PgR} {p : PgR} (h : ps[i]? = some p) : (rowP k ps i)[i]? = some p := by
  have hl := (List.getElem?_eq_some_iff.1 h).1
  unfold rowP
  rw [List.getElem?_append_right (by rw [mkPs_length, List.length_take]; omega), mkPs_length, List.length_take, List.getElem?_drop, show i + (i - min i ps.length) = i by omega, h]
theorem rowP_set {k i : Nat} {ps : List PgR} {p : PgR} (h : ps[i]? = some p) : (rowP k ps i).set i (mkPg (k + totP ((ps.take i).map PgR.D)) p) = rowP k ps (i + 1) := by
  obtain ⟨hl, he⟩ := List.getElem?_eq_some_iff.1 h
  unfold rowP
  rw [List.set_append_right _ _ (by rw [mkPs_length, List.length_take]; omega), mkPs_length, List.length_take, show i - min i ps.length = 0 by omega, List.drop_eq_getElem_cons hl, List.set_cons_zero, mkPs_take h, List.append_assoc]
  rfl
theorem mem_set {α : Type} {l : List α} {i : Nat} {x y : α} (h : y ∈ l.set i x) : y = x ∨ ∃ j, j ≠ i ∧ l[j]? = some y := by
  obtain ⟨j, hj⟩ := List.mem_iff_getElem?.1 h
  by_cases e : j = i
  · subst e
    left
    rw [List.getElem?_set_self (by have := (List.getElem?_eq_some_iff.1 hj).1; simpa using this)] at hj
    simpa using hj.symm
  · right
    rw [List.getElem?_set_ne (fun h => e h.symm)] at hj
    exact ⟨j, e, hj⟩
/-- Of a list without doubles what one element takes is not taken by another one. -/
theorem flat_apart {α : Type} {f : α → List Nat} {l : List α} (hd : (l.flatMap f).Nodup) {i j : Nat} {x y : α} (hi : l[i]? = some x) (hj : l[j]? = some y) (hne : i ≠ j) {g : Nat} (hx : g ∈ f x) : g ∉ f y := by
  induction l generalizing i j with
  | nil => simp at hi
  | cons z l ih =>
    rw [List.flatMap_cons, List.nodup_append] at hd
    cases i with
    | zero =>
      cases j with
      | zero => omega
      | succ j =>
        simp at hi hj
        subst hi
        intro hy
        exact hd.2.2 g hx g (List.mem_flatMap.2 ⟨y, List.mem_of_getElem? hj, hy⟩) rfl
    | succ i =>
      cases j with
      | zero =>
        simp at hi hj
        subst hj
        intro hy
        exact hd.2.2 g hy g (List.mem_flatMap.2 ⟨x, List.mem_of_getElem? hi, hx⟩) rfl
      | succ j => exact ih hd.2.1 (by simpa using hi) (by simpa using hj) (by omega)
/-- One page marked: the row's cell first, then the bytes. -/
theorem markP_step {wr w1 : World} {g c n i k0 : Nat} {ps : List PgR} {p : PgR} (hn : ps.length = n) (hp : ps[i]? = some p) (hnd : (fpPs (.slice (some ⟨g, 0, none⟩) n c) ps).Nodup)
    (hO : OwnPs wr (.slice (some ⟨g, 0, none⟩) n c) (rowP k0 ps i)) (u : Bool) (hu : u = decide ((k0 + totP ((ps.take i).map PgR.D)) % 3 = 0))
    (hR : RowB w1 p.v p.zs.length (marksG (k0 + totP ((ps.take i).map PgR.D) + 1) p.zs.length)) (hgr : (wr.setCell ⟨g, i * 2, none⟩ (.bool u)).grownBy w1 p.v.ownBlock) :
    OwnPs w1 (.slice (some ⟨g, 0, none⟩) n c) (rowP k0 ps (i + 1)) ∧ Sv (fpPs (.slice (some ⟨g, 0, none⟩) n c) ps) wr w1 := by
  have hfp := fp_rowP (.slice (some ⟨g, 0, none⟩) n c) k0 ps i
  have hat := rowP_at (k := k0) hp
  have hin : g ∉ (ps.flatMap fun q => q.v.ownBlock.toList) := by
    unfold fpPs at hnd
    rw [List.nodup_append] at hnd
    intro h
    exact hnd.2.2 g (by simp [Value.ownBlock]) g h rfl
  have hin' : ∀ q ∈ rowP k0 ps i, g ∉ q.v.ownBlock.toList := fun q hq h => by
    have h2 : g ∈ (rowP k0 ps i).flatMap fun q => q.v.ownBlock.toList := List.mem_flatMap.2 ⟨q, hq, h⟩
    unfold rowP at h2
    rw [List.flatMap_append, fp_mkPs, ← List.flatMap_append, List.take_append_drop] at h2
    exact hin h2
  have hlr := rowP_len k0 ps i
  have hown : OwnE pgE 84 wr (.slice (some ⟨g, 0, none⟩) n c) n (rowP k0 ps i) := by have := hO.1; rw [hlr, hn] at this; exact this
  have hglt := hown.lt (g := g) rfl
  have hpo := hO.2 p (List.mem_of_getElem? hat)
  have hpm : p ∈ ps := List.mem_of_getElem? hp
  have hgp : p.v.ownBlock ≠ some g := fun e => hin' p (List.mem_of_getElem? hat) (by simp [e])
  have s1 := hown.set i 0 p ⟨u, p.a, p.cap, p.zs⟩ (.bool u) hat (by decide) rfl
  have s2 : OwnE pgE 84 w1 (.slice (some ⟨g, 0, none⟩) n c) n ((rowP k0 ps i).set i ⟨u, p.a, p.cap, p.zs⟩) := s1.block fun j hj => by
    simp [Value.ownBlock] at hj
    subst hj
    exact hgr.block g (by rw [size_setC]; exact hglt) (fun e => hgp e.symm)
  have s3 : OwnE pgE 84 w1 (.slice (some ⟨g, 0, none⟩) n c) n (rowP k0 ps (i + 1)) := by
    have hx : pgE.xv ((rowP k0 ps i).set i ⟨u, p.a, p.cap, p.zs⟩) = pgE.xv (rowP k0 ps (i + 1)) := by
      rw [← rowP_set hp]
      have e : pgE.en (mkPg (k0 + totP ((ps.take i).map PgR.D)) p) = pgE.en ⟨u, p.a, p.cap, p.zs⟩ := by simp [pgE, mkPg, marksG, hu]
      have hx1 := pgE.xv_set (rowP k0 ps i) i 0 p ⟨u, p.a, p.cap, p.zs⟩ (.bool u) hat (by decide) rfl
      have hx2 := pgE.xv_set (rowP k0 ps i) i 0 p (mkPg (k0 + totP ((ps.take i).map PgR.D)) p) (.bool u) hat (by decide) (by rw [e]; rfl)
      rw [← hx1, ← hx2]
    have := s2
    unfold OwnE at this ⊢
    rw [hx] at this
    exact this
  have hsv : Sv (fpPs (.slice (some ⟨g, 0, none⟩) n c) ps) wr w1 := by
    refine Sv.trans (b := wr.setCell ⟨g, i * 2, none⟩ (.bool u)) (Sv.gr (gr_setC wr g (i * 2) _) fun j hj => ?_) (Sv.gr hgr fun j hj => ?_)
    · simp at hj; subst hj; exact fpPs_row rfl
    · exact fpPs_pg hpm hj
  refine ⟨⟨by rw [rowP_len, hn]; exact s3, fun q hq => ?_⟩, hsv⟩
  rw [← rowP_set hp] at hq
  rcases mem_set hq with rfl | ⟨j, hj, hqj⟩
  · show RowB w1 (mkPg _ p).v (mkPg _ p).zs.length (mkPg _ p).zs
    rw [mkPg_v]
    have : (mkPg (k0 + totP ((ps.take i).map PgR.D)) p).zs.length = p.zs.length := by simp [mkPg, marksG]
    rw [this]
    exact hR
  · have hnd' : ((rowP k0 ps i).flatMap fun q => q.v.ownBlock.toList).Nodup := by
      rw [← hfp] at hnd
      unfold fpPs at hnd
      exact (List.nodup_append.1 hnd).2.1
    refine (hO.2 q (List.mem_of_getElem? hqj)).block fun b hb => ?_
    have hbl := (hO.2 q (List.mem_of_getElem? hqj)).lt hb
    rw [hgr.block b (by rw [size_setC]; exact hbl) (fun e => flat_apart (g := b) hnd' hat hqj (fun h => hj h.symm) (by rw [← e]; simp) (by rw [hb]; simp))]
    refine Below.heap_setCell _ _ _ _ ?_
    show b ≠ g
    intro e
    subst e
    exact hin' q (List.mem_of_getElem? hqj) (by simp [hb])
theorem rem3b (m : Nat) : ((m : Int) % 3 == 0) = decide (m % 3 = 0) := by
  by_cases h : m % 3 = 0
  · have h2 : (m : Int) % 3 = 0 := by omega
    rw [h2, h]
    rfl
  · have h2 : (m : Int) % 3 ≠ 0 := by omega
    simp [h]
    omega
set_option maxRecDepth 100000 in
set_option maxHeartbeats 4000000 in
theorem markPs_any (v : Value) (n k0 : Nat) (ps : List PgR) (w : World) (hn : ps.length = n) (h1 : 1 ≤ k0) (hs : k0 + totP (ps.map PgR.D) ≤ 9999990) (hO : OwnPs w v ps) (hnd : (fpPs v ps).Nodup) :
    Calls Try.prog 60 #[v, .int .i64 k0] w fun e w' => e = .returned (.int .i64 ((k0 + totP (ps.map PgR.D) : Nat) : Int)) ∧ OwnPs w' v (mkPs k0 ps) ∧ Sv (fpPs v ps) w w' := by
  have hl := totP_len (ps.map PgR.D)
  simp only [List.length_map] at hl
  have hnb : n ≤ 9999990 := by omega
  have hO1 := hO.1
  rw [hn] at hO1
  rcases hO1.cases with ⟨rfl, rfl, rfl⟩ | ⟨g, c, rfl, hglt⟩
  · go_enter Try.func60, Try.ntmps60
    go_wp2
    refine wp_loop_rounds 1 ?_; rw [rounds_succ]
    go_wp2
    go_ret
    exact ⟨by simp [totP], hO, Sv.refl _ _⟩
  · have HO : Hid (OwnPs w (.slice (some ⟨g, 0, none⟩) n c) (rowP k0 ps 0)) := hO
    have HN : Hid (ps.length = n) := hn
    have HND : Hid ((fpPs (.slice (some ⟨g, 0, none⟩) n c) ps).Nodup) := hnd
    clear hO hO1 hnd hn
    go_enter Try.func60, Try.ntmps60
    go_wp2
    go_loopw [1, 5] (fun q i wr => ∃ (k m : Nat), k ≤ n ∧ i = .int .i64 k ∧ q = .int .i64 (m : Int) ∧ Hid (m = k0 + totP ((ps.take k).map PgR.D)) ∧ Hid (OwnPs wr (.slice (some ⟨g, 0, none⟩) n c) (rowP k0 ps k)) ∧ Hid (Sv (fpPs (.slice (some ⟨g, 0, none⟩) n c) ps) w wr)) (fun _ i _ => n - (intOf i).toNat)
    case atStart => exact ⟨0, k0, Nat.zero_le _, rfl, rfl, by show _ = _; simp [totP], HO, Sv.refl _ _⟩
    case round =>
      obtain ⟨k, m, hk, rfl, rfl, hm, hOw, hSv⟩ := hrel
      by_cases hkn : k < n
      · have hki : (k : Int) < (n : Int) := by omega
        obtain ⟨p, hpk⟩ : ∃ p, ps[k]? = some p := ⟨_, List.getElem?_eq_getElem (by rw [HN.out]; exact hkn)⟩
        have hat := rowP_at (k := k0) hpk
        have hlr := rowP_len k0 ps k
        have hown : OwnE pgE 84 wr (.slice (some ⟨g, 0, none⟩) n c) n (rowP k0 ps k) := by have := hOw.out.1; rw [hlr, HN.out] at this; exact this
        have q0 : wr.cell? ⟨g, k * 2, none⟩ = some (.bool p.used) := hown.cell k 0 p hat (by decide)
        have q1 : wr.cell? ⟨g, k * 2 + 1, none⟩ = some (.slice p.a p.zs.length p.cap) := hown.cell k 1 p hat (by decide)
        have f0 := hown.frozen (k * 2)
        have htl := totP_take_le (k + 1) ps
        have htk := totP_take hpk
        have hmo := hm.out
        have hpo := hOw.out.2 p (List.mem_of_getElem? hat)
        obtain ⟨U, hU⟩ : ∃ U, decide (m % 3 = 0) = U := ⟨_, rfl⟩
        have hne : p.v.ownBlock ≠ some g := fun e => by
          have h3 := HND.out
          unfold fpPs at h3
          rw [List.nodup_append] at h3
          exact h3.2.2 g (by simp [Value.ownBlock]) g (List.mem_flatMap.2 ⟨p, List.mem_of_getElem? hpk, by simp [e]⟩) rfl
        have hpo1 : RowB (wr.setCell ⟨g, k * 2, none⟩ (.bool U)) p.v p.zs.length p.zs := RowB.block hpo fun b hb => Below.heap_setCell _ _ _ _ (by show b ≠ g; intro e; subst e; exact hne hb)
        have hcall := markBG p.v p.zs.length (m + 1) p.zs (wr.setCell ⟨g, k * 2, none⟩ (.bool U)) (by omega) (by omega) hpo1
        have hg1 := (Below.cell (B := wr.heap.size) (w := wr) (w' := wr) (p := ⟨g, k * 2 + 1, none⟩) (Below.refl _ _) (hown.lt (g := g) rfl))
        have q1' : (wr.setCell ⟨g, k * 2, none⟩ (.bool U)).cell? ⟨g, k * 2 + 1, none⟩ = some (.slice p.a p.zs.length p.cap) := by
          have s1 := hown.set k 0 p ⟨U, p.a, p.cap, p.zs⟩ (.bool U) hat (by decide) rfl
          exact s1.cell k 1 ⟨U, p.a, p.cap, p.zs⟩ (by rw [List.getElem?_set_self (by rw [hlr]; exact (List.getElem?_eq_some_iff.1 hpk).1)]) (by decide)
        have hUi : ((m : Int) % 3 == 0) = U := by rw [← hU]; exact rem3b m
        have hstep : Hid (∀ w1, RowB w1 p.v p.zs.length (marksG (m + 1) p.zs.length) → (wr.setCell ⟨g, k * 2, none⟩ (.bool U)).grownBy w1 p.v.ownBlock → OwnPs w1 (.slice (some ⟨g, 0, none⟩) n c) (rowP k0 ps (k + 1)) ∧ Sv (fpPs (.slice (some ⟨g, 0, none⟩) n c) ps) wr w1) := fun w1 h3 h4 =>
          markP_step HN.out hpk HND.out hOw.out U (by rw [← hU, hmo]) (by rw [← hmo]; exact h3) h4
        have HT : Hid (m + (1 + p.zs.length) = k0 + totP ((ps.take (k + 1)).map PgR.D)) := by show _ = _; omega
        have hmb : m + 1 + p.zs.length ≤ 9999990 := by omega
        have hv : p.v = .slice p.a p.zs.length p.cap := rfl
        rw [hv] at hcall
        obtain ⟨n1, hn1⟩ : ∃ n1, p.zs.length = n1 := ⟨_, rfl⟩
        rw [hn1] at q1 q1' hcall hmb HT hstep
        have HV : Hid (p.v = .slice p.a n1 p.cap) := by show _ = _; rw [hv, hn1]
        clear hmo htk htl hpo hpo1 hg1 hown hlr hat hpk hn1 hv hne hU
        go_wp2_with fail
        rw [show (m : Int) + 1 = ((m + 1 : Nat) : Int) by omega]
        refine hcall.mono ?_
        rintro e w1 ⟨rfl, hRB, hgr⟩
        clear hcall q0 q1 q1' f0 hUi
        have hst := hstep.out w1 (by rw [HV.out]; exact hRB) (by rw [HV.out]; exact hgr)
        have HA : Hid _ := hst.1
        have HB : Hid (Sv (fpPs (.slice (some ⟨g, 0, none⟩) n c) ps) w w1) := hSv.out.trans hst.2
        clear hst hRB hgr hstep
        go_wp2
        go_roundw
        case rel => exact ⟨k + 1, m + 1 + n1, by omega, by go_num, by go_num, by show _ = _; rw [← HT.out]; omega, HA, HB⟩
        case measure => simp [intOf]; omega
      · have hki : ¬ (k : Int) < (n : Int) := by omega
        obtain rfl : k = n := by omega
        go_wp2
        go_ret
        have := hOw.out
        rw [rowP_all k0 ps k HN.out] at this
        have hmm := hm.out
        rw [List.take_of_length_le (by rw [HN.out]; omega)] at hmm
        exact ⟨by show Ending.returned (.int .i64 (m : Int)) = _; exact ret_int (by omega), this, hSv.out⟩
set_option maxRecDepth 100000 in
set_option maxHeartbeats 4000000 in
theorem heldPs_any (v : Value) (n k0 : Nat) (ps : List PgR) (w : World) (hn : ps.length = n) (h1 : 1 ≤ k0) (hs : k0 + totP (ps.map PgR.D) ≤ 9999990) (hO : OwnPs w v (mkPs k0 ps)) :
    Calls Try.prog 61 #[v, .int .i64 k0] w fun e w' => e = .returned (.int .i64 ((k0 + totP (ps.map PgR.D) : Nat) : Int)) ∧ w' = w := by
  have hl := totP_len (ps.map PgR.D)
  simp only [List.length_map] at hl
  have hnb : n ≤ 9999990 := by omega
  have hO1 := hO.1
  rw [mkPs_length, hn] at hO1
  rcases hO1.cases with ⟨rfl, rfl, _⟩ | ⟨g, c, rfl, hglt⟩
  · obtain rfl : ps = [] := List.length_eq_zero_iff.1 hn
    go_enter Try.func61, Try.ntmps61
    go_wp2
    refine wp_loop_rounds 1 ?_; rw [rounds_succ]
    go_wp2
    go_ret
    exact ⟨by simp [totP], rfl⟩
  · have HO : Hid (OwnE pgE 84 w (.slice (some ⟨g, 0, none⟩) n c) n (mkPs k0 ps) ∧ ∀ p ∈ mkPs k0 ps, p.own w) := ⟨hO1, hO.2⟩
    have HN : Hid (ps.length = n) := hn
    clear hO hO1 hn
    go_enter Try.func61, Try.ntmps61
    go_wp2
    go_loopw [1, 5] (fun q i wr => ∃ (k m : Nat), k ≤ n ∧ i = .int .i64 k ∧ q = .int .i64 (m : Int) ∧ Hid (m = k0 + totP ((ps.take k).map PgR.D)) ∧ w = wr) (fun _ i _ => n - (intOf i).toNat)
    case atStart => exact ⟨0, k0, Nat.zero_le _, rfl, rfl, by show _ = _; simp [totP], rfl⟩
    case round =>
      obtain ⟨k, m, hk, rfl, rfl, hm, rfl⟩ := hrel
      by_cases hkn : k < n
      · have hki : (k : Int) < (n : Int) := by omega
        obtain ⟨p, hpk⟩ : ∃ p, ps[k]? = some p := ⟨_, List.getElem?_eq_getElem (by rw [HN.out]; exact hkn)⟩
        have hmo := hm.out
        have hat : (mkPs k0 ps)[k]? = some (mkPg m p) := by
          have h2 := rowP_set (k := k0) hpk
          have h3 : ps = ps.take (k + 1) ++ ps.drop (k + 1) := (List.take_append_drop _ _).symm
          rw [h3, mkPs_append, mkPs_take hpk, List.getElem?_append_left (by simp [mkPs_length]; have := (List.getElem?_eq_some_iff.1 hpk).1; omega), List.getElem?_append_right (by simp [mkPs_length]; omega), mkPs_length, List.length_take, show k - min k ps.length = 0 by have := (List.getElem?_eq_some_iff.1 hpk).1; omega, hmo]
          rfl
        have q0 : w.cell? ⟨g, k * 2, none⟩ = some (.bool (decide (m % 3 = 0))) := HO.out.1.cell k 0 _ hat (by decide)
        have q1 : w.cell? ⟨g, k * 2 + 1, none⟩ = some (.slice p.a p.zs.length p.cap) := by
          have := HO.out.1.cell k 1 _ hat (by decide)
          exact this.trans (by simp [pgE, mkPg, marksG])
        have htl := totP_take_le (k + 1) ps
        have htk := totP_take hpk
        have hpo := HO.out.2 _ (List.mem_of_getElem? hat)
        unfold PgR.own at hpo
        rw [mkPg_v] at hpo
        have hpo1 : RowB w p.v p.zs.length (marksG (m + 1) p.zs.length) := by
          have e : (mkPg m p).zs.length = p.zs.length := by simp [mkPg, marksG]
          rw [e] at hpo
          exact hpo
        have hcall := heldBG p.v p.zs.length (m + 1) w (by omega) (by omega) hpo1
        obtain ⟨U, hU⟩ : ∃ U, decide (m % 3 = 0) = U := ⟨_, rfl⟩
        have hUi : ((m : Int) % 3 == 0) = U := by rw [← hU]; exact rem3b m
        have hUU : (U != U) = false := by simp
        rw [hU] at q0
        have HT : Hid (m + (1 + p.zs.length) = k0 + totP ((ps.take (k + 1)).map PgR.D)) := by show _ = _; omega
        have hmb : m + 1 + p.zs.length ≤ 9999990 := by omega
        have hv : p.v = .slice p.a p.zs.length p.cap := rfl
        rw [hv] at hcall
        obtain ⟨n1, hn1⟩ : ∃ n1, p.zs.length = n1 := ⟨_, rfl⟩
        rw [hn1] at q1 hcall hmb HT
        have hneg : ¬ ((m + 1 + n1 : Nat) : Int) < 0 := by omega
        clear hmo htk htl hpo hpo1 hat hpk hn1 hv hU
        go_wp2_with fail
        rw [show (m : Int) + 1 = ((m + 1 : Nat) : Int) by omega]
        refine hcall.mono ?_
        rintro e w1 ⟨rfl, hw⟩
        obtain rfl := hw.symm
        clear hcall q0 q1 hUi hUU
        obtain ⟨M, hM⟩ : ∃ M, m + 1 + n1 = M := ⟨_, rfl⟩
        rw [hM] at hneg hmb ⊢
        have HM : Hid _ := hM
        clear hM
        go_wp2
        go_roundw
        case rel => exact ⟨k + 1, M, by omega, by go_num, by go_num, by show _ = _; rw [← HT.out, ← HM.out]; omega, trivial⟩
        case measure => simp [intOf]; omega
      · have hki : ¬ (k : Int) < (n : Int) := by omega
        obtain rfl : k = n := by omega
        go_wp2
        go_ret
        have hmm := hm.out
        rw [List.take_of_length_le (by rw [HN.out]; omega)] at hmm
        exact ⟨by show Ending.returned (.int .i64 (m : Int)) = _; exact ret_int (by omega), rfl⟩
end
end Go.Proofs.Ytmjifealomgcfaa
