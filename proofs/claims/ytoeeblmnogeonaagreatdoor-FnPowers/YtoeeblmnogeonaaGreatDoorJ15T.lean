/-
  Joined: DvA, DvC, DvI, DvE.
-/
import Derived.Test.YtoeeblmnogeonaaGreatDoorJ14T
import Derived.Test.YtoeeblmnogeonaaGreatDoorJ10T
namespace Go.Proofs.YtoeeblmnogeonaaGreatDoor
section
open Go.RowKit
/-- The fault that comes. -/
def faD (ops : Int) (fs : List FtD) : Option FtD := fs.find? (fun f => f.tm == ops)
theorem faD_hit {fs : List FtD} {k : Nat} {r : FtD} {ops : Int} (h : fs[k]? = some r) (he : r.tm = ops) (hn : ∀ (j : Nat) (b : FtD), j < k → fs[j]? = some b → b.tm ≠ ops) : faD ops fs = some r := by
  induction fs generalizing k with
  | nil => simp at h
  | cons f fs ih =>
    cases k with
    | zero => simp at h; subst h; simp [faD, he]
    | succ k =>
      have h0 := hn 0 f (by omega) rfl
      have h1 : faD ops (f :: fs) = faD ops fs := by simp [faD, h0]
      rw [h1]
      exact ih (by simpa using h) (fun j b hj hb => hn (j + 1) b (by omega) (by simpa using hb))
theorem faD_none {fs : List FtD} {ops : Int} (hn : ∀ (j : Nat) (b : FtD), j < fs.length → fs[j]? = some b → b.tm ≠ ops) : faD ops fs = none := by
  unfold faD
  rw [List.find?_eq_none]
  intro f hf
  obtain ⟨j, hj⟩ := List.mem_iff_getElem?.1 hf
  have := hn j f (List.getElem?_eq_some_iff.1 hj).1 hj
  simpa using this
/-- What was answered. -/
def FaA (w : World) (o : Option FtD) (e : Ending) (w' : World) : Prop := e = .returned (.tuple #[.agg #[.int .i64 (o.getD ftZ).tm, .int .i64 (o.getD ftZ).kd, .int .i64 (o.getD ftZ).kp], .bool o.isSome]) ∧ Below w.heap.size w w'
set_option maxRecDepth 100000 in
set_option maxHeartbeats 4000000 in
theorem faultOfI (a : Option Addr) (n cap : Nat) (fs : List FtD) (ops : Int) (w : World) (hf : FR w a n fs) :
    Calls Tryz.prog 68 #[.slice a n cap, .int .i64 ops] w (FaA w (faD ops fs)) := by
  have B0 : Below w.heap.size w (w.alloc (.cells #[.int .i64 0, .int .i64 0, .int .i64 0] 51)) := (Below.refl _ w).alloc (Nat.le_refl _) _
  have z0 := Blk.new w 51 #[.int .i64 0, .int .i64 0, .int .i64 0]
  have hs := hf.tot
  have hln : Hid (fs.length = n) := hf.len
  have HR : Hid _ := hf.keep B0
  have HB : Hid _ := B0
  generalize hGP : FaA w (faD ops fs) = P
  have HGP : Hid _ := hGP
  clear hf B0 hGP
  obtain ⟨H, hH⟩ : ∃ H, w.heap.size = H := ⟨_, rfl⟩
  have HH : Hid _ := hH
  rw [hH] at z0
  go_enter Tryz.func68, Tryz.ntmps68
  go_wp2
  obtain ⟨W0, hW0⟩ : ∃ W, w.alloc (.cells #[.int .i64 0, .int .i64 0, .int .i64 0] 51) = W := ⟨_, rfl⟩
  rw [hW0] at HB HR z0 ⊢
  have HZ : Hid _ := z0
  clear hW0 z0
  try rw [hH]
  clear hH
  go_loopw [10] (fun i wr => ∃ (k : Nat), k ≤ n ∧ i = .int .i64 k ∧ Hid (∀ (j : Nat) (b : FtD), j < k → fs[j]? = some b → b.tm ≠ ops) ∧ Hid (Below W0.heap.size W0 wr)) (fun i _ => n - (intOf i).toNat)
  case atStart => exact ⟨0, Nat.zero_le _, rfl, fun j b hj => by omega, Below.refl _ _⟩
  case round =>
    obtain ⟨k, hk, rfl, hall, hB⟩ := hrel
    by_cases hkn : k < n
    · have hki : (k : Int) < (n : Int) := by omega
      obtain ⟨b, off, r, rfl, hlt, hrk, x0, x1, x2⟩ := (HR.out.keep hB.out).some hkn
      have hB2 : Hid (Below W0.heap.size W0 (wr.alloc (.cells #[.int .i64 r.tm, .int .i64 r.kd, .int .i64 r.kp] 51))) := hB.out.alloc hB.out.size _
      by_cases he : r.tm = ops
      · have HF : Hid (faD ops fs = some r) := faD_hit hrk he hall.out
        have zr := Blk.keep HZ.out hB2.out
        have e0 : (r.tm == ops) = true := by simpa using he
        have r0 := zr.cell 0
        have r1 := zr.cell 1
        have r2 := zr.cell 2
        have f0 := zr.frozen 0
        have f1 := zr.frozen 1
        have f2 := zr.frozen 2
        have zf := ((zr.set 0 (.int .i64 r.tm)).set 1 (.int .i64 r.kd)).set 2 (.int .i64 r.kp)
        have d0 := zf.cell 0
        have d1 := zf.cell 1
        have d2 := zf.cell 2
        simp at r0 r1 r2 d0 d1 d2
        clear hall hrk he zr zf
        go_wp2
        refine bodyPost_ret (v := .tuple #[.agg #[.int .i64 r.tm, .int .i64 r.kd, .int .i64 r.kp], .bool true]) (by simp [results, Tryz.f68, go_sem, d0, d1, d2]) rfl ?_
        rw [← HGP.out, HF.out]
        have hH := HH.out
        have s : ∀ (W : World) (i : Nat) (v : Value), Below w.heap.size w W → Below w.heap.size w (W.setCell ⟨H, i, none⟩ v) := fun W i v hb => hb.setCell (p := ⟨H, i, none⟩) (by simp only; omega) v
        exact ⟨rfl, s _ _ _ (s _ _ _ (s _ _ _ (HB.out.trans (hB2.out.mono HB.out.size))))⟩
      · have e0 : (r.tm == ops) = false := by simpa using he
        have hnx : Hid (∀ (j : Nat) (b : FtD), j < k + 1 → fs[j]? = some b → b.tm ≠ ops) := fun j b hj hb => by
          rcases (show j < k ∨ j = k by omega) with h1 | rfl
          · exact hall.out j b h1 hb
          · rw [hrk] at hb
            simp at hb
            subst hb
            exact he
        clear hall hrk he
        go_wp2
        go_roundw
        case rel => exact ⟨k + 1, by omega, by go_num, hnx, hB2⟩
        case measure => simp [intOf]; omega
    · have hki : ¬ (k : Int) < (n : Int) := by omega
      have HF : Hid (faD ops fs = none) := faD_none fun j b hj hb => hall.out j b (by have := hln.out; omega) hb
      have zr := Blk.keep HZ.out hB.out
      have r0 := zr.cell 0
      have r1 := zr.cell 1
      have r2 := zr.cell 2
      have f0 := zr.frozen 0
      have f1 := zr.frozen 1
      have f2 := zr.frozen 2
      have zf := ((zr.set 0 (.int .i64 0)).set 1 (.int .i64 0)).set 2 (.int .i64 0)
      have d0 := zf.cell 0
      have d1 := zf.cell 1
      have d2 := zf.cell 2
      simp at r0 r1 r2 d0 d1 d2
      clear zr zf
      go_wp2
      refine bodyPost_ret (v := .tuple #[.agg #[.int .i64 0, .int .i64 0, .int .i64 0], .bool false]) (by simp [results, Tryz.f68, go_sem, d0, d1, d2]) rfl ?_
      rw [← HGP.out, HF.out]
      have hH := HH.out
      have s : ∀ (W : World) (i : Nat) (v : Value), Below w.heap.size w W → Below w.heap.size w (W.setCell ⟨H, i, none⟩ v) := fun W i v hb => hb.setCell (p := ⟨H, i, none⟩) (by simp only; omega) v
      exact ⟨rfl, s _ _ _ (s _ _ _ (s _ _ _ (HB.out.trans (hB.out.mono HB.out.size))))⟩
set_option maxRecDepth 100000 in
set_option maxHeartbeats 8000000 in
theorem faultAtS (a : Option Addr) (n cap : Nat) (ops : Int) (fa : Option Addr) (m fc : Nat) (fs : List FtD) (down : Bool) (w : World) (hf : FR w fa m fs) :
    Calls Tryz.prog 26 #[.agg #[.slice a n cap, .int .i64 ops, .slice fa m fc, .bool down]] w (FaA w (faD ops fs)) := by
  have B0 : Below w.heap.size w ((w.alloc (.cells #[.slice a n cap, .int .i64 ops, .slice fa m fc, .bool down] 29)).alloc (.cells #[.int .i64 0, .int .i64 0, .int .i64 0] 51)) := ((Below.refl _ w).alloc (Nat.le_refl _) _).alloc (by simp) _
  have z0 := (Blk.new w 29 #[.slice a n cap, .int .i64 ops, .slice fa m fc, .bool down]).alloc (.cells #[.int .i64 0, .int .i64 0, .int .i64 0] 51)
  have z1 := Blk.new (w.alloc (.cells #[.slice a n cap, .int .i64 ops, .slice fa m fc, .bool down] 29)) 51 #[.int .i64 0, .int .i64 0, .int .i64 0]
  simp only [World.size_alloc] at z1
  have hs := hf.tot
  have hln : Hid (fs.length = m) := hf.len
  have HR : Hid _ := hf.keep B0
  have HB : Hid _ := B0
  generalize hGP : FaA w (faD ops fs) = P
  have HGP : Hid _ := hGP
  clear hf B0 hGP
  obtain ⟨H, hH⟩ : ∃ H, w.heap.size = H := ⟨_, rfl⟩
  have HH : Hid _ := hH
  rw [hH] at z0 z1
  go_enter Tryz.func26, Tryz.ntmps26
  go_wp2
  obtain ⟨W0, hW0⟩ : ∃ W, (w.alloc (.cells #[.slice a n cap, .int .i64 ops, .slice fa m fc, .bool down] 29)).alloc (.cells #[.int .i64 0, .int .i64 0, .int .i64 0] 51) = W := ⟨_, rfl⟩
  rw [hW0] at HB HR z0 z1 ⊢
  have HZ0 : Hid _ := z0
  have HZ : Hid _ := z1
  clear hW0 z0 z1
  try rw [hH]
  clear hH
  go_loopw [4] (fun i wr => ∃ (k : Nat), k ≤ m ∧ i = .int .i64 k ∧ Hid (∀ (j : Nat) (b : FtD), j < k → fs[j]? = some b → b.tm ≠ ops) ∧ Hid (Below W0.heap.size W0 wr)) (fun i _ => m - (intOf i).toNat)
  case atStart => exact ⟨0, Nat.zero_le _, rfl, fun j b hj => by omega, Below.refl _ _⟩
  case round =>
    obtain ⟨k, hk, rfl, hall, hB⟩ := hrel
    have zd := Blk.keep HZ0.out hB.out
    have y1 := zd.cell 1
    have y2 := zd.cell 2
    simp at y1 y2
    clear zd
    by_cases hkn : k < m
    · have hki : (k : Int) < (m : Int) := by omega
      obtain ⟨b, off, r, rfl, hlt, hrk, x0, x1, x2⟩ := (HR.out.keep hB.out).some hkn
      by_cases he : r.tm = ops
      · have HF : Hid (faD ops fs = some r) := faD_hit hrk he hall.out
        have e0 : (r.tm == ops) = true := by simpa using he
        clear hall hrk he
        go_wp2
        go_quiet (fail)
        have v0 : (wr.drewN nq).cell? ⟨b, off + k * 3, none⟩ = some (.int .i64 r.tm) := x0
        have v1 : (wr.drewN nq).cell? ⟨b, off + k * 3 + 1, none⟩ = some (.int .i64 r.kd) := x1
        have v2 : (wr.drewN nq).cell? ⟨b, off + k * 3 + 2, none⟩ = some (.int .i64 r.kp) := x2
        have u2 : (wr.drewN nq).cell? ⟨H, 2, none⟩ = some (.slice (some ⟨b, off, none⟩) m fc) := y2
        have HBW : Hid (Below W0.heap.size W0 (wr.drewN nq)) := ⟨hB.out.os, hB.out.tape, hB.out.output, hB.out.size, hB.out.block⟩
        have zr := Blk.keep HZ.out HBW.out
        obtain ⟨W3, hW3⟩ : ∃ W, wr.drewN nq = W := ⟨_, rfl⟩
        rw [hW3] at zr v0 v1 v2 u2 HBW ⊢
        clear hW3 x0 x1 x2 y1 y2
        have r0 := zr.cell 0
        have r1 := zr.cell 1
        have r2 := zr.cell 2
        have f0 := zr.frozen 0
        have f1 := zr.frozen 1
        have f2 := zr.frozen 2
        have zf := ((zr.set 0 (.int .i64 r.tm)).set 1 (.int .i64 r.kd)).set 2 (.int .i64 r.kp)
        have d0 := zf.cell 0
        have d1 := zf.cell 1
        have d2 := zf.cell 2
        simp at r0 r1 r2 d0 d1 d2
        clear zr zf
        go_wp2
        refine bodyPost_ret (v := .tuple #[.agg #[.int .i64 r.tm, .int .i64 r.kd, .int .i64 r.kp], .bool true]) (by simp [results, Tryz.f26, go_sem, d0, d1, d2]) rfl ?_
        rw [← HGP.out, HF.out]
        have hH := HH.out
        have s : ∀ (W : World) (i : Nat) (v : Value), Below w.heap.size w W → Below w.heap.size w (W.setCell ⟨H + 1, i, none⟩ v) := fun W i v hb => hb.setCell (p := ⟨H + 1, i, none⟩) (by simp only; omega) v
        exact ⟨rfl, s _ _ _ (s _ _ _ (s _ _ _ (HB.out.trans (HBW.out.mono HB.out.size))))⟩
      · have e0 : (r.tm == ops) = false := by simpa using he
        have hnx : Hid (∀ (j : Nat) (b : FtD), j < k + 1 → fs[j]? = some b → b.tm ≠ ops) := fun j b hj hb => by
          rcases (show j < k ∨ j = k by omega) with h1 | rfl
          · exact hall.out j b h1 hb
          · rw [hrk] at hb
            simp at hb
            subst hb
            exact he
        clear hall hrk he
        go_wp2
        go_quiet (fail)
        have HBW : Hid (Below W0.heap.size W0 (wr.drewN nq)) := ⟨hB.out.os, hB.out.tape, hB.out.output, hB.out.size, hB.out.block⟩
        go_wp2
        go_roundw
        case rel => exact ⟨k + 1, by omega, by go_num, hnx, HBW⟩
        case measure => simp [intOf]; omega
    · have hki : ¬ (k : Int) < (m : Int) := by omega
      have HF : Hid (faD ops fs = none) := faD_none fun j b hj hb => hall.out j b (by have := hln.out; omega) hb
      have zr := Blk.keep HZ.out hB.out
      have r0 := zr.cell 0
      have r1 := zr.cell 1
      have r2 := zr.cell 2
      have f0 := zr.frozen 0
      have f1 := zr.frozen 1
      have f2 := zr.frozen 2
      have zf := ((zr.set 0 (.int .i64 0)).set 1 (.int .i64 0)).set 2 (.int .i64 0)
      have d0 := zf.cell 0
      have d1 := zf.cell 1
      have d2 := zf.cell 2
      simp at r0 r1 r2 d0 d1 d2
      clear zr zf
      go_wp2
      refine bodyPost_ret (v := .tuple #[.agg #[.int .i64 0, .int .i64 0, .int .i64 0], .bool false]) (by simp [results, Tryz.f26, go_sem, d0, d1, d2]) rfl ?_
      rw [← HGP.out, HF.out]
      have hH := HH.out
      have s : ∀ (W : World) (i : Nat) (v : Value), Below w.heap.size w W → Below w.heap.size w (W.setCell ⟨H + 1, i, none⟩ v) := fun W i v hb => hb.setCell (p := ⟨H + 1, i, none⟩) (by simp only; omega) v
      exact ⟨rfl, s _ _ _ (s _ _ _ (s _ _ _ (HB.out.trans (hB.out.mono HB.out.size))))⟩
end

section
open Go.RowKit
theorem RdE.news {α : Type} {E : El α} {rd : α → Prop} {W : World} {a : Option Addr} {rs : List α} (h : RdE E rd W a rs) : rs = [] ∨ ∃ ad, a = some ad ∧ ∀ j u, (E.xv rs)[j]? = some u → W.cell? (ad.add j) = some u := by
  rcases h with h | ⟨b, off, rfl, hc⟩
  · exact .inl h
  · refine .inr ⟨_, rfl, fun j u hj => ?_⟩
    have hp := E.pos
    have hl : j < rs.length * E.k := by
      have := (List.getElem?_eq_some_iff.1 hj).1
      rw [E.xv_length] at this
      exact this
    have hi : j / E.k < rs.length := (Nat.div_lt_iff_lt_mul hp).2 hl
    have hr : rs[j / E.k]? = some rs[j / E.k] := List.getElem?_eq_getElem hi
    have hm : j % E.k < E.k := Nat.mod_lt _ hp
    have hjj : j / E.k * E.k + j % E.k = j := by rw [Nat.mul_comm]; exact Nat.div_add_mod j E.k
    have h1 := (hc _ _ hr).1 _ hm
    rw [Nat.add_assoc, hjj] at h1
    have h2 := E.xv_at rs _ _ _ hr hm
    rw [hjj] at h2
    rw [show (⟨b, off, none⟩ : Addr).add j = ⟨b, off + j, none⟩ by simp [Addr.add], h1, ← h2]
    exact hj
/-- Faults onto a row that has none. -/
structure AppF (W : World) (v : Value) (m : Nat) (fs : List FtD) (v' : Value) (W' : World) : Prop where
  own : OwnFa W' v' m fs
  gr : W.grownBy W' v.ownBlock
  at_ : v'.ownBlock = v.ownBlock ∨ v'.ownBlock = some W.heap.size
theorem app_faults (W : World) (v : Value) (hown : OwnFa W v 0 []) (ao : Option Addr) (m c : Nat) (fs : List FtD) (hf : FR W ao m fs) (ty : TypeId) :
    ∃ v' W', (Builtin.append_ #[27, 27] ty #[v, .slice ao m c]).run Tryz.prog W = .ok v' W' ∧ AppF W v m fs v' W' := by
  obtain ⟨i0, hi, hz0, hz1, hz2⟩ := info_parts Tryz.infoFault
  have hl := hf.len
  have ht := hf.tot
  obtain ⟨v', W', h1, h2, h3, h4⟩ := run_appAny W 0 27 ty 51 i0 _ 3 24 Tryz.underlying27 hi hz0 hz1 hz2 rfl (by omega) v 0 [] hown ao m c (ftE.xv fs) (by rw [ftE.xv_length, hl]; rfl) (by
    rcases RdE.news hf.rd with h | h
    · left; rw [← hl, h]; rfl
    · exact .inr h) (fun u hu => by
      obtain ⟨f, _, hf2⟩ := List.mem_flatMap.1 hu
      simp [ftE] at hf2
      rcases hf2 with rfl | rfl | rfl <;> rfl) (by omega) (by omega) (Nat.zero_le _)
  rw [Nat.zero_add, List.nil_append] at h2
  exact ⟨v', W', h1, ⟨h2, h3, h4⟩⟩
/-- New faults were answered. -/
def FaN (w : World) (m : Nat) (fs : List FtD) (e : Ending) (w' : World) : Prop := ∃ fa fc, e = .returned (.slice fa m fc) ∧ OwnFa w' (.slice fa m fc) m fs ∧ (∀ g, (Value.slice fa m fc).ownBlock = some g → w.heap.size ≤ g) ∧ Below w.heap.size w w'
theorem faults_nil (W : World) : OwnFa W (.slice none 0 0) 0 [] := ownE_nil _ _ _
theorem faults_fresh (W : World) : OwnFa (W.alloc (.cells #[] 51)) (.slice (some ⟨W.heap.size, 0, none⟩) 0 0) 0 [] := empty_row W 0 51 3 (Nat.zero_le _)
theorem AppF.form {W W' : World} {v v' : Value} {m : Nat} {fs : List FtD} (h : AppF W v m fs v' W') : ∃ fa fc, v' = .slice fa m fc := by
  obtain ⟨a', c', e, _⟩ := OwnE.rd (rd := fun _ => True) h.own (fun _ _ => trivial)
  exact ⟨a', c', e⟩
/-- Appended to what is new since w. -/
theorem AppF.new {w W W' : World} {v : Value} {fa : Option Addr} {m fc : Nat} {fs : List FtD} (h : AppF W v m fs (.slice fa m fc) W') (hb : Below w.heap.size w W) (hv : ∀ g, v.ownBlock = some g → w.heap.size ≤ g) : (∀ g, (Value.slice fa m fc).ownBlock = some g → w.heap.size ≤ g) ∧ Below w.heap.size w W' := by
  refine ⟨fun g hg => ?_, hb.grown h.gr hb.size hv⟩
  rcases h.at_ with e | e
  · exact hv g (by rw [← e]; exact hg)
  · rw [e] at hg; simp at hg; have := hb.size; omega
set_option maxHeartbeats 1600000 in
theorem copyFaultsI (a : Option Addr) (m cap : Nat) (fs : List FtD) (w : World) (hf : FR w a m fs) :
    Calls Tryz.prog 67 #[.slice a m cap] w (FaN w m fs) := by
  have happ := fun ty => app_faults w (.slice none 0 0) (faults_nil w) a m cap fs hf ty
  have HAP : Hid _ := happ
  clear happ hf
  generalize hGP : FaN w m fs = P
  have HGP : Hid _ := hGP
  clear hGP
  go_enter Tryz.func67, Tryz.ntmps67
  go_wp2_with (at_builtin; refine wpList_appAny _ rfl (.const (.slice none 0 0)) (.tmp 3) 27 rfl (.slice none 0 0) (.slice a m cap) _ rfl rfl HAP.out ?_; intro v' W' hap)
  obtain ⟨fa, fc, rfl⟩ := hap.form
  have hn := hap.new (w := w) (Below.refl _ _) (fun g hg => by simp [Value.ownBlock] at hg)
  have HN : Hid _ := And.intro hap.own hn
  clear hap hn
  try go_wp2
  try go_ret
  rw [← HGP.out]
  exact ⟨fa, fc, rfl, HN.out.1, HN.out.2.1, HN.out.2.2⟩
theorem dv_ab {W W1 W9 : World} {a1 fa : Option Addr} {n1 c1 m fc : Nat} {ds : List BkD} {fs : List FtD} {qs : List BkR} (hc : NewBs W1 W.heap.size (.slice a1 n1 c1) ds qs) (b1 : Below W.heap.size W W1) (hf : OwnFa W9 (.slice fa m fc) m fs) (hn : ∀ g, (Value.slice fa m fc).ownBlock = some g → W1.heap.size ≤ g) (b9 : Below W1.heap.size W1 W9) : NewDv W9 W.heap.size a1 n1 c1 fa m fc ds fs qs :=
  ⟨hc.keep b9, hf, fun g hg => ⟨Nat.le_trans b1.size (hn g hg), fun h => by have := hc.own.lt g h; have := hn g hg; omega⟩⟩
/-- The row was begun, the chip copied, then the faults appended. -/
theorem dv_mid {W W1 W9 : World} {o : Obj} {a1 fa : Option Addr} {n1 c1 m fc : Nat} {ds : List BkD} {fs : List FtD} {qs : List BkR} (h : AppF W1 (.slice (some ⟨W.heap.size, 0, none⟩) 0 0) m fs (.slice fa m fc) W9) (hc : NewBs W1 (W.alloc o).heap.size (.slice a1 n1 c1) ds qs) (_ : Below W.heap.size W (W.alloc o)) (b1 : Below (W.alloc o).heap.size (W.alloc o) W1) : NewDv W9 W.heap.size a1 n1 c1 fa m fc ds fs qs := by
  have hs : (W.alloc o).heap.size = W.heap.size + 1 := by simp
  have hs1 := b1.size
  have hno : W.heap.size ∉ fpBs (.slice a1 n1 c1) qs := fun hf => by have := hc.new _ hf; omega
  refine ⟨⟨hc.D, hc.own.block fun g hg => h.gr.block g (hc.own.lt g hg) (fun e => ?_), fun g hg => by have := hc.new g hg; omega, hc.nd⟩, h.own, fun g hg => ?_⟩
  · simp [Value.ownBlock] at e
    exact hno (e ▸ hg)
  · rcases h.at_ with e | e
    · rw [e] at hg
      simp [Value.ownBlock] at hg
      subst hg
      exact ⟨Nat.le_refl _, hno⟩
    · rw [e] at hg
      simp at hg
      subst hg
      exact ⟨by omega, fun hf => by have := hc.own.lt _ hf; omega⟩
set_option maxRecDepth 100000 in
set_option maxHeartbeats 8000000 in
theorem copyDevI (a : Option Addr) (n cap : Nat) (bs : List BkR) (ops : Int) (fa : Option Addr) (m fc : Nat) (fs : List FtD) (down : Bool) (w : World) (ht : CR w a n bs) (hf : FR w fa m fs) :
    Calls Tryz.prog 63 #[.agg #[.slice a n cap, .int .i64 ops, .slice fa m fc, .bool down]] w (DvA w ⟨bs.map BkR.D, ops, fs, down⟩) := by
  have B0 : Below w.heap.size w ((w.alloc (.cells #[.slice a n cap, .int .i64 ops, .slice fa m fc, .bool down] 29)).alloc (.cells #[.slice none 0 0, .int .i64 0, .slice none 0 0, .bool false] 29)) := ((Below.refl _ w).alloc (Nat.le_refl _) _).alloc (by simp) _
  have z0 := (Blk.new w 29 #[.slice a n cap, .int .i64 ops, .slice fa m fc, .bool down]).alloc (.cells #[.slice none 0 0, .int .i64 0, .slice none 0 0, .bool false] 29)
  have z1 := Blk.new (w.alloc (.cells #[.slice a n cap, .int .i64 ops, .slice fa m fc, .bool down] 29)) 29 #[.slice none 0 0, .int .i64 0, .slice none 0 0, .bool false]
  simp only [World.size_alloc] at z1
  obtain ⟨H, hH⟩ : ∃ H, w.heap.size = H := ⟨_, rfl⟩
  rw [hH] at z0 z1
  generalize hGP : DvA w ⟨bs.map BkR.D, ops, fs, down⟩ = P
  have HGP : Hid _ := hGP
  clear hGP
  go_enter Tryz.func63, Tryz.ntmps63
  go_upto_region 1 with fail
  obtain ⟨W0, hW0⟩ : ∃ W, (w.alloc (.cells #[.slice a n cap, .int .i64 ops, .slice fa m fc, .bool down] 29)).alloc (.cells #[.slice none 0 0, .int .i64 0, .slice none 0 0, .bool false] 29) = W := ⟨_, rfl⟩
  rw [hW0] at B0 z0 z1 ⊢
  clear hW0
  have HD : Hid (Below w.heap.size w W0.drew) := B0.drew
  have HZ0 : Hid (Blk W0.drew H 29 #[.slice a n cap, .int .i64 ops, .slice fa m fc, .bool down]) := z0.keep (Below.refl _ _).drew
  have HZ1 : Hid (Blk W0.drew (H + 1) 29 #[.slice none 0 0, .int .i64 0, .slice none 0 0, .bool false]) := z1.keep (Below.refl _ _).drew
  have hall : Hid (∀ W : World, Below W0.drew.heap.size W0.drew W → W.cell? ⟨H, 0, none⟩ = some (.slice a n cap) ∧ W.cell? ⟨H, 1, none⟩ = some (.int .i64 ops) ∧ W.cell? ⟨H, 2, none⟩ = some (.slice fa m fc) ∧ W.cell? ⟨H, 3, none⟩ = some (.bool down)) := fun W hW => ⟨(Blk.keep HZ0.out hW).cell 0, (Blk.keep HZ0.out hW).cell 1, (Blk.keep HZ0.out hW).cell 2, (Blk.keep HZ0.out hW).cell 3⟩
  have HC : Hid (∀ W : World, Below W0.drew.heap.size W0.drew W → Calls Tryz.prog 117 #[.agg #[.slice a n cap]] W (ChA W (bs.map BkR.D))) := fun W hW => copyChI a n cap bs W ((ht.keep HD.out).keep hW)
  have HF : Hid (∀ W : World, Below W0.drew.heap.size W0.drew W → Calls Tryz.prog 67 #[.slice fa m fc] W (FaN W m fs)) := fun W hW => copyFaultsI fa m fc fs W ((hf.keep HD.out).keep hW)
  have hc0 := HC.out W0.drew (Below.refl _ _)
  have hf0 := HF.out W0.drew (Below.refl _ _)
  obtain ⟨s0, s1, s2, s3⟩ := hall.out W0.drew (Below.refl _ _)
  clear ht hf B0 z0 z1
  refine wp_region_noPanic ?_
  refine wp_region_last (fun W : World => W.cell? ⟨H, 0, none⟩ = some (.slice a n cap) ∧ W.cell? ⟨H, 1, none⟩ = some (.int .i64 ops) ∧ W.cell? ⟨H, 2, none⟩ = some (.slice fa m fc) ∧ W.cell? ⟨H, 3, none⟩ = some (.bool down)) 11 (by kernel_rfl) (by kernel_rfl) (by go_keep) 11 (by kernel_rfl) (fun hS => ?_)
  refine wpAnyH_take (i := 0) (v := ?gv1) rfl (by kernel_rfl) (by kernel_rfl) (by kernel_rfl) (fun _ _ _ h => h) (Or.inl ⟨by kernel_rfl, ?gy1⟩) (by assumption) ?gr1
  case gy1 => (intro w' hSw; (try dsimp only at hSw); go_simp; (try with_reducible rfl))
  try simp only [Act.put, List.setIfInBounds_toArray, List.set_cons_zero, List.set_cons_succ, List.getElem_toArray, List.getElem_cons_zero]
  refine wpAnyH_take (i := 1) (v := ?gv2) rfl (by kernel_rfl) (by kernel_rfl) (by kernel_rfl) (fun _ _ _ h => h) (Or.inl ⟨by kernel_rfl, ?gy2⟩) (by assumption) ?gr2
  case gy2 => (intro w' hSw; (try dsimp only at hSw); go_simp; (try with_reducible rfl))
  try simp only [Act.put, List.setIfInBounds_toArray, List.set_cons_zero, List.set_cons_succ, List.getElem_toArray, List.getElem_cons_succ, List.getElem_cons_zero]
  refine wpAnyH_take (i := 3) (v := ?gv3) rfl (by kernel_rfl) (by kernel_rfl) (by kernel_rfl) (fun _ _ _ h => h) (Or.inl ⟨by kernel_rfl, ?gy3⟩) (by assumption) ?gr3
  case gy3 => (intro w' hSw; (try dsimp only at hSw); go_simp; (try with_reducible rfl))
  try simp only [Act.put, List.setIfInBounds_toArray, List.set_cons_zero, List.set_cons_succ, List.getElem_toArray, List.getElem_cons_succ, List.getElem_cons_zero]
  refine wpAnyH_take (i := 4) (v := ?gv4) rfl (by kernel_rfl) (by kernel_rfl) (by kernel_rfl) (fun _ _ _ h => h) (Or.inl ⟨by kernel_rfl, ?gy4⟩) (by assumption) ?gr4
  case gy4 => (intro w' hSw; (try dsimp only at hSw); go_simp; (try with_reducible rfl))
  try simp only [Act.put, List.setIfInBounds_toArray, List.set_cons_zero, List.set_cons_succ, List.getElem_toArray, List.getElem_cons_succ, List.getElem_cons_zero]
  refine wpAnyH_take (i := 5) (v := ?gv5) rfl (by kernel_rfl) (by kernel_rfl) (by kernel_rfl) (fun _ _ _ h => h) (Or.inl ⟨by kernel_rfl, ?gy5⟩) (by assumption) ?gr5
  case gy5 => (intro w' hSw; (try dsimp only at hSw); go_simp; (try with_reducible rfl))
  try simp only [Act.put, List.setIfInBounds_toArray, List.set_cons_zero, List.set_cons_succ, List.getElem_toArray, List.getElem_cons_succ, List.getElem_cons_zero]
  refine wpAnyH_take (i := 6) (v := ?gv6) rfl (by kernel_rfl) (by kernel_rfl) (by kernel_rfl) (fun _ _ _ h => h) (Or.inl ⟨by kernel_rfl, ?gy6⟩) (by assumption) ?gr6
  case gy6 => (intro w' hSw; (try dsimp only at hSw); go_simp; (try with_reducible rfl))
  try simp only [Act.put, List.setIfInBounds_toArray, List.set_cons_zero, List.set_cons_succ, List.getElem_toArray, List.getElem_cons_succ, List.getElem_cons_zero]
  refine wpAnyH_take (i := 8) (v := ?gv7) rfl (by kernel_rfl) (by kernel_rfl) (by kernel_rfl) (fun _ _ _ h => h) (Or.inl ⟨by kernel_rfl, ?gy7⟩) (by assumption) ?gr7
  case gy7 => (intro w' hSw; (try dsimp only at hSw); go_simp; (try with_reducible rfl))
  try simp only [Act.put, List.setIfInBounds_toArray, List.set_cons_zero, List.set_cons_succ, List.getElem_toArray, List.getElem_cons_succ, List.getElem_cons_zero]
  refine wpAnyH_take (i := 9) (v := ?gv8) rfl (by kernel_rfl) (by kernel_rfl) (by kernel_rfl) (fun _ _ _ h => h) (Or.inl ⟨by kernel_rfl, ?gy8⟩) (by assumption) ?gr8
  case gy8 => (intro w' hSw; (try dsimp only at hSw); go_simp; (try with_reducible rfl))
  try simp only [Act.put, List.setIfInBounds_toArray, List.set_cons_zero, List.set_cons_succ, List.getElem_toArray, List.getElem_cons_succ, List.getElem_cons_zero]
  refine wpAnyH_ready (rs := [2]) (by kernel_rfl) (by simp) ?_
  refine AllReadyH.cons rfl (fun K hK => ?_) AllReadyH.nil
  go_simp
  (with_reducible refine hc0.mono ?_)
  rintro e W1 ⟨a1, n1, c1, qs, rfl, hq, hql, b1⟩
  have hf1 := HF.out W1 b1
  have HQ : Hid _ := And.intro hq (And.intro hql b1)
  clear hq hql
  clear hS
  try dsimp only
  refine Shut.out hK _ _ (hall.out W1 b1) (fun hS => ?_)
  try simp only [Act.put, List.setIfInBounds_toArray, List.set_cons_zero, List.set_cons_succ, List.getElem_toArray, List.getElem_cons_succ, List.getElem_cons_zero]
  refine wpAnyH_ready (rs := [7]) (by kernel_rfl) (by simp) ?_
  refine AllReadyH.cons rfl (fun K hK => ?_) AllReadyH.nil
  go_simp
  (with_reducible refine hf1.mono ?_)
  rintro e W9 ⟨fa1, fc1, rfl, hfo, hfn, b9⟩
  have HND : Hid (NewDv W9 W0.drew.heap.size a1 n1 c1 fa1 m fc1 (bs.map BkR.D) fs qs ∧ qs.length = n1 ∧ Below W0.drew.heap.size W0.drew W9) := ⟨dv_ab HQ.out.1 HQ.out.2.2 hfo hfn b9, HQ.out.2.1, HQ.out.2.2.trans (b9.mono HQ.out.2.2.size)⟩
  clear hfo hfn b9 b1 hf1 HQ
  have zr := Blk.keep HZ1.out HND.out.2.2
  have r0 := zr.cell 0
  have r1 := zr.cell 1
  have r2 := zr.cell 2
  have r3 := zr.cell 3
  have f0 := zr.frozen 0
  have f1 := zr.frozen 1
  have f2 := zr.frozen 2
  have f3 := zr.frozen 3
  simp at r0 r1 r2 r3
  clear hS
  try dsimp only
  refine Shut.out hK _ _ (hall.out W9 HND.out.2.2) (fun hS => ?_)
  try simp only [Act.put, List.setIfInBounds_toArray, List.set_cons_zero, List.set_cons_succ, List.getElem_toArray, List.getElem_cons_succ, List.getElem_cons_zero]
  refine wpAnyH_take (i := 10) (v := ?gv9) rfl (by kernel_rfl) (by kernel_rfl) (by kernel_rfl) (fun _ _ _ h => h) (Or.inl ⟨by kernel_rfl, ?gy9⟩) (by assumption) ?gr9
  case gy9 => (intro w' hSw; (try dsimp only at hSw); go_simp; (try with_reducible rfl))
  try simp only [Act.put, List.setIfInBounds_toArray, List.set_cons_zero, List.set_cons_succ, List.getElem_toArray, List.getElem_cons_succ, List.getElem_cons_zero]
  refine wpAnyH_done (by kernel_rfl) ?_ _
  refine wpOp_last rfl (fun K hK => ?_)
  clear hS
  go_simp
  refine Shut.out hK _ _ (NoPanic.normal ?_)
  all_goals (
    have zf := (((zr.set 0 (.slice a1 n1 c1)).set 1 (.int .i64 ops)).set 2 (.slice fa1 m fc1)).set 3 (.bool down)
    have d0 := zf.cell 0
    have d1 := zf.cell 1
    have d2 := zf.cell 2
    have d3 := zf.cell 3
    simp at d0 d1 d2 d3
    clear zr zf r0 r1 r2 r3 f0 f1 f2 f3 hc0 hf0 s0 s1 s2 s3
    go_wp2
    refine bodyPost_ret (v := .agg #[.slice a1 n1 c1, .int .i64 ops, .slice fa1 m fc1, .bool down]) (by simp [results, Tryz.f63, go_sem, d0, d1, d2, d3]) rfl ?_
    rw [← HGP.out]
    obtain ⟨hd, hl, hb⟩ := HND.out
    have h1 : H + 1 < W0.drew.heap.size := HZ1.out.lt
    have bel : Below w.heap.size w W9 := HD.out.trans (hb.mono HD.out.size)
    have s : ∀ (W : World) (i : Nat) (v : Value), Below w.heap.size w W → Below w.heap.size w (W.setCell ⟨H + 1, i, none⟩ v) := fun W i v hb => hb.setCell (p := ⟨H + 1, i, none⟩) (by simp only; omega) v
    exact ⟨a1, n1, c1, fa1, m, fc1, qs, rfl, ((((hd.set_below h1).set_below h1).set_below h1).set_below h1).wider HD.out.size, hl, s _ _ _ (s _ _ _ (s _ _ _ (s _ _ _ bel)))⟩)
set_option maxRecDepth 100000 in
set_option maxHeartbeats 8000000 in
theorem copyDevS (a : Option Addr) (n cap : Nat) (bs : List BkR) (ops : Int) (fa : Option Addr) (m fc : Nat) (fs : List FtD) (down : Bool) (w : World) (ht : CR w a n bs) (hf : FR w fa m fs) :
    Calls Tryz.prog 51 #[.agg #[.slice a n cap, .int .i64 ops, .slice fa m fc, .bool down]] w (DvA w ⟨bs.map BkR.D, ops, fs, down⟩) := by
  have B0 : Below w.heap.size w ((w.alloc (.cells #[.slice a n cap, .int .i64 ops, .slice fa m fc, .bool down] 29)).alloc (.cells #[.slice none 0 0, .int .i64 0, .slice none 0 0, .bool false] 29)) := ((Below.refl _ w).alloc (Nat.le_refl _) _).alloc (by simp) _
  have z0 := (Blk.new w 29 #[.slice a n cap, .int .i64 ops, .slice fa m fc, .bool down]).alloc (.cells #[.slice none 0 0, .int .i64 0, .slice none 0 0, .bool false] 29)
  have z1 := Blk.new (w.alloc (.cells #[.slice a n cap, .int .i64 ops, .slice fa m fc, .bool down] 29)) 29 #[.slice none 0 0, .int .i64 0, .slice none 0 0, .bool false]
  simp only [World.size_alloc] at z1
  obtain ⟨H, hH⟩ : ∃ H, w.heap.size = H := ⟨_, rfl⟩
  rw [hH] at z0 z1
  generalize hGP : DvA w ⟨bs.map BkR.D, ops, fs, down⟩ = P
  have HGP : Hid _ := hGP
  clear hGP
  go_enter Tryz.func51, Tryz.ntmps51
  go_upto_region 1 with fail
  obtain ⟨W0, hW0⟩ : ∃ W, (w.alloc (.cells #[.slice a n cap, .int .i64 ops, .slice fa m fc, .bool down] 29)).alloc (.cells #[.slice none 0 0, .int .i64 0, .slice none 0 0, .bool false] 29) = W := ⟨_, rfl⟩
  rw [hW0] at B0 z0 z1 ⊢
  clear hW0
  have HD : Hid (Below w.heap.size w W0.drew) := B0.drew
  have HZ0 : Hid (Blk W0.drew H 29 #[.slice a n cap, .int .i64 ops, .slice fa m fc, .bool down]) := z0.keep (Below.refl _ _).drew
  have HZ1 : Hid (Blk W0.drew (H + 1) 29 #[.slice none 0 0, .int .i64 0, .slice none 0 0, .bool false]) := z1.keep (Below.refl _ _).drew
  have hall : Hid (∀ W : World, Below W0.drew.heap.size W0.drew W → W.cell? ⟨H, 0, none⟩ = some (.slice a n cap) ∧ W.cell? ⟨H, 1, none⟩ = some (.int .i64 ops) ∧ W.cell? ⟨H, 2, none⟩ = some (.slice fa m fc) ∧ W.cell? ⟨H, 3, none⟩ = some (.bool down)) := fun W hW => ⟨(Blk.keep HZ0.out hW).cell 0, (Blk.keep HZ0.out hW).cell 1, (Blk.keep HZ0.out hW).cell 2, (Blk.keep HZ0.out hW).cell 3⟩
  have HC : Hid (∀ W : World, Below W0.drew.heap.size W0.drew W → Calls Tryz.prog 104 #[.agg #[.slice a n cap]] W (ChA W (bs.map BkR.D))) := fun W hW => copyChS a n cap bs W ((ht.keep HD.out).keep hW)
  have HF : Hid (∀ W : World, Below W0.drew.heap.size W0.drew W → FR W fa m fs) := fun W hW => (hf.keep HD.out).keep hW
  have hc0 := HC.out W0.drew (Below.refl _ _)
  have bA : Below W0.drew.heap.size W0.drew (W0.drew.alloc (.cells #[] 51)) := (Below.refl _ _).alloc (Nat.le_refl _) _
  have HBA : Hid _ := bA
  have hc5 : Calls Tryz.prog 104 #[.agg #[.slice a n cap]] (W0.alloc (.cells #[] 51)).drew (ChA (W0.alloc (.cells #[] 51)).drew (bs.map BkR.D)) := HC.out _ bA
  have happ5 := fun ty => app_faults _ _ (faults_fresh W0.drew) fa m fc fs (HF.out _ bA) ty
  have HAP5 : Hid _ := happ5
  obtain ⟨s0, s1, s2, s3⟩ := hall.out W0.drew (Below.refl _ _)
  clear ht hf B0 z0 z1 bA happ5
  refine wp_region_noPanic ?_
  refine wp_region_last (fun W : World => W.cell? ⟨H, 0, none⟩ = some (.slice a n cap) ∧ W.cell? ⟨H, 1, none⟩ = some (.int .i64 ops) ∧ W.cell? ⟨H, 2, none⟩ = some (.slice fa m fc) ∧ W.cell? ⟨H, 3, none⟩ = some (.bool down)) 12 (by kernel_rfl) (by kernel_rfl) (by go_keep) 12 (by kernel_rfl) (fun hS => ?_)
  refine wpAnyH_take (i := 0) (v := ?gv10) rfl (by kernel_rfl) (by kernel_rfl) (by kernel_rfl) (fun _ _ _ h => h) (Or.inl ⟨by kernel_rfl, ?gy10⟩) (by assumption) ?gr10
  case gy10 => (intro w' hSw; (try dsimp only at hSw); go_simp; (try with_reducible rfl))
  try simp only [Act.put, List.setIfInBounds_toArray, List.set_cons_zero, List.set_cons_succ, List.getElem_toArray, List.getElem_cons_zero]
  refine wpAnyH_take (i := 1) (v := ?gv11) rfl (by kernel_rfl) (by kernel_rfl) (by kernel_rfl) (fun _ _ _ h => h) (Or.inl ⟨by kernel_rfl, ?gy11⟩) (by assumption) ?gr11
  case gy11 => (intro w' hSw; (try dsimp only at hSw); go_simp; (try with_reducible rfl))
  try simp only [Act.put, List.setIfInBounds_toArray, List.set_cons_zero, List.set_cons_succ, List.getElem_toArray, List.getElem_cons_succ, List.getElem_cons_zero]
  refine wpAnyH_take (i := 3) (v := ?gv12) rfl (by kernel_rfl) (by kernel_rfl) (by kernel_rfl) (fun _ _ _ h => h) (Or.inl ⟨by kernel_rfl, ?gy12⟩) (by assumption) ?gr12
  case gy12 => (intro w' hSw; (try dsimp only at hSw); go_simp; (try with_reducible rfl))
  try simp only [Act.put, List.setIfInBounds_toArray, List.set_cons_zero, List.set_cons_succ, List.getElem_toArray, List.getElem_cons_succ, List.getElem_cons_zero]
  refine wpAnyH_take (i := 4) (v := ?gv13) rfl (by kernel_rfl) (by kernel_rfl) (by kernel_rfl) (fun _ _ _ h => h) (Or.inl ⟨by kernel_rfl, ?gy13⟩) (by assumption) ?gr13
  case gy13 => (intro w' hSw; (try dsimp only at hSw); go_simp; (try with_reducible rfl))
  try simp only [Act.put, List.setIfInBounds_toArray, List.set_cons_zero, List.set_cons_succ, List.getElem_toArray, List.getElem_cons_succ, List.getElem_cons_zero]
  refine wpAnyH_take (i := 6) (v := ?gv14) rfl (by kernel_rfl) (by kernel_rfl) (by kernel_rfl) (fun _ _ _ h => h) (Or.inl ⟨by kernel_rfl, ?gy14⟩) (by assumption) ?gr14
  case gy14 => (intro w' hSw; (try dsimp only at hSw); go_simp; (try with_reducible rfl))
  try simp only [Act.put, List.setIfInBounds_toArray, List.set_cons_zero, List.set_cons_succ, List.getElem_toArray, List.getElem_cons_succ, List.getElem_cons_zero]
  refine wpAnyH_take (i := 7) (v := ?gv15) rfl (by kernel_rfl) (by kernel_rfl) (by kernel_rfl) (fun _ _ _ h => h) (Or.inl ⟨by kernel_rfl, ?gy15⟩) (by assumption) ?gr15
  case gy15 => (intro w' hSw; (try dsimp only at hSw); go_simp; (try with_reducible rfl))
  try simp only [Act.put, List.setIfInBounds_toArray, List.set_cons_zero, List.set_cons_succ, List.getElem_toArray, List.getElem_cons_succ, List.getElem_cons_zero]
  refine wpAnyH_take (i := 9) (v := ?gv16) rfl (by kernel_rfl) (by kernel_rfl) (by kernel_rfl) (fun _ _ _ h => h) (Or.inl ⟨by kernel_rfl, ?gy16⟩) (by assumption) ?gr16
  case gy16 => (intro w' hSw; (try dsimp only at hSw); go_simp; (try with_reducible rfl))
  try simp only [Act.put, List.setIfInBounds_toArray, List.set_cons_zero, List.set_cons_succ, List.getElem_toArray, List.getElem_cons_succ, List.getElem_cons_zero]
  refine wpAnyH_take (i := 10) (v := ?gv17) rfl (by kernel_rfl) (by kernel_rfl) (by kernel_rfl) (fun _ _ _ h => h) (Or.inl ⟨by kernel_rfl, ?gy17⟩) (by assumption) ?gr17
  case gy17 => (intro w' hSw; (try dsimp only at hSw); go_simp; (try with_reducible rfl))
  try simp only [Act.put, List.setIfInBounds_toArray, List.set_cons_zero, List.set_cons_succ, List.getElem_toArray, List.getElem_cons_succ, List.getElem_cons_zero]
  refine wpAnyH_ready (rs := [2, 5]) (by kernel_rfl) (by simp) ?_
  refine AllReadyH.cons rfl (fun K hK => ?_) (AllReadyH.cons rfl (fun K hK => ?_) AllReadyH.nil)
  go_simp
  (with_reducible refine hc0.mono ?_)
  rintro e W1 ⟨a1, n1, c1, qs, rfl, hq, hql, b1⟩
  have HQ : Hid (NewBs W1 W0.drew.heap.size (.slice a1 n1 c1) (bs.map BkR.D) qs ∧ qs.length = n1 ∧ Below W0.drew.heap.size W0.drew W1) := ⟨hq, hql, b1⟩
  clear hq hql b1
  clear hS
  try dsimp only
  refine Shut.out hK _ _ (hall.out W1 HQ.out.2.2) (fun hS => ?_)
  try simp only [Act.put, List.setIfInBounds_toArray, List.set_cons_zero, List.set_cons_succ, List.getElem_toArray, List.getElem_cons_succ, List.getElem_cons_zero]
  refine wpAnyH_ready (rs := [5]) (by kernel_rfl) (by simp) ?_
  refine AllReadyH.cons rfl (fun K hK => ?_) AllReadyH.nil
  go_simp
  have b2 : Below W1.heap.size W1 (W1.alloc (.cells #[] 51)) := (Below.refl _ _).alloc (Nat.le_refl _) _
  have bE : Below W0.drew.heap.size W0.drew (W1.alloc (.cells #[] 51)) := HQ.out.2.2.trans (b2.mono HQ.out.2.2.size)
  have happ := (fun ty => app_faults _ _ (faults_fresh W1) fa m fc fs (HF.out _ bE) ty)
  have HAP : Hid _ := happ
  have HBE : Hid _ := And.intro b2 bE
  clear happ b2 bE
  clear hS
  try dsimp only
  refine Shut.out hK _ _ (hall.out _ HBE.out.2) (fun hS => ?_)
  try simp only [Act.put, List.setIfInBounds_toArray, List.set_cons_zero, List.set_cons_succ, List.getElem_toArray, List.getElem_cons_succ, List.getElem_cons_zero]
  refine wpAnyH_ready (rs := [8]) (by kernel_rfl) (by simp) ?_
  refine AllReadyH.cons rfl (fun K hK => ?_) AllReadyH.nil
  refine step_appAny (W1.alloc (.cells #[] 51)) rfl (.tmp 8) (.tmp 10) 27 rfl (.slice (some ⟨W1.heap.size, 0, none⟩) 0 0) (.slice fa m fc) _ rfl rfl HAP.out ?_
  intro v2 W9 hap
  obtain ⟨fa1, fc1, rfl⟩ := hap.form
  have hnw := hap.new HBE.out.1 (fun g hg => by simp [Value.ownBlock] at hg; omega)
  have HND : Hid (NewDv W9 W0.drew.heap.size a1 n1 c1 fa1 m fc1 (bs.map BkR.D) fs qs ∧ qs.length = n1 ∧ Below W0.drew.heap.size W0.drew W9) := ⟨dv_ab HQ.out.1 HQ.out.2.2 hap.own hnw.1 hnw.2, HQ.out.2.1, HQ.out.2.2.trans (hnw.2.mono HQ.out.2.2.size)⟩
  clear hap hnw HQ HBE HAP
  have zr := Blk.keep HZ1.out HND.out.2.2
  have r0 := zr.cell 0
  have r1 := zr.cell 1
  have r2 := zr.cell 2
  have r3 := zr.cell 3
  have f0 := zr.frozen 0
  have f1 := zr.frozen 1
  have f2 := zr.frozen 2
  have f3 := zr.frozen 3
  simp at r0 r1 r2 r3
  clear hS
  try dsimp only
  refine Shut.out hK _ _ (hall.out W9 HND.out.2.2) (fun hS => ?_)
  try simp only [Act.put, List.setIfInBounds_toArray, List.set_cons_zero, List.set_cons_succ, List.getElem_toArray, List.getElem_cons_succ, List.getElem_cons_zero]
  refine wpAnyH_take (i := 11) (v := ?gv18) rfl (by kernel_rfl) (by kernel_rfl) (by kernel_rfl) (fun _ _ _ h => h) (Or.inl ⟨by kernel_rfl, ?gy18⟩) (by assumption) ?gr18
  case gy18 => (intro w' hSw; (try dsimp only at hSw); go_simp; (try with_reducible rfl))
  try simp only [Act.put, List.setIfInBounds_toArray, List.set_cons_zero, List.set_cons_succ, List.getElem_toArray, List.getElem_cons_succ, List.getElem_cons_zero]
  refine wpAnyH_done (by kernel_rfl) ?_ _
  refine wpOp_last rfl (fun K hK => ?_)
  clear hS
  go_simp
  refine Shut.out hK _ _ (NoPanic.normal ?_)
  rotate_left 1
  go_simp
  clear hS
  try dsimp only
  refine Shut.out hK _ _ (hall.out _ HBA.out) (fun hS => ?_)
  try simp only [Act.put, List.setIfInBounds_toArray, List.set_cons_zero, List.set_cons_succ, List.getElem_toArray, List.getElem_cons_succ, List.getElem_cons_zero]
  refine wpAnyH_ready (rs := [2]) (by kernel_rfl) (by simp) ?_
  refine AllReadyH.cons rfl (fun K hK => ?_) AllReadyH.nil
  go_simp
  (with_reducible refine hc5.mono ?_)
  rintro e W1 ⟨a1, n1, c1, qs, rfl, hq, hql, b1⟩
  have bE : Below W0.drew.heap.size W0.drew W1 := HBA.out.trans (b1.mono HBA.out.size)
  have happ := (fun ty => app_faults _ _ (OwnE.keep (faults_fresh W0.drew) b1) fa m fc fs (HF.out _ bE) ty)
  have HAP : Hid _ := happ
  have HQ : Hid _ := And.intro hq (And.intro hql (And.intro b1 bE))
  clear happ hq hql b1 bE
  clear hS
  try dsimp only
  refine Shut.out hK _ _ (hall.out W1 HQ.out.2.2.2) (fun hS => ?_)
  try simp only [Act.put, List.setIfInBounds_toArray, List.set_cons_zero, List.set_cons_succ, List.getElem_toArray, List.getElem_cons_succ, List.getElem_cons_zero]
  refine wpAnyH_ready (rs := [8]) (by kernel_rfl) (by simp) ?_
  refine AllReadyH.cons rfl (fun K hK => ?_) AllReadyH.nil
  refine step_appAny W1 rfl (.tmp 8) (.tmp 10) 27 rfl (.slice (some ⟨W0.drew.heap.size, 0, none⟩) 0 0) (.slice fa m fc) _ rfl rfl HAP.out ?_
  intro v2 W9 hap
  obtain ⟨fa1, fc1, rfl⟩ := hap.form
  have HND : Hid (NewDv W9 W0.drew.heap.size a1 n1 c1 fa1 m fc1 (bs.map BkR.D) fs qs ∧ qs.length = n1 ∧ Below W0.drew.heap.size W0.drew W9) := ⟨dv_mid hap HQ.out.1 HBA.out HQ.out.2.2.1, HQ.out.2.1, (hap.new HQ.out.2.2.2 (fun g hg => by simp [Value.ownBlock] at hg; simp; omega)).2⟩
  clear hap HQ HAP
  have zr := Blk.keep HZ1.out HND.out.2.2
  have r0 := zr.cell 0
  have r1 := zr.cell 1
  have r2 := zr.cell 2
  have r3 := zr.cell 3
  have f0 := zr.frozen 0
  have f1 := zr.frozen 1
  have f2 := zr.frozen 2
  have f3 := zr.frozen 3
  simp at r0 r1 r2 r3
  clear hS
  try dsimp only
  refine Shut.out hK _ _ (hall.out W9 HND.out.2.2) (fun hS => ?_)
  try simp only [Act.put, List.setIfInBounds_toArray, List.set_cons_zero, List.set_cons_succ, List.getElem_toArray, List.getElem_cons_succ, List.getElem_cons_zero]
  refine wpAnyH_take (i := 11) (v := ?gv19) rfl (by kernel_rfl) (by kernel_rfl) (by kernel_rfl) (fun _ _ _ h => h) (Or.inl ⟨by kernel_rfl, ?gy19⟩) (by assumption) ?gr19
  case gy19 => (intro w' hSw; (try dsimp only at hSw); go_simp; (try with_reducible rfl))
  try simp only [Act.put, List.setIfInBounds_toArray, List.set_cons_zero, List.set_cons_succ, List.getElem_toArray, List.getElem_cons_succ, List.getElem_cons_zero]
  refine wpAnyH_done (by kernel_rfl) ?_ _
  refine wpOp_last rfl (fun K hK => ?_)
  clear hS
  go_simp
  refine Shut.out hK _ _ (NoPanic.normal ?_)
  rotate_left 1
  all_goals (
    have zf := (((zr.set 0 (.slice a1 n1 c1)).set 1 (.int .i64 ops)).set 2 (.slice fa1 m fc1)).set 3 (.bool down)
    have d0 := zf.cell 0
    have d1 := zf.cell 1
    have d2 := zf.cell 2
    have d3 := zf.cell 3
    simp at d0 d1 d2 d3
    clear zr zf r0 r1 r2 r3 f0 f1 f2 f3 hc0 hc5 s0 s1 s2 s3
    go_wp2
    refine bodyPost_ret (v := .agg #[.slice a1 n1 c1, .int .i64 ops, .slice fa1 m fc1, .bool down]) (by simp [results, Tryz.f51, go_sem, d0, d1, d2, d3]) rfl ?_
    rw [← HGP.out]
    obtain ⟨hd, hl, hb⟩ := HND.out
    have h1 : H + 1 < W0.drew.heap.size := HZ1.out.lt
    have bel : Below w.heap.size w W9 := HD.out.trans (hb.mono HD.out.size)
    have s : ∀ (W : World) (i : Nat) (v : Value), Below w.heap.size w W → Below w.heap.size w (W.setCell ⟨H + 1, i, none⟩ v) := fun W i v hb => hb.setCell (p := ⟨H + 1, i, none⟩) (by simp only; omega) v
    exact ⟨a1, n1, c1, fa1, m, fc1, qs, rfl, ((((hd.set_below h1).set_below h1).set_below h1).set_below h1).wider HD.out.size, hl, s _ _ _ (s _ _ _ (s _ _ _ (s _ _ _ bel)))⟩)
end

section
open Go.RowKit
/-- A device of the call's own, under way: its box X, its flash's box F and row G. -/
structure DO (w0 wr : World) (X F G n : Nat) (ks : List FkR) (ops : Int) (fa : Option Addr) (m fc : Nat) (down : Bool) : Prop where
  fo : FO w0 wr F G n ks
  x : Blk wr X 124 #[.pointer (some ⟨F, 0, none⟩), .int .i64 ops, .slice fa m fc, .bool down]
  xn : w0.heap.size ≤ X
  xf : X ≠ F
  xg : X ≠ G
theorem DO.keep {w0 wr w' : World} {X F G n m fc : Nat} {ks : List FkR} {ops : Int} {fa : Option Addr} {down : Bool} (h : DO w0 wr X F G n ks ops fa m fc down) (hb : Below wr.heap.size wr w') : DO w0 w' X F G n ks ops fa m fc down := ⟨h.fo.keep hb, h.x.keep hb, h.xn, h.xf, h.xg⟩
/-- Its flash's row was changed. -/
theorem DO.row {w0 wr w' : World} {X F G n m fc : Nat} {ks ks' : List FkR} {ops : Int} {fa : Option Addr} {down : Bool} (h : DO w0 wr X F G n ks ops fa m fc down) (hf : FO w0 w' F G n ks') (hs : Sv [G] wr w') : DO w0 w' X F G n ks' ops fa m fc down :=
  ⟨hf, Blk.svs h.x hs (by simp [h.xg]), h.xn, h.xf, h.xg⟩
theorem FO.other {w0 wr w' : World} {F G n X : Nat} {ks : List FkR} (h : FO w0 wr F G n ks) (hs : Sv [X] wr w') (hX : w0.heap.size ≤ X) (hf : X ≠ F) (hg : X ≠ G) : FO w0 w' F G n ks :=
  ⟨Below.svs h.bel hs (fun g hg => by simp at hg; omega) (Nat.le_refl _), Blk.svs h.f hs (by simp; omega), h.g.block fun j hj => by
    simp [Value.ownBlock] at hj
    subst hj
    exact hs.block _ (h.g.lt (g := G) rfl) (by simp; omega), h.fn, h.gn, h.ne⟩
/-- One cell of its box was stored. -/
theorem sv_one (w : World) (X i : Nat) (v : Value) : Sv [X] w (w.setCell ⟨X, i, none⟩ v) := Sv.gr (gr_setC w X i v) (fun g hg => by simp at hg; simp [hg])
theorem DO.ops1 {w0 wr : World} {X F G n m fc : Nat} {ks : List FkR} {ops o' : Int} {fa : Option Addr} {down : Bool} (h : DO w0 wr X F G n ks ops fa m fc down) : DO w0 (wr.setCell ⟨X, 1, none⟩ (.int .i64 o')) X F G n ks o' fa m fc down :=
  ⟨h.fo.other (sv_one _ _ _ _) h.xn h.xf h.xg, by have := h.x.set 1 (.int .i64 o'); simpa using this, h.xn, h.xf, h.xg⟩
theorem DO.off {w0 wr : World} {X F G n m fc : Nat} {ks : List FkR} {ops : Int} {fa : Option Addr} {down d' : Bool} (h : DO w0 wr X F G n ks ops fa m fc down) : DO w0 (wr.setCell ⟨X, 3, none⟩ (.bool d')) X F G n ks ops fa m fc d' :=
  ⟨h.fo.other (sv_one _ _ _ _) h.xn h.xf h.xg, by have := h.x.set 3 (.bool d'); simpa using this, h.xn, h.xf, h.xg⟩
theorem bel3 {W0 W : World} {T : Nat} {v0 v1 v2 : Value} (h : Below W0.heap.size W0 W) (hT : W0.heap.size ≤ T) : Below W0.heap.size W0 (((W.setCell ⟨T, 0, none⟩ v0).setCell ⟨T, 1, none⟩ v1).setCell ⟨T, 2, none⟩ v2) :=
  ((h.setCell (p := ⟨T, 0, none⟩) hT _).setCell (p := ⟨T, 1, none⟩) hT _).setCell (p := ⟨T, 2, none⟩) hT _
/-- A cell of what was not there yet was stored. -/
theorem do_new {w0 w W : World} {X F G n m fc H i : Nat} {ks : List FkR} {ops : Int} {fa : Option Addr} {down : Bool} {v : Value} (h : DO w0 W X F G n ks ops fa m fc down) (hs : Sv [X] w W) (hH : w.heap.size ≤ H) (hF : F < w.heap.size) (hG : G < w.heap.size) (hX : X < w.heap.size) (hw : w0.heap.size ≤ w.heap.size) : DO w0 (W.setCell ⟨H, i, none⟩ v) X F G n ks ops fa m fc down ∧ Sv [X] w (W.setCell ⟨H, i, none⟩ v) :=
  ⟨⟨h.fo.other (X := H) (sv_one _ _ _ _) (by omega) (by omega) (by omega), h.x.other (B' := H) (by omega) i v, h.xn, h.xf, h.xg⟩, ⟨hs.os, hs.tape, hs.output, by rw [size_setC]; exact hs.size, fun k hk hn => (Below.heap_setCell _ _ _ _ (by show k ≠ H; omega)).trans (hs.block k hk hn)⟩⟩
/-- A device under way was answered. -/
def DoA (w : World) (n : Nat) (ks : List FkR) (ops : Int) (fa : Option Addr) (m fc : Nat) (down : Bool) (e : Ending) (w' : World) : Prop := ∃ X F G, e = .returned (.pointer (some ⟨X, 0, none⟩)) ∧ DO w w' X F G n ks ops fa m fc down
set_option maxRecDepth 100000 in
set_option maxHeartbeats 8000000 in
theorem deviceOfI (a : Option Addr) (n cap : Nat) (bs : List BkR) (ks : List FkR) (ops : Int) (fa : Option Addr) (m fc : Nat) (down : Bool) (w : World) (ht : CR w a n bs) (hf : FlOf bs ks) :
    Calls Tryz.prog 94 #[.agg #[.slice a n cap, .int .i64 ops, .slice fa m fc, .bool down]] w (DoA w n ks ops fa m fc down) := by
  have B0 : Below w.heap.size w (w.alloc (.cells #[.slice a n cap, .int .i64 ops, .slice fa m fc, .bool down] 29)) := (Below.refl _ w).alloc (Nat.le_refl _) _
  have z0 := Blk.new w 29 #[.slice a n cap, .int .i64 ops, .slice fa m fc, .bool down]
  have hkn : ks.length = n := by rw [hf.1, ht.len]
  generalize hGP : DoA w n ks ops fa m fc down = P
  have HGP : Hid _ := hGP
  clear hGP
  obtain ⟨H, hH⟩ : ∃ H, w.heap.size = H := ⟨_, rfl⟩
  rw [hH] at z0
  go_enter Tryz.func94, Tryz.ntmps94
  go_upto_region 1 with fail
  obtain ⟨W0, hW0⟩ : ∃ W, w.alloc (.cells #[.slice a n cap, .int .i64 ops, .slice fa m fc, .bool down] 29) = W := ⟨_, rfl⟩
  rw [hW0] at B0 z0 ⊢
  clear hW0
  try rw [hH]
  have HD : Hid (Below w.heap.size w W0.drew) := B0.drew
  have HZ0 : Hid (Blk W0.drew H 29 #[.slice a n cap, .int .i64 ops, .slice fa m fc, .bool down]) := z0.keep (Below.refl _ _).drew
  have hall : Hid (∀ W : World, Below W0.drew.heap.size W0.drew W → W.cell? ⟨H, 0, none⟩ = some (.slice a n cap) ∧ W.cell? ⟨H, 1, none⟩ = some (.int .i64 ops) ∧ W.cell? ⟨H, 2, none⟩ = some (.slice fa m fc) ∧ W.cell? ⟨H, 3, none⟩ = some (.bool down)) := fun W hW => ⟨(Blk.keep HZ0.out hW).cell 0, (Blk.keep HZ0.out hW).cell 1, (Blk.keep HZ0.out hW).cell 2, (Blk.keep HZ0.out hW).cell 3⟩
  have hcall := flashOfI a n cap bs ks W0.drew (ht.keep HD.out) hf
  have HKN : Hid _ := hkn
  obtain ⟨s0, s1, s2, s3⟩ := hall.out W0.drew (Below.refl _ _)
  clear ht hf B0 z0 hkn hH
  refine wp_region_noPanic ?_
  refine wp_region_last (fun W : World => W.cell? ⟨H, 0, none⟩ = some (.slice a n cap) ∧ W.cell? ⟨H, 1, none⟩ = some (.int .i64 ops) ∧ W.cell? ⟨H, 2, none⟩ = some (.slice fa m fc) ∧ W.cell? ⟨H, 3, none⟩ = some (.bool down)) 11 (by kernel_rfl) (by kernel_rfl) (by go_keep) 11 (by kernel_rfl) (fun hS => ?_)
  refine wpAnyH_take (i := 0) (v := ?gv1) rfl (by kernel_rfl) (by kernel_rfl) (by kernel_rfl) (fun _ _ _ h => h) (Or.inl ⟨by kernel_rfl, ?gy1⟩) (by assumption) ?gr1
  case gy1 => (intro w' hSw; (try dsimp only at hSw); go_simp; (try with_reducible rfl))
  try simp only [Act.put, List.setIfInBounds_toArray, List.set_cons_zero, List.set_cons_succ, List.getElem_toArray, List.getElem_cons_zero]
  refine wpAnyH_take (i := 1) (v := ?gv2) rfl (by kernel_rfl) (by kernel_rfl) (by kernel_rfl) (fun _ _ _ h => h) (Or.inl ⟨by kernel_rfl, ?gy2⟩) (by assumption) ?gr2
  case gy2 => (intro w' hSw; (try dsimp only at hSw); go_simp; (try with_reducible rfl))
  try simp only [Act.put, List.setIfInBounds_toArray, List.set_cons_zero, List.set_cons_succ, List.getElem_toArray, List.getElem_cons_succ, List.getElem_cons_zero]
  refine wpAnyH_take (i := 3) (v := ?gv3) rfl (by kernel_rfl) (by kernel_rfl) (by kernel_rfl) (fun _ _ _ h => h) (Or.inl ⟨by kernel_rfl, ?gy3⟩) (by assumption) ?gr3
  case gy3 => (intro w' hSw; (try dsimp only at hSw); go_simp; (try with_reducible rfl))
  try simp only [Act.put, List.setIfInBounds_toArray, List.set_cons_zero, List.set_cons_succ, List.getElem_toArray, List.getElem_cons_succ, List.getElem_cons_zero]
  refine wpAnyH_take (i := 4) (v := ?gv4) rfl (by kernel_rfl) (by kernel_rfl) (by kernel_rfl) (fun _ _ _ h => h) (Or.inl ⟨by kernel_rfl, ?gy4⟩) (by assumption) ?gr4
  case gy4 => (intro w' hSw; (try dsimp only at hSw); go_simp; (try with_reducible rfl))
  try simp only [Act.put, List.setIfInBounds_toArray, List.set_cons_zero, List.set_cons_succ, List.getElem_toArray, List.getElem_cons_succ, List.getElem_cons_zero]
  refine wpAnyH_take (i := 5) (v := ?gv5) rfl (by kernel_rfl) (by kernel_rfl) (by kernel_rfl) (fun _ _ _ h => h) (Or.inl ⟨by kernel_rfl, ?gy5⟩) (by assumption) ?gr5
  case gy5 => (intro w' hSw; (try dsimp only at hSw); go_simp; (try with_reducible rfl))
  try simp only [Act.put, List.setIfInBounds_toArray, List.set_cons_zero, List.set_cons_succ, List.getElem_toArray, List.getElem_cons_succ, List.getElem_cons_zero]
  refine wpAnyH_take (i := 6) (v := ?gv6) rfl (by kernel_rfl) (by kernel_rfl) (by kernel_rfl) (fun _ _ _ h => h) (Or.inl ⟨by kernel_rfl, ?gy6⟩) (by assumption) ?gr6
  case gy6 => (intro w' hSw; (try dsimp only at hSw); go_simp; (try with_reducible rfl))
  try simp only [Act.put, List.setIfInBounds_toArray, List.set_cons_zero, List.set_cons_succ, List.getElem_toArray, List.getElem_cons_succ, List.getElem_cons_zero]
  refine wpAnyH_take (i := 7) (v := ?gv7) rfl (by kernel_rfl) (by kernel_rfl) (by kernel_rfl) (fun _ _ _ h => h) (Or.inl ⟨by kernel_rfl, ?gy7⟩) (by assumption) ?gr7
  case gy7 => (intro w' hSw; (try dsimp only at hSw); go_simp; (try with_reducible rfl))
  try simp only [Act.put, List.setIfInBounds_toArray, List.set_cons_zero, List.set_cons_succ, List.getElem_toArray, List.getElem_cons_succ, List.getElem_cons_zero]
  refine wpAnyH_take (i := 8) (v := ?gv8) rfl (by kernel_rfl) (by kernel_rfl) (by kernel_rfl) (fun _ _ _ h => h) (Or.inl ⟨by kernel_rfl, ?gy8⟩) (by assumption) ?gr8
  case gy8 => (intro w' hSw; (try dsimp only at hSw); go_simp; (try with_reducible rfl))
  try simp only [Act.put, List.setIfInBounds_toArray, List.set_cons_zero, List.set_cons_succ, List.getElem_toArray, List.getElem_cons_succ, List.getElem_cons_zero]
  refine wpAnyH_ready (rs := [2]) (by kernel_rfl) (by simp) ?_
  refine AllReadyH.cons rfl (fun K hK => ?_) AllReadyH.nil
  go_simp
  (with_reducible refine hcall.mono ?_)
  rintro e W1 ⟨F, G, rfl, hfo⟩
  rw [HKN.out] at hfo
  have HFO : Hid (FO W0.drew W1 F G n ks) := hfo
  clear hfo
  clear hS
  try dsimp only
  refine Shut.out hK _ _ (hall.out W1 HFO.out.bel) (fun hS => ?_)
  try simp only [Act.put, List.setIfInBounds_toArray, List.set_cons_zero, List.set_cons_succ, List.getElem_toArray, List.getElem_cons_succ, List.getElem_cons_zero]
  refine wpAnyH_take (i := 9) (v := ?gv9) rfl (by kernel_rfl) (by kernel_rfl) (by kernel_rfl) (fun _ _ _ h => h) (Or.inl ⟨by kernel_rfl, ?gy9⟩) (by assumption) ?gr9
  case gy9 => (intro w' hSw; (try dsimp only at hSw); go_simp; (try with_reducible rfl))
  try simp only [Act.put, List.setIfInBounds_toArray, List.set_cons_zero, List.set_cons_succ, List.getElem_toArray, List.getElem_cons_succ, List.getElem_cons_zero]
  refine wpAnyH_ready (rs := [10]) (by kernel_rfl) (by simp) ?_
  refine AllReadyH.cons rfl (fun K hK => ?_) AllReadyH.nil
  go_simp
  have b2 : Below W1.heap.size W1 (W1.alloc (.cells #[.pointer (some ⟨F, 0, none⟩), .int .i64 ops, .slice fa m fc, .bool down] 124)) := (Below.refl _ _).alloc (Nat.le_refl _) _
  have HB2 : Hid _ := b2
  clear b2
  clear hS
  try dsimp only
  refine Shut.out hK _ _ (hall.out _ (HFO.out.bel.trans (HB2.out.mono HFO.out.bel.size))) (fun hS => ?_)
  try simp only [Act.put, List.setIfInBounds_toArray, List.set_cons_zero, List.set_cons_succ, List.getElem_toArray, List.getElem_cons_succ, List.getElem_cons_zero]
  refine wpAnyH_done (by kernel_rfl) ?_ _
  refine wpOp_last rfl (fun K hK => ?_)
  clear hS
  go_simp
  refine Shut.out hK _ _ (NoPanic.normal ?_)
  have hX := HFO.out.f.lt
  have hG := HFO.out.g.lt (g := G) rfl
  have hd : DO w (W1.alloc (.cells #[.pointer (some ⟨F, 0, none⟩), .int .i64 ops, .slice fa m fc, .bool down] 124)) W1.heap.size F G n ks ops fa m fc down := by
    have h1 := HFO.out.keep HB2.out
    have h2 := HD.out.size
    exact ⟨⟨HD.out.trans (h1.bel.mono h2), h1.f, h1.g, Nat.le_trans h2 h1.fn, Nat.le_trans h2 h1.gn, h1.ne⟩, Blk.new W1 124 _, by have := HFO.out.bel.size; omega, by omega, by omega⟩
  have HDD : Hid _ := hd
  clear hd hX hG
  go_wp2
  rw [← HGP.out]
  exact ⟨_, F, G, rfl, HDD.out⟩
set_option maxRecDepth 100000 in
set_option maxHeartbeats 8000000 in
theorem beginI (X F G n : Nat) (ks : List FkR) (ops : Int) (fa : Option Addr) (m fc : Nat) (fs : List FtD) (down : Bool) (w0 w : World) (h : DO w0 w X F G n ks ops fa m fc down) (hf : FR w fa m fs) (ho : 0 ≤ ops ∧ ops < 100000) :
    Calls Tryz.prog 129 #[.pointer (some ⟨X, 0, none⟩)] w fun e w' => e = .returned (.tuple #[.agg #[.int .i64 ((faD ops fs).getD ftZ).tm, .int .i64 ((faD ops fs).getD ftZ).kd, .int .i64 ((faD ops fs).getD ftZ).kp], .bool (faD ops fs).isSome]) ∧ DO w0 w' X F G n ks (ops + 1) fa m fc down ∧ Sv [X] w w' := by
  obtain ⟨ho1, ho2⟩ := ho
  have hwr : IntKind.i64.wrap (ops + 1) = ops + 1 := wrap_small _ (by omega) (by omega)
  have hco := fun (W : World) (hW : FR W fa m fs) => faultOfI fa m fc fs ops W hW
  unfold FaA at hco
  generalize ((faD ops fs).getD ftZ).tm = ft at hco ⊢
  generalize ((faD ops fs).getD ftZ).kd = fk at hco ⊢
  generalize ((faD ops fs).getD ftZ).kp = fp at hco ⊢
  generalize (faD ops fs).isSome = fb at hco ⊢
  have B0 : Below w.heap.size w (w.alloc (.cells #[.int .i64 0, .int .i64 0, .int .i64 0] 51)) := (Below.refl _ w).alloc (Nat.le_refl _) _
  have z0 := Blk.new w 51 #[.int .i64 0, .int .i64 0, .int .i64 0]
  generalize hGP : (fun (e : Ending) (w' : World) => e = .returned (.tuple #[.agg #[.int .i64 ft, .int .i64 fk, .int .i64 fp], .bool fb]) ∧ DO w0 w' X F G n ks (ops + 1) fa m fc down ∧ Sv [X] w w') = P
  have HGP : Hid _ := hGP
  clear hGP
  obtain ⟨H, hH⟩ : ∃ H, w.heap.size = H := ⟨_, rfl⟩
  have hXH : X < H := by rw [← hH]; exact h.x.lt
  have HFG : Hid (F < w.heap.size ∧ G < w.heap.size ∧ X < w.heap.size ∧ w0.heap.size ≤ w.heap.size) := ⟨h.fo.f.lt, h.fo.g.lt (g := G) rfl, h.x.lt, h.fo.bel.size⟩
  rw [hH] at z0
  go_enter Tryz.func129, Tryz.ntmps129
  go_upto_region 1 with fail
  obtain ⟨W0, hW0⟩ : ∃ W, w.alloc (.cells #[.int .i64 0, .int .i64 0, .int .i64 0] 51) = W := ⟨_, rfl⟩
  rw [hW0] at B0 z0 ⊢
  clear hW0
  try rw [hH]
  have HD : Hid (Below w.heap.size w W0.drew) := B0.drew
  have HO : Hid (DO w0 W0.drew X F G n ks ops fa m fc down) := h.keep HD.out
  have HZ0 : Hid (Blk W0.drew H 51 #[.int .i64 0, .int .i64 0, .int .i64 0]) := z0.keep (Below.refl _ _).drew
  have HFR : Hid (∀ W : World, Below W0.drew.heap.size W0.drew W → FR W fa m fs) := fun W hW => (hf.keep HD.out).keep hW
  have hall : Hid (∀ W : World, Below W0.drew.heap.size W0.drew W → W.cell? ⟨X, 1, none⟩ = some (.int .i64 ops) ∧ W.cell? ⟨X, 2, none⟩ = some (.slice fa m fc)) := fun W hW => ⟨(HO.out.keep hW).x.cell 1, (HO.out.keep hW).x.cell 2⟩
  have hc0 := hco W0.drew (HFR.out _ (Below.refl _ _))
  have bA : Below W0.drew.heap.size W0.drew (W0.drew.alloc (.cells #[.int .i64 0, .int .i64 0, .int .i64 0] 51)) := (Below.refl _ _).alloc (Nat.le_refl _) _
  have hc1 : Calls Tryz.prog 68 #[.slice fa m fc, .int .i64 ops] (W0.alloc (.cells #[.int .i64 0, .int .i64 0, .int .i64 0] 51)).drew _ := hco _ (HFR.out _ bA)
  have HBA : Hid _ := bA
  obtain ⟨s1, s2⟩ := hall.out W0.drew (Below.refl _ _)
  have HHH : Hid (w.heap.size = H) := hH
  clear hf B0 z0 hH hco bA h
  refine wp_region_noPanic ?_
  refine wp_region_last (fun W : World => W.cell? ⟨X, 1, none⟩ = some (.int .i64 ops) ∧ W.cell? ⟨X, 2, none⟩ = some (.slice fa m fc)) 14 (by kernel_rfl) (by kernel_rfl) (by go_keep) 14 (by kernel_rfl) (fun hS => ?_)
  refine wpAnyH_take (i := 0) (v := ?gv10) rfl (by kernel_rfl) (by kernel_rfl) (by kernel_rfl) (fun _ _ _ h => h) (Or.inl ⟨by kernel_rfl, ?gy10⟩) (by assumption) ?gr10
  case gy10 => (intro w' hSw; (try dsimp only at hSw); go_simp; (try with_reducible rfl))
  try simp only [Act.put, List.setIfInBounds_toArray, List.set_cons_zero, List.set_cons_succ, List.getElem_toArray, List.getElem_cons_zero]
  refine wpAnyH_take (i := 1) (v := ?gv11) rfl (by kernel_rfl) (by kernel_rfl) (by kernel_rfl) (fun _ _ _ h => h) (Or.inl ⟨by kernel_rfl, ?gy11⟩) (by assumption) ?gr11
  case gy11 => (intro w' hSw; (try dsimp only at hSw); go_simp; (try with_reducible rfl))
  try simp only [Act.put, List.setIfInBounds_toArray, List.set_cons_zero, List.set_cons_succ, List.getElem_toArray, List.getElem_cons_succ, List.getElem_cons_zero]
  refine wpAnyH_take (i := 2) (v := ?gv12) rfl (by kernel_rfl) (by kernel_rfl) (by kernel_rfl) (fun _ _ _ h => h) (Or.inl ⟨by kernel_rfl, ?gy12⟩) (by assumption) ?gr12
  case gy12 => (intro w' hSw; (try dsimp only at hSw); go_simp; (try with_reducible rfl))
  try simp only [Act.put, List.setIfInBounds_toArray, List.set_cons_zero, List.set_cons_succ, List.getElem_toArray, List.getElem_cons_succ, List.getElem_cons_zero]
  refine wpAnyH_take (i := 3) (v := ?gv13) rfl (by kernel_rfl) (by kernel_rfl) (by kernel_rfl) (fun _ _ _ h => h) (Or.inl ⟨by kernel_rfl, ?gy13⟩) (by assumption) ?gr13
  case gy13 => (intro w' hSw; (try dsimp only at hSw); go_simp; (try with_reducible rfl))
  try simp only [Act.put, List.setIfInBounds_toArray, List.set_cons_zero, List.set_cons_succ, List.getElem_toArray, List.getElem_cons_succ, List.getElem_cons_zero]
  refine wpAnyH_take (i := 4) (v := ?gv14) rfl (by kernel_rfl) (by kernel_rfl) (by kernel_rfl) (fun _ _ _ h => h) (Or.inl ⟨by kernel_rfl, ?gy14⟩) (by assumption) ?gr14
  case gy14 => (intro w' hSw; (try dsimp only at hSw); go_simp; (try with_reducible rfl))
  try simp only [Act.put, List.setIfInBounds_toArray, List.set_cons_zero, List.set_cons_succ, List.getElem_toArray, List.getElem_cons_succ, List.getElem_cons_zero]
  refine wpAnyH_take (i := 5) (v := ?gv15) rfl (by kernel_rfl) (by kernel_rfl) (by kernel_rfl) (fun _ _ _ h => h) (Or.inl ⟨by kernel_rfl, ?gy15⟩) (by assumption) ?gr15
  case gy15 => (intro w' hSw; (try dsimp only at hSw); go_simp; (try with_reducible rfl))
  try simp only [Act.put, List.setIfInBounds_toArray, List.set_cons_zero, List.set_cons_succ, List.getElem_toArray, List.getElem_cons_succ, List.getElem_cons_zero]
  refine wpAnyH_take (i := 6) (v := ?gv16) rfl (by kernel_rfl) (by kernel_rfl) (by kernel_rfl) (fun _ _ _ h => h) (Or.inl ⟨by kernel_rfl, ?gy16⟩) (by assumption) ?gr16
  case gy16 => (intro w' hSw; (try dsimp only at hSw); go_simp; (try with_reducible rfl))
  try simp only [Act.put, List.setIfInBounds_toArray, List.set_cons_zero, List.set_cons_succ, List.getElem_toArray, List.getElem_cons_succ, List.getElem_cons_zero]
  refine wpAnyH_take (i := 7) (v := ?gv17) rfl (by kernel_rfl) (by kernel_rfl) (by kernel_rfl) (fun _ _ _ h => h) (Or.inl ⟨by kernel_rfl, ?gy17⟩) (by assumption) ?gr17
  case gy17 => (intro w' hSw; (try dsimp only at hSw); go_simp; (try with_reducible rfl))
  try simp only [Act.put, List.setIfInBounds_toArray, List.set_cons_zero, List.set_cons_succ, List.getElem_toArray, List.getElem_cons_succ, List.getElem_cons_zero]
  refine wpAnyH_ready (rs := [8, 12]) (by kernel_rfl) (by simp) ?_
  refine AllReadyH.cons rfl (fun K hK => ?_) (AllReadyH.cons rfl (fun K hK => ?_) AllReadyH.nil)
  go_simp
  (with_reducible refine hc0.mono ?_)
  rintro e W1 ⟨rfl, b1⟩
  have HB1 : Hid (Below W0.drew.heap.size W0.drew W1) := b1
  clear b1
  clear hS
  try dsimp only
  refine Shut.out hK _ _ (hall.out W1 HB1.out) (fun hS => ?_)
  try simp only [Act.put, List.setIfInBounds_toArray, List.set_cons_zero, List.set_cons_succ, List.getElem_toArray, List.getElem_cons_succ, List.getElem_cons_zero]
  refine wpAnyH_take (i := 9) (v := ?gv18) rfl (by kernel_rfl) (by kernel_rfl) (by kernel_rfl) (fun _ _ _ h => h) (Or.inl ⟨by kernel_rfl, ?gy18⟩) (by assumption) ?gr18
  case gy18 => (intro w' hSw; (try dsimp only at hSw); go_simp; (try with_reducible rfl))
  try simp only [Act.put, List.setIfInBounds_toArray, List.set_cons_zero, List.set_cons_succ, List.getElem_toArray, List.getElem_cons_succ, List.getElem_cons_zero]
  refine wpAnyH_take (i := 10) (v := ?gv19) rfl (by kernel_rfl) (by kernel_rfl) (by kernel_rfl) (fun _ _ _ h => h) (Or.inl ⟨by kernel_rfl, ?gy19⟩) (by assumption) ?gr19
  case gy19 => (intro w' hSw; (try dsimp only at hSw); go_simp; (try with_reducible rfl))
  try simp only [Act.put, List.setIfInBounds_toArray, List.set_cons_zero, List.set_cons_succ, List.getElem_toArray, List.getElem_cons_succ, List.getElem_cons_zero]
  refine wpAnyH_take (i := 11) (v := ?gv20) rfl (by kernel_rfl) (by kernel_rfl) (by kernel_rfl) (fun _ _ _ h => h) (Or.inl ⟨by kernel_rfl, ?gy20⟩) (by assumption) ?gr20
  case gy20 => (intro w' hSw; (try dsimp only at hSw); go_simp; (try with_reducible rfl))
  try simp only [Act.put, List.setIfInBounds_toArray, List.set_cons_zero, List.set_cons_succ, List.getElem_toArray, List.getElem_cons_succ, List.getElem_cons_zero]
  refine wpAnyH_ready (rs := [12]) (by kernel_rfl) (by simp) ?_
  refine AllReadyH.cons rfl (fun K hK => ?_) AllReadyH.nil
  go_simp
  have b2 : Below W1.heap.size W1 (W1.alloc (.cells #[.int .i64 0, .int .i64 0, .int .i64 0] 51)) := (Below.refl _ _).alloc (Nat.le_refl _) _
  have HB2 : Hid (Below W0.drew.heap.size W0.drew (W1.alloc (.cells #[.int .i64 0, .int .i64 0, .int .i64 0] 51))) := HB1.out.trans (b2.mono HB1.out.size)
  have zT := Blk.new W1 51 #[.int .i64 0, .int .i64 0, .int .i64 0]
  obtain ⟨T, hT⟩ : ∃ T, W1.heap.size = T := ⟨_, rfl⟩
  rw [hT] at zT
  have hTn : W0.drew.heap.size ≤ T := (by rw [← hT]; exact HB1.out.size)
  obtain ⟨W2, hW2⟩ : ∃ W, W1.alloc (.cells #[.int .i64 0, .int .i64 0, .int .i64 0] 51) = W := ⟨_, rfl⟩
  rw [hW2] at HB2 zT ⊢
  clear hW2 b2
  have HZT : Hid (Blk W2 T 51 #[.int .i64 0, .int .i64 0, .int .i64 0] ∧ W0.drew.heap.size ≤ T) := ⟨zT, hTn⟩
  clear zT hTn
  try rw [hT]
  clear hS
  try dsimp only
  refine Shut.out hK _ _ (hall.out _ HB2.out) (fun hS => ?_)
  try simp only [Act.put, List.setIfInBounds_toArray, List.set_cons_zero, List.set_cons_succ, List.getElem_toArray, List.getElem_cons_succ, List.getElem_cons_zero]
  refine wpAnyH_ready (rs := [13]) (by kernel_rfl) (by simp) ?_
  refine AllReadyH.cons rfl (fun K hK => ?_) AllReadyH.nil
  go_simp
  have zT := HZT.out.1
  have t0 := zT.cell 0
  have t1 := zT.cell 1
  have t2 := zT.cell 2
  have u0 := zT.frozen 0
  have u1 := zT.frozen 1
  have u2 := zT.frozen 2
  simp at t0 t1 t2
  clear zT
  go_simp
  clear hS
  try dsimp only
  refine Shut.out hK _ _ (hall.out (((W2.setCell ⟨T, 0, none⟩ (.int .i64 ft)).setCell ⟨T, 1, none⟩ (.int .i64 fk)).setCell ⟨T, 2, none⟩ (.int .i64 fp)) (bel3 HB2.out HZT.out.2)) (fun hS => ?_)
  try simp only [Act.put, List.setIfInBounds_toArray, List.set_cons_zero, List.set_cons_succ, List.getElem_toArray, List.getElem_cons_succ, List.getElem_cons_zero]
  refine wpAnyH_done (by kernel_rfl) ?_ _
  refine wpOp_last rfl (fun K hK => ?_)
  clear hS
  go_simp
  refine Shut.out hK _ _ (NoPanic.normal ?_)
  rotate_left 1
  go_simp
  clear hS
  try dsimp only
  refine Shut.out hK _ _ (hall.out _ HBA.out) (fun hS => ?_)
  try simp only [Act.put, List.setIfInBounds_toArray, List.set_cons_zero, List.set_cons_succ, List.getElem_toArray, List.getElem_cons_succ, List.getElem_cons_zero]
  refine wpAnyH_ready (rs := [8]) (by kernel_rfl) (by simp) ?_
  refine AllReadyH.cons rfl (fun K hK => ?_) AllReadyH.nil
  go_simp
  (with_reducible refine hc1.mono ?_)
  rintro e W2 ⟨rfl, b1⟩
  have HB2 : Hid (Below W0.drew.heap.size W0.drew W2) := HBA.out.trans (b1.mono HBA.out.size)
  have zT := (Blk.new W0.drew 51 #[.int .i64 0, .int .i64 0, .int .i64 0]).keep b1
  obtain ⟨T, hT⟩ : ∃ T, W0.heap.size = T := ⟨_, rfl⟩
  have hT2 : W0.drew.heap.size = T := hT
  rw [hT2] at zT
  have HZT : Hid (Blk W2 T 51 #[.int .i64 0, .int .i64 0, .int .i64 0] ∧ W0.drew.heap.size ≤ T) := ⟨zT, by rw [hT2]; exact Nat.le_refl _⟩
  clear b1 zT hT2
  try rw [hT]
  clear hS
  try dsimp only
  refine Shut.out hK _ _ (hall.out W2 HB2.out) (fun hS => ?_)
  try simp only [Act.put, List.setIfInBounds_toArray, List.set_cons_zero, List.set_cons_succ, List.getElem_toArray, List.getElem_cons_succ, List.getElem_cons_zero]
  refine wpAnyH_take (i := 9) (v := ?gv21) rfl (by kernel_rfl) (by kernel_rfl) (by kernel_rfl) (fun _ _ _ h => h) (Or.inl ⟨by kernel_rfl, ?gy21⟩) (by assumption) ?gr21
  case gy21 => (intro w' hSw; (try dsimp only at hSw); go_simp; (try with_reducible rfl))
  try simp only [Act.put, List.setIfInBounds_toArray, List.set_cons_zero, List.set_cons_succ, List.getElem_toArray, List.getElem_cons_succ, List.getElem_cons_zero]
  refine wpAnyH_take (i := 10) (v := ?gv22) rfl (by kernel_rfl) (by kernel_rfl) (by kernel_rfl) (fun _ _ _ h => h) (Or.inl ⟨by kernel_rfl, ?gy22⟩) (by assumption) ?gr22
  case gy22 => (intro w' hSw; (try dsimp only at hSw); go_simp; (try with_reducible rfl))
  try simp only [Act.put, List.setIfInBounds_toArray, List.set_cons_zero, List.set_cons_succ, List.getElem_toArray, List.getElem_cons_succ, List.getElem_cons_zero]
  refine wpAnyH_take (i := 11) (v := ?gv23) rfl (by kernel_rfl) (by kernel_rfl) (by kernel_rfl) (fun _ _ _ h => h) (Or.inl ⟨by kernel_rfl, ?gy23⟩) (by assumption) ?gr23
  case gy23 => (intro w' hSw; (try dsimp only at hSw); go_simp; (try with_reducible rfl))
  try simp only [Act.put, List.setIfInBounds_toArray, List.set_cons_zero, List.set_cons_succ, List.getElem_toArray, List.getElem_cons_succ, List.getElem_cons_zero]
  refine wpAnyH_ready (rs := [13]) (by kernel_rfl) (by simp) ?_
  refine AllReadyH.cons rfl (fun K hK => ?_) AllReadyH.nil
  go_simp
  have zT := HZT.out.1
  have t0 := zT.cell 0
  have t1 := zT.cell 1
  have t2 := zT.cell 2
  have u0 := zT.frozen 0
  have u1 := zT.frozen 1
  have u2 := zT.frozen 2
  simp at t0 t1 t2
  clear zT
  go_simp
  clear hS
  try dsimp only
  refine Shut.out hK _ _ (hall.out (((W2.setCell ⟨T, 0, none⟩ (.int .i64 ft)).setCell ⟨T, 1, none⟩ (.int .i64 fk)).setCell ⟨T, 2, none⟩ (.int .i64 fp)) (bel3 HB2.out HZT.out.2)) (fun hS => ?_)
  try simp only [Act.put, List.setIfInBounds_toArray, List.set_cons_zero, List.set_cons_succ, List.getElem_toArray, List.getElem_cons_succ, List.getElem_cons_zero]
  refine wpAnyH_done (by kernel_rfl) ?_ _
  refine wpOp_last rfl (fun K hK => ?_)
  clear hS
  go_simp
  refine Shut.out hK _ _ (NoPanic.normal ?_)
  rotate_left 1
  all_goals (
    clear t0 t1 t2 u0 u1 u2 s1 s2 hc0 hc1
    have hb3 : Below W0.drew.heap.size W0.drew (((W2.setCell ⟨T, 0, none⟩ (.int .i64 ft)).setCell ⟨T, 1, none⟩ (.int .i64 fk)).setCell ⟨T, 2, none⟩ (.int .i64 fp)) := bel3 HB2.out HZT.out.2
    have zt := ((HZT.out.1.set 0 (.int .i64 ft)).set 1 (.int .i64 fk)).set 2 (.int .i64 fp)
    have do3 := HO.out.keep hb3
    have zr := Blk.keep HZ0.out hb3
    have hTX : X < T := by have := HO.out.x.lt; have := HZT.out.2; omega
    have hTH : H < T := by have := HZ0.out.lt; have := HZT.out.2; omega
    simp at zt
    obtain ⟨W3, hW3⟩ : ∃ W, ((W2.setCell ⟨T, 0, none⟩ (.int .i64 ft)).setCell ⟨T, 1, none⟩ (.int .i64 fk)).setCell ⟨T, 2, none⟩ (.int .i64 fp) = W := ⟨_, rfl⟩
    rw [hW3] at hb3 zt do3 zr ⊢
    clear hW3
    have x1 := do3.x.cell 1
    have g1 := do3.x.frozen 1
    have do4 := do3.ops1 (o' := ops + 1)
    have zt4 := zt.other (B' := X) (by omega) 1 (.int .i64 (ops + 1))
    have zr4 := zr.other (B' := X) (by omega) 1 (.int .i64 (ops + 1))
    have t0 := zt4.cell 0
    have t1 := zt4.cell 1
    have t2 := zt4.cell 2
    have r0 := zr4.cell 0
    have r1 := zr4.cell 1
    have r2 := zr4.cell 2
    have f0 := zr4.frozen 0
    have f1 := zr4.frozen 1
    have f2 := zr4.frozen 2
    have zf := ((zr4.set 0 (.int .i64 ft)).set 1 (.int .i64 fk)).set 2 (.int .i64 fp)
    have d0 := zf.cell 0
    have d1 := zf.cell 1
    have d2 := zf.cell 2
    simp at x1 t0 t1 t2 r0 r1 r2 d0 d1 d2
    have HDO : Hid _ := And.intro do4 hb3
    clear do3 do4 hb3 zt zt4 zr zr4 zf
    go_wp2
    refine bodyPost_ret (v := .tuple #[.agg #[.int .i64 ft, .int .i64 fk, .int .i64 fp], .bool fb]) (by simp [results, Tryz.f129, go_sem, d0, d1, d2]) rfl ?_
    rw [← HGP.out]
    obtain ⟨do4, hb3⟩ := HDO.out
    have hH := HHH.out
    have hs : Sv [X] w (W3.setCell ⟨X, 1, none⟩ (.int .i64 (ops + 1))) := (Below.sv (HD.out.trans (hb3.mono HD.out.size)) [X]).trans (sv_one _ _ _ _)
    have k : ∀ (W : World) (i : Nat) (v : Value), DO w0 W X F G n ks (ops + 1) fa m fc down → Sv [X] w W → W0.drew.heap.size ≤ W.heap.size → DO w0 (W.setCell ⟨H, i, none⟩ v) X F G n ks (ops + 1) fa m fc down ∧ Sv [X] w (W.setCell ⟨H, i, none⟩ v) := fun W i v h1 h2 h3 => do_new h1 h2 (by omega) HFG.out.1 HFG.out.2.1 HFG.out.2.2.1 HFG.out.2.2.2
    have s3 : W0.drew.heap.size ≤ W3.heap.size := hb3.size
    have k1 := k _ 0 (.int .i64 ft) do4 hs (by rw [size_setC]; exact s3)
    have k2 := k _ 1 (.int .i64 fk) k1.1 k1.2 (by rw [size_setC, size_setC]; exact s3)
    have k3 := k _ 2 (.int .i64 fp) k2.1 k2.2 (by rw [size_setC, size_setC, size_setC]; exact s3)
    exact ⟨rfl, k3.1, k3.2⟩)
theorem FO.rdFs {w0 w : World} {F G n : Nat} {ks : List FkR} (h : FO w0 w F G n ks) (hr : ∀ f ∈ ks, ∀ p ∈ f.ps, Rd w p.a p.zs) : RdFs w (some ⟨G, 0, none⟩) ks := by
  obtain ⟨a', c', e', r'⟩ := OwnE.rd (rd := fun f : FkR => ∀ p ∈ f.ps, Rd w p.a p.zs) h.g hr
  simp only [Value.slice.injEq] at e'
  rw [e'.1]
  exact r'
set_option maxRecDepth 100000 in
set_option maxHeartbeats 8000000 in
theorem dvHandI (X F G n : Nat) (ks : List FkR) (ops : Int) (fa : Option Addr) (m fc : Nat) (fs : List FtD) (down : Bool) (w0 w : World) (h : DO w0 w X F G n ks ops fa m fc down) (hf : FR w fa m fs) (hr : ∀ f ∈ ks, ∀ p ∈ f.ps, Rd w p.a p.zs) (ht : totB (ks.map FkR.D) ≤ 1048576) :
    Calls Tryz.prog 96 #[.pointer (some ⟨X, 0, none⟩)] w (DvA w ⟨ks.map FkR.D, ops, fs, down⟩) := by
  have B0 : Below w.heap.size w (w.alloc (.cells #[.slice none 0 0, .int .i64 0, .slice none 0 0, .bool false] 29)) := (Below.refl _ w).alloc (Nat.le_refl _) _
  have z1 := Blk.new w 29 #[.slice none 0 0, .int .i64 0, .slice none 0 0, .bool false]
  have hkn : ks.length = n := h.fo.g.len
  obtain ⟨H, hH⟩ : ∃ H, w.heap.size = H := ⟨_, rfl⟩
  rw [hH] at z1
  generalize hGP : DvA w ⟨ks.map FkR.D, ops, fs, down⟩ = P
  have HGP : Hid _ := hGP
  clear hGP
  go_enter Tryz.func96, Tryz.ntmps96
  go_upto_region 1 with fail
  obtain ⟨W0, hW0⟩ : ∃ W, w.alloc (.cells #[.slice none 0 0, .int .i64 0, .slice none 0 0, .bool false] 29) = W := ⟨_, rfl⟩
  rw [hW0] at B0 z1 ⊢
  clear hW0
  try rw [hH]
  have HD : Hid (Below w.heap.size w W0.drew) := B0.drew
  have HO : Hid (DO w0 W0.drew X F G n ks ops fa m fc down) := h.keep HD.out
  have HZ1 : Hid (Blk W0.drew H 29 #[.slice none 0 0, .int .i64 0, .slice none 0 0, .bool false]) := z1.keep (Below.refl _ _).drew
  have hall : Hid (∀ W : World, Below W0.drew.heap.size W0.drew W → W.cell? ⟨X, 0, none⟩ = some (.pointer (some ⟨F, 0, none⟩)) ∧ W.cell? ⟨X, 1, none⟩ = some (.int .i64 ops) ∧ W.cell? ⟨X, 2, none⟩ = some (.slice fa m fc) ∧ W.cell? ⟨X, 3, none⟩ = some (.bool down)) := fun W hW => ⟨(HO.out.keep hW).x.cell 0, (HO.out.keep hW).x.cell 1, (HO.out.keep hW).x.cell 2, (HO.out.keep hW).x.cell 3⟩
  have HC : Hid (∀ W : World, Below W0.drew.heap.size W0.drew W → Calls Tryz.prog 118 #[.pointer (some ⟨F, 0, none⟩)] W (ChA W (ks.map FkR.D))) := fun W hW => handedI F (some ⟨G, 0, none⟩) n n ks W hkn ht (HO.out.keep hW).fo.f ((HO.out.keep hW).fo.rdFs fun f hf p hp => ((hr f hf p hp).keep HD.out).keep hW)
  have HF : Hid (∀ W : World, Below W0.drew.heap.size W0.drew W → Calls Tryz.prog 67 #[.slice fa m fc] W (FaN W m fs)) := fun W hW => copyFaultsI fa m fc fs W ((hf.keep HD.out).keep hW)
  have hc0 := HC.out W0.drew (Below.refl _ _)
  have hf0 := HF.out W0.drew (Below.refl _ _)
  have HHH : Hid (w.heap.size = H) := hH
  obtain ⟨s0, s1, s2, s3⟩ := hall.out W0.drew (Below.refl _ _)
  clear ht hf B0 z1 h hr hkn hH
  refine wp_region_noPanic ?_
  refine wp_region_last (fun W : World => W.cell? ⟨X, 0, none⟩ = some (.pointer (some ⟨F, 0, none⟩)) ∧ W.cell? ⟨X, 1, none⟩ = some (.int .i64 ops) ∧ W.cell? ⟨X, 2, none⟩ = some (.slice fa m fc) ∧ W.cell? ⟨X, 3, none⟩ = some (.bool down)) 19 (by kernel_rfl) (by kernel_rfl) (by go_keep) 19 (by kernel_rfl) (fun hS => ?_)
  refine wpAnyH_take (i := 0) (v := ?gv24) rfl (by kernel_rfl) (by kernel_rfl) (by kernel_rfl) (fun _ _ _ h => h) (Or.inl ⟨by kernel_rfl, ?gy24⟩) (by assumption) ?gr24
  case gy24 => (intro w' hSw; (try dsimp only at hSw); go_simp; (try with_reducible rfl))
  try simp only [Act.put, List.setIfInBounds_toArray, List.set_cons_zero, List.set_cons_succ, List.getElem_toArray, List.getElem_cons_zero]
  refine wpAnyH_take (i := 1) (v := ?gv25) rfl (by kernel_rfl) (by kernel_rfl) (by kernel_rfl) (fun _ _ _ h => h) (Or.inl ⟨by kernel_rfl, ?gy25⟩) (by assumption) ?gr25
  case gy25 => (intro w' hSw; (try dsimp only at hSw); go_simp; (try with_reducible rfl))
  try simp only [Act.put, List.setIfInBounds_toArray, List.set_cons_zero, List.set_cons_succ, List.getElem_toArray, List.getElem_cons_succ, List.getElem_cons_zero]
  refine wpAnyH_take (i := 2) (v := ?gv26) rfl (by kernel_rfl) (by kernel_rfl) (by kernel_rfl) (fun _ _ _ h => h) (Or.inl ⟨by kernel_rfl, ?gy26⟩) (by assumption) ?gr26
  case gy26 => (intro w' hSw; (try dsimp only at hSw); go_simp; (try with_reducible rfl))
  try simp only [Act.put, List.setIfInBounds_toArray, List.set_cons_zero, List.set_cons_succ, List.getElem_toArray, List.getElem_cons_succ, List.getElem_cons_zero]
  refine wpAnyH_take (i := 3) (v := ?gv27) rfl (by kernel_rfl) (by kernel_rfl) (by kernel_rfl) (fun _ _ _ h => h) (Or.inl ⟨by kernel_rfl, ?gy27⟩) (by assumption) ?gr27
  case gy27 => (intro w' hSw; (try dsimp only at hSw); go_simp; (try with_reducible rfl))
  try simp only [Act.put, List.setIfInBounds_toArray, List.set_cons_zero, List.set_cons_succ, List.getElem_toArray, List.getElem_cons_succ, List.getElem_cons_zero]
  refine wpAnyH_take (i := 5) (v := ?gv28) rfl (by kernel_rfl) (by kernel_rfl) (by kernel_rfl) (fun _ _ _ h => h) (Or.inl ⟨by kernel_rfl, ?gy28⟩) (by assumption) ?gr28
  case gy28 => (intro w' hSw; (try dsimp only at hSw); go_simp; (try with_reducible rfl))
  try simp only [Act.put, List.setIfInBounds_toArray, List.set_cons_zero, List.set_cons_succ, List.getElem_toArray, List.getElem_cons_succ, List.getElem_cons_zero]
  refine wpAnyH_take (i := 6) (v := ?gv29) rfl (by kernel_rfl) (by kernel_rfl) (by kernel_rfl) (fun _ _ _ h => h) (Or.inl ⟨by kernel_rfl, ?gy29⟩) (by assumption) ?gr29
  case gy29 => (intro w' hSw; (try dsimp only at hSw); go_simp; (try with_reducible rfl))
  try simp only [Act.put, List.setIfInBounds_toArray, List.set_cons_zero, List.set_cons_succ, List.getElem_toArray, List.getElem_cons_succ, List.getElem_cons_zero]
  refine wpAnyH_take (i := 7) (v := ?gv30) rfl (by kernel_rfl) (by kernel_rfl) (by kernel_rfl) (fun _ _ _ h => h) (Or.inl ⟨by kernel_rfl, ?gy30⟩) (by assumption) ?gr30
  case gy30 => (intro w' hSw; (try dsimp only at hSw); go_simp; (try with_reducible rfl))
  try simp only [Act.put, List.setIfInBounds_toArray, List.set_cons_zero, List.set_cons_succ, List.getElem_toArray, List.getElem_cons_succ, List.getElem_cons_zero]
  refine wpAnyH_take (i := 8) (v := ?gv31) rfl (by kernel_rfl) (by kernel_rfl) (by kernel_rfl) (fun _ _ _ h => h) (Or.inl ⟨by kernel_rfl, ?gy31⟩) (by assumption) ?gr31
  case gy31 => (intro w' hSw; (try dsimp only at hSw); go_simp; (try with_reducible rfl))
  try simp only [Act.put, List.setIfInBounds_toArray, List.set_cons_zero, List.set_cons_succ, List.getElem_toArray, List.getElem_cons_succ, List.getElem_cons_zero]
  refine wpAnyH_take (i := 9) (v := ?gv32) rfl (by kernel_rfl) (by kernel_rfl) (by kernel_rfl) (fun _ _ _ h => h) (Or.inl ⟨by kernel_rfl, ?gy32⟩) (by assumption) ?gr32
  case gy32 => (intro w' hSw; (try dsimp only at hSw); go_simp; (try with_reducible rfl))
  try simp only [Act.put, List.setIfInBounds_toArray, List.set_cons_zero, List.set_cons_succ, List.getElem_toArray, List.getElem_cons_succ, List.getElem_cons_zero]
  refine wpAnyH_take (i := 10) (v := ?gv33) rfl (by kernel_rfl) (by kernel_rfl) (by kernel_rfl) (fun _ _ _ h => h) (Or.inl ⟨by kernel_rfl, ?gy33⟩) (by assumption) ?gr33
  case gy33 => (intro w' hSw; (try dsimp only at hSw); go_simp; (try with_reducible rfl))
  try simp only [Act.put, List.setIfInBounds_toArray, List.set_cons_zero, List.set_cons_succ, List.getElem_toArray, List.getElem_cons_succ, List.getElem_cons_zero]
  refine wpAnyH_take (i := 11) (v := ?gv34) rfl (by kernel_rfl) (by kernel_rfl) (by kernel_rfl) (fun _ _ _ h => h) (Or.inl ⟨by kernel_rfl, ?gy34⟩) (by assumption) ?gr34
  case gy34 => (intro w' hSw; (try dsimp only at hSw); go_simp; (try with_reducible rfl))
  try simp only [Act.put, List.setIfInBounds_toArray, List.set_cons_zero, List.set_cons_succ, List.getElem_toArray, List.getElem_cons_succ, List.getElem_cons_zero]
  refine wpAnyH_take (i := 12) (v := ?gv35) rfl (by kernel_rfl) (by kernel_rfl) (by kernel_rfl) (fun _ _ _ h => h) (Or.inl ⟨by kernel_rfl, ?gy35⟩) (by assumption) ?gr35
  case gy35 => (intro w' hSw; (try dsimp only at hSw); go_simp; (try with_reducible rfl))
  try simp only [Act.put, List.setIfInBounds_toArray, List.set_cons_zero, List.set_cons_succ, List.getElem_toArray, List.getElem_cons_succ, List.getElem_cons_zero]
  refine wpAnyH_take (i := 14) (v := ?gv36) rfl (by kernel_rfl) (by kernel_rfl) (by kernel_rfl) (fun _ _ _ h => h) (Or.inl ⟨by kernel_rfl, ?gy36⟩) (by assumption) ?gr36
  case gy36 => (intro w' hSw; (try dsimp only at hSw); go_simp; (try with_reducible rfl))
  try simp only [Act.put, List.setIfInBounds_toArray, List.set_cons_zero, List.set_cons_succ, List.getElem_toArray, List.getElem_cons_succ, List.getElem_cons_zero]
  refine wpAnyH_take (i := 15) (v := ?gv37) rfl (by kernel_rfl) (by kernel_rfl) (by kernel_rfl) (fun _ _ _ h => h) (Or.inl ⟨by kernel_rfl, ?gy37⟩) (by assumption) ?gr37
  case gy37 => (intro w' hSw; (try dsimp only at hSw); go_simp; (try with_reducible rfl))
  try simp only [Act.put, List.setIfInBounds_toArray, List.set_cons_zero, List.set_cons_succ, List.getElem_toArray, List.getElem_cons_succ, List.getElem_cons_zero]
  refine wpAnyH_take (i := 16) (v := ?gv38) rfl (by kernel_rfl) (by kernel_rfl) (by kernel_rfl) (fun _ _ _ h => h) (Or.inl ⟨by kernel_rfl, ?gy38⟩) (by assumption) ?gr38
  case gy38 => (intro w' hSw; (try dsimp only at hSw); go_simp; (try with_reducible rfl))
  try simp only [Act.put, List.setIfInBounds_toArray, List.set_cons_zero, List.set_cons_succ, List.getElem_toArray, List.getElem_cons_succ, List.getElem_cons_zero]
  refine wpAnyH_take (i := 17) (v := ?gv39) rfl (by kernel_rfl) (by kernel_rfl) (by kernel_rfl) (fun _ _ _ h => h) (Or.inl ⟨by kernel_rfl, ?gy39⟩) (by assumption) ?gr39
  case gy39 => (intro w' hSw; (try dsimp only at hSw); go_simp; (try with_reducible rfl))
  try simp only [Act.put, List.setIfInBounds_toArray, List.set_cons_zero, List.set_cons_succ, List.getElem_toArray, List.getElem_cons_succ, List.getElem_cons_zero]
  refine wpAnyH_ready (rs := [4]) (by kernel_rfl) (by simp) ?_
  refine AllReadyH.cons rfl (fun K hK => ?_) AllReadyH.nil
  go_simp
  (with_reducible refine hc0.mono ?_)
  rintro e W1 ⟨a1, n1, c1, qs, rfl, hq, hql, b1⟩
  have hf1 := HF.out W1 b1
  have HQ : Hid _ := And.intro hq (And.intro hql b1)
  clear hq hql
  clear hS
  try dsimp only
  refine Shut.out hK _ _ (hall.out W1 b1) (fun hS => ?_)
  try simp only [Act.put, List.setIfInBounds_toArray, List.set_cons_zero, List.set_cons_succ, List.getElem_toArray, List.getElem_cons_succ, List.getElem_cons_zero]
  refine wpAnyH_ready (rs := [13]) (by kernel_rfl) (by simp) ?_
  refine AllReadyH.cons rfl (fun K hK => ?_) AllReadyH.nil
  go_simp
  (with_reducible refine hf1.mono ?_)
  rintro e W9 ⟨fa1, fc1, rfl, hfo, hfn, b9⟩
  have HND : Hid (NewDv W9 W0.drew.heap.size a1 n1 c1 fa1 m fc1 (ks.map FkR.D) fs qs ∧ qs.length = n1 ∧ Below W0.drew.heap.size W0.drew W9) := ⟨dv_ab HQ.out.1 HQ.out.2.2 hfo hfn b9, HQ.out.2.1, HQ.out.2.2.trans (b9.mono HQ.out.2.2.size)⟩
  clear hfo hfn b9 b1 hf1 HQ
  have zr := Blk.keep HZ1.out HND.out.2.2
  have r0 := zr.cell 0
  have r1 := zr.cell 1
  have r2 := zr.cell 2
  have r3 := zr.cell 3
  have f0 := zr.frozen 0
  have f1 := zr.frozen 1
  have f2 := zr.frozen 2
  have f3 := zr.frozen 3
  simp at r0 r1 r2 r3
  clear hS
  try dsimp only
  refine Shut.out hK _ _ (hall.out W9 HND.out.2.2) (fun hS => ?_)
  try simp only [Act.put, List.setIfInBounds_toArray, List.set_cons_zero, List.set_cons_succ, List.getElem_toArray, List.getElem_cons_succ, List.getElem_cons_zero]
  refine wpAnyH_take (i := 18) (v := ?gv40) rfl (by kernel_rfl) (by kernel_rfl) (by kernel_rfl) (fun _ _ _ h => h) (Or.inl ⟨by kernel_rfl, ?gy40⟩) (by assumption) ?gr40
  case gy40 => (intro w' hSw; (try dsimp only at hSw); go_simp; (try with_reducible rfl))
  try simp only [Act.put, List.setIfInBounds_toArray, List.set_cons_zero, List.set_cons_succ, List.getElem_toArray, List.getElem_cons_succ, List.getElem_cons_zero]
  refine wpAnyH_done (by kernel_rfl) ?_ _
  refine wpOp_last rfl (fun K hK => ?_)
  clear hS
  go_simp
  refine Shut.out hK _ _ (NoPanic.normal ?_)
  all_goals (
    have zf := (((zr.set 0 (.slice a1 n1 c1)).set 1 (.int .i64 ops)).set 2 (.slice fa1 m fc1)).set 3 (.bool down)
    have d0 := zf.cell 0
    have d1 := zf.cell 1
    have d2 := zf.cell 2
    have d3 := zf.cell 3
    simp at d0 d1 d2 d3
    clear zr zf r0 r1 r2 r3 f0 f1 f2 f3 hc0 hf0 s0 s1 s2 s3
    go_wp2
    refine bodyPost_ret (v := .agg #[.slice a1 n1 c1, .int .i64 ops, .slice fa1 m fc1, .bool down]) (by simp [results, Tryz.f96, go_sem, d0, d1, d2, d3]) rfl ?_
    rw [← HGP.out]
    obtain ⟨hd, hl, hb⟩ := HND.out
    have hH := HHH.out
    have h1 : H < W0.drew.heap.size := HZ1.out.lt
    have bel : Below w.heap.size w W9 := HD.out.trans (hb.mono HD.out.size)
    have s : ∀ (W : World) (i : Nat) (v : Value), Below w.heap.size w W → Below w.heap.size w (W.setCell ⟨H, i, none⟩ v) := fun W i v hb => hb.setCell (p := ⟨H, i, none⟩) (by simp only; omega) v
    exact ⟨a1, n1, c1, fa1, m, fc1, qs, rfl, ((((hd.set_below h1).set_below h1).set_below h1).set_below h1).wider HD.out.size, hl, s _ _ _ (s _ _ _ (s _ _ _ (s _ _ _ bel)))⟩)
end

section
open Go.RowKit
def pgU : PgR := ⟨true, none, 0, []⟩
def pgsT (j : Nat) : List PgR := (List.range 8).map fun i => if i < j then pgU else pgZ
theorem pgsT_len (j : Nat) : (pgsT j).length = 8 := by simp [pgsT]
def fkT (f : FkR) (j : Nat) : FkR := ⟨pgsT j, f.wear + 1, f.bad, pgsT_len j⟩
/-- The flash whose block was erased in part; whose block turned bad. -/
def tornAt (fs : List FkR) (k : Nat) (kp : Int) : List FkR := match fs[k]? with | some f => fs.set k (fkT f (min kp.toNat 8)) | none => fs
def badAt (fs : List FkR) (k : Nat) : List FkR := match fs[k]? with | some f => fs.set k (f.badTo true) | none => fs
/-- How an operation ends; what it leaves. -/
def opEnd (o : Option FtD) : Ending := match o with
  | none => .returned .nilIface
  | some f => if f.kd = 1 then .returned (.iface 149 (.int .i64 2)) else .panicked [{ v := .iface 149 (.int .i64 10), recovered := false }]
def opK (a b : List FkR) (c : Int → List FkR) (o : Option FtD) : List FkR := match o with
  | none => a
  | some f => if f.kd = 1 then b else c f.kp
def evEnd (cd : Int) (o : Option FtD) : Ending := if cd = 0 then opEnd o else .returned (errV cd)
/-- What a device's operation answers: its code where it was refused, else what became of it. -/
def EvA (w0 w : World) (X F G n : Nat) (cd : Int) (ks a b : List FkR) (c : Int → List FkR) (o : Option FtD) (ops : Int) (fa : Option Addr) (m fc : Nat) (down : Bool) (e : Ending) (w' : World) : Prop :=
  e = evEnd cd o ∧ DO w0 w' X F G n (if cd = 0 then opK a b c o else ks) (if cd = 0 then ops + 1 else ops) fa m fc down ∧ Sv [X, G] w w'
end
end Go.Proofs.YtoeeblmnogeonaaGreatDoor
