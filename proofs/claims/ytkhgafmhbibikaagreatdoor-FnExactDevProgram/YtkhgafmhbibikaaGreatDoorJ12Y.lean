/-
  Joined: DvA, App10, HeldZ.
-/
import Derived.Test.YtkhgafmhbibikaaGreatDoorJ11Y
import Derived.Deep.AppendSrc
import Derived.Deep.RegionHeld
namespace Go.Proofs.YtkhgafmhbibikaaGreatDoor
section
open Go.RowKit
/-- The fault that comes. -/
def faD (ops : Int) (fs : List FtD) : Option FtD := fs.find? (fun f => f.tm == ops)
theorem faD_hit {fs : List FtD} {k : Nat} {r : FtD} {ops : Int} (h : fs[k]? = some r) (he : r.tm = ops) (hn : ∀ (j : Nat) (b : FtD), j < k → fs[j]? = some b → b.tm ≠ ops) : faD ops fs = some r := by
  induction fs generalizing k with
  | nil => simp at h
  | cons f fs ih =>
    cases k with
    | zero => simp at h; subst h; simp [faD, he]
    | succ k =>
      have h0 := hn 0 f (by omega) rfl
      have h1 : faD ops (f :: fs) = faD ops fs := by simp [faD, h0]
      rw [h1]
      exact ih (by simpa using h) (fun j b hj hb => hn (j + 1) b (by omega) (by simpa using hb))
theorem faD_none {fs : List FtD} {ops : Int} (hn : ∀ (j : Nat) (b : FtD), j < fs.length → fs[j]? = some b → b.tm ≠ ops) : faD ops fs = none := by
  unfold faD
  rw [List.find?_eq_none]
  intro f hf
  obtain ⟨j, hj⟩ := List.mem_iff_getElem?.1 hf
  have := hn j f (List.getElem?_eq_some_iff.1 hj).1 hj
  simpa using this
/-- What was answered. -/
def FaA (w : World) (o : Option FtD) (e : Ending) (w' : World) : Prop := e = .returned (.tuple #[.agg #[.int .i64 (o.getD ftZ).tm, .int .i64 (o.getD ftZ).kd, .int .i64 (o.getD ftZ).kp], .bool o.isSome]) ∧ Below w.heap.size w w'
set_option maxRecDepth 100000 in
set_option maxHeartbeats 4000000 in
theorem faultOfI (a : Option Addr) (n cap : Nat) (fs : List FtD) (ops : Int) (w : World) (hf : FR w a n fs) :
    Calls Tryz.prog 74 #[.slice a n cap, .int .i64 ops] w (FaA w (faD ops fs)) := by
  have B0 : Below w.heap.size w (w.alloc (.cells #[.int .i64 0, .int .i64 0, .int .i64 0] 65)) := (Below.refl _ w).alloc (Nat.le_refl _) _
  have z0 := Blk.new w 65 #[.int .i64 0, .int .i64 0, .int .i64 0]
  have hs := hf.tot
  have hln : Hid (fs.length = n) := hf.len
  have HR : Hid _ := hf.keep B0
  have HB : Hid _ := B0
  generalize hGP : FaA w (faD ops fs) = P
  have HGP : Hid _ := hGP
  clear hf B0 hGP
  obtain ⟨H, hH⟩ : ∃ H, w.heap.size = H := ⟨_, rfl⟩
  have HH : Hid _ := hH
  rw [hH] at z0
  go_enter Tryz.func74, Tryz.ntmps74
  go_wp2
  obtain ⟨W0, hW0⟩ : ∃ W, w.alloc (.cells #[.int .i64 0, .int .i64 0, .int .i64 0] 65) = W := ⟨_, rfl⟩
  rw [hW0] at HB HR z0 ⊢
  have HZ : Hid _ := z0
  clear hW0 z0
  try rw [hH]
  clear hH
  go_loopw [10] (fun i wr => ∃ (k : Nat), k ≤ n ∧ i = .int .i64 k ∧ Hid (∀ (j : Nat) (b : FtD), j < k → fs[j]? = some b → b.tm ≠ ops) ∧ Hid (Below W0.heap.size W0 wr)) (fun i _ => n - (intOf i).toNat)
  case atStart => exact ⟨0, Nat.zero_le _, rfl, fun j b hj => by omega, Below.refl _ _⟩
  case round =>
    obtain ⟨k, hk, rfl, hall, hB⟩ := hrel
    by_cases hkn : k < n
    · have hki : (k : Int) < (n : Int) := by omega
      obtain ⟨b, off, r, rfl, hlt, hrk, x0, x1, x2⟩ := (HR.out.keep hB.out).some hkn
      have hB2 : Hid (Below W0.heap.size W0 (wr.alloc (.cells #[.int .i64 r.tm, .int .i64 r.kd, .int .i64 r.kp] 65))) := hB.out.alloc hB.out.size _
      by_cases he : r.tm = ops
      · have HF : Hid (faD ops fs = some r) := faD_hit hrk he hall.out
        have zr := Blk.keep HZ.out hB2.out
        have e0 : (r.tm == ops) = true := by simpa using he
        have r0 := zr.cell 0
        have r1 := zr.cell 1
        have r2 := zr.cell 2
        have f0 := zr.frozen 0
        have f1 := zr.frozen 1
        have f2 := zr.frozen 2
        have zf := ((zr.set 0 (.int .i64 r.tm)).set 1 (.int .i64 r.kd)).set 2 (.int .i64 r.kp)
        have d0 := zf.cell 0
        have d1 := zf.cell 1
        have d2 := zf.cell 2
        simp at r0 r1 r2 d0 d1 d2
        clear hall hrk he zr zf
        go_wp2
        refine bodyPost_ret (v := .tuple #[.agg #[.int .i64 r.tm, .int .i64 r.kd, .int .i64 r.kp], .bool true]) (by simp [results, Tryz.f74, go_sem, d0, d1, d2]) rfl ?_
        rw [← HGP.out, HF.out]
        have hH := HH.out
        have s : ∀ (W : World) (i : Nat) (v : Value), Below w.heap.size w W → Below w.heap.size w (W.setCell ⟨H, i, none⟩ v) := fun W i v hb => hb.setCell (p := ⟨H, i, none⟩) (by simp only; omega) v
        exact ⟨rfl, s _ _ _ (s _ _ _ (s _ _ _ (HB.out.trans (hB2.out.mono HB.out.size))))⟩
      · have e0 : (r.tm == ops) = false := by simpa using he
        have hnx : Hid (∀ (j : Nat) (b : FtD), j < k + 1 → fs[j]? = some b → b.tm ≠ ops) := fun j b hj hb => by
          rcases (show j < k ∨ j = k by omega) with h1 | rfl
          · exact hall.out j b h1 hb
          · rw [hrk] at hb
            simp at hb
            subst hb
            exact he
        clear hall hrk he
        go_wp2
        go_roundw
        case rel => exact ⟨k + 1, by omega, by go_num, hnx, hB2⟩
        case measure => simp [intOf]; omega
    · have hki : ¬ (k : Int) < (n : Int) := by omega
      have HF : Hid (faD ops fs = none) := faD_none fun j b hj hb => hall.out j b (by have := hln.out; omega) hb
      have zr := Blk.keep HZ.out hB.out
      have r0 := zr.cell 0
      have r1 := zr.cell 1
      have r2 := zr.cell 2
      have f0 := zr.frozen 0
      have f1 := zr.frozen 1
      have f2 := zr.frozen 2
      have zf := ((zr.set 0 (.int .i64 0)).set 1 (.int .i64 0)).set 2 (.int .i64 0)
      have d0 := zf.cell 0
      have d1 := zf.cell 1
      have d2 := zf.cell 2
      simp at r0 r1 r2 d0 d1 d2
      clear zr zf
      go_wp2
      refine bodyPost_ret (v := .tuple #[.agg #[.int .i64 0, .int .i64 0, .int .i64 0], .bool false]) (by simp [results, Tryz.f74, go_sem, d0, d1, d2]) rfl ?_
      rw [← HGP.out, HF.out]
      have hH := HH.out
      have s : ∀ (W : World) (i : Nat) (v : Value), Below w.heap.size w W → Below w.heap.size w (W.setCell ⟨H, i, none⟩ v) := fun W i v hb => hb.setCell (p := ⟨H, i, none⟩) (by simp only; omega) v
      exact ⟨rfl, s _ _ _ (s _ _ _ (s _ _ _ (HB.out.trans (hB.out.mono HB.out.size))))⟩
set_option maxRecDepth 100000 in
set_option maxHeartbeats 8000000 in
theorem faultAtS (a : Option Addr) (n cap : Nat) (ops : Int) (fa : Option Addr) (m fc : Nat) (fs : List FtD) (down : Bool) (w : World) (hf : FR w fa m fs) :
    Calls Tryz.prog 33 #[.agg #[.slice a n cap, .int .i64 ops, .slice fa m fc, .bool down]] w (FaA w (faD ops fs)) := by
  have B0 : Below w.heap.size w ((w.alloc (.cells #[.slice a n cap, .int .i64 ops, .slice fa m fc, .bool down] 35)).alloc (.cells #[.int .i64 0, .int .i64 0, .int .i64 0] 65)) := ((Below.refl _ w).alloc (Nat.le_refl _) _).alloc (by simp) _
  have z0 := (Blk.new w 35 #[.slice a n cap, .int .i64 ops, .slice fa m fc, .bool down]).alloc (.cells #[.int .i64 0, .int .i64 0, .int .i64 0] 65)
  have z1 := Blk.new (w.alloc (.cells #[.slice a n cap, .int .i64 ops, .slice fa m fc, .bool down] 35)) 65 #[.int .i64 0, .int .i64 0, .int .i64 0]
  simp only [World.size_alloc] at z1
  have hs := hf.tot
  have hln : Hid (fs.length = m) := hf.len
  have HR : Hid _ := hf.keep B0
  have HB : Hid _ := B0
  generalize hGP : FaA w (faD ops fs) = P
  have HGP : Hid _ := hGP
  clear hf B0 hGP
  obtain ⟨H, hH⟩ : ∃ H, w.heap.size = H := ⟨_, rfl⟩
  have HH : Hid _ := hH
  rw [hH] at z0 z1
  go_enter Tryz.func33, Tryz.ntmps33
  go_wp2
  obtain ⟨W0, hW0⟩ : ∃ W, (w.alloc (.cells #[.slice a n cap, .int .i64 ops, .slice fa m fc, .bool down] 35)).alloc (.cells #[.int .i64 0, .int .i64 0, .int .i64 0] 65) = W := ⟨_, rfl⟩
  rw [hW0] at HB HR z0 z1 ⊢
  have HZ0 : Hid _ := z0
  have HZ : Hid _ := z1
  clear hW0 z0 z1
  try rw [hH]
  clear hH
  go_loopw [4] (fun i wr => ∃ (k : Nat), k ≤ m ∧ i = .int .i64 k ∧ Hid (∀ (j : Nat) (b : FtD), j < k → fs[j]? = some b → b.tm ≠ ops) ∧ Hid (Below W0.heap.size W0 wr)) (fun i _ => m - (intOf i).toNat)
  case atStart => exact ⟨0, Nat.zero_le _, rfl, fun j b hj => by omega, Below.refl _ _⟩
  case round =>
    obtain ⟨k, hk, rfl, hall, hB⟩ := hrel
    have zd := Blk.keep HZ0.out hB.out
    have y1 := zd.cell 1
    have y2 := zd.cell 2
    simp at y1 y2
    clear zd
    by_cases hkn : k < m
    · have hki : (k : Int) < (m : Int) := by omega
      obtain ⟨b, off, r, rfl, hlt, hrk, x0, x1, x2⟩ := (HR.out.keep hB.out).some hkn
      by_cases he : r.tm = ops
      · have HF : Hid (faD ops fs = some r) := faD_hit hrk he hall.out
        have e0 : (r.tm == ops) = true := by simpa using he
        clear hall hrk he
        go_wp2
        go_quiet (fail)
        have v0 : (wr.drewN nq).cell? ⟨b, off + k * 3, none⟩ = some (.int .i64 r.tm) := x0
        have v1 : (wr.drewN nq).cell? ⟨b, off + k * 3 + 1, none⟩ = some (.int .i64 r.kd) := x1
        have v2 : (wr.drewN nq).cell? ⟨b, off + k * 3 + 2, none⟩ = some (.int .i64 r.kp) := x2
        have u2 : (wr.drewN nq).cell? ⟨H, 2, none⟩ = some (.slice (some ⟨b, off, none⟩) m fc) := y2
        have HBW : Hid (Below W0.heap.size W0 (wr.drewN nq)) := ⟨hB.out.os, hB.out.tape, hB.out.output, hB.out.size, hB.out.block⟩
        have zr := Blk.keep HZ.out HBW.out
        obtain ⟨W3, hW3⟩ : ∃ W, wr.drewN nq = W := ⟨_, rfl⟩
        rw [hW3] at zr v0 v1 v2 u2 HBW ⊢
        clear hW3 x0 x1 x2 y1 y2
        have r0 := zr.cell 0
        have r1 := zr.cell 1
        have r2 := zr.cell 2
        have f0 := zr.frozen 0
        have f1 := zr.frozen 1
        have f2 := zr.frozen 2
        have zf := ((zr.set 0 (.int .i64 r.tm)).set 1 (.int .i64 r.kd)).set 2 (.int .i64 r.kp)
        have d0 := zf.cell 0
        have d1 := zf.cell 1
        have d2 := zf.cell 2
        simp at r0 r1 r2 d0 d1 d2
        clear zr zf
        go_wp2
        refine bodyPost_ret (v := .tuple #[.agg #[.int .i64 r.tm, .int .i64 r.kd, .int .i64 r.kp], .bool true]) (by simp [results, Tryz.f33, go_sem, d0, d1, d2]) rfl ?_
        rw [← HGP.out, HF.out]
        have hH := HH.out
        have s : ∀ (W : World) (i : Nat) (v : Value), Below w.heap.size w W → Below w.heap.size w (W.setCell ⟨H + 1, i, none⟩ v) := fun W i v hb => hb.setCell (p := ⟨H + 1, i, none⟩) (by simp only; omega) v
        exact ⟨rfl, s _ _ _ (s _ _ _ (s _ _ _ (HB.out.trans (HBW.out.mono HB.out.size))))⟩
      · have e0 : (r.tm == ops) = false := by simpa using he
        have hnx : Hid (∀ (j : Nat) (b : FtD), j < k + 1 → fs[j]? = some b → b.tm ≠ ops) := fun j b hj hb => by
          rcases (show j < k ∨ j = k by omega) with h1 | rfl
          · exact hall.out j b h1 hb
          · rw [hrk] at hb
            simp at hb
            subst hb
            exact he
        clear hall hrk he
        go_wp2
        go_quiet (fail)
        have HBW : Hid (Below W0.heap.size W0 (wr.drewN nq)) := ⟨hB.out.os, hB.out.tape, hB.out.output, hB.out.size, hB.out.block⟩
        go_wp2
        go_roundw
        case rel => exact ⟨k + 1, by omega, by go_num, hnx, HBW⟩
        case measure => simp [intOf]; omega
    · have hki : ¬ (k : Int) < (m : Int) := by omega
      have HF : Hid (faD ops fs = none) := faD_none fun j b hj hb => hall.out j b (by have := hln.out; omega) hb
      have zr := Blk.keep HZ.out hB.out
      have r0 := zr.cell 0
      have r1 := zr.cell 1
      have r2 := zr.cell 2
      have f0 := zr.frozen 0
      have f1 := zr.frozen 1
      have f2 := zr.frozen 2
      have zf := ((zr.set 0 (.int .i64 0)).set 1 (.int .i64 0)).set 2 (.int .i64 0)
      have d0 := zf.cell 0
      have d1 := zf.cell 1
      have d2 := zf.cell 2
      simp at r0 r1 r2 d0 d1 d2
      clear zr zf
      go_wp2
      refine bodyPost_ret (v := .tuple #[.agg #[.int .i64 0, .int .i64 0, .int .i64 0], .bool false]) (by simp [results, Tryz.f33, go_sem, d0, d1, d2]) rfl ?_
      rw [← HGP.out, HF.out]
      have hH := HH.out
      have s : ∀ (W : World) (i : Nat) (v : Value), Below w.heap.size w W → Below w.heap.size w (W.setCell ⟨H + 1, i, none⟩ v) := fun W i v hb => hb.setCell (p := ⟨H + 1, i, none⟩) (by simp only; omega) v
      exact ⟨rfl, s _ _ _ (s _ _ _ (s _ _ _ (HB.out.trans (hB.out.mono HB.out.size))))⟩
end

section
open Go.RowKit
/-- What was appended, and where it lies. -/
theorem run_appAny (W : World) (B : Nat) (t ty e : TypeId) (i : TypeInfo) (z : Value) (size bytes : Nat) (ht : Tryz.prog.underlying t = some (.slice e)) (hi : Tryz.prog.info? e = some i) (hz : i.zero = some z) (hsize : i.size = size) (hby : i.bytes = bytes) (hzs : z.cells.size = size) (hsz : 0 < size)
    (v : Value) (n : Nat) (xs : List Value) (hown : W.ownsRow B e size v n xs) (ao : Option Addr) (m c : Nat) (news : List Value) (hl : news.length = m * size) (hnews : m = 0 ∨ ∃ ad, ao = some ad ∧ ∀ j u, news[j]? = some u → W.cell? (ad.add j) = some u)
    (h1 : ∀ u ∈ news, u.oneCell' = true) (h63 : n + m ≤ 8000000) (hb64 : bytes ≤ 640) (hB : B ≤ W.heap.size) :
    ∃ v' W', (Builtin.append_ #[t, t] ty #[v, .slice ao m c]).run Tryz.prog W = .ok v' W' ∧ W'.ownsRow B e size v' (n + m) (xs ++ news) ∧ W.grownBy W' v.ownBlock ∧ (v'.ownBlock = v.ownBlock ∨ v'.ownBlock = some W.heap.size) := by
  cases ao with
  | some ad =>
    obtain ⟨v', w', hr, h2, h3, _, h5⟩ := run_append_own_at (P := Tryz.prog) W B t ty e i z size bytes ht hi hz hsize hby hzs hsz v n xs hown ad m c news hl (by
      rcases hnews with h0 | ⟨ad', h0, hn⟩
      · subst h0
        obtain rfl : news = [] := List.length_eq_zero_iff.1 (by simpa using hl)
        intro j u hj; simp at hj
      · simp at h0; subst h0; exact hn) h1 (by unfold maxLen; omega) (by have : (n + m) * bytes ≤ 8000000 * 640 := Nat.mul_le_mul (by omega) hb64; omega) hB
    exact ⟨v', w', hr, h2, h3, h5⟩
  | none =>
    have hm : m = 0 := by
      rcases hnews with h0 | ⟨ad', h0, _⟩
      · exact h0
      · simp at h0
    subst hm
    obtain rfl : news = [] := List.length_eq_zero_iff.1 (by simpa using hl)
    have hs : Go.Src Tryz.prog i.size t (.slice none 0 c) 0 [] W := Go.Src.ofNil W ht c
    refine ⟨v, W, ?_, by rw [Nat.add_zero, List.append_nil]; exact hown, World.grownBy.refl W _, .inl rfl⟩
    rcases hown.2 with ⟨rfl, rfl⟩ | ⟨g, cap, cur, rfl, _, _, hk, _⟩
    · simp [Builtin.append_, run_underlying ht, sizeOf, typeInfo, hi, hs.len, hs.cells]
    · have hr := run_append_room_src W t t ty e i ht hi g 0 n cap (.slice none 0 c) 0 [] hs (by omega) (fun j hj => by simp at hj) (fun j hj => by simp at hj)
      rw [hr]
      rfl
/-- At the operation. -/
theorem wpList_appAny (W : World) {ops : Array Oper} {rest : List Oper} {o : Oper} {a : Act} {Q : Exit → Act → World → Prop} (hgd : o.guard = none) (s x : Operand) (t : TypeId)
    (ho : o.op = .call { callee := .builtin .append, args := #[s, x], argTypes := #[t, t] }) (v u : Value) (R : Value → World → Prop) (hs : a.eval s = v) (hx : a.eval x = u)
    (hr : ∀ ty, ∃ v' W', (Builtin.append_ #[t, t] ty #[v, u]).run Tryz.prog W = .ok v' W' ∧ R v' W')
    (h : ∀ v' W', R v' W' → wpList Tryz.prog ops Q rest (a.put o.dst v') W') :
    wpList Tryz.prog ops Q (o :: rest) a W := by
  refine wpList_plain hgd fun K hK => ?_
  obtain ⟨v', W', h1, h2⟩ := hr o.type
  unfold Oper.wp execOp
  simp only [ho, resolve, invoke, builtin, Sem.run_bind, Sem.run_pure, Result.andThen_ok, List.map_toArray, List.map_cons, List.map_nil, hs, hx, h1]
  exact hK _ _ (h v' W' h2)
/-- At a step of a region that draws. -/
theorem step_appAny (W : World) {ops : Array Oper} {o : Oper} {a : Act} {K : Act → World → Prop} {Q : Exit → Act → World → Prop} {E : Prop} (hgd : o.guard = none) (s x : Operand) (t : TypeId)
    (ho : o.op = .call { callee := .builtin .append, args := #[s, x], argTypes := #[t, t] }) (v u : Value) (R : Value → World → Prop) (hs : a.eval s = v) (hx : a.eval x = u)
    (hr : ∀ ty, ∃ v' W', (Builtin.append_ #[t, t] ty #[v, u]).run Tryz.prog W = .ok v' W' ∧ R v' W')
    (h : ∀ v' W', R v' W' → K (a.put o.dst v') W') :
    if Region.wanted o (yielded ops a.tmps) = true then Oper.wp Tryz.prog o a W K Q else E := by
  have hw : Region.wanted o (yielded ops a.tmps) = true := by simp [Region.wanted, hgd]
  rw [if_pos hw]
  obtain ⟨v', W', h1, h2⟩ := hr o.type
  unfold Oper.wp execOp
  simp only [ho, resolve, invoke, builtin, Sem.run_bind, Sem.run_pure, Result.andThen_ok, List.map_toArray, List.map_cons, List.map_nil, hs, hx, h1]
  exact h v' W' h2
/-- Bytes onto bytes. -/
structure AppB (W : World) (v : Value) (n : Nat) (zs : List Int) (v' : Value) (W' : World) : Prop where
  own : OwnV 0 W' v' n zs
  gr : W.grownBy W' v.ownBlock
  at_ : v'.ownBlock = v.ownBlock ∨ v'.ownBlock = some W.heap.size
theorem app_bytes (W : World) (v : Value) (n : Nat) (xs : List Int) (ao : Option Addr) (m c : Nat) (zs : List Int) (hn : zs.length = m) (hs : n + m ≤ 8000000) (hown : OwnV 0 W v n xs) (hr : Rd W ao zs) (ty : TypeId) :
    ∃ v' W', (Builtin.append_ #[28, 28] ty #[v, .slice ao m c]).run Tryz.prog W = .ok v' W' ∧ AppB W v (n + m) (xs ++ zs) v' W' := by
  obtain ⟨i0, hi, hz0, hz1, hz2⟩ := info_parts Tryz.info5
  obtain ⟨v', W', h1, h2, h3, h4⟩ := run_appAny W 0 28 ty 5 i0 (.int .u8 0) 1 1 Tryz.underlying28 hi hz0 hz1 hz2 rfl (by omega) v n (xs.map (Value.int .u8)) hown ao m c (zs.map (Value.int .u8)) (by simp [hn]) (by
    rcases hr with rfl | ⟨b, off, rfl, hc⟩
    · left; simpa using hn.symm
    · refine .inr ⟨_, rfl, fun j u hj => ?_⟩
      simp only [List.getElem?_map] at hj
      by_cases hjm : j < zs.length
      · have := hc j hjm
        rw [show (⟨b, off, none⟩ : Addr).add j = ⟨b, off + j, none⟩ by simp [Addr.add], this]
        rw [List.getElem?_eq_getElem hjm] at hj
        simpa [List.getElem?_eq_getElem hjm] using hj
      · rw [List.getElem?_eq_none (by omega)] at hj
        simp at hj) (fun u hu => by obtain ⟨z, _, rfl⟩ := List.mem_map.1 hu; rfl) hs (by omega) (Nat.zero_le _)
  exact ⟨v', W', h1, ⟨by unfold OwnV; rw [List.map_append]; exact h2, h3, h4⟩⟩
theorem AppB.below {W W' : World} {v v' : Value} {n : Nat} {zs : List Int} (h : AppB W v n zs v' W') (hv : v.ownBlock = none) : Below W.heap.size W W' := ⟨h.gr.os, h.gr.tape, h.gr.output, h.gr.size, fun k hk => h.gr.block k hk (by rw [hv]; simp)⟩
end

section
section
variable {P : Program} {ops : Array Oper} {Q : Exit → Act → World → Prop} {md : Region.Mode} {L : Nat}
/-- Behind all others the number L is carried out; then Q. -/
def ThenL (P : Program) (ops : Array Oper) (Q : Exit → Act → World → Prop) (L : Nat) : Exit → Act → World → Prop
  | .normal, a, w => wpOp P ops Q L (fun a' w' => Q .normal a' w') a w
  | e, a, w => Q e a w
/-- Each operation waits, where that binds, for earlier ones alone; each but the number L is waited for by another one, and none waits for L. -/
def lastOne (md : Region.Mode) (ops : Array Oper) (L : Nat) : Bool :=
  decide (L < ops.size) && ((List.range ops.size).all fun i => ((ops[i]?).map fun o => o.after.all fun e => !Region.binds md e || decide (e.on < i)).getD false) && (List.range ops.size).all fun i => i == L || ((List.range ops.size).any (fun j => ((ops[j]?).map fun o => o.after.any fun e => Region.binds md e && e.on == i).getD false) && ((ops[i]?).map fun o => o.after.all fun e => !(e.on == L)).getD false)
theorem last_waits (h : lastOne md ops L = true) {i : Nat} (hi : i < ops.size) (hne : i ≠ L) : (∃ (j : Nat) (o : Oper), ops[j]? = some o ∧ ∃ e ∈ o.after, Region.binds md e = true ∧ e.on = i) ∧ ∀ o, ops[i]? = some o → ∀ e ∈ o.after, e.on ≠ L := by
  unfold lastOne at h
  simp only [Bool.and_eq_true, List.all_eq_true, List.mem_range, Bool.or_eq_true, beq_iff_eq] at h
  have h1 := (h.2 i hi).resolve_left hne
  obtain ⟨h2, h3⟩ := h1
  refine ⟨?_, fun o ho e he => ?_⟩
  · simp only [List.any_eq_true, List.mem_range] at h2
    obtain ⟨j, _, h2⟩ := h2
    cases hL : ops[j]? with
    | none => rw [hL] at h2; simp at h2
    | some o =>
      rw [hL] at h2
      simp only [Option.map_some, Option.getD_some, Array.any_eq_true, Bool.and_eq_true, beq_iff_eq] at h2
      obtain ⟨x, hx, he⟩ := h2
      exact ⟨j, o, hL, _, Array.getElem_mem hx, he.1, he.2⟩
  · rw [ho] at h3
    simp only [Option.map_some, Option.getD_some, Array.all_eq_true_iff_forall_mem] at h3
    have := h3 e he
    simpa using this
/-- What is asked of an operation under 'ThenL' is asked of it under Q. -/
theorem wpOp_thenL {i : Nat} {K : Act → World → Prop} {a : Act} {w : World} (hl : LetsOut (ThenL P ops Q L) → LetsOut Q) (h : wpOp P ops (ThenL P ops Q L) i K a w) : wpOp P ops Q i K a w := by
  unfold wpOp at h ⊢
  split
  · rename_i h0; rw [h0] at h; exact h
  · rename_i o h0
    rw [h0] at h
    dsimp only at h
    split
    · rename_i hw
      rw [if_pos hw] at h
      refine h.imp (fun h1 => ?_) (fun h1 => ⟨h1.1, hl h1.2⟩)
      unfold Oper.wp at h1 ⊢
      generalize (execOp a.eval o).run P w = r at h1 ⊢
      cases r with
      | ok n w' =>
        cases n with
        | enter f args =>
          refine Calls.mono h1 fun e w2 he => ?_
          cases e with
          | returned v => exact he
          | panicked c => exact he
          | outgrown => exact hl he
        | value v => exact h1
        | skip => exact h1
        | defer d => exact h1
        | row r args => exact h1
        | _ => exact h1
      | halt x w' => cases x <;> exact h1
    · rename_i hw
      rw [if_neg hw] at h
      exact h
theorem last_lt (h : lastOne md ops L = true) : L < ops.size := by
  unfold lastOne at h
  simp only [Bool.and_eq_true, decide_eq_true_eq] at h
  exact h.1.1
theorem last_order (h : lastOne md ops L = true) {i : Nat} {o : Oper} (ho : ops[i]? = some o) : ∀ e ∈ o.after, Region.binds md e = true → e.on < i := by
  unfold lastOne at h
  simp only [Bool.and_eq_true, List.all_eq_true, List.mem_range] at h
  have hi : i < ops.size := (Array.getElem?_eq_some_iff.1 ho).1
  have h1 := h.1.2 i hi
  rw [ho] at h1
  simp only [Option.map_some, Option.getD_some, Array.all_eq_true_iff_forall_mem] at h1
  intro e he hb
  have h2 := h1 e he
  rw [hb] at h2
  simpa using h2
theorem getD_both {l : Array Bool} {i : Nat} (hi : i < l.size) : l.getD i true = l.getD i false := by simp [Array.getD, hi]
/-- Where nothing may come up all have come up. -/
theorem all_listed (h : lastOne md ops L = true) {listed : Array Bool} (hs : listed.size = ops.size) (hr : Region.ready md ops listed = []) : ∀ i, i < ops.size → listed.getD i true = true := by
  intro i
  induction i using Nat.strongRecOn with
  | ind i ih =>
    intro hi
    cases hl : listed.getD i true with
    | true => rfl
    | false =>
      have ho : ops[i]? = some ops[i] := Array.getElem?_eq_getElem hi
      have : i ∈ Region.ready md ops listed := mem_ready.2 ⟨hl, _, ho, fun e he hb => by
        have h1 := last_order h ho e he hb
        rw [← getD_both (by omega)]
        exact ih e.on h1 (by omega)⟩
      rw [hr] at this
      cases this
theorem set_getD_ne {l : Array Bool} {i j : Nat} {d : Bool} (h : i ≠ j) : (l.setIfInBounds i true).getD j d = l.getD j d := getD_set_ne d h
theorem set_getD_eq {l : Array Bool} {i : Nat} {d : Bool} (h : i < l.size) : (l.setIfInBounds i true).getD i d = true := by simp [Array.getD, h]
/-- Behind all others the last one comes up. -/
theorem last_comes (h : lastOne md ops L = true) {listed : Array Bool} (hs : listed.size = ops.size) (hL : listed.getD L true = false) (hr : Region.ready md ops (listed.setIfInBounds L true) = []) : ∀ i, i ∈ Region.ready md ops listed ↔ i = L := by
  have hall := all_listed h (listed := listed.setIfInBounds L true) (by simp [hs]) hr
  have hlt := last_lt h
  intro i
  constructor
  · intro hi
    obtain ⟨h1, o, ho, _⟩ := mem_ready.1 hi
    rcases Nat.decEq i L with hne | he
    · have := hall i (Array.getElem?_eq_some_iff.1 ho).1
      rw [set_getD_ne (fun e => hne e.symm), h1] at this
      cases this
    · exact he
  · rintro rfl
    refine mem_ready.2 ⟨hL, _, Array.getElem?_eq_getElem hlt, fun e he hb => ?_⟩
    have h1 := last_order h (Array.getElem?_eq_getElem hlt) e he hb
    have h2 := hall e.on (by omega)
    rw [set_getD_ne (by omega)] at h2
    rw [← getD_both (by omega)]
    exact h2
/-- What has come up has all that it waited for come up. -/
def shutAll (md : Region.Mode) (ops : Array Oper) (listed : Array Bool) : Prop := ∀ (j : Nat) (o : Oper), ops[j]? = some o → listed.getD j true = true → ∀ e ∈ o.after, Region.binds md e = true → listed.getD e.on false = true
theorem shutAll_set {listed : Array Bool} {i : Nat} (_ : listed.size = ops.size) (h : shutAll md ops listed) (hi : i ∈ Region.ready md ops listed) : shutAll md ops (listed.setIfInBounds i true) := fun j o ho hl e he hb => by
  rcases Nat.decEq j i with hne | rfl
  · rw [set_getD_ne (fun e => hne e.symm)] at hl
    exact getD_set_true (h j o ho hl e he hb)
  · obtain ⟨_, o', ho', hall⟩ := mem_ready.1 hi
    rw [ho] at ho'
    simp only [Option.some.injEq] at ho'
    subst ho'
    exact getD_set_true (hall e he hb)
/-- As long as another one has not come up L does not. -/
theorem last_not (h : lastOne md ops L = true) {listed : Array Bool} (hs : listed.size = ops.size) (hc : shutAll md ops listed) : ∀ (d x : Nat), ops.size - x = d → x < ops.size → x ≠ L → listed.getD x true = false → L ∉ Region.ready md ops listed := by
  intro d
  induction d using Nat.strongRecOn with
  | ind d ih =>
    intro x hd hx hxL hun hL
    obtain ⟨j, o, ho, e, he, hb, heq⟩ := (last_waits h hx hxL).1
    have hj := last_order h ho e he hb
    have hjs : j < ops.size := (Array.getElem?_eq_some_iff.1 ho).1
    rcases Nat.decEq j L with hne | rfl
    · have hjun : listed.getD j true = false := by
        cases hl : listed.getD j true with
        | false => rfl
        | true =>
          have h1 := hc j o ho hl e he hb
          rw [heq, ← getD_both (by omega), hun] at h1
          cases h1
      exact ih (ops.size - j) (by omega) j rfl hjs hne hjun hL
    · obtain ⟨_, oL, hoL, lall⟩ := mem_ready.1 hL
      rw [ho] at hoL
      simp only [Option.some.injEq] at hoL
      subst hoL
      have h1 := lall e he hb
      rw [heq, ← getD_both (by omega), hun] at h1
      cases h1
theorem wpAny_thenL (h : lastOne md ops L = true) : ∀ (fuel : Nat) (listed : Array Bool) (a : Act) (w : World), listed.size = ops.size → listed.getD L true = false → shutAll md ops listed →
    wpAny P md ops (ThenL P ops Q L) fuel (listed.setIfInBounds L true) a w → wpAny P md ops Q (fuel + 1) listed a w := by
  have hend : ∀ (fuel : Nat) (listed : Array Bool) (a : Act) (w : World), listed.size = ops.size → listed.getD L true = false → Region.ready md ops (listed.setIfInBounds L true) = [] → ThenL P ops Q L .normal a w → wpAny P md ops Q (fuel + 1) listed a w := by
    intro fuel listed a w hs hL hr hT
    have hc := last_comes h hs hL hr
    refine ⟨fun h0 => ?_, fun i hi => ?_⟩
    · have := (hc L).2 rfl
      rw [h0] at this
      cases this
    · obtain rfl := (hc i).1 hi
      exact wpOp_mono (fun a' w' hq => wpAny_done hr hq fuel) hT
  intro fuel
  induction fuel with
  | zero => intro listed a w hs hL _ H; exact hend 0 listed a w hs hL H.1 H.2
  | succ fuel ih =>
    intro listed a w hs hL hsh H
    rcases Classical.em (Region.ready md ops (listed.setIfInBounds L true) = []) with hr | hr
    · exact hend (fuel + 1) listed a w hs hL hr (H.1 hr)
    · obtain ⟨x, hx⟩ := List.exists_mem_of_ne_nil _ hr
      obtain ⟨x1, ox, hox, xall⟩ := mem_ready.1 hx
      have hxs : x < ops.size := (Array.getElem?_eq_some_iff.1 hox).1
      have hxL : x ≠ L := fun e => by
        subst e
        rw [set_getD_eq (by omega)] at x1
        cases x1
      have hun : listed.getD x true = false := by rw [set_getD_ne (fun e => hxL e.symm)] at x1; exact x1
      have hw := last_waits h hxs hxL
      have hxr : x ∈ Region.ready md ops listed := mem_ready.2 ⟨hun, ox, hox, fun e he hb => by
        have := xall e he hb
        rw [set_getD_ne (fun e2 => hw.2 ox hox e he e2.symm)] at this
        exact this⟩
      refine ⟨fun h0 => (by rw [h0] at hxr; cases hxr), fun i hi => ?_⟩
      have hiL : i ≠ L := fun e => by
        subst e
        exact last_not h hs hsh _ x rfl hxs hxL hun hi
      have h2 := wpOp_thenL (L := L) (fun hl => hl) (H.2 i (ready_mono hi hiL))
      refine wpOp_mono (fun a' w' hk => ih (listed.setIfInBounds i true) a' w' (by simp [hs]) (by rw [set_getD_ne hiL]; exact hL) (shutAll_set hs hsh hi) ?_) h2
      rw [Array.setIfInBounds_comm _ _ hiL]
      exact hk
/-- The beginning: S is shown of the world behind the draw; the last one waits. -/
theorem wp_region_last (S : World → Prop) (L : Nat) {id : Nat} {a : Act} {w : World} (hL : lastOne .any ops L = true) (hm : P.follows .mixedOrders = true) (hS : S w.drew) (n : Nat) (hn : ops.size = n + 1)
    (h : S w.drew → wpAnyH P .any ops (ThenL P ops Q L) S n ((Array.replicate ops.size false).setIfInBounds L true) a w.drew) : (Code.region id ops true).wp P Q a w := by
  refine wp_region_any hm ?_
  have hlt := last_lt hL
  have := wpAny_thenL (Q := Q) (P := P) hL n (Array.replicate ops.size false) a w.drew (by simp) (by simp [Array.getD, hlt]) (fun j o ho hl => by have := (Array.getElem?_eq_some_iff.1 ho).1; simp [Array.getD, this] at hl) (wpAny_of_held _ _ _ _ (h hS))
  rw [← hn] at this
  exact this
/-- The last one. -/
theorem wpOp_last {o : Oper} {a : Act} {w : World} (ho : ops[L]? = some o) (h : ∀ K : Act → World → Prop, Shut (∀ a w, Q .normal a w → K a w) → if Region.wanted o (yielded ops a.tmps) = true then Oper.wp P o a w K Q else K (a.put o.dst undef) w) : ThenL P ops Q L .normal a w :=
  wpOp_step ho (fun K hK => h K hK)
end
end
end Go.Proofs.YtkhgafmhbibikaaGreatDoor
