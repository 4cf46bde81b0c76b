/-
  Joined: DropS, AtS, CloneT.
-/
import Derived.Test.YtnfplimhhjpbkaaGreatDoorJ10N
import Derived.Deep.RegionLaw
import Derived.Lib.Slices
import Derived.Lib.Walk
import Derived.Lib.Bytealg
import Derived.Lib.IndexLaws
import Derived.Lib.BufferWrite
import Derived.Lib.UnsafeStr
import Derived.Laws.MakeOwn
import Derived.Laws.Strings3
namespace Go.Proofs.YtnfplimhhjpbkaaGreatDoor
section
open Go.RowKit
/-- The inodes of another number. -/
def dropR (rs : List InoR) (x : Int) : List InoR := rs.filter fun r => r.D.ino != x
theorem dropR_no {rs : List InoR} {x : Int} {k : Nat} {r : InoR} (h : rs[k]? = some r) (he : r.D.ino = x) : dropR (rs.take (k + 1)) x = dropR (rs.take k) x := by
  unfold dropR
  rw [List.take_add_one, h]
  simp [he]
theorem dropR_yes {rs : List InoR} {x : Int} {k : Nat} {r : InoR} (h : rs[k]? = some r) (he : r.D.ino ≠ x) : dropR (rs.take (k + 1)) x = dropR (rs.take k) x ++ [r] := by
  unfold dropR
  rw [List.take_add_one, h]
  simp [he]
theorem dropR_len (rs : List InoR) (x : Int) (k : Nat) : (dropR (rs.take k) x).length ≤ k := by
  unfold dropR
  refine Nat.le_trans (List.length_filter_le _ _) ?_
  rw [List.length_take]
  omega
theorem row_lower {B B' : Nat} {w : World} {e : TypeId} {s n : Nat} {v : Value} {xs : List Value} (h : w.ownsRow B e s v n xs) (hB : B' ≤ B) : w.ownsRow B' e s v n xs :=
  ⟨h.1, h.2.imp id (fun ⟨g, c, cur, h1, h2, rest⟩ => ⟨g, c, cur, h1, Nat.le_trans hB h2, rest⟩)⟩
theorem DQT.lower {B B' : Nat} {W : World} {v : Value} {rs : List InoR} {js : List InoJ} (h : DQT B W v rs js) (hB : B' ≤ B) : DQT B' W v rs js :=
  ⟨h.ds, row_lower h.row hB, ⟨h.jq.G, fun i j e => by have := h.jq.lo i j e; omega, h.jq.ord⟩, h.ap⟩
/-- What both DropInode functions answer. -/
def DropPost (w : World) (nx : Int) (ds : List InoR) (e : Ending) (w' : World) : Prop :=
  ∃ (a : Option Addr) (c : Nat) (js : List InoJ), e = .returned (.agg #[.slice a js.length c, .int .i64 nx]) ∧ DQT w.heap.size w' (.slice a js.length c) ds js ∧ Below w.heap.size w w'
/-- What is known while copies are appended: the argument's box, the answer's, the list's. -/
structure DX (w W : World) (X : Nat) (nx : Int) (tv v : Value) (ds : List InoR) (js : List InoJ) : Prop where
  below : Below w.heap.size w W
  tb : Blk W w.heap.size 26 #[tv, .int .i64 nx]
  res : Blk W (w.heap.size + 1) 26 #[.slice none 0 0, .int .i64 0]
  out : Blk W X 26 #[v, .int .i64 nx]
  hX : w.heap.size + 1 < X
  q : DQT (X + 1) W v ds js
theorem DX.keep {w W W' : World} {X : Nat} {nx : Int} {tv v : Value} {ds : List InoR} {js : List InoJ} (h : DX w W X nx tv v ds js) (hb : Below W.heap.size W W') : DX w W' X nx tv v ds js :=
  ⟨h.below.trans (hb.mono h.below.size), h.tb.keep hb, h.res.keep hb, h.out.keep hb, h.hX, h.q.keep hb⟩
theorem six_of_row {B : Nat} {w : World} {v : Value} {js : List InoJ} (h : w.ownsRow B 66 6 v js.length (iv (js.map InoJ.r))) : ∃ a c, v = .slice a js.length c := by
  rcases h.2 with ⟨h1, h2⟩ | ⟨g, c, cur, h1, _⟩
  · exact ⟨none, 0, by rw [h2]; exact h1⟩
  · exact ⟨_, _, h1⟩
/-- One more copy appended and stored in the list's box. -/
theorem DX.app {w W W1 W2 : World} {X : Nat} {nx : Int} {tv v : Value} {ds : List InoR} {js : List InoJ} (h : DX w W X nx tv v ds js) (hb : Below W.heap.size W W1) (r r' : InoR) (hD : r'.D = r.D) (hG : (⟨r', W.heap.size, W1.heap.size⟩ : InoJ).G W1) (o : Obj) (hg : (W1.alloc o).grownBy W2 v.ownBlock) (g n c : Nat) (hn : n = js.length + 1) (ho : W2.ownsRow (X + 1) 66 6 (.slice (some ⟨g, 0, none⟩) n c) n (iv (js.map InoJ.r) ++ r'.six)) (hat : v.ownBlock = some g ∨ g = W1.heap.size + 1) :
    Blk W2 X 26 #[v, .int .i64 nx] ∧ DX w (W2.setCell ⟨X, 0, none⟩ (.slice (some ⟨g, 0, none⟩) n c)) X nx tv (.slice (some ⟨g, 0, none⟩) n c) (ds ++ [r]) (js ++ [⟨r', W.heap.size, W1.heap.size⟩]) := by
  have hlt := h.out.lt
  have hx := h.hX
  have hv : ∀ m, v.ownBlock = some m → X + 1 ≤ m := fun m hm => (World.ownsRow.lt h.q.row m hm).1
  have h1 := h.keep (hb.trans (((Below.refl _ W1).alloc (Nat.le_refl _) o).mono hb.size))
  have kb : ∀ b, b ≤ X → b < (W1.alloc o).heap.size → W2.heap[b]? = (W1.alloc o).heap[b]? := fun b hbX hbl => hg.block b hbl (fun e => by have := hv b e.symm; omega)
  have hl1 := h1.out.lt
  have t2 : Blk W2 w.heap.size 26 #[tv, .int .i64 nx] := (kb _ (by omega) h1.tb.lt).trans h1.tb
  have r2 : Blk W2 (w.heap.size + 1) 26 #[.slice none 0 0, .int .i64 0] := (kb _ (by omega) h1.res.lt).trans h1.res
  have o2 : Blk W2 X 26 #[v, .int .i64 nx] := (kb _ (by omega) h1.out.lt).trans h1.out
  have q2 := h.q.app (by omega) hb r r' hD hG o hg g n c hn ho hat
  have b2 : Below w.heap.size w W2 := h1.below.grown hg h1.below.size (fun m hm => by have := hv m hm; omega)
  exact ⟨o2, b2.setCell (p := ⟨X, 0, none⟩) (by simp only; omega) _, t2.other (by omega) 0 _, r2.other (by omega) 0 _, o2.set 0 _, hx, q2.setX (Nat.lt_succ_self _) 0 _⟩
set_option maxRecDepth 100000 in
set_option maxHeartbeats 4000000 in
theorem dropS (a : Option Addr) (n cap : Nat) (nx x : Int) (rs : List InoR) (w : World) (hn : rs.length = n) (hs : n ≤ 1048576) (hsm : ∀ r ∈ rs, InoSmall r.D) (hr : RdI w a rs) :
    Calls Tryz.prog 102 #[.agg #[.slice a n cap, .int .i64 nx], .int .i64 x] w fun e w' => DropPost w nx (dropR rs x) e w' := by
  obtain ⟨ii, hii, zi0, zi1, zi2⟩ := info_parts Tryz.infoInode
  have hn' : Hid (rs.length = n) := hn
  have HR : Hid _ := hr
  have HS : Hid _ := hsm
  have dx0 : DX w (((w.alloc (.cells #[.slice a n cap, .int .i64 nx] 26)).alloc (.cells #[.slice none 0 0, .int .i64 0] 26)).alloc (.cells #[.slice none 0 0, .int .i64 nx] 26)) (w.heap.size + 1 + 1) nx (.slice a n cap) (.slice none 0 0) [] [] := by
    have z0 := ((Blk.new w 26 #[.slice a n cap, .int .i64 nx]).alloc (.cells #[.slice none 0 0, .int .i64 0] 26)).alloc (.cells #[.slice none 0 0, .int .i64 nx] 26)
    have z1 := (Blk.new (w.alloc (.cells #[.slice a n cap, .int .i64 nx] 26)) 26 #[.slice none 0 0, .int .i64 0]).alloc (.cells #[.slice none 0 0, .int .i64 nx] 26)
    have z2 := Blk.new ((w.alloc (.cells #[.slice a n cap, .int .i64 nx] 26)).alloc (.cells #[.slice none 0 0, .int .i64 0] 26)) 26 #[.slice none 0 0, .int .i64 nx]
    simp only [World.size_alloc] at z1 z2
    exact ⟨(((Below.refl _ w).alloc (Nat.le_refl _) _).alloc (by simp) _).alloc (by simp; omega) _, z0, z1, z2, by omega, DQT.nil _ _⟩
  clear hr hsm hn
  have t0 := dx0.tb.cell 0
  have t1 := dx0.tb.cell 1
  simp at t0 t1
  go_enter Tryz.func102, Tryz.ntmps102
  go_wp2
  clear t0 t1
  obtain ⟨W0, hW0⟩ : ∃ W, ((w.alloc (.cells #[.slice a n cap, .int .i64 nx] 26)).alloc (.cells #[.slice none 0 0, .int .i64 0] 26)).alloc (.cells #[.slice none 0 0, .int .i64 nx] 26) = W := ⟨_, rfl⟩
  rw [hW0] at dx0 ⊢
  clear hW0
  obtain ⟨X, hX⟩ : ∃ X, w.heap.size + 1 + 1 = X := ⟨_, rfl⟩
  have HXX : Hid _ := hX
  rw [hX] at dx0 ⊢
  clear hX
  go_loopw [6] (fun i wr => ∃ (k : Nat) (v : Value) (js : List InoJ), k ≤ n ∧ i = .int .i64 k ∧ DX w wr X nx (.slice a n cap) v (dropR (rs.take k) x) js) (fun i _ => n - (intOf i).toNat)
  case atStart => exact ⟨0, .slice none 0 0, [], Nat.zero_le _, rfl, dx0⟩
  case round =>
    obtain ⟨k, v, js, hk, rfl, dx⟩ := hrel
    clear dx0
    have t0 := dx.tb.cell 0
    simp at t0
    by_cases hkn : k < n
    · have hki : (k : Int) < (n : Int) := by omega
      have hkz : (0 : Int) ≤ (k : Int) := by omega
      obtain ⟨r, hrk⟩ : ∃ r, rs[k]? = some r := ⟨_, List.getElem?_eq_getElem (by rw [hn'.out]; exact hkn)⟩
      obtain ⟨b, off, rfl, hlt, hc⟩ := (RdI.keep HR.out dx.below).lt (by intro h; have := hn'.out; rw [h] at this; simp at this; omega)
      obtain ⟨⟨x0, x1, x2, x3, x4, x5⟩, xr⟩ := hc k r hrk
      have hsr := HS.out r (List.mem_of_getElem? hrk)
      by_cases he : r.D.ino = x
      · have hb : (r.D.ino != x) = false := by simp [he]
        have hds : Hid _ := dropR_no hrk he
        clear hc hrk xr hsr x1 x2 x3 x4 x5
        go_wp2
        go_roundw
        case rel => exact ⟨k + 1, v, js, by omega, by go_num, by rw [hds.out]; exact dx⟩
        case measure => simp [intOf]; omega
      · have hb : (r.D.ino != x) = true := by simp [he]
        have hds : Hid _ := dropR_yes hrk he
        have hlj : js.length ≤ n := by rw [dx.q.len]; exact Nat.le_trans (dropR_len rs x k) hk
        obtain ⟨ds, hds'⟩ : ∃ l, dropR (rs.take k) x = l := ⟨_, rfl⟩
        rw [hds'] at hds dx
        have hcC := l3Copy_any r.D r.a1 r.a2 r.a3 r.c1 r.c2 r.c3 wr.drew hsr (InoRd.keep xr (Below.refl wr.heap.size wr).drew)
        have o0 := dx.out.cell 0
        simp at o0
        clear hc hrk xr hsr hds'
        go_upto_region 6 with fail
        go_region_law (first
          | (go_simp; go_at_call 112; (with_reducible refine hcC.mono ?_); rintro e w10 ⟨b1, d1, b2, d2, b3, d3, rfl, gC, bC⟩; have b11 : Below wr.heap.size wr w10 := (Below.refl wr.heap.size wr).drew.trans bC; have dx10 := dx.keep b11; have o1 := dx10.out.cell 0; have o2 := (dx10.out.alloc (.cells #[.int .i64 r.D.ino, .int .i64 r.D.kind, .int .i64 r.D.links, .slice b1 r.D.data.length d1, .slice b2 r.D.ents.length d2, .slice b3 r.D.attrs.length d3] 66)).cell 0; simp at o1 o2; have hrow := World.ownsRow.alloc dx10.q.row (.cells #[.int .i64 r.D.ino, .int .i64 r.D.kind, .int .i64 r.D.links, .slice b1 r.D.data.length d1, .slice b2 r.D.ents.length d2, .slice b3 r.D.attrs.length d3] 66); have hbw : X + 1 ≤ (w10.alloc (.cells #[.int .i64 r.D.ino, .int .i64 r.D.kind, .int .i64 r.D.links, .slice b1 r.D.data.length d1, .slice b2 r.D.ents.length d2, .slice b3 r.D.attrs.length d3] 66)).heap.size := (by simp; have := dx10.out.lt; omega); dsimp only)
          | (refine step_append_lies (w10.alloc (.cells #[.int .i64 r.D.ino, .int .i64 r.D.kind, .int .i64 r.D.links, .slice b1 r.D.data.length d1, .slice b2 r.D.ents.length d2, .slice b3 r.D.attrs.length d3] 66)) rfl (.tmp 26) (.tmp 33) 24 rfl (X + 1) 66 ii _ 6 96 Tryz.underlying24 hii zi0 zi1 zi2 rfl (by omega) v js.length (iv (js.map InoJ.r)) rfl hrow ⟨w10.heap.size, 0, none⟩ 1 1 (InoR.six ⟨r.D, b1, d1, b2, d2, b3, d3⟩) rfl rfl (six_news w10 ⟨r.D, b1, d1, b2, d2, b3, d3⟩ _) (six_one _) (by omega) (by unfold maxLen; omega) (by omega) hbw (w10.heap.size + 1) (by simp) ?_; intro g2 cc2 w12 ho12 hg12 hat12 hlt12; obtain ⟨o12, dx12⟩ := dx.app b11 r ⟨r.D, b1, d1, b2, d2, b3, d3⟩ rfl gC (.cells #[.int .i64 r.D.ino, .int .i64 r.D.kind, .int .i64 r.D.links, .slice b1 r.D.data.length d1, .slice b2 r.D.ents.length d2, .slice b3 r.D.attrs.length d3] 66) hg12 g2 (js.length + 1) cc2 rfl ho12 hat12; have c4 := o12.cell 0; have f4 := o12.frozen 0; simp at c4))
        all_goals clear dx10 hrow hbw
        all_goals go_wp2
        all_goals go_roundw
        all_goals first
          | (case rel => (repeat apply Exists.intro); exact ⟨⟨k + 1, _, _, by omega, by go_num, by rw [hds.out]; exact dx12⟩, rfl⟩)
          | (case rel => exact ⟨k + 1, _, _, by omega, by go_num, by rw [hds.out]; exact dx12⟩)
          | (case measure => simp [intOf]; omega)
    · have hki : ¬ (k : Int) < (n : Int) := by omega
      have hke : rs.take k = rs := List.take_of_length_le (by rw [hn'.out]; omega)
      rw [hke] at dx
      clear hke
      obtain ⟨va, vc, rfl⟩ := six_of_row dx.q.row
      obtain ⟨vn, hvn⟩ : ∃ m, js.length = m := ⟨_, rfl⟩
      have HVN : Hid _ := hvn
      have o0 := dx.out.cell 0
      have o1 := dx.out.cell 1
      have r0 := dx.res.cell 0
      have r1 := dx.res.cell 1
      have f0 := dx.res.frozen 0
      have f1 := dx.res.frozen 1
      simp at o0 o1 r0 r1
      rw [hvn] at o0
      have HG : Hid _ := dx
      clear dx hvn
      go_wp2
      have zf := (HG.out.res.set 0 (.slice va vn vc)).set 1 (.int .i64 nx)
      have dd0 := zf.cell 0
      have dd1 := zf.cell 1
      simp at dd0 dd1
      refine bodyPost_ret (v := .agg #[.slice va vn vc, .int .i64 nx]) (by simp [results, Tryz.f102, go_sem, dd0, dd1]) rfl ?_
      have hhx := HG.out.hX
      refine ⟨va, vc, js, by rw [HVN.out], ((HG.out.q.setX (X := w.heap.size + 1) (by omega) 0 (.slice va vn vc)).setX (X := w.heap.size + 1) (by omega) 1 (.int .i64 nx)).lower (by omega), ?_⟩
      exact (HG.out.below.setCell (p := ⟨w.heap.size + 1, 0, none⟩) (by simp only; omega) _).setCell (p := ⟨w.heap.size + 1, 1, none⟩) (by simp only; omega) _
end

section
open Go.RowKit
theorem inos_cnt (rs : List InoR) : (inos rs).length = rs.length := by simp [inos]
theorem firstAt_in {rs : List InoR} {x : Int} {p : Nat} (h : firstAt (inos rs) x = some p) : p < rs.length := by
  unfold firstAt at h
  have := (List.findIdx?_eq_some_iff_getElem.1 h).1
  rw [inos_cnt] at this
  exact this
theorem firstAt_is {xs : List Int} {x : Int} {k : Nat} (h : ∀ j, j < k → xs[j]? ≠ some x) (hk : xs[k]? = some x) : firstAt xs x = some k := by
  unfold firstAt
  obtain ⟨hl, he⟩ := List.getElem?_eq_some_iff.1 hk
  refine List.findIdx?_eq_some_iff_getElem.2 ⟨hl, by simp [he], fun j hj => ?_⟩
  have := h j hj
  rw [List.getElem?_eq_getElem (by omega)] at this
  simpa using this
theorem firstAt_no {xs : List Int} {x : Int} (h : ∀ j, j < xs.length → xs[j]? ≠ some x) : firstAt xs x = none := by
  unfold firstAt
  rw [List.findIdx?_eq_none_iff]
  intro y hy
  obtain ⟨j, hj, rfl⟩ := List.getElem_of_mem hy
  have := h j hj
  rw [List.getElem?_eq_getElem hj] at this
  simpa using this
/-- The place of the first inode of this number; -1. -/
def atN (rs : List InoR) (x : Int) : Int := match firstAt (inos rs) x with | some p => (p : Int) | none => -1
theorem inos_is {rs : List InoR} {k : Nat} {r : InoR} (h : rs[k]? = some r) : (inos rs)[k]? = some r.D.ino := by simp [inos, h]
/-- The inode that stands there, and whether one does. -/
def atD (rs : List InoR) (x : Int) : InoD := match firstAt (inos rs) x with | some p => (rs.getD p inoZ).D | none => inoZ.D
def atB (rs : List InoR) (x : Int) : Bool := (firstAt (inos rs) x).isSome
/-- What both InodeAt functions answer. -/
def AtPost (w : World) (rs : List InoR) (x : Int) (e : Ending) (w' : World) : Prop :=
  ∃ (b1 : Option Addr) (d1 : Nat) (b2 : Option Addr) (d2 : Nat) (b3 : Option Addr) (d3 : Nat), e = .returned (.tuple #[.agg #[.int .i64 (atD rs x).ino, .int .i64 (atD rs x).kind, .int .i64 (atD rs x).links, .slice b1 (atD rs x).data.length d1, .slice b2 (atD rs x).ents.length d2, .slice b3 (atD rs x).attrs.length d3], .bool (atB rs x)]) ∧
    InoG w' w.heap.size w'.heap.size (atD rs x) (.slice b1 (atD rs x).data.length d1) (.slice b2 (atD rs x).ents.length d2) (.slice b3 (atD rs x).attrs.length d3) ∧ Below w.heap.size w w'
set_option maxRecDepth 100000 in
set_option maxHeartbeats 2000000 in
theorem l4At_any (a : Option Addr) (n cap : Nat) (nx x : Int) (rs : List InoR) (w : World) (hn : rs.length = n) (hs : n ≤ 4000000) (hr : RdI w a rs) :
    Calls Tryz.prog 83 #[.agg #[.slice a n cap, .int .i64 nx], .int .i64 x] w fun e w' => e = .returned (.int .i64 (atN rs x)) ∧ Below w.heap.size w w' := by
  have B0 : Below w.heap.size w (w.alloc (.cells #[.slice a n cap, .int .i64 nx] 26)) := (Below.refl _ w).alloc (Nat.le_refl _) _
  have HB : Hid _ := B0
  have HR : Hid _ := hr.keep B0
  have hn' : Hid (rs.length = n) := hn
  have hR : Hid (∀ (k : Nat) (r : InoR), (∀ j, j < k → (inos rs)[j]? ≠ some x) → rs[k]? = some r → r.D.ino = x → (k : Int) = atN rs x) := by
    intro k r h hk he
    unfold atN
    rw [firstAt_is h (by rw [inos_is hk, he])]
  have hE : Hid ((∀ j, j < n → (inos rs)[j]? ≠ some x) → (-1 : Int) = atN rs x) := by
    intro h
    unfold atN
    rw [firstAt_no (fun j hj => h j (by rw [inos_cnt, hn] at hj; exact hj))]
  generalize atN rs x = R at hR hE ⊢
  clear hr hn B0
  go_enter Tryz.func83, Tryz.ntmps83
  go_wp2
  go_loop [5] (fun i => ∃ k : Nat, k ≤ n ∧ i = .int .i64 k ∧ Hid (∀ j, j < k → (inos rs)[j]? ≠ some x)) (fun i => n - (intOf i).toNat)
  case atStart => exact ⟨0, Nat.zero_le _, rfl, fun j hj => by omega⟩
  case round =>
    obtain ⟨k, hk, rfl, hall⟩ := hrel
    by_cases hkn : k < n
    · have hki : (k : Int) < (n : Int) := by omega
      obtain ⟨r, hrk⟩ : ∃ r, rs[k]? = some r := ⟨_, List.getElem?_eq_getElem (by rw [hn'.out]; exact hkn)⟩
      obtain ⟨b, off, rfl, hlt, hc⟩ := RdI.lt HR.out (by intro h; have := hn'.out; rw [h] at this; simp at this; omega)
      have x0 := (hc k r hrk).1.c0
      have hyes : Hid (r.D.ino = x → (k : Int) = R) := fun he => hR.out k r hall.out hrk he
      have hno : Hid (r.D.ino ≠ x → ∀ j, j < k + 1 → (inos rs)[j]? ≠ some x) := by
        intro he j hj
        rcases (show j < k ∨ j = k by omega) with h | rfl
        · exact hall.out j h
        · rw [inos_is hrk]
          simpa using he
      generalize r.D.ino = i1 at x0 hyes hno
      clear hc hrk hall hR hE HR
      by_cases he : i1 = x
      · have hb : (i1 == x) = true := by simp [he]
        have hend : Hid ((k : Int) = R) := hyes.out he
        subst he
        clear hyes hno
        go_wp2
        go_ret
        exact ⟨ret_int hend.out, HB.out⟩
      · have hb : (i1 == x) = false := by simp [he]
        have hnx : Hid _ := hno.out he
        clear hyes hno
        go_wp2
        go_round
        case rel => exact ⟨k + 1, by omega, by go_num, hnx⟩
        case measure => simp [intOf]; omega
    · have hki : ¬ (k : Int) < (n : Int) := by omega
      have hend : Hid ((-1 : Int) = R) := hE.out (fun j hj => hall.out j (by omega))
      clear hR hE HR hall
      go_wp2
      go_ret
      exact ⟨ret_int hend.out, HB.out⟩
end

section
open Go.RowKit
set_option maxHeartbeats 4000000 in
set_option maxRecDepth 100000 in
theorem clone_inner (s : ByteArray) (w : World) (hs : s.size ≤ 4000000) :
    Calls Tryz.prog 246 #[.string s] w fun e w' => e = .returned (.string s) ∧ Below w.heap.size w w' := by
  by_cases h0 : s.size = 0
  · obtain rfl : s = ⟨#[]⟩ := by
      apply ByteArray.ext
      exact Array.eq_empty_of_size_eq_zero h0
    go_enter Tryz.func246, Tryz.ntmps246
    go_wp2
    go_ret
    exact ⟨rfl, Below.refl _ _⟩
  · obtain ⟨i0, hi, hz0, hz1, hz2⟩ := info_parts Tryz.info5
    have hinfo : (Tryz.prog.info? 5).map (·.size) = some 1 := by rw [hi]; simp [hz1]
    have hco : Tryz.prog.cellsOf 5 = 1 := by simp [Program.cellsOf, hi, hz1]
    obtain ⟨M, hM⟩ : ∃ M, M = madeCells (Value.int .u8 0).cells (((s.size : Nat) : Int).toNat * i0.size) := ⟨_, rfl⟩
    have hMs : M.size = s.size := by rw [hM, size_madeCells, hz1]; simp
    have hmk : ∀ W : World, (Instr.makeSlice 22 (.int .i64 (s.size : Int)) (.int .i64 (s.size : Int))).run Tryz.prog W = .ok (.slice (some ⟨W.heap.size, 0, none⟩) s.size s.size) (W.alloc (.cells M 5)) := fun W => by
      have h := run_make (P := Tryz.prog) W 22 5 i0 (.int .u8 0) Tryz.underlying22 hi hz0 .i64 .i64 (s.size : Int) (s.size : Int) (by omega) (by omega) (by rw [hz2]; omega) (by omega)
      rw [← hM] at h
      simpa using h
    clear hM
    have hcp := Lib.run_copy_row_string (P := Tryz.prog) (w.alloc (.cells M 5)) 22 9 3 5 w.heap.size 0 s.size s.size s M 5 Tryz.underlying22 hinfo (heap_alloc_new w _) (Nat.le_refl _) (by omega)
    obtain ⟨Y, hY⟩ : ∃ Y, Y = (M.toList.take 0 ++ Lib.byteCells s.data.toList ++ M.toList.drop (0 + s.size)).toArray := ⟨_, rfl⟩
    rw [← hY] at hcp
    have hYl : Y.toList = Lib.byteCells s.data.toList := by
      rw [hY, List.toList_toArray, List.take_zero, List.nil_append, List.drop_of_length_le (by rw [Array.length_toList]; omega), List.append_nil]
    have hYs : Y.size = s.size := by rw [← Array.length_toList, hYl, Lib.byteCells_length, ← Lib.size_eq]
    have hgY : ((w.alloc (.cells M 5)).setRow w.heap.size Y).heap[w.heap.size]? = some (.cells Y 5 (0, 0)) := setRow_heap _ _ M _ 5 (0, 0) (heap_alloc_new w _)
    have hne : s.data.toList ≠ [] := fun e => h0 (by rw [Lib.size_eq, e]; rfl)
    have hUS := Lib.run_unsafeString_row (P := Tryz.prog) ((w.alloc (.cells M 5)).setRow w.heap.size Y) 275 3 9 5 Tryz.underlying275 hco w.heap.size Y.size (by unfold World.shape?; rw [hgY]) s.data.toList hne (by rw [← Lib.size_eq]; omega) (by rw [← Lib.size_eq]; omega)
      (fun j x hx => Lib.cells_of_row hgY Y.size j _ (by rw [List.take_of_length_le (by rw [Array.length_toList]; exact Nat.le_refl _), hYl]; simp [Lib.byteCells, hx]))
    rw [← Lib.size_eq] at hUS
    clear hY
    have hb1 : Below w.heap.size w (w.alloc (.cells M 5)) := (Below.refl _ w).alloc (Nat.le_refl _) _
    have hb2 : Below w.heap.size (w.alloc (.cells M 5)) ((w.alloc (.cells M 5)).setRow w.heap.size Y) := ⟨rfl, rfl, rfl, by simp, fun k hk => setRow_other _ _ _ _ (by omega)⟩
    have hb : Hid (Below w.heap.size w ((w.alloc (.cells M 5)).setRow w.heap.size Y)) := hb1.trans hb2
    clear hb1 hb2
    go_enter Tryz.func246, Tryz.ntmps246
    go_wp2
    go_ret
    exact ⟨rfl, Lib.below_freeze hb.out (p := ⟨w.heap.size, 0, none⟩) (Nat.le_refl _) _⟩
set_option maxHeartbeats 1000000 in
theorem strClone (s : ByteArray) (w : World) (hs : s.size ≤ 4000000) :
    Calls Tryz.prog 212 #[.string s] w fun e w' => e = .returned (.string s) ∧ Below w.heap.size w w' := by
  go_enter Tryz.func212, Tryz.ntmps212
  go_wp2_with fail
  refine (clone_inner s w hs).mono ?_
  rintro e w1 ⟨rfl, hb⟩
  go_wp2
  go_ret
  exact ⟨rfl, hb⟩
end
end Go.Proofs.YtnfplimhhjpbkaaGreatDoor
