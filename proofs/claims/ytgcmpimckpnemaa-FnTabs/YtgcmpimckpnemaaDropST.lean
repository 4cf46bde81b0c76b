/-
  What the specification's DropInode answers.
-/
import Derived.Test.YtgcmpimckpnemaaA4T
import Derived.Deep.RegionLaw
namespace Go.Proofs.Ytgcmpimckpnemaa
open Go.RowKit
/-- The inodes of another number. -/
def dropR (rs : List InoR) (x : Int) : List InoR := rs.filter fun r => r.D.ino != x
theorem dropR_no {rs : List InoR} {x : Int} {k : Nat} {r : InoR} (h : rs[k]? = some r) (he : r.D.ino = x) : dropR (rs.take (k + 1)) x = dropR (rs.take k) x := by
  unfold dropR
  rw [List.take_add_one, h]
  simp [he]
theorem dropR_yes {rs : List InoR} {x : Int} {k : Nat} {r : InoR} (h : rs[k]? = some r) (he : r.D.ino ≠ x) : dropR (rs.take (k + 1)) x = dropR (rs.take k) x ++ [r] := by
  unfold dropR
  rw [List.take_add_one, h]
  simp [he]
theorem dropR_len (rs : List InoR) (x : Int) (k : Nat) : (dropR (rs.take k) x).length ≤ k := by
  unfold dropR
  refine Nat.le_trans (List.length_filter_le _ _) ?_
  rw [List.length_take]
  omega
theorem row_lower {B B' : Nat} {w : World} {e : TypeId} {s n : Nat} {v : Value} {xs : List Value} (h : w.ownsRow B e s v n xs) (hB : B' ≤ B) : w.ownsRow B' e s v n xs :=
  ⟨h.1, h.2.imp id (fun ⟨g, c, cur, h1, h2, rest⟩ => ⟨g, c, cur, h1, Nat.le_trans hB h2, rest⟩)⟩
theorem DQT.lower {B B' : Nat} {W : World} {v : Value} {rs : List InoR} {js : List InoJ} (h : DQT B W v rs js) (hB : B' ≤ B) : DQT B' W v rs js :=
  ⟨h.ds, row_lower h.row hB, ⟨h.jq.G, fun i j e => by have := h.jq.lo i j e; omega, h.jq.ord⟩, h.ap⟩
/-- What both DropInode functions answer. -/
def DropPost (w : World) (nx : Int) (ds : List InoR) (e : Ending) (w' : World) : Prop :=
  ∃ (a : Option Addr) (c : Nat) (js : List InoJ), e = .returned (.agg #[.slice a js.length c, .int .i64 nx]) ∧ DQT w.heap.size w' (.slice a js.length c) ds js ∧ Below w.heap.size w w'
/-- What is known while copies are appended: the argument's box, the answer's, the list's. -/
structure DX (w W : World) (X : Nat) (nx : Int) (tv v : Value) (ds : List InoR) (js : List InoJ) : Prop where
  below : Below w.heap.size w W
  tb : Blk W w.heap.size 26 #[tv, .int .i64 nx]
  res : Blk W (w.heap.size + 1) 26 #[.slice none 0 0, .int .i64 0]
  out : Blk W X 26 #[v, .int .i64 nx]
  hX : w.heap.size + 1 < X
  q : DQT (X + 1) W v ds js
theorem DX.keep {w W W' : World} {X : Nat} {nx : Int} {tv v : Value} {ds : List InoR} {js : List InoJ} (h : DX w W X nx tv v ds js) (hb : Below W.heap.size W W') : DX w W' X nx tv v ds js :=
  ⟨h.below.trans (hb.mono h.below.size), h.tb.keep hb, h.res.keep hb, h.out.keep hb, h.hX, h.q.keep hb⟩
theorem six_of_row {B : Nat} {w : World} {v : Value} {js : List InoJ} (h : w.ownsRow B 30 6 v js.length (iv (js.map InoJ.r))) : ∃ a c, v = .slice a js.length c := by
  rcases h.2 with ⟨h1, h2⟩ | ⟨g, c, cur, h1, _⟩
  · exact ⟨none, 0, by rw [h2]; exact h1⟩
  · exact ⟨_, _, h1⟩
/-- One more copy appended and stored in the list's box. -/
theorem DX.app {w W W1 W2 : World} {X : Nat} {nx : Int} {tv v : Value} {ds : List InoR} {js : List InoJ} (h : DX w W X nx tv v ds js) (hb : Below W.heap.size W W1) (r r' : InoR) (hD : r'.D = r.D) (hG : (⟨r', W.heap.size, W1.heap.size⟩ : InoJ).G W1) (o : Obj) (hg : (W1.alloc o).grownBy W2 v.ownBlock) (g n c : Nat) (hn : n = js.length + 1) (ho : W2.ownsRow (X + 1) 30 6 (.slice (some ⟨g, 0, none⟩) n c) n (iv (js.map InoJ.r) ++ r'.six)) (hat : v.ownBlock = some g ∨ g = W1.heap.size + 1) :
    Blk W2 X 26 #[v, .int .i64 nx] ∧ DX w (W2.setCell ⟨X, 0, none⟩ (.slice (some ⟨g, 0, none⟩) n c)) X nx tv (.slice (some ⟨g, 0, none⟩) n c) (ds ++ [r]) (js ++ [⟨r', W.heap.size, W1.heap.size⟩]) := by
  have hlt := h.out.lt
  have hx := h.hX
  have hv : ∀ m, v.ownBlock = some m → X + 1 ≤ m := fun m hm => (World.ownsRow.lt h.q.row m hm).1
  have h1 := h.keep (hb.trans (((Below.refl _ W1).alloc (Nat.le_refl _) o).mono hb.size))
  have kb : ∀ b, b ≤ X → b < (W1.alloc o).heap.size → W2.heap[b]? = (W1.alloc o).heap[b]? := fun b hbX hbl => hg.block b hbl (fun e => by have := hv b e.symm; omega)
  have hl1 := h1.out.lt
  have t2 : Blk W2 w.heap.size 26 #[tv, .int .i64 nx] := (kb _ (by omega) h1.tb.lt).trans h1.tb
  have r2 : Blk W2 (w.heap.size + 1) 26 #[.slice none 0 0, .int .i64 0] := (kb _ (by omega) h1.res.lt).trans h1.res
  have o2 : Blk W2 X 26 #[v, .int .i64 nx] := (kb _ (by omega) h1.out.lt).trans h1.out
  have q2 := h.q.app (by omega) hb r r' hD hG o hg g n c hn ho hat
  have b2 : Below w.heap.size w W2 := h1.below.grown hg h1.below.size (fun m hm => by have := hv m hm; omega)
  exact ⟨o2, b2.setCell (p := ⟨X, 0, none⟩) (by simp only; omega) _, t2.other (by omega) 0 _, r2.other (by omega) 0 _, o2.set 0 _, hx, q2.setX (Nat.lt_succ_self _) 0 _⟩
set_option maxRecDepth 100000 in
set_option maxHeartbeats 4000000 in
theorem dropS (a : Option Addr) (n cap : Nat) (nx x : Int) (rs : List InoR) (w : World) (hn : rs.length = n) (hs : n ≤ 1048576) (hsm : ∀ r ∈ rs, InoSmall r.D) (hr : RdI w a rs) :
    Calls Try.prog 150 #[.agg #[.slice a n cap, .int .i64 nx], .int .i64 x] w fun e w' => DropPost w nx (dropR rs x) e w' := by
  obtain ⟨ii, hii, zi0, zi1, zi2⟩ := info_parts Try.infoInode
  have hn' : Hid (rs.length = n) := hn
  have HR : Hid _ := hr
  have HS : Hid _ := hsm
  have dx0 : DX w (((w.alloc (.cells #[.slice a n cap, .int .i64 nx] 26)).alloc (.cells #[.slice none 0 0, .int .i64 0] 26)).alloc (.cells #[.slice none 0 0, .int .i64 nx] 26)) (w.heap.size + 1 + 1) nx (.slice a n cap) (.slice none 0 0) [] [] := by
    have z0 := ((Blk.new w 26 #[.slice a n cap, .int .i64 nx]).alloc (.cells #[.slice none 0 0, .int .i64 0] 26)).alloc (.cells #[.slice none 0 0, .int .i64 nx] 26)
    have z1 := (Blk.new (w.alloc (.cells #[.slice a n cap, .int .i64 nx] 26)) 26 #[.slice none 0 0, .int .i64 0]).alloc (.cells #[.slice none 0 0, .int .i64 nx] 26)
    have z2 := Blk.new ((w.alloc (.cells #[.slice a n cap, .int .i64 nx] 26)).alloc (.cells #[.slice none 0 0, .int .i64 0] 26)) 26 #[.slice none 0 0, .int .i64 nx]
    simp only [World.size_alloc] at z1 z2
    exact ⟨(((Below.refl _ w).alloc (Nat.le_refl _) _).alloc (by simp) _).alloc (by simp; omega) _, z0, z1, z2, by omega, DQT.nil _ _⟩
  clear hr hsm hn
  have t0 := dx0.tb.cell 0
  have t1 := dx0.tb.cell 1
  simp at t0 t1
  go_enter Try.func150, Try.ntmps150
  go_wp2
  clear t0 t1
  obtain ⟨W0, hW0⟩ : ∃ W, ((w.alloc (.cells #[.slice a n cap, .int .i64 nx] 26)).alloc (.cells #[.slice none 0 0, .int .i64 0] 26)).alloc (.cells #[.slice none 0 0, .int .i64 nx] 26) = W := ⟨_, rfl⟩
  rw [hW0] at dx0 ⊢
  clear hW0
  obtain ⟨X, hX⟩ : ∃ X, w.heap.size + 1 + 1 = X := ⟨_, rfl⟩
  have HXX : Hid _ := hX
  rw [hX] at dx0 ⊢
  clear hX
  go_loopw [6] (fun i wr => ∃ (k : Nat) (v : Value) (js : List InoJ), k ≤ n ∧ i = .int .i64 k ∧ DX w wr X nx (.slice a n cap) v (dropR (rs.take k) x) js) (fun i _ => n - (intOf i).toNat)
  case atStart => exact ⟨0, .slice none 0 0, [], Nat.zero_le _, rfl, dx0⟩
  case round =>
    obtain ⟨k, v, js, hk, rfl, dx⟩ := hrel
    clear dx0
    have t0 := dx.tb.cell 0
    simp at t0
    by_cases hkn : k < n
    · have hki : (k : Int) < (n : Int) := by omega
      have hkz : (0 : Int) ≤ (k : Int) := by omega
      obtain ⟨r, hrk⟩ : ∃ r, rs[k]? = some r := ⟨_, List.getElem?_eq_getElem (by rw [hn'.out]; exact hkn)⟩
      obtain ⟨b, off, rfl, hlt, hc⟩ := (RdI.keep HR.out dx.below).lt (by intro h; have := hn'.out; rw [h] at this; simp at this; omega)
      obtain ⟨⟨x0, x1, x2, x3, x4, x5⟩, xr⟩ := hc k r hrk
      have hsr := HS.out r (List.mem_of_getElem? hrk)
      by_cases he : r.D.ino = x
      · have hb : (r.D.ino != x) = false := by simp [he]
        have hds : Hid _ := dropR_no hrk he
        clear hc hrk xr hsr x1 x2 x3 x4 x5
        go_wp2
        go_roundw
        case rel => exact ⟨k + 1, v, js, by omega, by go_num, by rw [hds.out]; exact dx⟩
        case measure => simp [intOf]; omega
      · have hb : (r.D.ino != x) = true := by simp [he]
        have hds : Hid _ := dropR_yes hrk he
        have hlj : js.length ≤ n := by rw [dx.q.len]; exact Nat.le_trans (dropR_len rs x k) hk
        obtain ⟨ds, hds'⟩ : ∃ l, dropR (rs.take k) x = l := ⟨_, rfl⟩
        rw [hds'] at hds dx
        have hcC := l3Copy_any r.D r.a1 r.a2 r.a3 r.c1 r.c2 r.c3 wr.drew hsr (InoRd.keep xr (Below.refl wr.heap.size wr).drew)
        have o0 := dx.out.cell 0
        simp at o0
        clear hc hrk xr hsr hds'
        go_upto_region 6 with fail
        go_region_law (first
          | (go_simp; go_at_call 43; (with_reducible refine hcC.mono ?_); rintro e w10 ⟨b1, d1, b2, d2, b3, d3, rfl, gC, bC⟩; have b11 : Below wr.heap.size wr w10 := (Below.refl wr.heap.size wr).drew.trans bC; have dx10 := dx.keep b11; have o1 := dx10.out.cell 0; have o2 := (dx10.out.alloc (.cells #[.int .i64 r.D.ino, .int .i64 r.D.kind, .int .i64 r.D.links, .slice b1 r.D.data.length d1, .slice b2 r.D.ents.length d2, .slice b3 r.D.attrs.length d3] 30)).cell 0; simp at o1 o2; have hrow := World.ownsRow.alloc dx10.q.row (.cells #[.int .i64 r.D.ino, .int .i64 r.D.kind, .int .i64 r.D.links, .slice b1 r.D.data.length d1, .slice b2 r.D.ents.length d2, .slice b3 r.D.attrs.length d3] 30); have hbw : X + 1 ≤ (w10.alloc (.cells #[.int .i64 r.D.ino, .int .i64 r.D.kind, .int .i64 r.D.links, .slice b1 r.D.data.length d1, .slice b2 r.D.ents.length d2, .slice b3 r.D.attrs.length d3] 30)).heap.size := (by simp; have := dx10.out.lt; omega); dsimp only)
          | (refine step_append_lies (w10.alloc (.cells #[.int .i64 r.D.ino, .int .i64 r.D.kind, .int .i64 r.D.links, .slice b1 r.D.data.length d1, .slice b2 r.D.ents.length d2, .slice b3 r.D.attrs.length d3] 30)) rfl (.tmp 26) (.tmp 33) 24 rfl (X + 1) 30 ii _ 6 96 Try.underlying24 hii zi0 zi1 zi2 rfl (by omega) v js.length (iv (js.map InoJ.r)) rfl hrow ⟨w10.heap.size, 0, none⟩ 1 1 (InoR.six ⟨r.D, b1, d1, b2, d2, b3, d3⟩) rfl rfl (six_news w10 ⟨r.D, b1, d1, b2, d2, b3, d3⟩ _) (six_one _) (by omega) (by unfold maxLen; omega) (by omega) hbw (w10.heap.size + 1) (by simp) ?_; intro g2 cc2 w12 ho12 hg12 hat12 hlt12; obtain ⟨o12, dx12⟩ := dx.app b11 r ⟨r.D, b1, d1, b2, d2, b3, d3⟩ rfl gC (.cells #[.int .i64 r.D.ino, .int .i64 r.D.kind, .int .i64 r.D.links, .slice b1 r.D.data.length d1, .slice b2 r.D.ents.length d2, .slice b3 r.D.attrs.length d3] 30) hg12 g2 (js.length + 1) cc2 rfl ho12 hat12; have c4 := o12.cell 0; have f4 := o12.frozen 0; simp at c4))
        all_goals clear dx10 hrow hbw
        all_goals go_wp2
        all_goals go_roundw
        all_goals first
          | (case rel => (repeat apply Exists.intro); exact ⟨⟨k + 1, _, _, by omega, by go_num, by rw [hds.out]; exact dx12⟩, rfl⟩)
          | (case rel => exact ⟨k + 1, _, _, by omega, by go_num, by rw [hds.out]; exact dx12⟩)
          | (case measure => simp [intOf]; omega)
    · have hki : ¬ (k : Int) < (n : Int) := by omega
      have hke : rs.take k = rs := List.take_of_length_le (by rw [hn'.out]; omega)
      rw [hke] at dx
      clear hke
      obtain ⟨va, vc, rfl⟩ := six_of_row dx.q.row
      obtain ⟨vn, hvn⟩ : ∃ m, js.length = m := ⟨_, rfl⟩
      have HVN : Hid _ := hvn
      have o0 := dx.out.cell 0
      have o1 := dx.out.cell 1
      have r0 := dx.res.cell 0
      have r1 := dx.res.cell 1
      have f0 := dx.res.frozen 0
      have f1 := dx.res.frozen 1
      simp at o0 o1 r0 r1
      rw [hvn] at o0
      have HG : Hid _ := dx
      clear dx hvn
      go_wp2
      have zf := (HG.out.res.set 0 (.slice va vn vc)).set 1 (.int .i64 nx)
      have dd0 := zf.cell 0
      have dd1 := zf.cell 1
      simp at dd0 dd1
      refine bodyPost_ret (v := .agg #[.slice va vn vc, .int .i64 nx]) (by simp [results, Try.f150, go_sem, dd0, dd1]) rfl ?_
      have hhx := HG.out.hX
      refine ⟨va, vc, js, by rw [HVN.out], ((HG.out.q.setX (X := w.heap.size + 1) (by omega) 0 (.slice va vn vc)).setX (X := w.heap.size + 1) (by omega) 1 (.int .i64 nx)).lower (by omega), ?_⟩
      exact (HG.out.below.setCell (p := ⟨w.heap.size + 1, 0, none⟩) (by simp only; omega) _).setCell (p := ⟨w.heap.size + 1, 1, none⟩) (by simp only; omega) _
end Go.Proofs.Ytgcmpimckpnemaa
