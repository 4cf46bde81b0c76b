/-
  Draws of an inode: l3Draw.
-/
import Derived.Test.YtnllhpeddoaehaaDrawI
import Derived.Test.YtnllhpeddoaehaaMarkGI
import Derived.Deep.RegionLaw
namespace Go.Proofs.Ytnllhpeddoaehaa
open Go.RowKit

/-- The lists of a drawn inode, each nil or of the call's own, at or behind B. -/
structure LB (W : World) (B : Nat) (D : InoD) (v1 v2 v3 : Value) : Prop where
  d : W.ownsRow B 5 1 v1 D.data.length (D.data.map (Value.int .u8))
  byt : Byt D.data
  e : W.ownsRow B 35 2 v2 D.ents.length (pv (eP D.ents))
  t : W.ownsRow B 77 2 v3 D.attrs.length (pv (aP D.attrs))
/-- What a draw of an inode answers. -/
def DrawPost (w : World) (gc sn scap : Nat) (sa : Option Addr) (zs : List Int) (P : InoD → Prop) (e : Ending) (w' : World) : Prop :=
  ∃ (D : InoD) (v1 v2 v3 : Value), e = .returned (.agg #[.int .i64 D.ino, .int .i64 D.kind, .int .i64 D.links, v1, v2, v3]) ∧ LB w' w.heap.size D v1 v2 v3 ∧ P D ∧ Src w' gc sn scap sa zs ∧ w.grownBy w' (some gc)
/-- What l3Draw draws. -/
def DrD (D : InoD) : Prop := inoOk D = true ∧ ∀ q ∈ D.ents, ∃ j, j < 4 ∧ q.1 = nms.getD j ⟨#[]⟩
theorem five (k : Nat) (h : k < 5) : ∃ m : Nat, ([0, 1, 5, 20, 100] : List Int).getD k 0 = (m : Int) ∧ m ≤ 100 := by
  rcases (show k = 0 ∨ k = 1 ∨ k = 2 ∨ k = 3 ∨ k = 4 by omega) with rfl | rfl | rfl | rfl | rfl
  · exact ⟨0, rfl, by omega⟩
  · exact ⟨1, rfl, by omega⟩
  · exact ⟨5, rfl, by omega⟩
  · exact ⟨20, rfl, by omega⟩
  · exact ⟨100, rfl, by omega⟩
theorem val_shape {B : Nat} {W : World} {e : TypeId} {s : Nat} {v : Value} {n : Nat} {xs : List Value} (h : W.ownsRow B e s v n xs) : ∃ a c, v = .slice a n c := by
  rcases h.2 with ⟨rfl, rfl⟩ | ⟨g, c, cur, rfl, _⟩
  · exact ⟨none, 0, rfl⟩
  · exact ⟨_, _, rfl⟩
theorem nm_cell {w : World} {N k : Nat} (h : Blk w N 9 (nms.map Value.string).toArray) (hk : k < 4) : w.cell? ⟨N, k, none⟩ = some (.string (nms.getD k ⟨#[]⟩)) := by
  have := h.cell k
  have e : (nms.map Value.string).toArray[k]? = some (.string (nms.getD k ⟨#[]⟩)) := by
    rcases (show k = 0 ∨ k = 1 ∨ k = 2 ∨ k = 3 by omega) with rfl | rfl | rfl | rfl <;> rfl
  rw [this, e]

/-- The answer stored. -/
theorem drawn_end {w W : World} {gc sn scap : Nat} {sa : Option Addr} {zs : List Int} {X N : Nat} {nm xs : Array Value} {v1 : Value} {dz : List Int} {v2 : Value} {es : List (ByteArray × Int)} {v3 : Value} {ats : List (ByteArray × ByteArray)} {P : InoD → Prop} (h : DI w W gc sn scap sa zs X N nm xs v1 dz v2 es v3 ats) (D : InoD) (hd : D.data = dz) (he : D.ents = es) (ht : D.attrs = ats) (hb : Byt dz) (hP : P D) (u0 u1 u2 u3 u4 u5 : Value) :
    DrawPost w gc sn scap sa zs P (.returned (.agg #[.int .i64 D.ino, .int .i64 D.kind, .int .i64 D.links, v1, v2, v3])) ((((((W.setCell ⟨w.heap.size, 0, none⟩ u0).setCell ⟨w.heap.size, 1, none⟩ u1).setCell ⟨w.heap.size, 2, none⟩ u2).setCell ⟨w.heap.size, 3, none⟩ u3).setCell ⟨w.heap.size, 4, none⟩ u4).setCell ⟨w.heap.size, 5, none⟩ u5) := by
  have g := gr_more (gr_more (gr_more (gr_more (gr_more (gr_setC W w.heap.size 0 u0) 1 u1) 2 u2) 3 u3) 4 u4) 5 u5
  have k := KpT.grown (ts := [5, 35, 77]) g h.res (by decide)
  subst hd he ht
  refine ⟨D, v1, v2, v3, rfl, ⟨row_kp h.d k (by decide), hb, row_kp h.e k (by decide), row_kp h.t k (by decide)⟩, hP, h.src.other g h.hgc, gr_own h.gr (fun m hm => by simp at hm; omega) g⟩

set_option maxRecDepth 100000 in
set_option maxHeartbeats 8000000 in
theorem l3Draw_any (gc sn scap : Nat) (sa : Option Addr) (zs : List Int) (w : World) (h : Src w gc sn scap sa zs) :
    Calls Try.prog 68 #[.pointer (some ⟨gc, 0, none⟩)] w fun e w' => DrawPost w gc sn scap sa zs DrD e w' := by
  obtain ⟨ie, hie, ze0, ze1, ze2⟩ := info_parts Try.infoEnt
  obtain ⟨ia, hia, za0, za1, za2⟩ := info_parts Try.infoAttr
  have hgc := h.cur.lt
  go_enter Try.func68, Try.ntmps68
  go_wp2_with fail
  refine (below_step gc sn scap sa zs 6 _ (h.alloc _) (by omega) (by omega)).mono ?_
  rintro e w1 ⟨x, rfl, hx, s1, g1⟩
  go_wp2_with fail
  refine (below_step gc sn scap sa zs 2 _ s1 (by omega) (by omega)).mono ?_
  rintro e w2 ⟨y, rfl, hy, s2, g2⟩
  have e1 := (World.grownBy_alloc w (.cells #[.int .i64 0, .int .i64 0, .int .i64 0, .slice none 0 0, .slice none 0 0, .slice none 0 0] 27) (some gc)).trans (g1.trans g2)
  have hs12 := e1.size
  have hw2 : w.heap.size < w2.heap.size := by have := (g1.trans g2).size; simp at this; omega
  have zr := ((Blk.new w 27 #[.int .i64 0, .int .i64 0, .int .i64 0, .slice none 0 0, .slice none 0 0, .slice none 0 0]).kept g1 (by omega)).kept g2 (by omega)
  have di0 : DI w ((w2.alloc (.cells #[.int .i64 (2 + (x : Int)), .int .i64 (1 + (y : Int)), .int .i64 1, .slice none 0 0, .slice none 0 0, .slice none 0 0] 27)).alloc (.cells (nms.map Value.string).toArray 9)) gc sn scap sa zs w2.heap.size (w2.heap.size + 1) (nms.map Value.string).toArray #[.int .i64 (2 + (x : Int)), .int .i64 (1 + (y : Int)), .int .i64 1, .slice none 0 0, .slice none 0 0, .slice none 0 0] (.slice none 0 0) [] (.slice none 0 0) [] (.slice none 0 0) [] :=
    ⟨(s2.alloc _).alloc _, (e1.trans (World.grownBy_alloc w2 _ (some gc))).trans (World.grownBy_alloc _ _ (some gc)), hgc, (zr.alloc _).alloc _, (Blk.new w2 _ _).alloc _, hw2, Blk.newAt (by simp), ⟨rfl, .inl ⟨rfl, rfl⟩⟩, ⟨rfl, .inl ⟨rfl, rfl⟩⟩, ⟨rfl, .inl ⟨rfl, rfl⟩⟩⟩
  clear g1 g2 s1 s2 e1 zr hs12 hw2 h
  go_upto_region 3 with fail
  obtain ⟨W3, hW3⟩ : ∃ W, (w2.alloc (.cells #[.int .i64 (2 + (x : Int)), .int .i64 (1 + (y : Int)), .int .i64 1, .slice none 0 0, .slice none 0 0, .slice none 0 0] 27)).alloc (.cells (nms.map Value.string).toArray 9) = W := ⟨_, rfl⟩
  obtain ⟨N, hN⟩ : ∃ X, w2.heap.size + 1 = X := ⟨_, rfl⟩
  obtain ⟨X, hX⟩ : ∃ X, w2.heap.size = X := ⟨_, rfl⟩
  rw [hW3] at di0
  rw [hN] at di0
  rw [hX] at di0
  (have hg := hW3; unfold nms at hg; simp only [List.map_cons, List.map_nil] at hg)
  rw [hg]
  rw [hN]
  rw [hX]
  clear hg hW3 hN hX
  by_cases hy0 : y = 0
  · subst hy0
    rw [show (1 + ((0 : Nat) : Int)) = 1 from rfl] at di0 ⊢
    have x1 := di0.x.cell 1
    simp at x1
    have dA := di0.al (.cells #[.int .i64 0, .int .i64 1, .int .i64 5, .int .i64 20, .int .i64 100] 3)
    have hgW := di0.src.cur.lt
    have hcI := int_step gc sn scap sa zs W3.heap.size 5 [0, 1, 5, 20, 100] _ dA.src rfl (by omega) (by omega) (by omega) (fun j hj => ints_cells W3 [0, 1, 5, 20, 100] 3 j hj)
    go_wp2_with fail
    (with_reducible refine hcI.mono ?_)
    rintro e w5 ⟨k5, rfl, hk5, s5, g5⟩
    obtain ⟨m, hm5, hm⟩ := five k5 hk5
    rw [hm5]
    have d5 := dA.cur s5 g5
    clear hm5 hcI dA di0 x1 g5
    go_wp2_with fail
    (with_reducible refine (bytes_step gc sn scap sa zs m w5 s5 (by omega)).mono ?_)
    rintro e w6 ⟨gy, cy, ys, rfl, hgy, hby, ho, s6, g6⟩
    have d6 := d5.cur s6 g6
    have hyl : ys.length = m := by have := ho.1; simpa using this
    have hw5 := d5.gr.size
    have d7 := d6.newD (.slice (some ⟨gy, 0, none⟩) m cy) ys (by rw [hyl]; exact own_raise ho (by omega))
    have x3 := d7.x.cell 3
    have f3 := d7.x.frozen 3
    simp at x3
    have d8 : DI w (w6.setCell ⟨X, 3, none⟩ (.slice (some ⟨gy, 0, none⟩) m cy)) gc sn scap sa zs X N (nms.map Value.string).toArray #[.int .i64 (2 + (x : Int)), .int .i64 1, .int .i64 1, (.slice (some ⟨gy, 0, none⟩) m cy), (.slice none 0 0), (.slice none 0 0)] (.slice (some ⟨gy, 0, none⟩) m cy) ys (.slice none 0 0) [] (.slice none 0 0) [] := d7.setX 3 _
    clear d5 d6 d7 s5 s6 g6 ho hgy hw5
    go_upto_region 5 with fail
    obtain ⟨W8, hW8⟩ : ∃ W, w6.setCell ⟨X, 3, none⟩ (.slice (some ⟨gy, 0, none⟩) m cy) = W := ⟨_, rfl⟩
    rw [hW8] at d8 ⊢
    clear hW8 x3 f3
    go_wp2_with fail
    refine (below_step gc sn scap sa zs 2 _ d8.src (by omega) (by omega)).mono ?_
    rintro e w9 ⟨z9, rfl, hz9, s9, g9⟩
    have d9 := d8.cur s9 g9
    have x2 := d9.x.cell 2
    have f2 := d9.x.frozen 2
    simp at x2
    have dj : DI w (w9.setCell ⟨X, 2, none⟩ (.int .i64 (1 + (z9 : Int)))) gc sn scap sa zs X N (nms.map Value.string).toArray #[.int .i64 (2 + (x : Int)), .int .i64 1, .int .i64 (1 + (z9 : Int)), (.slice (some ⟨gy, 0, none⟩) m cy), (.slice none 0 0), (.slice none 0 0)] (.slice (some ⟨gy, 0, none⟩) m cy) ys (.slice none 0 0) [] (.slice none 0 0) [] := d9.setX 2 _
    have hbz : Byt ys := hby
    have fin : Hid (∀ ats, AsI 2 ats → DrD ⟨2 + (x : Int), 1, 1 + (z9 : Int), ys, [], ats⟩) := fun ats ha => ⟨drawn_ok (y := 0) hx hz9 ha (.inl ⟨rfl, by omega, rfl⟩), fun q hq => by simp at hq⟩
    clear d8 d9 s9 g9 hyl hby
    go_upto_region 11 with fail
    obtain ⟨W10, hW10⟩ : ∃ W, w9.setCell ⟨X, 2, none⟩ (.int .i64 (1 + (z9 : Int))) = W := ⟨_, rfl⟩
    rw [hW10] at dj ⊢
    clear hW10 x2 f2
    go_wp2
    go_loopw [6] (fun i wr => ∃ (k : Nat) (v3 : Value) (ats : List (ByteArray × ByteArray)), k ≤ 2 ∧ i = .int .i64 k ∧ AsI k ats ∧ DI w wr gc sn scap sa zs X N (nms.map Value.string).toArray #[.int .i64 (2 + (x : Int)), .int .i64 1, .int .i64 (1 + (z9 : Int)), (.slice (some ⟨gy, 0, none⟩) m cy), (.slice none 0 0), v3] (.slice (some ⟨gy, 0, none⟩) m cy) ys (.slice none 0 0) [] v3 ats) (fun i _ => 2 - (intOf i).toNat)
    case atStart => exact ⟨0, .slice none 0 0, [], by omega, rfl, AsI.nil, dj⟩
    case round =>
      obtain ⟨k, v3, ats, hk, rfl, has, dk⟩ := hrel
      clear dj
      by_cases hk2 : k < 2
      · have hki : (k : Int) < 2 := by omega
        have hki4 : (k : Int) < 4 := by omega
        have hk0 : (0 : Int) ≤ (k : Int) := by omega
        go_wp2_with fail
        refine (once_step gc sn scap  sa zs 3 wr dk.src (by omega) (by omega)).mono ?_
        rintro e u1 ⟨Bo, rfl, hs1, hg1⟩
        have d1 := dk.cur hs1 hg1
        clear dk hs1 hg1
        cases Bo with
        | false =>
          go_wp2
          go_roundw
          all_goals first
            | (case rel => exact ⟨k + 1, v3, ats, by omega, by go_num, has.skip, d1⟩)
            | (case rel => (repeat apply Exists.intro); exact ⟨⟨k + 1, v3, ats, by omega, by go_num, has.skip, d1⟩, rfl⟩)
            | (case measure => simp [intOf]; omega)
        | true =>
          have hal := has.len
          obtain ⟨z, hz⟩ : ∃ z, nms.getD k ⟨#[]⟩ = z := ⟨_, rfl⟩
          have hput : Hid (∀ y : ByteArray, y.size ≤ 16 → AsI (k + 1) (ats ++ [(z, y)])) := by rw [← hz]; exact fun y hy => has.put (by omega) y hy
          have HZ : Hid _ := hz
          have n0 := nm_cell d1.nm (show k < 4 by omega)
          rw [hz] at n0
          have x0 := d1.x.cell 5
          simp at x0
          have dS := (d1.al (.cells #[.string ⟨#[120]⟩, .string ⟨#[118, 97, 108, 117, 101]⟩, .string ⟨#[115, 105, 120, 116, 101, 101, 110, 98, 121, 116, 101, 115, 120, 120, 120, 120]⟩] 9)).dr
          have n1 := nm_cell dS.nm (show k < 4 by omega)
          rw [hz] at n1
          have x1 := dS.x.cell 5
          simp at x1
          have hgcX : gc < u1.heap.size := d1.src.cur.lt
          have hcS := str_step gc sn scap sa zs u1.heap.size 3 [⟨#[120]⟩, ⟨#[118, 97, 108, 117, 101]⟩, ⟨#[115, 105, 120, 116, 101, 101, 110, 98, 121, 116, 101, 115, 120, 120, 120, 120]⟩] _ dS.src rfl (by omega) (by omega) (by omega) (fun j hj => strs_cells u1 [⟨#[120]⟩, ⟨#[118, 97, 108, 117, 101]⟩, ⟨#[115, 105, 120, 116, 101, 101, 110, 98, 121, 116, 101, 115, 120, 120, 120, 120]⟩] j hj) (by decide)
          clear hz
          go_upto_region 15 with fail
          go_region_law (first
            | (go_simp; go_at_call 105; (with_reducible refine hcS.mono ?_); rintro e u2 ⟨zv, rfl, hzv, hs2, hg2⟩; have d2 := dS.cur hs2 hg2; have n2 := nm_cell d2.nm (show k < 4 by omega); rw [HZ.out] at n2; have x2 := d2.x.cell 5; (simp at x2); have n3 := nm_cell (d2.nm.alloc (.cells #[.string z, .string zv] 77)) (show k < 4 by omega); rw [HZ.out] at n3; have x3 := (d2.x.alloc (.cells #[.string z, .string zv] 77)).cell 5; (simp at x3); have hrow := World.ownsRow.alloc d2.t (.cells #[.string z, .string zv] 77); have hbw : w.heap.size ≤ (u2.alloc (.cells #[.string z, .string zv] 77)).heap.size := (by simp; have := d2.gr.size; omega); dsimp only)
            | (refine step_append_lies (u2.alloc (.cells #[.string z, .string zv] 77)) rfl (.tmp 54) (.tmp 63) 25 rfl w.heap.size 77 ia _ 2 32 Try.underlying25 hia za0 za1 za2 rfl (by omega) v3 ats.length (pv (aP ats)) rfl hrow ⟨u2.heap.size, 0, none⟩ 1 1 [.string z, .string zv] rfl rfl (pair_news u2 (.string z, .string zv) _) (by intro u hu; simp at hu; rcases hu with rfl | rfl <;> rfl) (by omega) (by unfold maxLen; omega) (by omega) hbw (u2.heap.size + 1) (by simp) ?_; intro g5 c5 u5 ho5 hg5 hat5 hlt5; have d5 := d2.appA (.cells #[.string z, .string zv] 77) hg5 (.slice (some ⟨g5, 0, none⟩) (ats.length + 1) c5) (ats ++ [(z, zv)]) (by rw [List.length_append, aP_snoc, pv_snoc]; exact ho5); have y5 := d5.x.cell 5; have f5 := d5.x.frozen 5; (simp at y5))
            | fail)
          all_goals (have d6 : DI w (u5.setCell ⟨X, 5, none⟩ (.slice (some ⟨g5, 0, none⟩) (ats.length + 1) c5)) gc sn scap sa zs X N (nms.map Value.string).toArray #[.int .i64 (2 + (x : Int)), .int .i64 1, .int .i64 (1 + (z9 : Int)), (.slice (some ⟨gy, 0, none⟩) m cy), (.slice none 0 0), (.slice (some ⟨g5, 0, none⟩) (ats.length + 1) c5)] (.slice (some ⟨gy, 0, none⟩) m cy) ys (.slice none 0 0) [] (.slice (some ⟨g5, 0, none⟩) (ats.length + 1) c5) (ats ++ [(z, zv)]) := d5.setX 5 _; clear d5 hrow hbw)
          all_goals go_wp2
          all_goals go_roundw
          all_goals first
            | (case rel => (repeat apply Exists.intro); exact ⟨⟨k + 1, _, _, by omega, by go_num, hput.out zv hzv, d6⟩, rfl⟩)
            | (case rel => exact ⟨k + 1, _, _, by omega, by go_num, hput.out zv hzv, d6⟩)
            | (case measure => simp [intOf]; omega)
      · have hki : ¬ (k : Int) < 2 := by omega
        obtain rfl : k = 2 := by omega
        obtain ⟨va3, vc3, rfl⟩ := val_shape dk.t
        obtain ⟨q0, q1, q2, q3, q4, q5⟩ := dk.x.six
        obtain ⟨r0, r1, r2, r3, r4, r5⟩ := dk.res.six
        have f0 := dk.res.frozen 0
        have f1 := dk.res.frozen 1
        have f2 := dk.res.frozen 2
        have f3 := dk.res.frozen 3
        have f4 := dk.res.frozen 4
        have f5 := dk.res.frozen 5
        have HK : Hid _ := dk
        clear dk
        go_wp2
        have kr := HK.out.res
        have zf := (((((kr.set 0 (.int .i64 (2 + (x : Int)))).set 1 (.int .i64 1)).set 2 (.int .i64 (1 + (z9 : Int)))).set 3 (.slice (some ⟨gy, 0, none⟩) m cy)).set 4 (.slice none 0 0)).set 5 (.slice va3 ats.length vc3)
        have dd0 := zf.cell 0
        have dd1 := zf.cell 1
        have dd2 := zf.cell 2
        have dd3 := zf.cell 3
        have dd4 := zf.cell 4
        have dd5 := zf.cell 5
        simp at dd0 dd1 dd2 dd3 dd4 dd5
        refine bodyPost_ret (v := .agg #[.int .i64 (2 + (x : Int)), .int .i64 1, .int .i64 (1 + (z9 : Int)), (.slice (some ⟨gy, 0, none⟩) m cy), (.slice none 0 0), .slice va3 ats.length vc3]) (by simp [results, Try.f68, go_sem, dd0, dd1, dd2, dd3, dd4, dd5]) rfl ?_
        exact drawn_end HK.out ⟨2 + (x : Int), 1, (1 + (z9 : Int)), ys, [], ats⟩ rfl rfl rfl hbz (fin.out ats has) _ _ _ _ _ _
  · obtain rfl : y = 1 := by omega
    rw [show (1 + ((1 : Nat) : Int)) = 2 from rfl] at di0 ⊢
    have x1 := di0.x.cell 1
    simp at x1
    go_wp2
    clear x1
    go_loopw [5] (fun i wr => ∃ (k : Nat) (v2 : Value) (es : List (ByteArray × Int)), k ≤ 4 ∧ i = .int .i64 k ∧ EsI k es ∧ DI w wr gc sn scap sa zs X N (nms.map Value.string).toArray #[.int .i64 (2 + (x : Int)), .int .i64 2, .int .i64 1, (.slice none 0 0), v2, (.slice none 0 0)] (.slice none 0 0) [] v2 es (.slice none 0 0) []) (fun i _ => 4 - (intOf i).toNat)
    case atStart => exact ⟨0, .slice none 0 0, [], by omega, rfl, EsI.nil, di0⟩
    case round =>
      obtain ⟨k, v2, es, hk, rfl, hes, dk⟩ := hrel
      clear di0
      by_cases hk4 : k < 4
      · have hki : (k : Int) < 4 := by omega
        have hk0 : (0 : Int) ≤ (k : Int) := by omega
        go_wp2_with fail
        refine (once_step gc sn scap sa zs 2 wr dk.src (by omega) (by omega)).mono ?_
        rintro e u1 ⟨Bo, rfl, hs1, hg1⟩
        have d1 := dk.cur hs1 hg1
        clear dk hs1 hg1
        cases Bo with
        | false =>
          go_wp2
          go_roundw
          all_goals first
            | (case rel => exact ⟨k + 1, v2, es, by omega, by go_num, hes.skip, d1⟩)
            | (case rel => (repeat apply Exists.intro); exact ⟨⟨k + 1, v2, es, by omega, by go_num, hes.skip, d1⟩, rfl⟩)
            | (case measure => simp [intOf]; omega)
        | true =>
          have hel := hes.len
          obtain ⟨z, hz⟩ : ∃ z, nms.getD k ⟨#[]⟩ = z := ⟨_, rfl⟩
          have hput : Hid (∀ y : Nat, y < 8 → EsI (k + 1) (es ++ [(z, 2 + (y : Int))])) := by rw [← hz]; exact fun y hy => hes.put hk4 _ (by omega) (by omega)
          have HZ : Hid _ := hz
          have n0 := nm_cell d1.nm hk4
          rw [hz] at n0
          have x0 := d1.x.cell 4
          simp at x0
          have hcB := below_step gc sn scap sa zs 8 u1.drew d1.dr.src (by omega) (by omega)
          clear hz
          go_upto_region 10 with fail
          go_region_law (first
            | (go_simp; go_at_call 69; (refine hcB.mono ?_); rintro e u2 ⟨yy, rfl, hyy, hs2, hg2⟩; have hwr : IntKind.i64.wrap (2 + (yy : Int)) = 2 + (yy : Int) := (by rw [IntKind.wrap_i64]; omega); have d2 := d1.dr.cur hs2 hg2; have n2 := nm_cell d2.nm hk4; rw [HZ.out] at n2; have x2 := d2.x.cell 4; (simp at x2); have n3 := nm_cell (d2.nm.alloc (.cells #[.string z, .int .i64 (2 + (yy : Int))] 35)) hk4; rw [HZ.out] at n3; have x3 := (d2.x.alloc (.cells #[.string z, .int .i64 (2 + (yy : Int))] 35)).cell 4; (simp at x3); have hrow := World.ownsRow.alloc d2.e (.cells #[.string z, .int .i64 (2 + (yy : Int))] 35); have hbw : w.heap.size ≤ (u2.alloc (.cells #[.string z, .int .i64 (2 + (yy : Int))] 35)).heap.size := (by simp; have := d2.gr.size; omega); dsimp only)
            | (refine step_append_lies (u2.alloc (.cells #[.string z, .int .i64 (2 + (yy : Int))] 35)) rfl (.tmp 35) (.tmp 44) 24 rfl w.heap.size 35 ie _ 2 24 Try.underlying24 hie ze0 ze1 ze2 rfl (by omega) v2 es.length (pv (eP es)) rfl hrow ⟨u2.heap.size, 0, none⟩ 1 1 [.string z, .int .i64 (2 + (yy : Int))] rfl rfl (pair_news u2 (.string z, .int .i64 (2 + (yy : Int))) _) (by intro u hu; simp at hu; rcases hu with rfl | rfl <;> rfl) (by omega) (by unfold maxLen; omega) (by omega) hbw (u2.heap.size + 1) (by simp) ?_; intro g5 c5 u5 ho5 hg5 hat5 hlt5; have d5 := d2.appE (.cells #[.string z, .int .i64 (2 + (yy : Int))] 35) hg5 (.slice (some ⟨g5, 0, none⟩) (es.length + 1) c5) (es ++ [(z, 2 + (yy : Int))]) (by rw [List.length_append, eP_snoc, pv_snoc]; exact ho5); have y5 := d5.x.cell 4; have f5 := d5.x.frozen 4; (simp at y5))
            | fail)
          all_goals (have d6 : DI w (u5.setCell ⟨X, 4, none⟩ (.slice (some ⟨g5, 0, none⟩) (es.length + 1) c5)) gc sn scap sa zs X N (nms.map Value.string).toArray #[.int .i64 (2 + (x : Int)), .int .i64 2, .int .i64 1, (.slice none 0 0), (.slice (some ⟨g5, 0, none⟩) (es.length + 1) c5), (.slice none 0 0)] (.slice none 0 0) [] (.slice (some ⟨g5, 0, none⟩) (es.length + 1) c5) (es ++ [(z, 2 + (yy : Int))]) (.slice none 0 0) [] := d5.setX 4 _; clear d5 hrow hbw)
          all_goals go_wp2
          all_goals go_roundw
          all_goals first
            | (case rel => (repeat apply Exists.intro); exact ⟨⟨k + 1, _, _, by omega, by go_num, hput.out yy hyy, d6⟩, rfl⟩)
            | (case rel => exact ⟨k + 1, _, _, by omega, by go_num, hput.out yy hyy, d6⟩)
            | (case measure => simp [intOf]; omega)
      · have hki : ¬ (k : Int) < 4 := by omega
        obtain rfl : k = 4 := by omega
        obtain ⟨va2, vc2, rfl⟩ := val_shape dk.e
        have dj := dk
        have hbz : Byt ([] : List Int) := fun z hz => by simp at hz
        have fin : Hid (∀ ats, AsI 2 ats → DrD ⟨2 + (x : Int), 2, 1, [], es, ats⟩) := fun ats ha => ⟨drawn_ok (y := 1) (z := 0) hx (by omega) ha (.inr ⟨rfl, rfl, rfl, hes⟩), hes.nm⟩
        clear dk
        go_wp2
        go_loopw [6] (fun i wr => ∃ (k : Nat) (v3 : Value) (ats : List (ByteArray × ByteArray)), k ≤ 2 ∧ i = .int .i64 k ∧ AsI k ats ∧ DI w wr gc sn scap sa zs X N (nms.map Value.string).toArray #[.int .i64 (2 + (x : Int)), .int .i64 2, .int .i64 1, (.slice none 0 0), (.slice va2 es.length vc2), v3] (.slice none 0 0) [] (.slice va2 es.length vc2) es v3 ats) (fun i _ => 2 - (intOf i).toNat)
        case atStart => exact ⟨0, .slice none 0 0, [], by omega, rfl, AsI.nil, dj⟩
        case round =>
          obtain ⟨k, v3, ats, hk, rfl, has, dk⟩ := hrel
          clear dj
          by_cases hk2 : k < 2
          · have hki : (k : Int) < 2 := by omega
            have hki4 : (k : Int) < 4 := by omega
            have hk0 : (0 : Int) ≤ (k : Int) := by omega
            go_wp2_with fail
            refine (once_step gc sn scap  sa zs 3 wr dk.src (by omega) (by omega)).mono ?_
            rintro e u1 ⟨Bo, rfl, hs1, hg1⟩
            have d1 := dk.cur hs1 hg1
            clear dk hs1 hg1
            cases Bo with
            | false =>
              go_wp2
              go_roundw
              all_goals first
                | (case rel => exact ⟨k + 1, v3, ats, by omega, by go_num, has.skip, d1⟩)
                | (case rel => (repeat apply Exists.intro); exact ⟨⟨k + 1, v3, ats, by omega, by go_num, has.skip, d1⟩, rfl⟩)
                | (case measure => simp [intOf]; omega)
            | true =>
              have hal := has.len
              obtain ⟨z, hz⟩ : ∃ z, nms.getD k ⟨#[]⟩ = z := ⟨_, rfl⟩
              have hput : Hid (∀ y : ByteArray, y.size ≤ 16 → AsI (k + 1) (ats ++ [(z, y)])) := by rw [← hz]; exact fun y hy => has.put (by omega) y hy
              have HZ : Hid _ := hz
              have n0 := nm_cell d1.nm (show k < 4 by omega)
              rw [hz] at n0
              have x0 := d1.x.cell 5
              simp at x0
              have dS := (d1.al (.cells #[.string ⟨#[120]⟩, .string ⟨#[118, 97, 108, 117, 101]⟩, .string ⟨#[115, 105, 120, 116, 101, 101, 110, 98, 121, 116, 101, 115, 120, 120, 120, 120]⟩] 9)).dr
              have n1 := nm_cell dS.nm (show k < 4 by omega)
              rw [hz] at n1
              have x1 := dS.x.cell 5
              simp at x1
              have hgcX : gc < u1.heap.size := d1.src.cur.lt
              have hcS := str_step gc sn scap sa zs u1.heap.size 3 [⟨#[120]⟩, ⟨#[118, 97, 108, 117, 101]⟩, ⟨#[115, 105, 120, 116, 101, 101, 110, 98, 121, 116, 101, 115, 120, 120, 120, 120]⟩] _ dS.src rfl (by omega) (by omega) (by omega) (fun j hj => strs_cells u1 [⟨#[120]⟩, ⟨#[118, 97, 108, 117, 101]⟩, ⟨#[115, 105, 120, 116, 101, 101, 110, 98, 121, 116, 101, 115, 120, 120, 120, 120]⟩] j hj) (by decide)
              clear hz
              go_upto_region 15 with fail
              go_region_law (first
                | (go_simp; go_at_call 105; (with_reducible refine hcS.mono ?_); rintro e u2 ⟨zv, rfl, hzv, hs2, hg2⟩; have d2 := dS.cur hs2 hg2; have n2 := nm_cell d2.nm (show k < 4 by omega); rw [HZ.out] at n2; have x2 := d2.x.cell 5; (simp at x2); have n3 := nm_cell (d2.nm.alloc (.cells #[.string z, .string zv] 77)) (show k < 4 by omega); rw [HZ.out] at n3; have x3 := (d2.x.alloc (.cells #[.string z, .string zv] 77)).cell 5; (simp at x3); have hrow := World.ownsRow.alloc d2.t (.cells #[.string z, .string zv] 77); have hbw : w.heap.size ≤ (u2.alloc (.cells #[.string z, .string zv] 77)).heap.size := (by simp; have := d2.gr.size; omega); dsimp only)
                | (refine step_append_lies (u2.alloc (.cells #[.string z, .string zv] 77)) rfl (.tmp 54) (.tmp 63) 25 rfl w.heap.size 77 ia _ 2 32 Try.underlying25 hia za0 za1 za2 rfl (by omega) v3 ats.length (pv (aP ats)) rfl hrow ⟨u2.heap.size, 0, none⟩ 1 1 [.string z, .string zv] rfl rfl (pair_news u2 (.string z, .string zv) _) (by intro u hu; simp at hu; rcases hu with rfl | rfl <;> rfl) (by omega) (by unfold maxLen; omega) (by omega) hbw (u2.heap.size + 1) (by simp) ?_; intro g5 c5 u5 ho5 hg5 hat5 hlt5; have d5 := d2.appA (.cells #[.string z, .string zv] 77) hg5 (.slice (some ⟨g5, 0, none⟩) (ats.length + 1) c5) (ats ++ [(z, zv)]) (by rw [List.length_append, aP_snoc, pv_snoc]; exact ho5); have y5 := d5.x.cell 5; have f5 := d5.x.frozen 5; (simp at y5))
                | fail)
              all_goals (have d6 : DI w (u5.setCell ⟨X, 5, none⟩ (.slice (some ⟨g5, 0, none⟩) (ats.length + 1) c5)) gc sn scap sa zs X N (nms.map Value.string).toArray #[.int .i64 (2 + (x : Int)), .int .i64 2, .int .i64 1, (.slice none 0 0), (.slice va2 es.length vc2), (.slice (some ⟨g5, 0, none⟩) (ats.length + 1) c5)] (.slice none 0 0) [] (.slice va2 es.length vc2) es (.slice (some ⟨g5, 0, none⟩) (ats.length + 1) c5) (ats ++ [(z, zv)]) := d5.setX 5 _; clear d5 hrow hbw)
              all_goals go_wp2
              all_goals go_roundw
              all_goals first
                | (case rel => (repeat apply Exists.intro); exact ⟨⟨k + 1, _, _, by omega, by go_num, hput.out zv hzv, d6⟩, rfl⟩)
                | (case rel => exact ⟨k + 1, _, _, by omega, by go_num, hput.out zv hzv, d6⟩)
                | (case measure => simp [intOf]; omega)
          · have hki : ¬ (k : Int) < 2 := by omega
            obtain rfl : k = 2 := by omega
            obtain ⟨va3, vc3, rfl⟩ := val_shape dk.t
            obtain ⟨q0, q1, q2, q3, q4, q5⟩ := dk.x.six
            obtain ⟨r0, r1, r2, r3, r4, r5⟩ := dk.res.six
            have f0 := dk.res.frozen 0
            have f1 := dk.res.frozen 1
            have f2 := dk.res.frozen 2
            have f3 := dk.res.frozen 3
            have f4 := dk.res.frozen 4
            have f5 := dk.res.frozen 5
            have HK : Hid _ := dk
            clear dk
            go_wp2
            have kr := HK.out.res
            have zf := (((((kr.set 0 (.int .i64 (2 + (x : Int)))).set 1 (.int .i64 2)).set 2 (.int .i64 1)).set 3 (.slice none 0 0)).set 4 (.slice va2 es.length vc2)).set 5 (.slice va3 ats.length vc3)
            have dd0 := zf.cell 0
            have dd1 := zf.cell 1
            have dd2 := zf.cell 2
            have dd3 := zf.cell 3
            have dd4 := zf.cell 4
            have dd5 := zf.cell 5
            simp at dd0 dd1 dd2 dd3 dd4 dd5
            refine bodyPost_ret (v := .agg #[.int .i64 (2 + (x : Int)), .int .i64 2, .int .i64 1, (.slice none 0 0), (.slice va2 es.length vc2), .slice va3 ats.length vc3]) (by simp [results, Try.f68, go_sem, dd0, dd1, dd2, dd3, dd4, dd5]) rfl ?_
            exact drawn_end HK.out ⟨2 + (x : Int), 2, 1, [], es, ats⟩ rfl rfl rfl hbz (fin.out ats has) _ _ _ _ _ _
end Go.Proofs.Ytnllhpeddoaehaa
