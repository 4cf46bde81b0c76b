/-
  Joined: CopyS, ByNum, AtS.
-/
import Derived.Test.YtfjlemnohjnkhaaGreatJ07F
import Derived.Maps.OwnSet
import Derived.Maps.OwnOps
namespace Go.Proofs.YtfjlemnohjnkhaaGreat
section
open Go.RowKit
/-- What a copy of an inode is: the same data, in lists of the call's own. -/
def CopyPost (w : World) (D : InoD) (e : Ending) (w' : World) : Prop :=
  ∃ (b1 : Option Addr) (d1 : Nat) (b2 : Option Addr) (d2 : Nat) (b3 : Option Addr) (d3 : Nat), e = .returned (.agg #[.int .i64 D.ino, .int .i64 D.kind, .int .i64 D.links, .slice b1 D.data.length d1, .slice b2 D.ents.length d2, .slice b3 D.attrs.length d3]) ∧
    InoG w' w.heap.size w'.heap.size D (.slice b1 D.data.length d1) (.slice b2 D.ents.length d2) (.slice b3 D.attrs.length d3) ∧ Below w.heap.size w w'
/-- Three boxes and what has been copied so far, while an inode is copied. -/
structure CX (w W : World) (xs os : Array Value) : Prop where
  below : Below w.heap.size w W
  x : Blk W w.heap.size 85 xs
  res : Blk W (w.heap.size + 1) 85 #[.int .i64 0, .int .i64 0, .int .i64 0, .slice none 0 0, .slice none 0 0, .slice none 0 0]
  o : Blk W (w.heap.size + 1 + 1) 85 os
theorem CX.keep {w W W' : World} {xs os : Array Value} (h : CX w W xs os) (hb : Below W.heap.size W W') : CX w W' xs os := ⟨h.below.trans (hb.mono h.below.size), h.x.keep hb, h.res.keep hb, h.o.keep hb⟩
theorem CX.set {w W : World} {xs os : Array Value} (h : CX w W xs os) (j : Nat) (v : Value) : CX w (W.setCell ⟨w.heap.size + 1 + 1, j, none⟩ v) xs (os.setIfInBounds j v) :=
  ⟨h.below.setCell (p := ⟨w.heap.size + 1 + 1, j, none⟩) (by simp only; omega) v, h.x.other (by omega) j v, h.res.other (by omega) j v, h.o.set j v⟩
theorem raw_below {B : Nat} {e : TypeId} {w w' : World} {v : Value} {s n : Nat} {xs : List Value} (h : w.ownsRow B e s v n xs) (hb : Below w.heap.size w w') : w'.ownsRow B e s v n xs := by
  refine ⟨h.1, ?_⟩
  rcases h.2 with h' | ⟨g', cap', cur, h', hb', hgg, rest⟩
  · exact .inl h'
  · exact .inr ⟨g', cap', cur, h', hb', (hb.block g' (Array.getElem?_eq_some_iff.1 hgg).1).trans hgg, rest⟩
theorem row_zero' {B : Nat} {w : World} {e : TypeId} {s n : Nat} {v : Value} {xs : List Value} (h : w.ownsRow B e s v n xs) : w.ownsRow 0 e s v n xs := by
  refine ⟨h.1, ?_⟩
  rcases h.2 with h' | ⟨g, cap, cur, h', _, rest⟩
  · exact .inl h'
  · exact .inr ⟨g, cap, cur, h', Nat.zero_le _, rest⟩
theorem KpT.trans' {W W1 W' : World} {ts : List TypeId} (h : KpT W W1 ts) (k : KpT W1 W' ts) : KpT W W' ts := fun B cur t fr hB ht => by
  have e := h B cur t fr hB ht
  rw [k B cur t fr (e.trans hB) ht, e]
theorem KpT6 {W : World} {H : Nat} {xs : Array Value} (h : Blk W H 85 xs) (v0 v1 v2 v3 v4 v5 : Value) : KpT W ((((((W.setCell ⟨H, 0, none⟩ v0).setCell ⟨H, 1, none⟩ v1).setCell ⟨H, 2, none⟩ v2).setCell ⟨H, 3, none⟩ v3).setCell ⟨H, 4, none⟩ v4).setCell ⟨H, 5, none⟩ v5) [5, 88, 90] :=
  (((((KpT.grown (gr_setC _ H 0 v0) h (by decide)).trans' (KpT.grown (gr_setC _ H 1 v1) (h.set 0 v0) (by decide))).trans' (KpT.grown (gr_setC _ H 2 v2) ((h.set 0 v0).set 1 v1) (by decide))).trans' (KpT.grown (gr_setC _ H 3 v3) (((h.set 0 v0).set 1 v1).set 2 v2) (by decide))).trans' (KpT.grown (gr_setC _ H 4 v4) ((((h.set 0 v0).set 1 v1).set 2 v2).set 3 v3) (by decide))).trans' (KpT.grown (gr_setC _ H 5 v5) (((((h.set 0 v0).set 1 v1).set 2 v2).set 3 v3).set 4 v4) (by decide))
set_option maxRecDepth 100000 in
set_option maxHeartbeats 4000000 in
theorem l3Copy_any (D : InoD) (a1 a2 a3 : Option Addr) (c1 c2 c3 : Nat) (w : World) (hsm : InoSmall D) (hr : InoRd w D a1 a2 a3) :
    Calls Tryz.prog 90 #[.agg #[.int .i64 D.ino, .int .i64 D.kind, .int .i64 D.links, .slice a1 D.data.length c1, .slice a2 D.ents.length c2, .slice a3 D.attrs.length c3]] w fun e w' => CopyPost w D e w' := by
  obtain ⟨n1, h1⟩ : ∃ n, D.data.length = n := ⟨_, rfl⟩
  obtain ⟨n2, h2⟩ : ∃ n, D.ents.length = n := ⟨_, rfl⟩
  obtain ⟨n3, h3⟩ : ∃ n, D.attrs.length = n := ⟨_, rfl⟩
  have hp : Hid (∀ (e : Ending) (w' : World) (b1 : Option Addr) (d1 : Nat) (b2 : Option Addr) (d2 : Nat) (b3 : Option Addr) (d3 : Nat), e = .returned (.agg #[.int .i64 D.ino, .int .i64 D.kind, .int .i64 D.links, .slice b1 n1 d1, .slice b2 n2 d2, .slice b3 n3 d3]) → InoG w' w.heap.size w'.heap.size D (.slice b1 n1 d1) (.slice b2 n2 d2) (.slice b3 n3 d3) → Below w.heap.size w w' → CopyPost w D e w') := by
    intro e w' b1 d1 b2 d2 b3 d3 he hg hb
    refine ⟨b1, d1, b2, d2, b3, d3, ?_, ?_, hb⟩
    · rw [h1, h2, h3]; exact he
    · rw [h1, h2, h3]; exact hg
  obtain ⟨r1, rb, r2, r3⟩ := hr
  obtain ⟨s1, s2, s3, _, _⟩ := hsm
  rw [h1] at s1
  rw [h2] at s2
  rw [h3] at s3
  have H1 : Hid (D.data.length = n1 ∧ D.ents.length = n2 ∧ D.attrs.length = n3) := ⟨h1, h2, h3⟩
  rw [h1, h2, h3]
  generalize CopyPost w D = P at hp ⊢
  obtain ⟨i1, hi1⟩ : ∃ n, D.ino = n := ⟨_, rfl⟩
  obtain ⟨i2, hi2⟩ : ∃ n, D.kind = n := ⟨_, rfl⟩
  obtain ⟨i3, hi3⟩ : ∃ n, D.links = n := ⟨_, rfl⟩
  rw [hi1, hi2, hi3] at hp ⊢
  clear h1 h2 h3 hi1 hi2 hi3
  obtain ⟨ie, hie, ze0, ze1, ze2⟩ := info_parts Tryz.infoEnt
  obtain ⟨ia, hia, za0, za1, za2⟩ := info_parts Tryz.infoAttr
  have cx0 : CX w (((w.alloc (.cells #[.int .i64 i1, .int .i64 i2, .int .i64 i3, .slice a1 n1 c1, .slice a2 n2 c2, .slice a3 n3 c3] 85)).alloc (.cells #[.int .i64 0, .int .i64 0, .int .i64 0, .slice none 0 0, .slice none 0 0, .slice none 0 0] 85)).alloc (.cells #[.int .i64 i1, .int .i64 i2, .int .i64 i3, .slice a1 n1 c1, .slice a2 n2 c2, .slice a3 n3 c3] 85)) #[.int .i64 i1, .int .i64 i2, .int .i64 i3, .slice a1 n1 c1, .slice a2 n2 c2, .slice a3 n3 c3] #[.int .i64 i1, .int .i64 i2, .int .i64 i3, .slice a1 n1 c1, .slice a2 n2 c2, .slice a3 n3 c3] := by
    have hz1 : Blk (((w.alloc (.cells #[.int .i64 i1, .int .i64 i2, .int .i64 i3, .slice a1 n1 c1, .slice a2 n2 c2, .slice a3 n3 c3] 85)).alloc (.cells #[.int .i64 0, .int .i64 0, .int .i64 0, .slice none 0 0, .slice none 0 0, .slice none 0 0] 85)).alloc (.cells #[.int .i64 i1, .int .i64 i2, .int .i64 i3, .slice a1 n1 c1, .slice a2 n2 c2, .slice a3 n3 c3] 85)) w.heap.size 85 #[.int .i64 i1, .int .i64 i2, .int .i64 i3, .slice a1 n1 c1, .slice a2 n2 c2, .slice a3 n3 c3] := ((Blk.new w _ _).alloc _).alloc _
    have hz2 := (Blk.new (w.alloc (.cells #[.int .i64 i1, .int .i64 i2, .int .i64 i3, .slice a1 n1 c1, .slice a2 n2 c2, .slice a3 n3 c3] 85)) 85 #[.int .i64 0, .int .i64 0, .int .i64 0, .slice none 0 0, .slice none 0 0, .slice none 0 0]).alloc (.cells #[.int .i64 i1, .int .i64 i2, .int .i64 i3, .slice a1 n1 c1, .slice a2 n2 c2, .slice a3 n3 c3] 85)
    have hz3 := Blk.new ((w.alloc (.cells #[.int .i64 i1, .int .i64 i2, .int .i64 i3, .slice a1 n1 c1, .slice a2 n2 c2, .slice a3 n3 c3] 85)).alloc (.cells #[.int .i64 0, .int .i64 0, .int .i64 0, .slice none 0 0, .slice none 0 0, .slice none 0 0] 85)) 85 #[.int .i64 i1, .int .i64 i2, .int .i64 i3, .slice a1 n1 c1, .slice a2 n2 c2, .slice a3 n3 c3]
    simp only [World.size_alloc] at hz2 hz3
    exact ⟨(((Below.refl _ w).alloc (Nat.le_refl _) _).alloc (by simp) _).alloc (by simp; omega) _, hz1, hz2, hz3⟩
  go_enter Tryz.func90, Tryz.ntmps90
  go_upto_region 2 with fail
  obtain ⟨W0, hW0⟩ : ∃ W, ((w.alloc (.cells #[.int .i64 i1, .int .i64 i2, .int .i64 i3, .slice a1 n1 c1, .slice a2 n2 c2, .slice a3 n3 c3] 85)).alloc (.cells #[.int .i64 0, .int .i64 0, .int .i64 0, .slice none 0 0, .slice none 0 0, .slice none 0 0] 85)).alloc (.cells #[.int .i64 i1, .int .i64 i2, .int .i64 i3, .slice a1 n1 c1, .slice a2 n2 c2, .slice a3 n3 c3] 85) = W := ⟨_, rfl⟩
  rw [hW0] at cx0 ⊢
  clear hW0
  -- list 1
  have bE1 : Below W0.heap.size W0 (W0.alloc (.cells #[] 5)) := (Below.refl _ W0).alloc (Nat.le_refl _) _
  have cxE1 := cx0.keep bE1
  have hf1 := fun ty => fresh_bytes (W0.alloc (.cells #[] 5)) w.heap.size W0.heap.size a1 n1 c1 D.data H1.out.1 (by omega) cx0.below.size (empty_row W0 w.heap.size 5 1 cx0.below.size) (r1.keep cxE1.below) ty
  have x1 := cxE1.x.cell 3
  simp at x1
  have hsz1 := cx0.below.size
  go_upto_region 3 with (at_builtin; refine wpList_fresh (W0.alloc (.cells #[] 5)) rfl (.tmp 5) (.tmp 7) 33 rfl w.heap.size W0.heap.size a1 n1 c1 5 1 (D.data.map (Value.int .u8)) rfl rfl hf1 ?_; intro g1 d1 V1 o1 hB1 hl1 b1; have cxV1 := cxE1.keep b1; have y1 := cxV1.o.cell 3; have f1 := cxV1.o.frozen 3; simp at y1; clear x1)
  have cx1 : CX w (V1.setCell ⟨w.heap.size + 1 + 1, 3, none⟩ (.slice (some ⟨g1, 0, none⟩) n1 d1)) #[.int .i64 i1, .int .i64 i2, .int .i64 i3, .slice a1 n1 c1, .slice a2 n2 c2, .slice a3 n3 c3] #[.int .i64 i1, .int .i64 i2, .int .i64 i3, .slice (some ⟨g1, 0, none⟩) n1 d1, .slice a2 n2 c2, .slice a3 n3 c3] := cxV1.set 3 _
  have bb1 := bE1.trans (b1.mono bE1.size)
  have gs1 := gr_setC V1 (w.heap.size + 1 + 1) 3 (.slice (some ⟨g1, 0, none⟩) n1 d1)
  have hne1 : g1 ≠ w.heap.size + 1 + 1 := fun e => (by subst e; obtain ⟨_, cur, hc⟩ := row_at o1 (g := w.heap.size + 1 + 1) rfl; have := cxV1.o; rw [show V1.heap[w.heap.size + 1 + 1]? = _ from this] at hc; simp at hc)
  have q11 := row_kept o1 gs1 (fun m hm h => by simp [Value.ownBlock] at hm h; omega)
  obtain ⟨W1, hW1⟩ : ∃ W, V1.setCell ⟨w.heap.size + 1 + 1, 3, none⟩ (.slice (some ⟨g1, 0, none⟩) n1 d1) = W := ⟨_, rfl⟩
  rw [hW1] at cx1 q11 ⊢
  have hss1 := bb1.size
  clear hW1 cxV1 cxE1 bE1 y1 f1 hf1 o1 gs1 b1 bb1
  have bE2 : Below W1.heap.size W1 (W1.alloc (.cells #[] 88)) := (Below.refl _ W1).alloc (Nat.le_refl _) _
  have cxE2 := cx1.keep bE2
  have hf2 := fun ty => fresh_pairs (W1.alloc (.cells #[] 88)) w.heap.size W1.heap.size 82 88 ie _ 24 Tryz.underlying82 hie ze0 ze1 ze2 rfl (by omega) a2 n2 c2 (eP D.ents) (by rw [eP_length]; exact H1.out.2.1) (by omega) (eP_one _) cx1.below.size (empty_row W1 w.heap.size 88 2 cx1.below.size) (r2.keep cxE2.below) ty
  have x2 := cxE2.x.cell 4
  simp at x2
  have hsz2 := cx1.below.size
  go_upto_region 4 with (at_builtin; refine wpList_fresh (W1.alloc (.cells #[] 88)) rfl (.tmp 10) (.tmp 12) 82 rfl w.heap.size W1.heap.size a2 n2 c2 88 2 (pv (eP D.ents)) rfl rfl hf2 ?_; intro g2 d2 V2 o2 hB2 hl2 b2; have cxV2 := cxE2.keep b2; have y2 := cxV2.o.cell 4; have f2 := cxV2.o.frozen 4; simp at y2; clear x2)
  have cx2 : CX w (V2.setCell ⟨w.heap.size + 1 + 1, 4, none⟩ (.slice (some ⟨g2, 0, none⟩) n2 d2)) #[.int .i64 i1, .int .i64 i2, .int .i64 i3, .slice a1 n1 c1, .slice a2 n2 c2, .slice a3 n3 c3] #[.int .i64 i1, .int .i64 i2, .int .i64 i3, .slice (some ⟨g1, 0, none⟩) n1 d1, .slice (some ⟨g2, 0, none⟩) n2 d2, .slice a3 n3 c3] := cxV2.set 4 _
  have bb2 := bE2.trans (b2.mono bE2.size)
  have gs2 := gr_setC V2 (w.heap.size + 1 + 1) 4 (.slice (some ⟨g2, 0, none⟩) n2 d2)
  have hne2 : g2 ≠ w.heap.size + 1 + 1 := fun e => (by subst e; obtain ⟨_, cur, hc⟩ := row_at o2 (g := w.heap.size + 1 + 1) rfl; have := cxV2.o; rw [show V2.heap[w.heap.size + 1 + 1]? = _ from this] at hc; simp at hc)
  have q22 := row_kept o2 gs2 (fun m hm h => by simp [Value.ownBlock] at hm h; omega)
  have q12 := row_kept (raw_below q11 bb2) gs2 (fun m hm h => by simp [Value.ownBlock] at hm h; omega)
  obtain ⟨W2, hW2⟩ : ∃ W, V2.setCell ⟨w.heap.size + 1 + 1, 4, none⟩ (.slice (some ⟨g2, 0, none⟩) n2 d2) = W := ⟨_, rfl⟩
  rw [hW2] at cx2 q12 q22 ⊢
  have hss2 := bb2.size
  clear hW2 cxV2 cxE2 bE2 y2 f2 hf2 o2 gs2 b2 bb2
  have bE3 : Below W2.heap.size W2 (W2.alloc (.cells #[] 90)) := (Below.refl _ W2).alloc (Nat.le_refl _) _
  have cxE3 := cx2.keep bE3
  have hf3 := fun ty => fresh_pairs (W2.alloc (.cells #[] 90)) w.heap.size W2.heap.size 83 90 ia _ 32 Tryz.underlying83 hia za0 za1 za2 rfl (by omega) a3 n3 c3 (aP D.attrs) (by rw [aP_length]; exact H1.out.2.2) (by omega) (aP_one _) cx2.below.size (empty_row W2 w.heap.size 90 2 cx2.below.size) (r3.keep cxE3.below) ty
  have x3 := cxE3.x.cell 5
  simp at x3
  have hsz3 := cx2.below.size
  go_upto_region 5 with (at_builtin; refine wpList_fresh (W2.alloc (.cells #[] 90)) rfl (.tmp 15) (.tmp 17) 83 rfl w.heap.size W2.heap.size a3 n3 c3 90 2 (pv (aP D.attrs)) rfl rfl hf3 ?_; intro g3 d3 V3 o3 hB3 hl3 b3; have cxV3 := cxE3.keep b3; have y3 := cxV3.o.cell 5; have f3 := cxV3.o.frozen 5; simp at y3; clear x3)
  have cx3 : CX w (V3.setCell ⟨w.heap.size + 1 + 1, 5, none⟩ (.slice (some ⟨g3, 0, none⟩) n3 d3)) #[.int .i64 i1, .int .i64 i2, .int .i64 i3, .slice a1 n1 c1, .slice a2 n2 c2, .slice a3 n3 c3] #[.int .i64 i1, .int .i64 i2, .int .i64 i3, .slice (some ⟨g1, 0, none⟩) n1 d1, .slice (some ⟨g2, 0, none⟩) n2 d2, .slice (some ⟨g3, 0, none⟩) n3 d3] := cxV3.set 5 _
  have bb3 := bE3.trans (b3.mono bE3.size)
  have gs3 := gr_setC V3 (w.heap.size + 1 + 1) 5 (.slice (some ⟨g3, 0, none⟩) n3 d3)
  have hne3 : g3 ≠ w.heap.size + 1 + 1 := fun e => (by subst e; obtain ⟨_, cur, hc⟩ := row_at o3 (g := w.heap.size + 1 + 1) rfl; have := cxV3.o; rw [show V3.heap[w.heap.size + 1 + 1]? = _ from this] at hc; simp at hc)
  have q33 := row_kept o3 gs3 (fun m hm h => by simp [Value.ownBlock] at hm h; omega)
  have q13 := row_kept (raw_below q12 bb3) gs3 (fun m hm h => by simp [Value.ownBlock] at hm h; omega)
  have q23 := row_kept (raw_below q22 bb3) gs3 (fun m hm h => by simp [Value.ownBlock] at hm h; omega)
  obtain ⟨W3, hW3⟩ : ∃ W, V3.setCell ⟨w.heap.size + 1 + 1, 5, none⟩ (.slice (some ⟨g3, 0, none⟩) n3 d3) = W := ⟨_, rfl⟩
  rw [hW3] at cx3 q13 q23 q33 ⊢
  have hss3 := bb3.size
  clear hW3 cxV3 cxE3 bE3 y3 f3 hf3 o3 gs3 b3 bb3
  obtain ⟨x0, x1, x2, x3, x4, x5⟩ := cx3.o.six
  obtain ⟨t0, t1, t2, t3, t4, t5⟩ := cx3.res.six
  have fz0 := cx3.res.frozen 0
  have fz1 := cx3.res.frozen 1
  have fz2 := cx3.res.frozen 2
  have fz3 := cx3.res.frozen 3
  have fz4 := cx3.res.frozen 4
  have fz5 := cx3.res.frozen 5
  have HG : Hid _ := cx3
  have HQ : Hid _ := And.intro q13 (And.intro q23 q33)
  have hl33 : g1 < W3.heap.size ∧ g2 < W3.heap.size ∧ g3 < W3.heap.size := ⟨(World.ownsRow.lt q13 g1 rfl).2, (World.ownsRow.lt q23 g2 rfl).2, (World.ownsRow.lt q33 g3 rfl).2⟩
  clear cx0 cx1 cx2 cx3 q11 q12 q22 q13 q23 q33 hie ze0 ze1 ze2 hia za0 za1 za2 r1 r2 r3
  go_wp2
  have zf := (((((HG.out.res.set 0 (.int .i64 i1)).set 1 (.int .i64 i2)).set 2 (.int .i64 i3)).set 3 (.slice (some ⟨g1, 0, none⟩) n1 d1)).set 4 (.slice (some ⟨g2, 0, none⟩) n2 d2)).set 5 (.slice (some ⟨g3, 0, none⟩) n3 d3)
  have dd0 := zf.cell 0
  have dd1 := zf.cell 1
  have dd2 := zf.cell 2
  have dd3 := zf.cell 3
  have dd4 := zf.cell 4
  have dd5 := zf.cell 5
  simp at dd0 dd1 dd2 dd3 dd4 dd5
  refine bodyPost_ret (v := .agg #[.int .i64 i1, .int .i64 i2, .int .i64 i3, .slice (some ⟨g1, 0, none⟩) n1 d1, .slice (some ⟨g2, 0, none⟩) n2 d2, .slice (some ⟨g3, 0, none⟩) n3 d3]) (by simp [results, Tryz.f90, go_sem, dd0, dd1, dd2, dd3, dd4, dd5]) rfl ?_
  have kF := KpT6 HG.out.res (.int .i64 i1) (.int .i64 i2) (.int .i64 i3) (.slice (some ⟨g1, 0, none⟩) n1 d1) (.slice (some ⟨g2, 0, none⟩) n2 d2) (.slice (some ⟨g3, 0, none⟩) n3 d3)
  have u1 := row_kp HQ.out.1 kF (by decide)
  have u2 := row_kp HQ.out.2.1 kF (by decide)
  have u3 := row_kp HQ.out.2.2 kF (by decide)
  refine hp.out _ _ _ _ _ _ _ _ rfl ⟨by rw [H1.out.1]; exact row_zero' u1, rb, by rw [H1.out.2.1]; exact row_zero' u2, by rw [H1.out.2.2]; exact row_zero' u3, ?_⟩ ?_
  · intro m hm
    simp [Value.ownBlock] at hm
    simp only [World.setCell, Array.size_modify]
    omega
  · exact ((((((HG.out.below.setCell (p := ⟨w.heap.size + 1, 0, none⟩) (by simp only; omega) _).setCell (p := ⟨w.heap.size + 1, 1, none⟩) (by simp only; omega) _).setCell (p := ⟨w.heap.size + 1, 2, none⟩) (by simp only; omega) _).setCell (p := ⟨w.heap.size + 1, 3, none⟩) (by simp only; omega) _).setCell (p := ⟨w.heap.size + 1, 4, none⟩) (by simp only; omega) _).setCell (p := ⟨w.heap.size + 1, 5, none⟩) (by simp only; omega) _)
end

section
open Go.RowKit Go.Maps
/-- Where the first one stands. -/
def firstAt (xs : List Int) (x : Int) : Option Nat := xs.findIdx? (fun z => z == x)
theorem firstAt_snoc (xs : List Int) (y x : Int) : firstAt (xs ++ [y]) x = (firstAt xs x).or (if y = x then some xs.length else none) := by
  unfold firstAt
  rw [List.findIdx?_append]
  congr 1
  by_cases h : y = x
  · simp [h, List.findIdx?_cons]
  · simp [h, List.findIdx?_cons]
/-- The map tells of each number where the first one stands. -/
def MapIs (D : DataW Unit) (xs : List Int) : Prop :=
  IsMap D ∧ ∀ x : Int, Maps.has D (.int .i64 x) = (firstAt xs x).isSome ∧ ∀ i, firstAt xs x = some i → D.atKey (.int .i64 x) (.lit (.int .i64 0)) = .lit (.int .i64 (i : Int))
theorem mapIs_nil : MapIs (.map []) [] := ⟨isMap_empty, fun x => ⟨rfl, fun i hi => by simp [firstAt] at hi⟩⟩
theorem mapIs_old {D : DataW Unit} {xs : List Int} (h : MapIs D xs) {y : Int} (hy : Maps.has D (.int .i64 y) = true) : MapIs D (xs ++ [y]) := by
  refine ⟨h.1, fun x => ?_⟩
  obtain ⟨h1, h2⟩ := h.2 x
  rw [firstAt_snoc]
  by_cases e : y = x
  · subst e
    rw [(h.2 y).1] at hy
    obtain ⟨i, hi⟩ := Option.isSome_iff_exists.1 hy
    rw [hi] at h1 ⊢
    exact ⟨h1, fun j hj => h2 j (by rw [hi]; simpa using hj)⟩
  · rw [if_neg e, Option.or_none]
    exact ⟨h1, h2⟩
theorem mapIs_new {D : DataW Unit} {xs : List Int} (h : MapIs D xs) {y : Int} (hy : Maps.has D (.int .i64 y) = false) : MapIs (D.put (.int .i64 y) (.lit (.int .i64 (xs.length : Int)))) (xs ++ [y]) := by
  refine ⟨h.1.put _ _, fun x => ?_⟩
  obtain ⟨h1, h2⟩ := h.2 x
  rw [firstAt_snoc]
  by_cases e : y = x
  · subst e
    rw [(h.2 y).1] at hy
    have hn : firstAt xs y = none := by simpa using hy
    rw [hn, if_pos rfl, has_put_same h.1 (show WideAt.IsKeyLit (.int .i64 y) from trivial), atKey_put_same h.1 (show WideAt.IsKeyLit (.int .i64 y) from trivial)]
    exact ⟨rfl, fun i hi => by simp at hi; rw [hi]⟩
  · rw [if_neg e, Option.or_none, has_put_other (by simp; exact fun h => e h.symm), atKey_put_other (by simp; exact fun h => e h.symm)]
    exact ⟨h1, h2⟩
def inos (rs : List InoR) : List Int := rs.map fun r => r.D.ino
theorem inos_take (rs : List InoR) (k : Nat) (r : InoR) (h : rs[k]? = some r) : inos (rs.take (k + 1)) = inos (rs.take k) ++ [r.D.ino] := by
  unfold inos
  rw [List.take_add_one, h]
  simp
theorem inos_len (rs : List InoR) (k : Nat) (h : k ≤ rs.length) : (inos (rs.take k)).length = k := by simp [inos]; omega
theorem Tryz.keyInt : Keyed Tryz.prog 3 := int_keyed Tryz.underlying3
theorem Tryz.zeroInt (w : World) : (zeroValue 3).run Tryz.prog w = .ok (.int .i64 0) w := by kernel_rfl
theorem Tryz.makeHint (n : Int) (w : World) : (Instr.makeMap 159 (some (.int .i64 n))).run Tryz.prog w = .ok (.map (some w.heap.size)) (w.alloc (.map #[] 0)) := by
  simp [Instr.makeMap, run_underlying Tryz.underlying159, asInt, asIntOf, Result.andThen]
/-- What byNumber answers. -/
def ByPost (w : World) (n : Nat) (rs : List InoR) (e : Ending) (w' : World) : Prop :=
  ∃ (cnt : Nat) (D : DataW Unit), e = .returned (.map (some (w.heap.size + 1))) ∧ cnt ≤ n ∧ MapIs D (inos rs) ∧ w'.ownsMap Tryz.prog 3 (plainElem Tryz.prog 3) (w.heap.size + 1) cnt D ∧ Below w.heap.size w w'
set_option maxRecDepth 100000 in
set_option maxHeartbeats 1600000 in
theorem byNumber_any (a : Option Addr) (n cap : Nat) (nx : Int) (rs : List InoR) (w : World) (hn : rs.length = n) (hs : n ≤ 4000000) (hwf : ∀ r ∈ rs, (Lit.int .i64 r.D.ino).wf = true) (hr : RdI w a rs) :
    Calls Tryz.prog 126 #[.agg #[.slice a n cap, .int .i64 nx]] w fun e w' => ByPost w n rs e w' := by
  have hmm := Tryz.makeHint
  have B0 : Below w.heap.size w (w.alloc (.cells #[.slice a n cap, .int .i64 nx] 47)) := (Below.refl _ w).alloc (Nat.le_refl _) _
  have hs0 : (w.alloc (.cells #[.slice a n cap, .int .i64 nx] 47)).heap.size = w.heap.size + 1 := by simp
  by_cases h0 : n = 0
  · subst h0
    obtain rfl : rs = [] := List.length_eq_zero_iff.1 hn
    have z0 := Blk.new w 47 #[.slice a 0 cap, .int .i64 nx]
    have hown := World.ownsMap_made (H := Unit) (w.alloc (.cells #[.slice a 0 cap, .int .i64 nx] 47)) Tryz.prog 3 (plainElem Tryz.prog 3)
    rw [hs0] at hown
    go_enter Tryz.func126, Tryz.ntmps126
    go_wp2
    refine wp_loop_rounds 1 ?_; rw [rounds_succ]
    go_wp2
    go_ret
    exact ⟨0, _, rfl, Nat.le_refl _, mapIs_nil, hown, B0.alloc (by simp) _⟩
  · obtain ⟨b, off, rfl, hlt, hc⟩ := hr.lt (by intro h; subst h; simp at hn; omega)
    have hown := World.ownsMap_made (H := Unit) (w.alloc (.cells #[.slice (some ⟨b, off, none⟩) n cap, .int .i64 nx] 47)) Tryz.prog 3 (plainElem Tryz.prog 3)
    rw [hs0] at hown
    have hn' : Hid (rs.length = n) := hn
    have HC : Hid _ := hc
    have HW : Hid _ := hwf
    clear hr hn hc hwf
    go_enter Tryz.func126, Tryz.ntmps126
    go_wp2
    go_loopw [15] (fun i wr => ∃ (k cnt : Nat) (D : DataW Unit), k ≤ n ∧ i = .int .i64 k ∧ cnt ≤ k ∧ Hid (MapIs D (inos (rs.take k))) ∧ wr.ownsMap Tryz.prog 3 (plainElem Tryz.prog 3) (w.heap.size + 1) cnt D ∧ Below w.heap.size w wr) (fun i _ => n - (intOf i).toNat)
    case atStart => exact ⟨0, 0, _, Nat.zero_le _, rfl, Nat.le_refl _, mapIs_nil, hown, B0.alloc (by simp) _⟩
    case round =>
      obtain ⟨k, cnt, D, hk, rfl, hcnt, hM, ho, hB⟩ := hrel
      by_cases hkn : k < n
      · have hki : (k : Int) < (n : Int) := by omega
        obtain ⟨r, hrk⟩ : ∃ r, rs[k]? = some r := ⟨_, List.getElem?_eq_getElem (by rw [hn'.out]; exact hkn)⟩
        obtain ⟨x6, _⟩ := HC.out k r hrk
        have hw1 := HW.out r (List.mem_of_getElem? hrk)
        have hit := inos_take rs k r hrk
        have hil := inos_len rs k (by rw [hn'.out]; exact hk)
        obtain ⟨x0, x1, x2, x3, x4, x5⟩ := x6.keep hB hlt
        generalize r.D.ino = i1 at x0 hw1 hit
        generalize r.D.kind = i2 at x1
        generalize r.D.links = i3 at x2
        generalize r.D.data.length = n1 at x3
        generalize r.D.ents.length = n2 at x4
        generalize r.D.attrs.length = n3 at x5
        have HIT : Hid _ := hit
        have hwz := hB.size
        have hkey : keyOf Tryz.prog 3 (.int .i64 i1) = some (.int .i64 i1) := keyOf_int_mk Tryz.underlying3 hw1
        have hwk : (Lit.int .i64 (k : Int)).wf = true := WalkArith.wf_i64 (by omega)
        have hoA := ho.alloc (.cells #[.int .i64 i1, .int .i64 i2, .int .i64 i3, .slice r.a1 n1 r.c1, .slice r.a2 n2 r.c2, .slice r.a3 n3 r.c3] 85)
        have hBA := hB.alloc hwz (.cells #[.int .i64 i1, .int .i64 i2, .int .i64 i3, .slice r.a1 n1 r.c1, .slice r.a2 n2 r.c2, .slice r.a3 n3 r.c3] 85)
        have HO : Hid _ := ho
        clear hit x6 hrk ho
        cases hhas : Maps.has D (.int .i64 i1) with
        | true =>
          have hM' : Hid (MapIs D (inos (rs.take (k + 1)))) := by rw [HIT.out]; exact mapIs_old hM.out hhas
          go_wp2_with (first
            | (at_lookup; refine wpList_lookup_own_ok_int _ rfl _ _ 159 rfl 3 3 .i64 Tryz.keyInt Tryz.underlying159 Tryz.underlying3 (Tryz.zeroInt _) (w.heap.size + 1) cnt D rfl hoA _ _ rfl hkey ?_; intro c hat hwc; rw [hhas])
            | go_in)
          go_roundw
          case rel => exact ⟨k + 1, cnt, D, by omega, by go_num, by omega, hM', hoA, hBA⟩
          case measure => simp [intOf]; omega
        | false =>
          have hM' : Hid (MapIs (D.put (.int .i64 i1) (.lit (.int .i64 (k : Int)))) (inos (rs.take (k + 1)))) := by
            have := mapIs_new hM.out hhas
            rw [hil] at this
            rw [HIT.out]
            exact this
          go_wp2_with (first
            | (at_lookup; refine wpList_lookup_own_ok_int _ rfl _ _ 159 rfl 3 3 .i64 Tryz.keyInt Tryz.underlying159 Tryz.underlying3 (Tryz.zeroInt _) (w.heap.size + 1) cnt D rfl hoA _ _ rfl hkey ?_; intro c hat hwc; rw [hhas])
            | (at_mapUpdate; refine wpList_mapUpdate_own _ rfl _ _ _ 159 rfl 3 3 Tryz.keyInt Tryz.underlying159 _ (w.heap.size + 1) cnt D rfl hoA (by unfold maxLen; omega) _ _ _ rfl rfl hkey _ [] (plainElem_int Tryz.underlying3 hwk) ?_; intro w1 hown1 hgrow1)
            | go_in)
          go_roundw
          case rel => exact ⟨k + 1, cnt + 1, _, by omega, by go_num, by omega, hM', hown1, hBA.grown hgrow1 hBA.size (fun j hj => by cases hj; omega)⟩
          case measure => simp [intOf]; omega
      · have hki : ¬ (k : Int) < (n : Int) := by omega
        have hM' := hM.out
        rw [List.take_of_length_le (by rw [hn'.out]; omega)] at hM'
        have HM' : Hid _ := hM'
        clear hM'
        go_wp2
        go_ret
        exact ⟨cnt, D, rfl, by omega, HM'.out, ho, hB⟩
end

section
open Go.RowKit
theorem inos_cnt (rs : List InoR) : (inos rs).length = rs.length := by simp [inos]
theorem firstAt_in {rs : List InoR} {x : Int} {p : Nat} (h : firstAt (inos rs) x = some p) : p < rs.length := by
  unfold firstAt at h
  have := (List.findIdx?_eq_some_iff_getElem.1 h).1
  rw [inos_cnt] at this
  exact this
theorem firstAt_is {xs : List Int} {x : Int} {k : Nat} (h : ∀ j, j < k → xs[j]? ≠ some x) (hk : xs[k]? = some x) : firstAt xs x = some k := by
  unfold firstAt
  obtain ⟨hl, he⟩ := List.getElem?_eq_some_iff.1 hk
  refine List.findIdx?_eq_some_iff_getElem.2 ⟨hl, by simp [he], fun j hj => ?_⟩
  have := h j hj
  rw [List.getElem?_eq_getElem (by omega)] at this
  simpa using this
theorem firstAt_no {xs : List Int} {x : Int} (h : ∀ j, j < xs.length → xs[j]? ≠ some x) : firstAt xs x = none := by
  unfold firstAt
  rw [List.findIdx?_eq_none_iff]
  intro y hy
  obtain ⟨j, hj, rfl⟩ := List.getElem_of_mem hy
  have := h j hj
  rw [List.getElem?_eq_getElem hj] at this
  simpa using this
/-- The place of the first inode of this number; -1. -/
def atN (rs : List InoR) (x : Int) : Int := match firstAt (inos rs) x with | some p => (p : Int) | none => -1
theorem inos_is {rs : List InoR} {k : Nat} {r : InoR} (h : rs[k]? = some r) : (inos rs)[k]? = some r.D.ino := by simp [inos, h]
/-- The inode that stands there, and whether one does. -/
def atD (rs : List InoR) (x : Int) : InoD := match firstAt (inos rs) x with | some p => (rs.getD p inoZ).D | none => inoZ.D
def atB (rs : List InoR) (x : Int) : Bool := (firstAt (inos rs) x).isSome
/-- What both InodeAt functions answer. -/
def AtPost (w : World) (rs : List InoR) (x : Int) (e : Ending) (w' : World) : Prop :=
  ∃ (b1 : Option Addr) (d1 : Nat) (b2 : Option Addr) (d2 : Nat) (b3 : Option Addr) (d3 : Nat), e = .returned (.tuple #[.agg #[.int .i64 (atD rs x).ino, .int .i64 (atD rs x).kind, .int .i64 (atD rs x).links, .slice b1 (atD rs x).data.length d1, .slice b2 (atD rs x).ents.length d2, .slice b3 (atD rs x).attrs.length d3], .bool (atB rs x)]) ∧
    InoG w' w.heap.size w'.heap.size (atD rs x) (.slice b1 (atD rs x).data.length d1) (.slice b2 (atD rs x).ents.length d2) (.slice b3 (atD rs x).attrs.length d3) ∧ Below w.heap.size w w'
set_option maxRecDepth 100000 in
set_option maxHeartbeats 2000000 in
theorem l4At_any (a : Option Addr) (n cap : Nat) (nx x : Int) (rs : List InoR) (w : World) (hn : rs.length = n) (hs : n ≤ 4000000) (hr : RdI w a rs) :
    Calls Tryz.prog 45 #[.agg #[.slice a n cap, .int .i64 nx], .int .i64 x] w fun e w' => e = .returned (.int .i64 (atN rs x)) ∧ Below w.heap.size w w' := by
  have B0 : Below w.heap.size w (w.alloc (.cells #[.slice a n cap, .int .i64 nx] 47)) := (Below.refl _ w).alloc (Nat.le_refl _) _
  have HB : Hid _ := B0
  have HR : Hid _ := hr.keep B0
  have hn' : Hid (rs.length = n) := hn
  have hR : Hid (∀ (k : Nat) (r : InoR), (∀ j, j < k → (inos rs)[j]? ≠ some x) → rs[k]? = some r → r.D.ino = x → (k : Int) = atN rs x) := by
    intro k r h hk he
    unfold atN
    rw [firstAt_is h (by rw [inos_is hk, he])]
  have hE : Hid ((∀ j, j < n → (inos rs)[j]? ≠ some x) → (-1 : Int) = atN rs x) := by
    intro h
    unfold atN
    rw [firstAt_no (fun j hj => h j (by rw [inos_cnt, hn] at hj; exact hj))]
  generalize atN rs x = R at hR hE ⊢
  clear hr hn B0
  go_enter Tryz.func45, Tryz.ntmps45
  go_wp2
  go_loop [5] (fun i => ∃ k : Nat, k ≤ n ∧ i = .int .i64 k ∧ Hid (∀ j, j < k → (inos rs)[j]? ≠ some x)) (fun i => n - (intOf i).toNat)
  case atStart => exact ⟨0, Nat.zero_le _, rfl, fun j hj => by omega⟩
  case round =>
    obtain ⟨k, hk, rfl, hall⟩ := hrel
    by_cases hkn : k < n
    · have hki : (k : Int) < (n : Int) := by omega
      obtain ⟨r, hrk⟩ : ∃ r, rs[k]? = some r := ⟨_, List.getElem?_eq_getElem (by rw [hn'.out]; exact hkn)⟩
      obtain ⟨b, off, rfl, hlt, hc⟩ := RdI.lt HR.out (by intro h; have := hn'.out; rw [h] at this; simp at this; omega)
      have x0 := (hc k r hrk).1.c0
      have hyes : Hid (r.D.ino = x → (k : Int) = R) := fun he => hR.out k r hall.out hrk he
      have hno : Hid (r.D.ino ≠ x → ∀ j, j < k + 1 → (inos rs)[j]? ≠ some x) := by
        intro he j hj
        rcases (show j < k ∨ j = k by omega) with h | rfl
        · exact hall.out j h
        · rw [inos_is hrk]
          simpa using he
      generalize r.D.ino = i1 at x0 hyes hno
      clear hc hrk hall hR hE HR
      by_cases he : i1 = x
      · have hb : (i1 == x) = true := by simp [he]
        have hend : Hid ((k : Int) = R) := hyes.out he
        subst he
        clear hyes hno
        go_wp2
        go_ret
        exact ⟨ret_int hend.out, HB.out⟩
      · have hb : (i1 == x) = false := by simp [he]
        have hnx : Hid _ := hno.out he
        clear hyes hno
        go_wp2
        go_round
        case rel => exact ⟨k + 1, by omega, by go_num, hnx⟩
        case measure => simp [intOf]; omega
    · have hki : ¬ (k : Int) < (n : Int) := by omega
      have hend : Hid ((-1 : Int) = R) := hE.out (fun j hj => hall.out j (by omega))
      clear hR hE HR hall
      go_wp2
      go_ret
      exact ⟨ret_int hend.out, HB.out⟩
end
end Go.Proofs.YtfjlemnohjnkhaaGreat
