/-
  Inodes of the laws: copied, compared.
-/
import Derived.Test.YtfjlemnohjnkhaaRows
import Derived.Test.YtfjlemnohjnkhaaBase
import Derived.Test.YtfjlemnohjnkhaaMark
import Derived.Test.YtfjlemnohjnkhaaName
import Derived.Test.YtfjlemnohjnkhaaPairs
import Derived.WalkKit
import Derived.WalkSpells
import Derived.WalkLawsBesides
import Derived.Deep.QuietTactic
import Derived.BigQuiet
import Derived.OpenShut
import Derived.Laws.BitsAllLaws
import Derived.Maps.AppendAt
import Derived.Lib.SliceRun
import Derived.Lib.Strings
import Derived.Deep.RegionWith
import Derived.Laws.IdiomStrings
import Derived.Deep.Slices
namespace Go.Proofs.Ytfjlemnohjnkhaa
open Go.RowKit
/-- What an inode tells. -/
structure InoD where
  ino : Int
  kind : Int
  links : Int
  data : List Int
  ents : List (ByteArray × Int)
  attrs : List (ByteArray × ByteArray)
/-- An inode as a value: the slices lead to a1, a2, a3. -/
def inoV (D : InoD) (a1 : Option Addr) (c1 : Nat) (a2 : Option Addr) (c2 : Nat) (a3 : Option Addr) (c3 : Nat) : Value :=
  .agg #[.int .i64 D.ino, .int .i64 D.kind, .int .i64 D.links, .slice a1 D.data.length c1, .slice a2 D.ents.length c2, .slice a3 D.attrs.length c3]
/-- The inode's lists can be read. -/
structure InoRd (w : World) (D : InoD) (a1 a2 a3 : Option Addr) : Prop where
  data : Rd w a1 D.data
  byt : Byt D.data
  ents : RdP w a2 (eP D.ents)
  attrs : RdP w a3 (aP D.attrs)
theorem InoRd.keep {w w' : World} {D : InoD} {a1 a2 a3 : Option Addr} (h : InoRd w D a1 a2 a3) (hb : Below w.heap.size w w') : InoRd w' D a1 a2 a3 :=
  ⟨h.data.keep hb, h.byt, h.ents.keep hb, h.attrs.keep hb⟩
/-- The inode's lists are rows of the call's own. -/
structure InoOwn (w : World) (D : InoD) (g1 c1 g2 c2 g3 c3 : Nat) : Prop where
  data : Own w g1 D.data.length c1 D.data
  byt : Byt D.data
  ents : OwnP 78 w g2 D.ents.length c2 (eP D.ents)
  attrs : OwnP 80 w g3 D.attrs.length c3 (aP D.attrs)
theorem InoOwn.rd {w : World} {D : InoD} {g1 c1 g2 c2 g3 c3 : Nat} (h : InoOwn w D g1 c1 g2 c2 g3 c3) : InoRd w D (some ⟨g1, 0, none⟩) (some ⟨g2, 0, none⟩) (some ⟨g3, 0, none⟩) :=
  ⟨h.data.rd, h.byt, h.ents.rd, h.attrs.rd⟩
theorem InoOwn.keep {w w' : World} {D : InoD} {g1 c1 g2 c2 g3 c3 : Nat} (h : InoOwn w D g1 c1 g2 c2 g3 c3) (hb : Below w.heap.size w w') : InoOwn w' D g1 c1 g2 c2 g3 c3 :=
  ⟨h.data.keep hb h.data.lt, h.byt, h.ents.keep hb, h.attrs.keep hb⟩
theorem size_setC (w : World) (a : Addr) (v : Value) : (w.setCell a v).heap.size = w.heap.size := by simp [World.setCell]
theorem gr_setC (w : World) (gc j : Nat) (v : Value) : w.grownBy (w.setCell ⟨gc, j, none⟩ v) (some gc) :=
  ⟨rfl, rfl, rfl, by simp [World.setCell], fun k _ hk => heap_setCell_other w ⟨gc, j, none⟩ k v (fun e => hk (by simp [e]))⟩
set_option maxHeartbeats 1600000 in
theorem toInode_any (D : InoD) (a1 a2 a3 : Option Addr) (c1 c2 c3 : Nat) (w : World) (h1 : D.data.length ≤ 1048576) (h2 : D.ents.length ≤ 1048576) (h3 : D.attrs.length ≤ 1048576) (hr : InoRd w D a1 a2 a3) :
    Calls Try.prog 58 #[inoV D a1 c1 a2 c2 a3 c3] w fun e w' => ∃ g1 g2 g3 : Nat, e = .returned (inoV D (some ⟨g1, 0, none⟩) D.data.length (some ⟨g2, 0, none⟩) D.ents.length (some ⟨g3, 0, none⟩) D.attrs.length) ∧ w.heap.size ≤ g1 ∧ g1 < g2 ∧ g2 < g3 ∧ InoOwn w' D g1 D.data.length g2 D.ents.length g3 D.attrs.length ∧ Below w.heap.size w w' := by
  obtain ⟨ino, kind, links, data, ents, attrs⟩ := D
  obtain ⟨n1, hn1⟩ : ∃ n, data.length = n := ⟨_, rfl⟩
  obtain ⟨n2, hn2⟩ : ∃ n, ents.length = n := ⟨_, rfl⟩
  obtain ⟨n3, hn3⟩ : ∃ n, attrs.length = n := ⟨_, rfl⟩
  dsimp only at h1 h2 h3
  unfold inoV
  dsimp only
  rw [hn1] at h1
  rw [hn2] at h2
  rw [hn3] at h3
  simp only [hn1, hn2, hn3]
  have k1 : Hid (data.length = n1) := hn1
  have k2 : Hid (ents.length = n2) := hn2
  have k3 : Hid (attrs.length = n3) := hn3
  clear hn1 hn2 hn3
  obtain ⟨r1, r2, r3, r4⟩ := hr
  dsimp only at r1 r2 r3 r4
  go_enter Try.func58, Try.ntmps58
  go_wp2_with fail
  have z0 : Blk (((w.alloc (.cells #[.int .i64 ino, .int .i64 kind, .int .i64 links, .slice a1 n1 c1, .slice a2 n2 c2, .slice a3 n3 c3] 89)).alloc (.cells #[.int .i64 0, .int .i64 0, .int .i64 0, .slice none 0 0, .slice none 0 0, .slice none 0 0] 66)).alloc (.cells #[.int .i64 ino, .int .i64 kind, .int .i64 links, .slice none 0 0, .slice none 0 0, .slice none 0 0] 66)) w.heap.size 89 #[.int .i64 ino, .int .i64 kind, .int .i64 links, .slice a1 n1 c1, .slice a2 n2 c2, .slice a3 n3 c3] := ((Blk.new w 89 _).alloc _).alloc _
  have z1 := (Blk.new (w.alloc (.cells #[.int .i64 ino, .int .i64 kind, .int .i64 links, .slice a1 n1 c1, .slice a2 n2 c2, .slice a3 n3 c3] 89)) 66 #[.int .i64 0, .int .i64 0, .int .i64 0, .slice none 0 0, .slice none 0 0, .slice none 0 0]).alloc (.cells #[.int .i64 ino, .int .i64 kind, .int .i64 links, .slice none 0 0, .slice none 0 0, .slice none 0 0] 66)
  have z2 := Blk.new ((w.alloc (.cells #[.int .i64 ino, .int .i64 kind, .int .i64 links, .slice a1 n1 c1, .slice a2 n2 c2, .slice a3 n3 c3] 89)).alloc (.cells #[.int .i64 0, .int .i64 0, .int .i64 0, .slice none 0 0, .slice none 0 0, .slice none 0 0] 66)) 66 #[.int .i64 ino, .int .i64 kind, .int .i64 links, .slice none 0 0, .slice none 0 0, .slice none 0 0]
  simp only [World.size_alloc] at z1 z2
  have hB0 : Below w.heap.size w (((w.alloc (.cells #[.int .i64 ino, .int .i64 kind, .int .i64 links, .slice a1 n1 c1, .slice a2 n2 c2, .slice a3 n3 c3] 89)).alloc (.cells #[.int .i64 0, .int .i64 0, .int .i64 0, .slice none 0 0, .slice none 0 0, .slice none 0 0] 66)).alloc (.cells #[.int .i64 ino, .int .i64 kind, .int .i64 links, .slice none 0 0, .slice none 0 0, .slice none 0 0] 66)) := (((Below.refl _ w).alloc (Nat.le_refl _) _).alloc (by simp) _).alloc (by simp; omega) _
  have hs0 : (((w.alloc (.cells #[.int .i64 ino, .int .i64 kind, .int .i64 links, .slice a1 n1 c1, .slice a2 n2 c2, .slice a3 n3 c3] 89)).alloc (.cells #[.int .i64 0, .int .i64 0, .int .i64 0, .slice none 0 0, .slice none 0 0, .slice none 0 0] 66)).alloc (.cells #[.int .i64 ino, .int .i64 kind, .int .i64 links, .slice none 0 0, .slice none 0 0, .slice none 0 0] 66)).heap.size = w.heap.size + 1 + 1 + 1 := by simp
  obtain ⟨W0, hW0⟩ : ∃ W0, (((w.alloc (.cells #[.int .i64 ino, .int .i64 kind, .int .i64 links, .slice a1 n1 c1, .slice a2 n2 c2, .slice a3 n3 c3] 89)).alloc (.cells #[.int .i64 0, .int .i64 0, .int .i64 0, .slice none 0 0, .slice none 0 0, .slice none 0 0] 66)).alloc (.cells #[.int .i64 ino, .int .i64 kind, .int .i64 links, .slice none 0 0, .slice none 0 0, .slice none 0 0] 66)) = W0 := ⟨_, rfl⟩
  rw [hW0] at z0 z1 z2 hB0 hs0 ⊢
  clear hW0
  refine (toByteS_any a1 n1 c1 data W0 k1.out h1 (r1.keep hB0)).mono ?_
  rintro e w1 ⟨rfl, o1, b1⟩
  rw [hs0] at o1 ⊢
  have hs1 := o1.lt
  have y0 := z0.keep b1
  have y1 := z1.keep b1
  have y2 := z2.keep b1
  have x0 := y0.cell 4
  have x2 := y2.cell 3
  have f2 := y2.frozen 3
  have B1 : Below w.heap.size w (w1.setCell ⟨w.heap.size + 1 + 1, 3, none⟩ (.slice (some ⟨w.heap.size + 1 + 1 + 1, 0, none⟩) n1 n1)) := (hB0.trans (b1.mono (by omega))).setCell (p := ⟨w.heap.size + 1 + 1, 3, none⟩) (by simp only; omega) (.slice (some ⟨w.heap.size + 1 + 1 + 1, 0, none⟩) n1 n1)
  have u0 := y0.other (B' := w.heap.size + 1 + 1) (by omega) 3 (.slice (some ⟨w.heap.size + 1 + 1 + 1, 0, none⟩) n1 n1)
  have u1 := y1.other (B' := w.heap.size + 1 + 1) (by omega) 3 (.slice (some ⟨w.heap.size + 1 + 1 + 1, 0, none⟩) n1 n1)
  have u2 := y2.set 3 (.slice (some ⟨w.heap.size + 1 + 1 + 1, 0, none⟩) n1 n1)
  have p1 : Own (w1.setCell ⟨w.heap.size + 1 + 1, 3, none⟩ (.slice (some ⟨w.heap.size + 1 + 1 + 1, 0, none⟩) n1 n1)) (w.heap.size + 1 + 1 + 1) n1 n1 data := o1.kept (gr_setC w1 (w.heap.size + 1 + 1) 3 _) (by omega)
  have hs1' : (w1.setCell ⟨w.heap.size + 1 + 1, 3, none⟩ (.slice (some ⟨w.heap.size + 1 + 1 + 1, 0, none⟩) n1 n1)).heap.size = w1.heap.size := size_setC w1 _ _
  clear z0 z1 z2 y0 y1 y2 o1 b1 hB0
  go_wp2_with fail
  clear x0 x2 f2
  obtain ⟨W1, hW1⟩ : ∃ W1, w1.setCell ⟨w.heap.size + 1 + 1, 3, none⟩ (.slice (some ⟨w.heap.size + 1 + 1 + 1, 0, none⟩) n1 n1) = W1 := ⟨_, rfl⟩
  rw [hW1] at B1 u0 u1 u2 p1 hs1' ⊢
  clear hW1
  refine (toEntS_any a2 n2 c2 ents W1 k2.out h2 (r3.keep B1)).mono ?_
  rintro e w2 ⟨rfl, o2, b2⟩
  obtain ⟨G2, hG2⟩ : ∃ G, W1.heap.size = G := ⟨_, rfl⟩
  rw [hG2] at o2 ⊢
  have hs2 := o2.lt
  have hg12 : w.heap.size + 1 + 1 + 1 < G2 := by omega
  have y0 := u0.keep b2
  have y1 := u1.keep b2
  have y2 := u2.keep b2
  have p1' := p1.keep b2 p1.lt
  have x0 := y0.cell 5
  have x2 := y2.cell 4
  have f2 := y2.frozen 4
  have B2 : Below w.heap.size w (w2.setCell ⟨w.heap.size + 1 + 1, 4, none⟩ (.slice (some ⟨G2, 0, none⟩) n2 n2)) := (B1.trans (b2.mono (by omega))).setCell (p := ⟨w.heap.size + 1 + 1, 4, none⟩) (by simp only; omega) _
  have v0 := y0.other (B' := w.heap.size + 1 + 1) (by omega) 4 (.slice (some ⟨G2, 0, none⟩) n2 n2)
  have v1 := y1.other (B' := w.heap.size + 1 + 1) (by omega) 4 (.slice (some ⟨G2, 0, none⟩) n2 n2)
  have v2 := y2.set 4 (.slice (some ⟨G2, 0, none⟩) n2 n2)
  have p2 := p1'.kept (gr_setC w2 (w.heap.size + 1 + 1) 4 (.slice (some ⟨G2, 0, none⟩) n2 n2)) (by omega)
  have e2 := o2.kept (gr_setC w2 (w.heap.size + 1 + 1) 4 (.slice (some ⟨G2, 0, none⟩) n2 n2)) (by omega)
  have hs2' : (w2.setCell ⟨w.heap.size + 1 + 1, 4, none⟩ (.slice (some ⟨G2, 0, none⟩) n2 n2)).heap.size = w2.heap.size := size_setC w2 _ _
  clear u0 u1 u2 y0 y1 y2 o2 b2 B1 p1 p1'
  go_wp2_with fail
  clear x0 x2 f2
  obtain ⟨W2, hW2⟩ : ∃ W2, w2.setCell ⟨w.heap.size + 1 + 1, 4, none⟩ (.slice (some ⟨G2, 0, none⟩) n2 n2) = W2 := ⟨_, rfl⟩
  rw [hW2] at B2 v0 v1 v2 p2 e2 hs2' ⊢
  clear hW2
  refine (toAttrS_any a3 n3 c3 attrs W2 k3.out h3 (r4.keep B2)).mono ?_
  rintro e w3 ⟨rfl, o3, b3⟩
  obtain ⟨G3, hG3⟩ : ∃ G, W2.heap.size = G := ⟨_, rfl⟩
  rw [hG3] at o3 ⊢
  have hs3 := o3.lt
  have hg23 : G2 < G3 := by omega
  have y1 := v1.keep b3
  have y2 := v2.keep b3
  have p3 := p2.keep b3 p2.lt
  have e3 := e2.keep b3
  have B3 : Below w.heap.size w w3 := B2.trans (b3.mono (by omega))
  have t2 := y2.cell 5
  have f2 := y2.frozen 5
  have i0 := y2.cell 0
  have i1 := y2.cell 1
  have i2 := y2.cell 2
  have i3 := y2.cell 3
  have i4 := y2.cell 4
  have j0 := y1.cell 0
  have j1 := y1.cell 1
  have j2 := y1.cell 2
  have j3 := y1.cell 3
  have j4 := y1.cell 4
  have j5 := y1.cell 5
  have m0 := y1.frozen 0
  have m1 := y1.frozen 1
  have m2 := y1.frozen 2
  have m3 := y1.frozen 3
  have m4 := y1.frozen 4
  have m5 := y1.frozen 5
  simp at i0 i1 i2 i3 i4 t2 j0 j1 j2 j3 j4 j5
  have zf := ((((((((y1.other (B' := w.heap.size + 1 + 1) (by omega) 5 (.slice (some ⟨G3, 0, none⟩) n3 n3)).set 0 (.int .i64 ino)).set 1 (.int .i64 kind)).set 2 (.int .i64 links)).set 3 (.slice (some ⟨w.heap.size + 1 + 1 + 1, 0, none⟩) n1 n1)).set 4 (.slice (some ⟨G2, 0, none⟩) n2 n2)).set 5 (.slice (some ⟨G3, 0, none⟩) n3 n3)))
  have ga := gr_setC w3 (w.heap.size + 1 + 1) 5 (.slice (some ⟨G3, 0, none⟩) n3 n3)
  have gb := ((((((gr_setC (w3.setCell ⟨w.heap.size + 1 + 1, 5, none⟩ (.slice (some ⟨G3, 0, none⟩) n3 n3)) (w.heap.size + 1) 0 (.int .i64 ino)).trans (gr_setC ((w3.setCell ⟨w.heap.size + 1 + 1, 5, none⟩ (.slice (some ⟨G3, 0, none⟩) n3 n3)).setCell ⟨w.heap.size + 1, 0, none⟩ (.int .i64 ino)) (w.heap.size + 1) 1 (.int .i64 kind))).trans (gr_setC (((w3.setCell ⟨w.heap.size + 1 + 1, 5, none⟩ (.slice (some ⟨G3, 0, none⟩) n3 n3)).setCell ⟨w.heap.size + 1, 0, none⟩ (.int .i64 ino)).setCell ⟨w.heap.size + 1, 1, none⟩ (.int .i64 kind)) (w.heap.size + 1) 2 (.int .i64 links))).trans (gr_setC ((((w3.setCell ⟨w.heap.size + 1 + 1, 5, none⟩ (.slice (some ⟨G3, 0, none⟩) n3 n3)).setCell ⟨w.heap.size + 1, 0, none⟩ (.int .i64 ino)).setCell ⟨w.heap.size + 1, 1, none⟩ (.int .i64 kind)).setCell ⟨w.heap.size + 1, 2, none⟩ (.int .i64 links)) (w.heap.size + 1) 3 (.slice (some ⟨w.heap.size + 1 + 1 + 1, 0, none⟩) n1 n1))).trans (gr_setC (((((w3.setCell ⟨w.heap.size + 1 + 1, 5, none⟩ (.slice (some ⟨G3, 0, none⟩) n3 n3)).setCell ⟨w.heap.size + 1, 0, none⟩ (.int .i64 ino)).setCell ⟨w.heap.size + 1, 1, none⟩ (.int .i64 kind)).setCell ⟨w.heap.size + 1, 2, none⟩ (.int .i64 links)).setCell ⟨w.heap.size + 1, 3, none⟩ (.slice (some ⟨w.heap.size + 1 + 1 + 1, 0, none⟩) n1 n1)) (w.heap.size + 1) 4 (.slice (some ⟨G2, 0, none⟩) n2 n2))).trans (gr_setC ((((((w3.setCell ⟨w.heap.size + 1 + 1, 5, none⟩ (.slice (some ⟨G3, 0, none⟩) n3 n3)).setCell ⟨w.heap.size + 1, 0, none⟩ (.int .i64 ino)).setCell ⟨w.heap.size + 1, 1, none⟩ (.int .i64 kind)).setCell ⟨w.heap.size + 1, 2, none⟩ (.int .i64 links)).setCell ⟨w.heap.size + 1, 3, none⟩ (.slice (some ⟨w.heap.size + 1 + 1 + 1, 0, none⟩) n1 n1)).setCell ⟨w.heap.size + 1, 4, none⟩ (.slice (some ⟨G2, 0, none⟩) n2 n2)) (w.heap.size + 1) 5 (.slice (some ⟨G3, 0, none⟩) n3 n3)))
  have P3 := (p3.kept ga (by omega)).kept gb (by omega)
  have E3 := (e3.kept ga (by omega)).kept gb (by omega)
  have A3 := (o3.kept ga (by omega)).kept gb (by omega)
  have BF : Below w.heap.size w (((((((w3.setCell ⟨w.heap.size + 1 + 1, 5, none⟩ (.slice (some ⟨G3, 0, none⟩) n3 n3)).setCell ⟨w.heap.size + 1, 0, none⟩ (.int .i64 ino)).setCell ⟨w.heap.size + 1, 1, none⟩ (.int .i64 kind)).setCell ⟨w.heap.size + 1, 2, none⟩ (.int .i64 links)).setCell ⟨w.heap.size + 1, 3, none⟩ (.slice (some ⟨w.heap.size + 1 + 1 + 1, 0, none⟩) n1 n1)).setCell ⟨w.heap.size + 1, 4, none⟩ (.slice (some ⟨G2, 0, none⟩) n2 n2)).setCell ⟨w.heap.size + 1, 5, none⟩ (.slice (some ⟨G3, 0, none⟩) n3 n3)) := (B3.grown ga B3.size (by intro k hk; simp at hk; omega)).grown gb (by have := ga.size; have := B3.size; omega) (by intro k hk; simp at hk; omega)
  have d0 := zf.cell 0
  have d1 := zf.cell 1
  have d2 := zf.cell 2
  have d3 := zf.cell 3
  have d4 := zf.cell 4
  have d5 := zf.cell 5
  simp at d0 d1 d2 d3 d4 d5
  have HF : Hid (Own (((((((w3.setCell ⟨w.heap.size + 1 + 1, 5, none⟩ (.slice (some ⟨G3, 0, none⟩) n3 n3)).setCell ⟨w.heap.size + 1, 0, none⟩ (.int .i64 ino)).setCell ⟨w.heap.size + 1, 1, none⟩ (.int .i64 kind)).setCell ⟨w.heap.size + 1, 2, none⟩ (.int .i64 links)).setCell ⟨w.heap.size + 1, 3, none⟩ (.slice (some ⟨w.heap.size + 1 + 1 + 1, 0, none⟩) n1 n1)).setCell ⟨w.heap.size + 1, 4, none⟩ (.slice (some ⟨G2, 0, none⟩) n2 n2)).setCell ⟨w.heap.size + 1, 5, none⟩ (.slice (some ⟨G3, 0, none⟩) n3 n3)) (w.heap.size + 1 + 1 + 1) n1 n1 data ∧ OwnP 78 (((((((w3.setCell ⟨w.heap.size + 1 + 1, 5, none⟩ (.slice (some ⟨G3, 0, none⟩) n3 n3)).setCell ⟨w.heap.size + 1, 0, none⟩ (.int .i64 ino)).setCell ⟨w.heap.size + 1, 1, none⟩ (.int .i64 kind)).setCell ⟨w.heap.size + 1, 2, none⟩ (.int .i64 links)).setCell ⟨w.heap.size + 1, 3, none⟩ (.slice (some ⟨w.heap.size + 1 + 1 + 1, 0, none⟩) n1 n1)).setCell ⟨w.heap.size + 1, 4, none⟩ (.slice (some ⟨G2, 0, none⟩) n2 n2)).setCell ⟨w.heap.size + 1, 5, none⟩ (.slice (some ⟨G3, 0, none⟩) n3 n3)) G2 n2 n2 (eP ents) ∧ OwnP 80 (((((((w3.setCell ⟨w.heap.size + 1 + 1, 5, none⟩ (.slice (some ⟨G3, 0, none⟩) n3 n3)).setCell ⟨w.heap.size + 1, 0, none⟩ (.int .i64 ino)).setCell ⟨w.heap.size + 1, 1, none⟩ (.int .i64 kind)).setCell ⟨w.heap.size + 1, 2, none⟩ (.int .i64 links)).setCell ⟨w.heap.size + 1, 3, none⟩ (.slice (some ⟨w.heap.size + 1 + 1 + 1, 0, none⟩) n1 n1)).setCell ⟨w.heap.size + 1, 4, none⟩ (.slice (some ⟨G2, 0, none⟩) n2 n2)).setCell ⟨w.heap.size + 1, 5, none⟩ (.slice (some ⟨G3, 0, none⟩) n3 n3)) G3 n3 n3 (aP attrs) ∧ Below w.heap.size w (((((((w3.setCell ⟨w.heap.size + 1 + 1, 5, none⟩ (.slice (some ⟨G3, 0, none⟩) n3 n3)).setCell ⟨w.heap.size + 1, 0, none⟩ (.int .i64 ino)).setCell ⟨w.heap.size + 1, 1, none⟩ (.int .i64 kind)).setCell ⟨w.heap.size + 1, 2, none⟩ (.int .i64 links)).setCell ⟨w.heap.size + 1, 3, none⟩ (.slice (some ⟨w.heap.size + 1 + 1 + 1, 0, none⟩) n1 n1)).setCell ⟨w.heap.size + 1, 4, none⟩ (.slice (some ⟨G2, 0, none⟩) n2 n2)).setCell ⟨w.heap.size + 1, 5, none⟩ (.slice (some ⟨G3, 0, none⟩) n3 n3))) := ⟨P3, E3, A3, BF⟩
  clear zf ga gb P3 E3 A3 BF p3 e3 o3 B3 y1 y2 v0 v1 v2 p2 e2 B2 b3
  go_wp2
  refine bodyPost_ret (v := .agg #[.int .i64 ino, .int .i64 kind, .int .i64 links, .slice (some ⟨w.heap.size + 1 + 1 + 1, 0, none⟩) n1 n1, .slice (some ⟨G2, 0, none⟩) n2 n2, .slice (some ⟨G3, 0, none⟩) n3 n3]) (by simp [results, Try.f58, go_sem, d0, d1, d2, d3, d4, d5]) rfl ?_
  obtain ⟨P3, E3, A3, BF⟩ := HF.out
  refine ⟨w.heap.size + 1 + 1 + 1, G2, G3, rfl, by omega, hg12, hg23, ⟨?_, r2, ?_, ?_⟩, BF⟩
  · dsimp only; rw [k1.out]; exact P3
  · dsimp only; rw [k2.out]; exact E3
  · dsimp only; rw [k3.out]; exact A3
end Go.Proofs.Ytfjlemnohjnkhaa
