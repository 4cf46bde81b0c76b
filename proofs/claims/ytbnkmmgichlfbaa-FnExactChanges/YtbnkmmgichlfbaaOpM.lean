/-
  Operations of the laws: opened, measured, copied, compared.
-/
import Derived.Test.YtbnkmmgichlfbaaRows
import Derived.Test.YtbnkmmgichlfbaaBase
import Derived.Test.YtbnkmmgichlfbaaCrc
import Derived.Test.YtbnkmmgichlfbaaPut
import Derived.Test.YtbnkmmgichlfbaaMark
import Derived.Test.YtbnkmmgichlfbaaName
import Derived.Test.YtbnkmmgichlfbaaPairs
import Derived.Test.YtbnkmmgichlfbaaInode
import Derived.Test.YtbnkmmgichlfbaaInoOpen
import Derived.Test.YtbnkmmgichlfbaaSzIno
import Derived.Test.YtbnkmmgichlfbaaSix
import Derived.Test.YtbnkmmgichlfbaaPuts
import Derived.Test.YtbnkmmgichlfbaaMarkIno
import Derived.Test.YtbnkmmgichlfbaaKept
import Derived.WalkKit
import Derived.WalkSpells
import Derived.WalkLawsBesides
import Derived.Deep.QuietTactic
import Derived.BigQuiet
import Derived.OpenShut
import Derived.Laws.BitsAllLaws
import Derived.Maps.AppendAt
import Derived.Lib.SliceRun
import Derived.Lib.Strings
import Derived.Deep.RegionWith
import Derived.Laws.IdiomStrings
import Derived.Deep.Slices
import Derived.ProofKit
import Derived.ChangeOld
import Derived.Below
import Derived.Deep.DeepCutAuto
import Derived.Lib.AppendStr
import Derived.Lib.ConvBytes
import Derived.Deep.RegionHeld3
import Derived.Deep.AppendLies
import Derived.Laws.StructEq
import Derived.Laws.BytesString
namespace Go.Proofs.Ytbnkmmgichlfbaa
open Go.ChangeShapes Go.WideShapes Go.ChangeAt Go.RowKit
/-- What an operation tells. -/
structure OpD where
  kind : Int
  vol : Int
  path : ByteArray
  dest : ByteArray
  off : Int
  data : List Int
/-- An operation's cells: its bytes lie at a. -/
def opC (D : OpD) (a : Option Addr) (c : Nat) : Array Value := #[.int .i64 D.kind, .int .i64 D.vol, .string D.path, .string D.dest, .int .i64 D.off, .slice a D.data.length c]
/-- What is known of an operation that came in. -/
structure OpIn (D : OpD) : Prop where
  kind : (Lit.int .i64 D.kind).wf = true
  vol : (Lit.int .i64 D.vol).wf = true
  off : (Lit.int .i64 D.off).wf = true
  path : D.path.size ≤ maxLen
  dest : D.dest.size ≤ maxLen
  data : D.data.length ≤ maxLen
/-- An operation that is small. -/
def OpSmall (D : OpD) : Prop := D.path.size + D.dest.size + D.data.length ≤ 1048576
/-- Its bytes can be read. -/
def OpRd (w : World) (D : OpD) (a : Option Addr) : Prop := Rd w a D.data ∧ Byt D.data
theorem OpRd.keep {w w' : World} {D : OpD} {a : Option Addr} (h : OpRd w D a) (hb : Below w.heap.size w w') : OpRd w' D a := ⟨h.1.keep hb, h.2⟩
section
variable {H : Type} {enc : TypeId × Value → H} {w : World} {base : Nat} {held : Bool}
set_option maxRecDepth 100000 in
set_option maxHeartbeats 1000000 in
theorem open_op {base' : Nat} {v : Value} {d : DataW H} {p : List MemPlace} (hv : Value.okWide Try.prog w .any base' 24 v) (h : DataW.Trod enc Try.prog w base (fun _ => true) held 24 v d p) :
    ∃ (D : OpD) (a : Option Addr) (c : Nat), v = .agg (opC D a c) ∧ OpIn D ∧ OpRd w D a := by
  obtain ⟨cs, rfl, hsz⟩ := okWide_struct Try.underlying24 hv
  obtain ⟨fuel, hf⟩ := h
  obtain ⟨xs, n, _, _, hl, hlen, hfld⟩ := DataW.trod_struct Try.underlying24 hf
  have hC : Try.prog.cellsOf 24 = 6 := by kernel_rfl
  have k3 : Try.prog.cellsOf 3 = 1 := by kernel_rfl
  have k9 : Try.prog.cellsOf 9 = 1 := by kernel_rfl
  have k22 : Try.prog.cellsOf 22 = 1 := by kernel_rfl
  rw [hC] at hsz
  obtain ⟨l⟩ := cs
  simp only [List.size_toArray] at hsz
  obtain ⟨v0, v1, v2, v3, v4, v5, rfl⟩ := list6 hsz
  obtain ⟨y0, y1, y2, y3, y4, y5, rfl⟩ := list6 hlen
  have f0 := hfld 0 _ rfl
  have f1 := hfld 1 _ rfl
  have f2 := hfld 2 _ rfl
  have f3 := hfld 3 _ rfl
  have f4 := hfld 4 _ rfl
  have f5 := hfld 5 _ rfl
  simp [Value.cells, k3, k9, k22] at f0 f1 f2 f3 f4 f5
  obtain ⟨kind, e0, _, w0⟩ := DataW.trod_int Try.underlying3 f0
  obtain ⟨vol, e1, _, w1⟩ := DataW.trod_int Try.underlying3 f1
  obtain ⟨path, e2, _, w2⟩ := DataW.trod_string Try.underlying9 f2
  obtain ⟨dest, e3, _, w3⟩ := DataW.trod_string Try.underlying9 f3
  obtain ⟨off, e4, _, w4⟩ := DataW.trod_int Try.underlying3 f4
  obtain ⟨a1, n1, c1, zs, e5, m1, l1, r1, b1⟩ : ∃ (a1 : Option Addr) (n1 c1 : Nat) (zs : List Int), [v5] = [.slice a1 n1 c1] ∧ n1 ≤ maxLen ∧ zs.length = n1 ∧ Rd w a1 zs ∧ Byt zs := by
    rcases open_ints Try.underlying22 Try.underlying5 (by kernel_rfl) f5 with ⟨hcs, _⟩ | ⟨x, l, c, zs, hcs, _, hl, hm, hz, _, hcell, hwz⟩
    · exact ⟨none, 0, 0, [], hcs, Nat.zero_le _, rfl, .inl rfl, fun z hz => by simp at hz⟩
    · obtain ⟨ys, hy, hr, hb⟩ := rd_of_row (w := w) (a := some x) (len := l) (cap := c) (zs := zs) (.inr ⟨x, rfl, hl, hm, by simpa using hz, hcell, hwz⟩)
      exact ⟨some x, l, c, ys, hcs, Nat.le_trans hl hm, hy, hr, hb⟩
  simp only [List.cons.injEq, and_true] at e0 e1 e2 e3 e4 e5
  subst e0 e1 e2 e3 e4 e5 l1
  exact ⟨⟨kind, vol, path, dest, off, zs⟩, a1, c1, rfl, ⟨w0, w1, w4, w2, w3, m1⟩, ⟨r1, b1⟩⟩
end
/-- What the measure answers with what it takes: below 0, or what is left. -/
def SzX (n : Nat) (x : Nat) (e : Ending) : Prop := (e = .returned (.int .i64 (-1)) ∧ x < n) ∨ (e = .returned (.int .i64 ((x - n : Nat) : Int)) ∧ n ≤ x)
set_option maxHeartbeats 400000 in
theorem szByteS_x (a : Option Addr) (n cap x : Nat) (w : World) (hn : n ≤ maxLen) (hx : x ≤ 1048576) :
    Calls Try.prog 21 #[.slice a n cap, .int .i64 x] w fun e w' => SzX n x e ∧ Below w.heap.size w w' := by
  unfold maxLen at hn
  by_cases h : x < n
  · have h1 : ((x : Int) - (n : Int)) < 0 := by omega
    go_enter Try.func21, Try.ntmps21
    go_wp2
    go_ret
    exact ⟨.inl ⟨rfl, h⟩, Below.refl _ _⟩
  · have h1 : ¬ ((x : Int) - (n : Int)) < 0 := by omega
    go_enter Try.func21, Try.ntmps21
    go_wp2
    go_ret
    exact ⟨.inr ⟨ret_int (by omega), by omega⟩, Below.refl _ _⟩
theorem set6_blk {W : World} {X : Nat} {t : TypeId} {u0 u1 u2 u3 u4 u5 : Value} (h : Blk W X t #[u0, u1, u2, u3, u4, u5]) (v0 v1 v2 v3 v4 v5 : Value) : Blk ((((((W.setCell ⟨X, 0, none⟩ v0).setCell ⟨X, 1, none⟩ v1).setCell ⟨X, 2, none⟩ v2).setCell ⟨X, 3, none⟩ v3).setCell ⟨X, 4, none⟩ v4).setCell ⟨X, 5, none⟩ v5) X t #[v0, v1, v2, v3, v4, v5] :=
  ((((((h.set 0 v0).set 1 v1).set 2 v2).set 3 v3).set 4 v4).set 5 v5)
theorem set6_gr (W : World) (X : Nat) (v0 v1 v2 v3 v4 v5 : Value) : W.grownBy ((((((W.setCell ⟨X, 0, none⟩ v0).setCell ⟨X, 1, none⟩ v1).setCell ⟨X, 2, none⟩ v2).setCell ⟨X, 3, none⟩ v3).setCell ⟨X, 4, none⟩ v4).setCell ⟨X, 5, none⟩ v5) (some X) :=
  (((((gr_setC W X 0 v0).trans (gr_setC _ X 1 v1)).trans (gr_setC _ X 2 v2)).trans (gr_setC _ X 3 v3)).trans (gr_setC _ X 4 v4)).trans (gr_setC _ X 5 v5)
set_option maxHeartbeats 1600000 in
theorem szOp_any (D : OpD) (a : Option Addr) (c : Nat) (w : World) (hi : OpIn D) :
    Calls Try.prog 6 #[.agg (opC D a c), .int .i64 1048576] w fun e w' => SzP (OpSmall D) e ∧ Below w.heap.size w w' := by
  obtain ⟨kind, vol, path, dest, off, data⟩ := D
  obtain ⟨_, _, _, h1, h2, h3⟩ := hi
  dsimp only at h1 h2 h3
  have h3' := h3
  unfold OpSmall opC
  dsimp only
  unfold maxLen at h1 h2 h3
  obtain ⟨n3, hn3⟩ : ∃ n, data.length = n := ⟨_, rfl⟩
  rw [hn3] at h3 h3' ⊢
  clear hn3
  by_cases g1 : 1048576 < path.size
  · have q1 : ((1048576 : Int) - (path.size : Int)) < 0 := by omega
    go_enter Try.func6, Try.ntmps6
    go_wp2
    go_ret
    exact ⟨.inl rfl, (Below.refl _ w).alloc (Nat.le_refl _) _⟩
  have q1 : ¬ ((1048576 : Int) - (path.size : Int)) < 0 := by omega
  by_cases g2 : 1048576 - path.size < dest.size
  · have q2 : ((1048576 : Int) - (path.size : Int) - (dest.size : Int)) < 0 := by omega
    go_enter Try.func6, Try.ntmps6
    go_wp2
    go_ret
    exact ⟨.inl rfl, (Below.refl _ w).alloc (Nat.le_refl _) _⟩
  have q2 : ¬ ((1048576 : Int) - (path.size : Int) - (dest.size : Int)) < 0 := by omega
  obtain ⟨x, hx⟩ : ∃ x : Nat, 1048576 - path.size - dest.size = x := ⟨_, rfl⟩
  have hxi : (1048576 : Int) - (path.size : Int) - (dest.size : Int) = (x : Int) := by omega
  go_enter Try.func6, Try.ntmps6
  go_wp2_with fail
  refine (szByteS_x a n3 c x _ h3' (by omega)).mono ?_
  rintro e w1 ⟨hsz, b1⟩
  have B1 : Below w.heap.size w w1 := ((Below.refl _ w).alloc (Nat.le_refl _) _).trans (b1.mono (by simp))
  rcases hsz with ⟨rfl, hlt⟩ | ⟨rfl, hle⟩
  · go_wp2
    go_ret
    exact ⟨.inl rfl, B1⟩
  · have q3 : ¬ ((x - n3 : Nat) : Int) < 0 := by omega
    go_wp2
    go_ret
    exact ⟨.inr ⟨x - n3, by omega, rfl, by omega⟩, B1⟩
set_option maxHeartbeats 1600000 in
theorem toOp_any (D : OpD) (a : Option Addr) (c : Nat) (w : World) (hs : D.data.length ≤ 1048576) (hr : OpRd w D a) :
    Calls Try.prog 8 #[.agg (opC D a c)] w fun e w' => ∃ g : Nat, e = .returned (.agg (opC D (some ⟨g, 0, none⟩) D.data.length)) ∧ w.heap.size ≤ g ∧ Own w' g D.data.length D.data.length D.data ∧ Below w.heap.size w w' := by
  obtain ⟨kind, vol, path, dest, off, data⟩ := D
  obtain ⟨n1, hn1⟩ : ∃ n, data.length = n := ⟨_, rfl⟩
  dsimp only at hs
  unfold opC
  dsimp only
  rw [hn1] at hs
  simp only [hn1]
  have k1 : Hid (data.length = n1) := hn1
  clear hn1
  obtain ⟨r1, r2⟩ := hr
  dsimp only at r1 r2
  have z1 := (Blk.new (w.alloc (.cells #[.int .i64 kind, .int .i64 vol, .string path, .string dest, .int .i64 off, .slice a n1 c] 24)) 27 #[.int .i64 0, .int .i64 0, .string ⟨#[]⟩, .string ⟨#[]⟩, .int .i64 0, .slice none 0 0]).alloc (.cells #[.int .i64 kind, .int .i64 vol, .string path, .string dest, .int .i64 off, .slice none 0 0] 27)
  have z2 := Blk.new ((w.alloc (.cells #[.int .i64 kind, .int .i64 vol, .string path, .string dest, .int .i64 off, .slice a n1 c] 24)).alloc (.cells #[.int .i64 0, .int .i64 0, .string ⟨#[]⟩, .string ⟨#[]⟩, .int .i64 0, .slice none 0 0] 27)) 27 #[.int .i64 kind, .int .i64 vol, .string path, .string dest, .int .i64 off, .slice none 0 0]
  simp only [World.size_alloc] at z1 z2
  have hB0 : Below w.heap.size w (((w.alloc (.cells #[.int .i64 kind, .int .i64 vol, .string path, .string dest, .int .i64 off, .slice a n1 c] 24)).alloc (.cells #[.int .i64 0, .int .i64 0, .string ⟨#[]⟩, .string ⟨#[]⟩, .int .i64 0, .slice none 0 0] 27)).alloc (.cells #[.int .i64 kind, .int .i64 vol, .string path, .string dest, .int .i64 off, .slice none 0 0] 27)) := (((Below.refl _ w).alloc (Nat.le_refl _) _).alloc (by simp) _).alloc (by simp; omega) _
  have hs0 : (((w.alloc (.cells #[.int .i64 kind, .int .i64 vol, .string path, .string dest, .int .i64 off, .slice a n1 c] 24)).alloc (.cells #[.int .i64 0, .int .i64 0, .string ⟨#[]⟩, .string ⟨#[]⟩, .int .i64 0, .slice none 0 0] 27)).alloc (.cells #[.int .i64 kind, .int .i64 vol, .string path, .string dest, .int .i64 off, .slice none 0 0] 27)).heap.size = w.heap.size + 1 + 1 + 1 := by simp
  go_enter Try.func8, Try.ntmps8
  go_wp2_with fail
  obtain ⟨W0, hW0⟩ : ∃ W0, (((w.alloc (.cells #[.int .i64 kind, .int .i64 vol, .string path, .string dest, .int .i64 off, .slice a n1 c] 24)).alloc (.cells #[.int .i64 0, .int .i64 0, .string ⟨#[]⟩, .string ⟨#[]⟩, .int .i64 0, .slice none 0 0] 27)).alloc (.cells #[.int .i64 kind, .int .i64 vol, .string path, .string dest, .int .i64 off, .slice none 0 0] 27)) = W0 := ⟨_, rfl⟩
  rw [hW0] at z1 z2 hB0 hs0 ⊢
  clear hW0
  refine (toByteS_any a n1 c data W0 k1.out hs (r1.keep hB0)).mono ?_
  rintro e w1 ⟨rfl, o1, b1⟩
  rw [hs0] at o1 ⊢
  have hs1 := o1.lt
  have y1 := z1.keep b1
  have y2 := z2.keep b1
  have B1 : Below w.heap.size w w1 := hB0.trans (b1.mono (by omega))
  obtain ⟨i0, i1, i2, i3, i4, i5⟩ := y2.six
  have f2 := y2.frozen 5
  obtain ⟨j0, j1, j2, j3, j4, j5⟩ := y1.six
  have m0 := y1.frozen 0
  have m1 := y1.frozen 1
  have m2 := y1.frozen 2
  have m3 := y1.frozen 3
  have m4 := y1.frozen 4
  have m5 := y1.frozen 5
  have zf := set6_blk (y1.other (B' := w.heap.size + 1 + 1) (by omega) 5 (.slice (some ⟨w.heap.size + 1 + 1 + 1, 0, none⟩) n1 n1)) (.int .i64 kind) (.int .i64 vol) (.string path) (.string dest) (.int .i64 off) (.slice (some ⟨w.heap.size + 1 + 1 + 1, 0, none⟩) n1 n1)
  have ga := gr_setC w1 (w.heap.size + 1 + 1) 5 (.slice (some ⟨w.heap.size + 1 + 1 + 1, 0, none⟩) n1 n1)
  have gb := set6_gr (w1.setCell ⟨w.heap.size + 1 + 1, 5, none⟩ (.slice (some ⟨w.heap.size + 1 + 1 + 1, 0, none⟩) n1 n1)) (w.heap.size + 1) (.int .i64 kind) (.int .i64 vol) (.string path) (.string dest) (.int .i64 off) (.slice (some ⟨w.heap.size + 1 + 1 + 1, 0, none⟩) n1 n1)
  have A3 : Hid _ := (o1.kept ga (by omega)).kept gb (by omega)
  have BF : Hid _ := (B1.grown ga B1.size (by intro k hk; simp at hk; omega)).grown gb (by have := ga.size; have := B1.size; omega) (by intro k hk; simp at hk; omega)
  obtain ⟨d0, d1, d2, d3, d4, d5⟩ := zf.six
  clear zf ga gb o1 y1 y2 z1 z2 b1 B1
  go_wp2
  refine bodyPost_ret (v := .agg #[.int .i64 kind, .int .i64 vol, .string path, .string dest, .int .i64 off, .slice (some ⟨w.heap.size + 1 + 1 + 1, 0, none⟩) n1 n1]) (by simp [results, Try.f8, go_sem, d0, d1, d2, d3, d4, d5]) rfl ?_
  refine ⟨w.heap.size + 1 + 1 + 1, rfl, by omega, ?_, BF.out⟩
  exact A3.out
set_option maxHeartbeats 1600000 in
theorem eqOp_same (D : OpD) (a b : Option Addr) (c d : Nat) (w : World) (hs : D.data.length ≤ 4000000) (hr : Rd w a D.data) (hr' : Rd w b D.data) :
    Calls Try.prog 10 #[.agg (opC D a c), .agg (opC D b d)] w fun e w' => e = .returned (.bool true) ∧ Below w.heap.size w w' := by
  obtain ⟨kind, vol, path, dest, off, data⟩ := D
  obtain ⟨n1, hn1⟩ : ∃ n, data.length = n := ⟨_, rfl⟩
  dsimp only at hs hr hr'
  unfold opC
  dsimp only
  rw [hn1] at hs
  simp only [hn1]
  have k1 : Hid (data.length = n1) := hn1
  clear hn1
  go_enter Try.func10, Try.ntmps10
  go_wp2_with fail
  have B0 : Below w.heap.size w ((w.alloc (.cells #[.int .i64 kind, .int .i64 vol, .string path, .string dest, .int .i64 off, .slice a n1 c] 27)).alloc (.cells #[.int .i64 kind, .int .i64 vol, .string path, .string dest, .int .i64 off, .slice b n1 d] 27)) := ((Below.refl _ w).alloc (Nat.le_refl _) _).alloc (by simp) _
  refine (eqByteS_true a b n1 c d data _ k1.out hs (hr.keep B0) (hr'.keep B0)).mono ?_
  rintro e w1 ⟨rfl, t1⟩
  have B1 := B0.trans (t1.mono B0.size)
  go_wp2
  go_ret
  exact ⟨rfl, B1⟩
/-- What an operation of a tree is. -/
def chg (D : OpD) : Bool := decide (1 ≤ D.kind) && decide (D.kind ≤ 9)
set_option maxHeartbeats 1600000 in
theorem changesI (D : OpD) (a : Option Addr) (c : Nat) (w : World) :
    Calls Try.prog 9 #[.agg (opC D a c)] w fun e w' => e = .returned (.bool (chg D)) ∧ Below w.heap.size w w' := by
  obtain ⟨kind, vol, path, dest, off, data⟩ := D
  unfold opC chg
  dsimp only
  have B0 : Below w.heap.size w (w.alloc (.cells #[.int .i64 kind, .int .i64 vol, .string path, .string dest, .int .i64 off, .slice a data.length c] 27)) := (Below.refl _ w).alloc (Nat.le_refl _) _
  by_cases h1 : 1 ≤ kind
  · by_cases h2 : kind ≤ 9
    · go_enter Try.func9, Try.ntmps9
      go_wp2
      go_ret
      exact ⟨by simp; omega, B0⟩
    · go_enter Try.func9, Try.ntmps9
      go_wp2
      go_ret
      exact ⟨by simp; omega, B0⟩
  · go_enter Try.func9, Try.ntmps9
    go_wp2
    go_ret
    exact ⟨by simp; omega, B0⟩
set_option maxHeartbeats 1600000 in
theorem changesS (D : OpD) (a : Option Addr) (c : Nat) (w : World) :
    Calls Try.prog 7 #[.agg (opC D a c)] w fun e w' => e = .returned (.bool (chg D)) ∧ Below w.heap.size w w' := by
  obtain ⟨kind, vol, path, dest, off, data⟩ := D
  unfold opC chg
  dsimp only
  have B0 : Below w.heap.size w (w.alloc (.cells #[.int .i64 kind, .int .i64 vol, .string path, .string dest, .int .i64 off, .slice a data.length c] 27)) := (Below.refl _ w).alloc (Nat.le_refl _) _
  go_enter Try.func7, Try.ntmps7
  go_wp2_with fail
  refine (l1In_any kind 1 9 _).mono ?_
  rintro e w1 ⟨rfl, hw⟩
  subst hw
  go_wp2
  go_ret
  exact ⟨rfl, B0⟩
end Go.Proofs.Ytbnkmmgichlfbaa
