/-
  Records of the laws: opened, measured, copied, compared, marked, held; what is right.
-/
import Derived.Test.YtjpefnicemlobaaRows
import Derived.Test.YtjpefnicemlobaaBase
import Derived.Test.YtjpefnicemlobaaPut
import Derived.Test.YtjpefnicemlobaaMark
import Derived.Test.YtjpefnicemlobaaName
import Derived.Test.YtjpefnicemlobaaPairs
import Derived.Test.YtjpefnicemlobaaInode
import Derived.Test.YtjpefnicemlobaaSzIno
import Derived.Test.YtjpefnicemlobaaPuts
import Derived.Test.YtjpefnicemlobaaMarkIno
import Derived.Test.YtjpefnicemlobaaKept
import Derived.Test.YtjpefnicemlobaaMarkG
import Derived.Test.YtjpefnicemlobaaOpM
import Derived.Test.YtjpefnicemlobaaMarkGI
import Derived.Test.YtjpefnicemlobaaOpW
import Derived.WalkKit
import Derived.WalkSpells
import Derived.WalkLawsBesides
import Derived.Deep.QuietTactic
import Derived.BigQuiet
import Derived.OpenShut
import Derived.Laws.BitsAllLaws
import Derived.Maps.AppendAt
import Derived.Lib.SliceRun
import Derived.Lib.Strings
import Derived.Deep.RegionWith
import Derived.Laws.IdiomStrings
import Derived.Deep.Slices
import Derived.ProofKit
import Derived.ChangeOld
import Derived.Below
import Derived.Deep.DeepCutAuto
import Derived.Lib.AppendStr
import Derived.Lib.ConvBytes
import Derived.Deep.RegionHeld3
import Derived.Deep.AppendLies
import Derived.Laws.StructEq
import Derived.Laws.BytesString
namespace Go.Proofs.Ytjpefnicemlobaa
open Go.ChangeShapes Go.WideShapes Go.ChangeAt Go.RowKit
/-- What a record tells. -/
structure RecD where
  kind : Int
  seq : Int
  body : List Int
/-- A record's cells: its bytes lie at a. -/
def recC (D : RecD) (a : Option Addr) (c : Nat) : Array Value := #[.int .i64 D.kind, .int .i64 D.seq, .slice a D.body.length c]
/-- What is known of a record that came in. -/
structure RecIn (D : RecD) : Prop where
  kind : (Lit.int .i64 D.kind).wf = true
  seq : (Lit.int .i64 D.seq).wf = true
  body : D.body.length ≤ maxLen
/-- A record that is small. -/
def RecSmall (D : RecD) : Prop := D.body.length ≤ 1048576
/-- Its bytes can be read. -/
def RecRd (w : World) (D : RecD) (a : Option Addr) : Prop := Rd w a D.body ∧ Byt D.body
theorem RecRd.keep {w w' : World} {D : RecD} {a : Option Addr} (h : RecRd w D a) (hb : Below w.heap.size w w') : RecRd w' D a := ⟨h.1.keep hb, h.2⟩
theorem list3 {α : Type} {l : List α} (h : l.length = 3) : ∃ a b c, l = [a, b, c] := by
  match l, h with
  | [a, b, c], _ => exact ⟨a, b, c, rfl⟩
section
variable {H : Type} {enc : TypeId × Value → H} {w : World} {base : Nat} {held : Bool}
set_option maxRecDepth 100000 in
set_option maxHeartbeats 1000000 in
theorem open_rec {base' : Nat} {v : Value} {d : DataW H} {p : List MemPlace} (hv : Value.okWide Try.prog w .any base' 35 v) (h : DataW.Trod enc Try.prog w base (fun _ => true) held 35 v d p) :
    ∃ (D : RecD) (a : Option Addr) (c : Nat), v = .agg (recC D a c) ∧ RecIn D ∧ RecRd w D a := by
  obtain ⟨cs, rfl, hsz⟩ := okWide_struct Try.underlying35 hv
  obtain ⟨fuel, hf⟩ := h
  obtain ⟨xs, n, _, _, hl, hlen, hfld⟩ := DataW.trod_struct Try.underlying35 hf
  have hC : Try.prog.cellsOf 35 = 3 := by kernel_rfl
  have k3 : Try.prog.cellsOf 3 = 1 := by kernel_rfl
  have k22 : Try.prog.cellsOf 22 = 1 := by kernel_rfl
  rw [hC] at hsz
  obtain ⟨l⟩ := cs
  simp only [List.size_toArray] at hsz
  obtain ⟨v0, v1, v2, rfl⟩ := list3 hsz
  obtain ⟨y0, y1, y2, rfl⟩ := list3 hlen
  have f0 := hfld 0 _ rfl
  have f1 := hfld 1 _ rfl
  have f2 := hfld 2 _ rfl
  simp [Value.cells, k3, k22] at f0 f1 f2
  obtain ⟨kind, e0, _, w0⟩ := DataW.trod_int Try.underlying3 f0
  obtain ⟨seq, e1, _, w1⟩ := DataW.trod_int Try.underlying3 f1
  obtain ⟨a1, n1, c1, zs, e2, m1, l1, r1, b1⟩ : ∃ (a1 : Option Addr) (n1 c1 : Nat) (zs : List Int), [v2] = [.slice a1 n1 c1] ∧ n1 ≤ maxLen ∧ zs.length = n1 ∧ Rd w a1 zs ∧ Byt zs := by
    rcases open_ints Try.underlying22 Try.underlying5 (by kernel_rfl) f2 with ⟨hcs, _⟩ | ⟨x, l, c, zs, hcs, _, hl, hm, hz, _, hcell, hwz⟩
    · exact ⟨none, 0, 0, [], hcs, Nat.zero_le _, rfl, .inl rfl, fun z hz => by simp at hz⟩
    · obtain ⟨ys, hy, hr, hb⟩ := rd_of_row (w := w) (a := some x) (len := l) (cap := c) (zs := zs) (.inr ⟨x, rfl, hl, hm, by simpa using hz, hcell, hwz⟩)
      exact ⟨some x, l, c, ys, hcs, Nat.le_trans hl hm, hy, hr, hb⟩
  simp only [List.cons.injEq, and_true] at e0 e1 e2
  subst e0 e1 e2 l1
  exact ⟨⟨kind, seq, zs⟩, a1, c1, rfl, ⟨w0, w1, m1⟩, ⟨r1, b1⟩⟩
end
structure Thr (W : World) (B : Nat) (v0 v1 v2 : Value) : Prop where
  c0 : W.cell? ⟨B, 0, none⟩ = some v0
  c1 : W.cell? ⟨B, 1, none⟩ = some v1
  c2 : W.cell? ⟨B, 2, none⟩ = some v2
theorem Blk.thr {W : World} {B : Nat} {t : TypeId} {v0 v1 v2 : Value} (h : Blk W B t #[v0, v1, v2]) : Thr W B v0 v1 v2 := ⟨h.cell 0, h.cell 1, h.cell 2⟩
theorem set3_blk {W : World} {X : Nat} {t : TypeId} {u0 u1 u2 : Value} (h : Blk W X t #[u0, u1, u2]) (v0 v1 v2 : Value) : Blk (((W.setCell ⟨X, 0, none⟩ v0).setCell ⟨X, 1, none⟩ v1).setCell ⟨X, 2, none⟩ v2) X t #[v0, v1, v2] := ((h.set 0 v0).set 1 v1).set 2 v2
theorem set3_gr (W : World) (X : Nat) (v0 v1 v2 : Value) : W.grownBy (((W.setCell ⟨X, 0, none⟩ v0).setCell ⟨X, 1, none⟩ v1).setCell ⟨X, 2, none⟩ v2) (some X) := ((gr_setC W X 0 v0).trans (gr_setC _ X 1 v1)).trans (gr_setC _ X 2 v2)
set_option maxHeartbeats 800000 in
theorem szRec_any (D : RecD) (a : Option Addr) (c : Nat) (w : World) (hi : RecIn D) :
    Calls Try.prog 18 #[.agg (recC D a c), .int .i64 1048576] w fun e w' => SzP (RecSmall D) e ∧ Below w.heap.size w w' := by
  obtain ⟨kind, seq, body⟩ := D
  obtain ⟨_, _, h3⟩ := hi
  dsimp only at h3
  unfold RecSmall recC
  dsimp only
  obtain ⟨n, hn⟩ : ∃ n, body.length = n := ⟨_, rfl⟩
  rw [hn] at h3 ⊢
  clear hn
  go_enter Try.func18, Try.ntmps18
  go_wp2_with fail
  refine (szByteS_x a n c 1048576 _ h3 (by omega)).mono ?_
  rintro e w1 ⟨hsz, b1⟩
  have B1 : Below w.heap.size w w1 := ((Below.refl _ w).alloc (Nat.le_refl _) _).trans (b1.mono (by simp))
  rcases hsz with ⟨rfl, hlt⟩ | ⟨rfl, hle⟩
  · go_wp2
    go_ret
    exact ⟨.inl rfl, B1⟩
  · have q3 : ¬ ((1048576 - n : Nat) : Int) < 0 := by omega
    go_wp2
    go_ret
    exact ⟨.inr ⟨1048576 - n, by omega, rfl, by omega⟩, B1⟩
set_option maxHeartbeats 1600000 in
theorem toRec_any (D : RecD) (a : Option Addr) (c : Nat) (w : World) (hs : D.body.length ≤ 1048576) (hr : RecRd w D a) :
    Calls Try.prog 19 #[.agg (recC D a c)] w fun e w' => ∃ g : Nat, e = .returned (.agg (recC D (some ⟨g, 0, none⟩) D.body.length)) ∧ w.heap.size ≤ g ∧ Own w' g D.body.length D.body.length D.body ∧ Below w.heap.size w w' := by
  obtain ⟨kind, seq, body⟩ := D
  obtain ⟨n1, hn1⟩ : ∃ n, body.length = n := ⟨_, rfl⟩
  dsimp only at hs
  unfold recC
  dsimp only
  rw [hn1] at hs
  simp only [hn1]
  have k1 : Hid (body.length = n1) := hn1
  clear hn1
  obtain ⟨r1, r2⟩ := hr
  dsimp only at r1 r2
  have z1 := (Blk.new (w.alloc (.cells #[.int .i64 kind, .int .i64 seq, .slice a n1 c] 35)) 25 #[.int .i64 0, .int .i64 0, .slice none 0 0]).alloc (.cells #[.int .i64 kind, .int .i64 seq, .slice none 0 0] 25)
  have z2 := Blk.new ((w.alloc (.cells #[.int .i64 kind, .int .i64 seq, .slice a n1 c] 35)).alloc (.cells #[.int .i64 0, .int .i64 0, .slice none 0 0] 25)) 25 #[.int .i64 kind, .int .i64 seq, .slice none 0 0]
  simp only [World.size_alloc] at z1 z2
  have hB0 : Below w.heap.size w (((w.alloc (.cells #[.int .i64 kind, .int .i64 seq, .slice a n1 c] 35)).alloc (.cells #[.int .i64 0, .int .i64 0, .slice none 0 0] 25)).alloc (.cells #[.int .i64 kind, .int .i64 seq, .slice none 0 0] 25)) := (((Below.refl _ w).alloc (Nat.le_refl _) _).alloc (by simp) _).alloc (by simp; omega) _
  have hs0 : (((w.alloc (.cells #[.int .i64 kind, .int .i64 seq, .slice a n1 c] 35)).alloc (.cells #[.int .i64 0, .int .i64 0, .slice none 0 0] 25)).alloc (.cells #[.int .i64 kind, .int .i64 seq, .slice none 0 0] 25)).heap.size = w.heap.size + 1 + 1 + 1 := by simp
  go_enter Try.func19, Try.ntmps19
  go_wp2_with fail
  obtain ⟨W0, hW0⟩ : ∃ W0, (((w.alloc (.cells #[.int .i64 kind, .int .i64 seq, .slice a n1 c] 35)).alloc (.cells #[.int .i64 0, .int .i64 0, .slice none 0 0] 25)).alloc (.cells #[.int .i64 kind, .int .i64 seq, .slice none 0 0] 25)) = W0 := ⟨_, rfl⟩
  rw [hW0] at z1 z2 hB0 hs0 ⊢
  clear hW0
  refine (toByteS_any a n1 c body W0 k1.out hs (r1.keep hB0)).mono ?_
  rintro e w1 ⟨rfl, o1, b1⟩
  rw [hs0] at o1 ⊢
  have hs1 := o1.lt
  have y1 := z1.keep b1
  have y2 := z2.keep b1
  have B1 : Below w.heap.size w w1 := hB0.trans (b1.mono (by omega))
  obtain ⟨i0, i1, i2⟩ := y2.thr
  have f2 := y2.frozen 2
  obtain ⟨j0, j1, j2⟩ := y1.thr
  have m0 := y1.frozen 0
  have m1 := y1.frozen 1
  have m2 := y1.frozen 2
  have zf := set3_blk (y1.other (B' := w.heap.size + 1 + 1) (by omega) 2 (.slice (some ⟨w.heap.size + 1 + 1 + 1, 0, none⟩) n1 n1)) (.int .i64 kind) (.int .i64 seq) (.slice (some ⟨w.heap.size + 1 + 1 + 1, 0, none⟩) n1 n1)
  have ga := gr_setC w1 (w.heap.size + 1 + 1) 2 (.slice (some ⟨w.heap.size + 1 + 1 + 1, 0, none⟩) n1 n1)
  have gb := set3_gr (w1.setCell ⟨w.heap.size + 1 + 1, 2, none⟩ (.slice (some ⟨w.heap.size + 1 + 1 + 1, 0, none⟩) n1 n1)) (w.heap.size + 1) (.int .i64 kind) (.int .i64 seq) (.slice (some ⟨w.heap.size + 1 + 1 + 1, 0, none⟩) n1 n1)
  have A3 : Hid _ := (o1.kept ga (by omega)).kept gb (by omega)
  have BF : Hid _ := (B1.grown ga B1.size (by intro k hk; simp at hk; omega)).grown gb (by have := ga.size; have := B1.size; omega) (by intro k hk; simp at hk; omega)
  obtain ⟨d0, d1, d2⟩ := zf.thr
  clear zf ga gb o1 y1 y2 z1 z2 b1 B1
  go_wp2
  refine bodyPost_ret (v := .agg #[.int .i64 kind, .int .i64 seq, .slice (some ⟨w.heap.size + 1 + 1 + 1, 0, none⟩) n1 n1]) (by simp [results, Try.f19, go_sem, d0, d1, d2]) rfl ?_
  refine ⟨w.heap.size + 1 + 1 + 1, rfl, by omega, ?_, BF.out⟩
  exact A3.out
set_option maxHeartbeats 1600000 in
theorem eqRec_same (D : RecD) (a b : Option Addr) (c d : Nat) (w : World) (hs : D.body.length ≤ 4000000) (hr : Rd w a D.body) (hr' : Rd w b D.body) :
    Calls Try.prog 20 #[.agg (recC D a c), .agg (recC D b d)] w fun e w' => e = .returned (.bool true) ∧ Below w.heap.size w w' := by
  obtain ⟨kind, seq, body⟩ := D
  obtain ⟨n1, hn1⟩ : ∃ n, body.length = n := ⟨_, rfl⟩
  dsimp only at hs hr hr'
  unfold recC
  dsimp only
  rw [hn1] at hs
  simp only [hn1]
  have k1 : Hid (body.length = n1) := hn1
  clear hn1
  go_enter Try.func20, Try.ntmps20
  go_wp2_with fail
  have B0 : Below w.heap.size w ((w.alloc (.cells #[.int .i64 kind, .int .i64 seq, .slice a n1 c] 25)).alloc (.cells #[.int .i64 kind, .int .i64 seq, .slice b n1 d] 25)) := ((Below.refl _ w).alloc (Nat.le_refl _) _).alloc (by simp) _
  refine (eqByteS_true a b n1 c d body _ k1.out hs (hr.keep B0) (hr'.keep B0)).mono ?_
  rintro e w1 ⟨rfl, t1⟩
  have B1 := B0.trans (t1.mono B0.size)
  go_wp2
  go_ret
  exact ⟨rfl, B1⟩
/-- A record that is right. -/
def recOk (D : RecD) : Bool := decide (1 ≤ D.kind) && decide (D.kind ≤ 4) && decide (0 ≤ D.seq) && decide (D.seq ≤ 1000000) && decide (D.body.length ≤ 380)
theorem recOk_iff (D : RecD) : recOk D = true ↔ 1 ≤ D.kind ∧ D.kind ≤ 4 ∧ 0 ≤ D.seq ∧ D.seq ≤ 1000000 ∧ D.body.length ≤ 380 := by
  unfold recOk
  simp only [Bool.and_eq_true, decide_eq_true_eq, and_assoc]
set_option maxHeartbeats 1600000 in
theorem recOkI (D : RecD) (a : Option Addr) (c : Nat) (w : World) (hm : D.body.length ≤ 4000000) :
    Calls Try.prog 12 #[.agg (recC D a c)] w fun e w' => e = .returned (.bool (recOk D)) ∧ Below w.heap.size w w' := by
  obtain ⟨kind, seq, body⟩ := D
  unfold recC recOk
  dsimp only at hm ⊢
  obtain ⟨n, hn⟩ : ∃ n, body.length = n := ⟨_, rfl⟩
  rw [hn] at hm ⊢
  clear hn
  have B0 : Below w.heap.size w (w.alloc (.cells #[.int .i64 kind, .int .i64 seq, .slice a n c] 25)) := (Below.refl _ w).alloc (Nat.le_refl _) _
  by_cases h1 : 1 ≤ kind
  · by_cases h2 : kind ≤ 4
    · by_cases h3 : 0 ≤ seq
      · by_cases h4 : seq ≤ 1000000
        · by_cases h5 : n ≤ 380
          · have h5' : (n : Int) ≤ 380 := by omega
            go_enter Try.func12, Try.ntmps12
            go_wp2
            go_ret
            exact ⟨by first | (simp; omega) | (simp; done) | (simp_all; done) | (simp_all; omega), B0⟩
          · have h5' : ¬ (n : Int) ≤ 380 := by omega
            go_enter Try.func12, Try.ntmps12
            go_wp2
            go_ret
            exact ⟨by first | (simp; omega) | (simp; done) | (simp_all; done) | (simp_all; omega), B0⟩
        · go_enter Try.func12, Try.ntmps12
          go_wp2
          go_ret
          exact ⟨by first | (simp; omega) | (simp; done) | (simp_all; done) | (simp_all; omega), B0⟩
      · go_enter Try.func12, Try.ntmps12
        go_wp2
        go_ret
        exact ⟨by first | (simp; omega) | (simp; done) | (simp_all; done) | (simp_all; omega), B0⟩
    · go_enter Try.func12, Try.ntmps12
      go_wp2
      go_ret
      exact ⟨by first | (simp; omega) | (simp; done) | (simp_all; done) | (simp_all; omega), B0⟩
  · go_enter Try.func12, Try.ntmps12
    go_wp2
    go_ret
    exact ⟨by first | (simp; omega) | (simp; done) | (simp_all; done) | (simp_all; omega), B0⟩
set_option maxHeartbeats 1600000 in
theorem recOkS (D : RecD) (a : Option Addr) (c : Nat) (w : World) (hm : D.body.length ≤ 4000000) :
    Calls Try.prog 11 #[.agg (recC D a c)] w fun e w' => e = .returned (.bool (recOk D)) ∧ Below w.heap.size w w' := by
  obtain ⟨kind, seq, body⟩ := D
  unfold recC recOk
  dsimp only at hm ⊢
  obtain ⟨n, hn⟩ : ∃ n, body.length = n := ⟨_, rfl⟩
  rw [hn] at hm ⊢
  clear hn
  have B0 : Below w.heap.size w (w.alloc (.cells #[.int .i64 kind, .int .i64 seq, .slice a n c] 25)) := (Below.refl _ w).alloc (Nat.le_refl _) _
  have i1 := fun W => l1In_any kind 1 4 W
  have i2 := fun W => l1In_any seq 0 1000000 W
  by_cases h1 : 1 ≤ kind ∧ kind ≤ 4
  · have e1 : (decide (1 ≤ kind) && decide (kind ≤ 4)) = true := by simp; omega
    rw [e1] at i1
    by_cases h2 : 0 ≤ seq ∧ seq ≤ 1000000
    · have e2 : (decide (0 ≤ seq) && decide (seq ≤ 1000000)) = true := by simp; omega
      rw [e2] at i2
      by_cases h5 : n ≤ 380
      · have h5' : (n : Int) ≤ 380 := by omega
        go_enter Try.func11, Try.ntmps11
        go_wp2_with fail
        refine (i1 _).mono ?_
        rintro e w1 ⟨rfl, hw⟩
        subst hw
        go_wp2_with fail
        refine (i2 _).mono ?_
        rintro e w1 ⟨rfl, hw⟩
        subst hw
        go_wp2
        go_ret
        exact ⟨by first | (simp; omega) | (simp; done) | (simp_all; done) | (simp_all; omega), B0⟩
      · have h5' : ¬ (n : Int) ≤ 380 := by omega
        go_enter Try.func11, Try.ntmps11
        go_wp2_with fail
        refine (i1 _).mono ?_
        rintro e w1 ⟨rfl, hw⟩
        subst hw
        go_wp2_with fail
        refine (i2 _).mono ?_
        rintro e w1 ⟨rfl, hw⟩
        subst hw
        go_wp2
        go_ret
        exact ⟨by first | (simp; omega) | (simp; done) | (simp_all; done) | (simp_all; omega), B0⟩
    · have e2 : (decide (0 ≤ seq) && decide (seq ≤ 1000000)) = false := by simp; omega
      rw [e2] at i2
      go_enter Try.func11, Try.ntmps11
      go_wp2_with fail
      refine (i1 _).mono ?_
      rintro e w1 ⟨rfl, hw⟩
      subst hw
      go_wp2_with fail
      refine (i2 _).mono ?_
      rintro e w1 ⟨rfl, hw⟩
      subst hw
      go_wp2
      go_ret
      exact ⟨by first | (simp; omega) | (simp; done) | (simp_all; done) | (simp_all; omega), B0⟩
  · have e1 : (decide (1 ≤ kind) && decide (kind ≤ 4)) = false := by simp; omega
    rw [e1] at i1
    go_enter Try.func11, Try.ntmps11
    go_wp2_with fail
    refine (i1 _).mono ?_
    rintro e w1 ⟨rfl, hw⟩
    subst hw
    go_wp2
    go_ret
    exact ⟨by first | (simp; omega) | (simp; done) | (simp_all; done) | (simp_all; omega), B0⟩
set_option maxHeartbeats 800000 in
theorem markRec_any (D : RecD) (a : Option Addr) (c n : Nat) (zs : List Int) (w : World) (hn : D.body.length = n) (hs : n ≤ 4000000) (ho : RowB w (.slice a n c) n zs) :
    Calls Try.prog 23 #[.agg (recC D a c), .int .i64 1] w fun e w' => e = .returned (.int .i64 ((1 + n : Nat) : Int)) ∧ RowB w' (.slice a n c) n (marksG 1 n) ∧ w.grownBy w' (Value.slice a n c).ownBlock := by
  have hbl : ∀ g, (Value.slice a n c).ownBlock = some g → (w.alloc (.cells (recC D a c) 25)).heap[g]? = w.heap[g]? := fun g hg => ((Below.refl _ w).alloc (Nat.le_refl _) _).block g (ho.at_ hg).1
  have hg0 : w.grownBy (w.alloc (.cells (recC D a c) 25)) (Value.slice a n c).ownBlock := World.grownBy_alloc w _ _
  have ho1 := ho.block hbl
  unfold recC at ho1 hg0 ⊢
  rw [hn] at ho1 hg0 ⊢
  clear hn hbl ho
  go_enter Try.func23, Try.ntmps23
  go_wp2_with fail
  refine (markBG (.slice a n c) n 1 zs _ (Nat.le_refl _) (by omega) ho1).mono ?_
  rintro e w1 ⟨rfl, o1, g1⟩
  go_wp2
  go_ret
  exact ⟨rfl, o1, hg0.trans g1⟩
set_option maxHeartbeats 800000 in
theorem heldRec_any (D : RecD) (a : Option Addr) (c n : Nat) (w : World) (hn : D.body.length = n) (hs : n ≤ 4000000) (ho : RowB w (.slice a n c) n (marksG 1 n)) :
    Calls Try.prog 27 #[.agg (recC D a c), .int .i64 1] w fun e w' => e = .returned (.int .i64 ((1 + n : Nat) : Int)) ∧ Below w.heap.size w w' := by
  have B0 : Below w.heap.size w (w.alloc (.cells (recC D a c) 25)) := (Below.refl _ w).alloc (Nat.le_refl _) _
  have ho1 := ho.block (fun g hg => B0.block g (ho.at_ hg).1)
  unfold recC at ho1 B0 ⊢
  rw [hn] at ho1 B0 ⊢
  obtain ⟨m, hm⟩ : ∃ m, 1 + n = m := ⟨_, rfl⟩
  have hm0 : ¬ (m : Int) < 0 := by omega
  clear hn ho
  go_enter Try.func27, Try.ntmps27
  go_wp2_with fail
  refine (heldBG (.slice a n c) n 1 _ (Nat.le_refl _) (by omega) ho1).mono ?_
  rintro e w1 ⟨rfl, hw⟩
  rw [hm]
  subst hw
  go_wp2
  go_ret
  exact ⟨by rw [hm]; rfl, B0⟩
end Go.Proofs.Ytjpefnicemlobaa
