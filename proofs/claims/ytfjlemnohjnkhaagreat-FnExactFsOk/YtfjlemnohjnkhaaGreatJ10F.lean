/-
  Joined: TabOpen, TabW, DropQ.
-/
import Derived.Test.YtfjlemnohjnkhaaGreatJ07F
import Derived.Test.YtfjlemnohjnkhaaGreatEqTabF
namespace Go.Proofs.YtfjlemnohjnkhaaGreat
section
open Go.ChangeShapes Go.WideShapes Go.ChangeAt Go.RowKit
section
variable {H : Type} {enc : TypeId × Value → H} {w : World} {base : Nat} {held : Bool}
theorem cells_six {a : Addr} {cs : List Value} (h : w.cells? base a 6 = some cs) : ∃ v0 v1 v2 v3 v4 v5, cs = [v0, v1, v2, v3, v4, v5] ∧ w.cell? a = some v0 ∧ w.cell? (a.add 1) = some v1 ∧ w.cell? (a.add 2) = some v2 ∧ w.cell? (a.add 3) = some v3 ∧ w.cell? (a.add 4) = some v4 ∧ w.cell? (a.add 5) = some v5 := by
  unfold World.cells? at h
  split at h
  · have e : List.range 6 = [0, 1, 2, 3, 4, 5] := rfl
    rw [e] at h
    simp only [List.mapM_cons, List.mapM_nil, Option.bind_eq_bind, Option.pure_def, Option.bind_eq_some_iff, Option.some.injEq] at h
    obtain ⟨v0, h0, _, ⟨v1, h1, _, ⟨v2, h2, _, ⟨v3, h3, _, ⟨v4, h4, _, ⟨v5, h5, _, rfl, rfl⟩, rfl⟩, rfl⟩, rfl⟩, rfl⟩, rfl⟩ := h
    exact ⟨v0, v1, v2, v3, v4, v5, rfl, by simpa [Addr.add] using h0, h1, h2, h3, h4, h5⟩
  · simp at h
set_option maxRecDepth 100000 in
set_option maxHeartbeats 1000000 in
theorem open_inode_cells {fuel : Nat} {cs : List Value} {x : DataW H × List MemPlace} (hf : DataW.trod enc Tryz.prog w base (fun _ => true) held fuel 155 cs = some x) :
    ∃ r : InoR, cs = r.six ∧ InoIn r.D ∧ r.rd w := by
  obtain ⟨xs, n, _, _, hl, hlen, hfld⟩ := DataW.trod_struct Tryz.underlying155 hf
  have hC : Tryz.prog.cellsOf 155 = 6 := by kernel_rfl
  have k3 : Tryz.prog.cellsOf 3 = 1 := by kernel_rfl
  have k22 : Tryz.prog.cellsOf 33 = 1 := by kernel_rfl
  have k41 : Tryz.prog.cellsOf 152 = 1 := by kernel_rfl
  have k42 : Tryz.prog.cellsOf 153 = 1 := by kernel_rfl
  rw [hC] at hl
  obtain ⟨v0, v1, v2, v3, v4, v5, rfl⟩ := list6 hl
  obtain ⟨y0, y1, y2, y3, y4, y5, rfl⟩ := list6 hlen
  have f0 := hfld 0 _ rfl
  have f1 := hfld 1 _ rfl
  have f2 := hfld 2 _ rfl
  have f3 := hfld 3 _ rfl
  have f4 := hfld 4 _ rfl
  have f5 := hfld 5 _ rfl
  simp [k3, k22, k41, k42] at f0 f1 f2 f3 f4 f5
  obtain ⟨ino, e0, _, w0⟩ := DataW.trod_int Tryz.underlying3 f0
  obtain ⟨kind, e1, _, w1⟩ := DataW.trod_int Tryz.underlying3 f1
  obtain ⟨links, e2, _, w2⟩ := DataW.trod_int Tryz.underlying3 f2
  obtain ⟨a2, n2, c2, es, e4, m2, l2, q2, p2⟩ := open_pairs (α := ByteArray × Int) (fun e => (.string e.1, .int .i64 e.2)) (fun q => q.1.size ≤ maxLen ∧ (Lit.int .i64 q.2).wf = true) Tryz.underlying152 (by kernel_rfl) (by
    intro n cs' y hy
    obtain ⟨y0, y1, n', _, hcl, g0, g1⟩ := trod_struct2 Tryz.underlying197 hy
    have hc2 : Tryz.prog.cellsOf 197 = 2 := by kernel_rfl
    have k9 : Tryz.prog.cellsOf 9 = 1 := by kernel_rfl
    rw [hc2] at hcl
    obtain ⟨u0, u1, rfl⟩ := list2 hcl
    simp [k3, k9] at g0 g1
    obtain ⟨z, ez, _, hz⟩ := DataW.trod_string Tryz.underlying9 g0
    obtain ⟨x, ex, _, hx⟩ := DataW.trod_int Tryz.underlying3 g1
    simp only [List.cons.injEq, and_true] at ez ex
    exact ⟨(z, x), by rw [ez, ex], hz, hx⟩) f4
  obtain ⟨a3, n3, c3, ats, e5, m3, l3, q3, p3⟩ := open_pairs (α := ByteArray × ByteArray) (fun e => (.string e.1, .string e.2)) (fun q => q.1.size ≤ maxLen ∧ q.2.size ≤ maxLen) Tryz.underlying153 (by kernel_rfl) (by
    intro n cs' y hy
    obtain ⟨y0, y1, n', _, hcl, g0, g1⟩ := trod_struct2 Tryz.underlying199 hy
    have hc2 : Tryz.prog.cellsOf 199 = 2 := by kernel_rfl
    have k9 : Tryz.prog.cellsOf 9 = 1 := by kernel_rfl
    rw [hc2] at hcl
    obtain ⟨u0, u1, rfl⟩ := list2 hcl
    simp [k9] at g0 g1
    obtain ⟨z, ez, _, hz⟩ := DataW.trod_string Tryz.underlying9 g0
    obtain ⟨x, ex, _, hx⟩ := DataW.trod_string Tryz.underlying9 g1
    simp only [List.cons.injEq, and_true] at ez ex
    exact ⟨(z, x), by rw [ez, ex], hz, hx⟩) f5
  obtain ⟨a1, n1, c1, zs, e3, m1, l1, r1, b1⟩ : ∃ (a1 : Option Addr) (n1 c1 : Nat) (zs : List Int), [v3] = [.slice a1 n1 c1] ∧ n1 ≤ maxLen ∧ zs.length = n1 ∧ Rd w a1 zs ∧ Byt zs := by
    rcases open_ints Tryz.underlying33 Tryz.underlying5 (by kernel_rfl) f3 with ⟨hcs, _⟩ | ⟨x, l, c, zs, hcs, _, hl, hm, hz, _, hcell, hwz⟩
    · exact ⟨none, 0, 0, [], hcs, Nat.zero_le _, rfl, .inl rfl, fun z hz => by simp at hz⟩
    · obtain ⟨ys, hy, hr, hb⟩ := rd_of_row (w := w) (a := some x) (len := l) (cap := c) (zs := zs) (.inr ⟨x, rfl, hl, hm, by simpa using hz, hcell, hwz⟩)
      exact ⟨some x, l, c, ys, hcs, Nat.le_trans hl hm, hy, hr, hb⟩
  simp only [List.cons.injEq, and_true] at e0 e1 e2 e3 e4 e5
  subst e0 e1 e2 e3 e4 e5 l1 l2 l3
  exact ⟨⟨⟨ino, kind, links, zs, es, ats⟩, a1, c1, a2, c2, a3, c3⟩, rfl, ⟨w0, w1, w2, m1, m2, m3, q2, q3⟩, ⟨r1, b1, p2, p3⟩⟩
/-- A slice of inodes that came in, opened. -/
theorem open_inodes {fuel : Nat} {cs : List Value} {x : DataW H × List MemPlace} (h : DataW.trod enc Tryz.prog w base (fun _ => true) held fuel 75 cs = some x) :
    ∃ (a : Option Addr) (cap : Nat) (rs : List InoR), cs = [.slice a rs.length cap] ∧ rs.length ≤ maxLen ∧ (∀ r ∈ rs, InoIn r.D) ∧ RdI w a rs := by
  rcases Deep.open_slice Tryz.underlying75 h with ⟨rfl, _⟩ | ⟨a, len, cap, m, n, D, Pl, rfl, _, hl, hm, hmm, _, hx⟩
  · exact ⟨none, 0, [], rfl, Nat.zero_le _, fun q hq => by simp at hq, .inl rfl⟩
  · simp only [if_true] at hmm
    subst hmm
    have hC : Tryz.prog.cellsOf 155 = 6 := by kernel_rfl
    rw [hC] at hx
    haveI : Inhabited InoR := ⟨inoZ⟩
    obtain ⟨f, hf⟩ := Deep.choose_lt (α := InoR) (n := len) (p := fun i q => (w.cell? (a.add (i * 6)) = some (.int .i64 q.D.ino) ∧ w.cell? ((a.add (i * 6)).add 1) = some (.int .i64 q.D.kind) ∧ w.cell? ((a.add (i * 6)).add 2) = some (.int .i64 q.D.links) ∧ w.cell? ((a.add (i * 6)).add 3) = some (.slice q.a1 q.D.data.length q.c1) ∧ w.cell? ((a.add (i * 6)).add 4) = some (.slice q.a2 q.D.ents.length q.c2) ∧ w.cell? ((a.add (i * 6)).add 5) = some (.slice q.a3 q.D.attrs.length q.c3)) ∧ InoIn q.D ∧ q.rd w) (fun i hi => by
      obtain ⟨cs', h1, h2⟩ := hx i (by omega)
      obtain ⟨q, hq, hI, hR⟩ := open_inode_cells h2
      obtain ⟨v0, v1, v2, v3, v4, v5, e, k0, k1, k2, k3, k4, k5⟩ := cells_six h1
      rw [hq] at e
      unfold InoR.six at e
      simp only [List.cons.injEq, and_true] at e
      obtain ⟨e0, e1, e2, e3, e4, e5⟩ := e
      exact ⟨q, ⟨by rw [k0, e0], by rw [k1, e1], by rw [k2, e2], by rw [k3, e3], by rw [k4, e4], by rw [k5, e5]⟩, hI, hR⟩)
    refine ⟨some a, m, (List.range len).map f, by simp, by simp; omega, ?_, ?_⟩
    · intro q hq
      obtain ⟨i, hi, rfl⟩ := List.mem_map.1 hq
      exact (hf i (List.mem_range.1 hi)).2.1
    · by_cases h0 : len = 0
      · subst h0; exact .inl rfl
      · obtain ⟨b, off, spot⟩ := a
        have hc0 := (hf 0 (by omega)).1.1
        have hspot : spot = none := by simpa [Addr.add] using World.cell?_spot hc0
        subst hspot
        refine .inr ⟨b, off, rfl, fun i r hi => ?_⟩
        obtain ⟨hi', hr'⟩ := List.getElem?_eq_some_iff.1 hi
        simp only [List.length_map, List.length_range] at hi'
        simp at hr'
        subst hr'
        obtain ⟨⟨k0, k1, k2, k3, k4, k5⟩, _, hR⟩ := hf i hi'
        have e1 : (⟨b, off, none⟩ : Addr).add (i * 6) = ⟨b, off + i * 6, none⟩ := by simp [Addr.add]
        have e2 : ∀ j, (⟨b, off + i * 6, none⟩ : Addr).add j = ⟨b, off + i * 6 + j, none⟩ := fun j => by simp [Addr.add]
        rw [e1] at k0 k1 k2 k3 k4 k5
        rw [e2] at k1 k2 k3 k4 k5
        exact ⟨⟨k0, k1, k2, k3, k4, k5⟩, hR⟩
end
end

section
open Go.RowKit
theorem Cpd.len {w : World} {B : Nat} {rs ts : List InoR} (h : Cpd w B rs ts) : ts.length = rs.length := by
  have := congrArg List.length h.1
  simpa using this
theorem Cpd.small {w : World} {B : Nat} {rs ts : List InoR} (h : Cpd w B rs ts) (hs : ∀ r ∈ rs, InoSmall r.D) : ∀ r ∈ ts, InoSmall r.D := by
  intro r hr
  have h1 : r.D ∈ ts.map InoR.D := List.mem_map_of_mem hr
  rw [h.1] at h1
  obtain ⟨q, hq, hqr⟩ := List.mem_map.1 h1
  rw [← hqr]
  exact hs q hq
theorem Cpd.keep {w w' : World} {B : Nat} {rs ts : List InoR} (h : Cpd w B rs ts) (hb : Below w.heap.size w w') : Cpd w' B rs ts := ⟨h.1, fun r hr => (h.2 r hr).keep hb⟩
/-- A table copied: the row g, at or behind B; the copies' data are rs's. -/
structure TabQ (w : World) (B g n : Nat) (rs ts : List InoR) : Prop where
  at_ : B ≤ g
  len : rs.length = n
  cpd : Cpd w (g + 1) rs ts
  own : OwnI w g n n ts
theorem TabQ.keep {w w' : World} {B g n : Nat} {rs ts : List InoR} (h : TabQ w B g n rs ts) (hb : Below w.heap.size w w') : TabQ w' B g n rs ts := ⟨h.at_, h.len, h.cpd.keep hb, h.own.keep hb⟩
theorem TabQ.rd {w : World} {B g n : Nat} {rs ts : List InoR} (h : TabQ w B g n rs ts) : RdI w (some ⟨g, 0, none⟩) ts := h.own.rd h.cpd.2
theorem TabQ.tlen {w : World} {B g n : Nat} {rs ts : List InoR} (h : TabQ w B g n rs ts) : ts.length = n := by rw [h.cpd.len, h.len]
/-- toTab, in these words. -/
theorem toTabQ (a : Option Addr) (n cap : Nat) (nx : Int) (rs : List InoR) (w : World) (hn : rs.length = n) (hs : n ≤ 1048576) (hsm : ∀ r ∈ rs, InoSmall r.D) (hr : RdI w a rs) :
    Calls Tryz.prog 78 #[.agg #[.slice a n cap, .int .i64 nx]] w fun e w' => ∃ g ts, e = .returned (.agg #[.slice (some ⟨g, 0, none⟩) n n, .int .i64 nx]) ∧ TabQ w' w.heap.size g n rs ts ∧ Below w.heap.size w w' :=
  (toTab_any a n cap nx rs w hn hs hsm hr).mono fun _ _ ⟨g, ts, h1, h2, h3, h4, h5⟩ => ⟨g, ts, h1, ⟨h2, hn, h3, h4⟩, h5⟩
/-- eqTab of two copies, or of a copy and what it is of. -/
theorem eqTabQ (B B' g g' n cap cap' : Nat) (nx : Int) (rs ts ts' : List InoR) (w : World) (hs : n ≤ 1048576) (hsm : ∀ r ∈ rs, InoSmall r.D) (h : TabQ w B g n rs ts) (h' : TabQ w B' g' n rs ts') :
    Calls Tryz.prog 82 #[.agg #[.slice (some ⟨g, 0, none⟩) n cap, .int .i64 nx], .agg #[.slice (some ⟨g', 0, none⟩) n cap', .int .i64 nx]] w fun e w' => e = .returned (.bool true) ∧ Below w.heap.size w w' :=
  eqTab_same _ _ n cap cap' nx ts ts' w h.tlen (by omega) (by rw [h'.cpd.1, h.cpd.1]) (h.cpd.small hsm) h.rd h'.rd
/-- The box of a table. -/
def BoxT (W : World) (B : Nat) (t : TypeId) (a : Option Addr) (n cap : Nat) (nx : Int) : Prop := Blk W B t #[.slice a n cap, .int .i64 nx]
theorem BoxT.keep {W W' : World} {B : Nat} {t : TypeId} {a : Option Addr} {n cap : Nat} {nx : Int} (h : BoxT W B t a n cap nx) (hb : Below W.heap.size W W') : BoxT W' B t a n cap nx := Blk.keep h hb
theorem BoxT.lt {W : World} {B : Nat} {t : TypeId} {a : Option Addr} {n cap : Nat} {nx : Int} (h : BoxT W B t a n cap nx) : B < W.heap.size := Blk.lt h
theorem BoxT.two {W : World} {B : Nat} {t : TypeId} {a : Option Addr} {n cap : Nat} {nx : Int} (h : BoxT W B t a n cap nx) : W.cell? ⟨B, 0, none⟩ = some (.slice a n cap) ∧ W.cell? ⟨B, 1, none⟩ = some (.int .i64 nx) := ⟨Blk.cell h 0, Blk.cell h 1⟩
theorem BoxT.new (W : World) (t : TypeId) (a : Option Addr) (n cap : Nat) (nx : Int) : BoxT (W.alloc (.cells #[.slice a n cap, .int .i64 nx] t)) W.heap.size t a n cap nx := Blk.new W t _
end

section
open Go.RowKit
theorem row_keep6 {B : Nat} {e : TypeId} {s n : Nat} {W W' : World} {v : Value} {xs : List Value} (h : W.ownsRow B e s v n xs) (hb : Below W.heap.size W W') : W'.ownsRow B e s v n xs := row_kp h (KpT.below hb [e]) (by simp)
end
end Go.Proofs.YtfjlemnohjnkhaaGreat
