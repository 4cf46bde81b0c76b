/-
  Joined: TabOpen, TabW, SzW, MarkI, Puts.
-/
import Derived.Test.YtmfimoccemgoiaaGreatDoorEqTabB
import Derived.Deep.DeepCutAuto
import Derived.Lib.AppendStr
namespace Go.Proofs.YtmfimoccemgoiaaGreatDoor
section
open Go.ChangeShapes Go.WideShapes Go.ChangeAt Go.RowKit
section
variable {H : Type} {enc : TypeId × Value → H} {w : World} {base : Nat} {held : Bool}
theorem cells_six {a : Addr} {cs : List Value} (h : w.cells? base a 6 = some cs) : ∃ v0 v1 v2 v3 v4 v5, cs = [v0, v1, v2, v3, v4, v5] ∧ w.cell? a = some v0 ∧ w.cell? (a.add 1) = some v1 ∧ w.cell? (a.add 2) = some v2 ∧ w.cell? (a.add 3) = some v3 ∧ w.cell? (a.add 4) = some v4 ∧ w.cell? (a.add 5) = some v5 := by
  unfold World.cells? at h
  split at h
  · have e : List.range 6 = [0, 1, 2, 3, 4, 5] := rfl
    rw [e] at h
    simp only [List.mapM_cons, List.mapM_nil, Option.bind_eq_bind, Option.pure_def, Option.bind_eq_some_iff, Option.some.injEq] at h
    obtain ⟨v0, h0, _, ⟨v1, h1, _, ⟨v2, h2, _, ⟨v3, h3, _, ⟨v4, h4, _, ⟨v5, h5, _, rfl, rfl⟩, rfl⟩, rfl⟩, rfl⟩, rfl⟩, rfl⟩ := h
    exact ⟨v0, v1, v2, v3, v4, v5, rfl, by simpa [Addr.add] using h0, h1, h2, h3, h4, h5⟩
  · simp at h
set_option maxRecDepth 100000 in
set_option maxHeartbeats 1000000 in
theorem open_inode_cells {fuel : Nat} {cs : List Value} {x : DataW H × List MemPlace} (hf : DataW.trod enc Tryz.prog w base (fun _ => true) held fuel 134 cs = some x) :
    ∃ r : InoR, cs = r.six ∧ InoIn r.D ∧ r.rd w := by
  obtain ⟨xs, n, _, _, hl, hlen, hfld⟩ := DataW.trod_struct Tryz.underlying134 hf
  have hC : Tryz.prog.cellsOf 134 = 6 := by kernel_rfl
  have k3 : Tryz.prog.cellsOf 3 = 1 := by kernel_rfl
  have k22 : Tryz.prog.cellsOf 37 = 1 := by kernel_rfl
  have k41 : Tryz.prog.cellsOf 131 = 1 := by kernel_rfl
  have k42 : Tryz.prog.cellsOf 132 = 1 := by kernel_rfl
  rw [hC] at hl
  obtain ⟨v0, v1, v2, v3, v4, v5, rfl⟩ := list6 hl
  obtain ⟨y0, y1, y2, y3, y4, y5, rfl⟩ := list6 hlen
  have f0 := hfld 0 _ rfl
  have f1 := hfld 1 _ rfl
  have f2 := hfld 2 _ rfl
  have f3 := hfld 3 _ rfl
  have f4 := hfld 4 _ rfl
  have f5 := hfld 5 _ rfl
  simp [k3, k22, k41, k42] at f0 f1 f2 f3 f4 f5
  obtain ⟨ino, e0, _, w0⟩ := DataW.trod_int Tryz.underlying3 f0
  obtain ⟨kind, e1, _, w1⟩ := DataW.trod_int Tryz.underlying3 f1
  obtain ⟨links, e2, _, w2⟩ := DataW.trod_int Tryz.underlying3 f2
  obtain ⟨a2, n2, c2, es, e4, m2, l2, q2, p2⟩ := open_pairs (α := ByteArray × Int) (fun e => (.string e.1, .int .i64 e.2)) (fun q => q.1.size ≤ maxLen ∧ (Lit.int .i64 q.2).wf = true) Tryz.underlying131 (by kernel_rfl) (by
    intro n cs' y hy
    obtain ⟨y0, y1, n', _, hcl, g0, g1⟩ := trod_struct2 Tryz.underlying223 hy
    have hc2 : Tryz.prog.cellsOf 223 = 2 := by kernel_rfl
    have k9 : Tryz.prog.cellsOf 9 = 1 := by kernel_rfl
    rw [hc2] at hcl
    obtain ⟨u0, u1, rfl⟩ := list2 hcl
    simp [k3, k9] at g0 g1
    obtain ⟨z, ez, _, hz⟩ := DataW.trod_string Tryz.underlying9 g0
    obtain ⟨x, ex, _, hx⟩ := DataW.trod_int Tryz.underlying3 g1
    simp only [List.cons.injEq, and_true] at ez ex
    exact ⟨(z, x), by rw [ez, ex], hz, hx⟩) f4
  obtain ⟨a3, n3, c3, ats, e5, m3, l3, q3, p3⟩ := open_pairs (α := ByteArray × ByteArray) (fun e => (.string e.1, .string e.2)) (fun q => q.1.size ≤ maxLen ∧ q.2.size ≤ maxLen) Tryz.underlying132 (by kernel_rfl) (by
    intro n cs' y hy
    obtain ⟨y0, y1, n', _, hcl, g0, g1⟩ := trod_struct2 Tryz.underlying225 hy
    have hc2 : Tryz.prog.cellsOf 225 = 2 := by kernel_rfl
    have k9 : Tryz.prog.cellsOf 9 = 1 := by kernel_rfl
    rw [hc2] at hcl
    obtain ⟨u0, u1, rfl⟩ := list2 hcl
    simp [k9] at g0 g1
    obtain ⟨z, ez, _, hz⟩ := DataW.trod_string Tryz.underlying9 g0
    obtain ⟨x, ex, _, hx⟩ := DataW.trod_string Tryz.underlying9 g1
    simp only [List.cons.injEq, and_true] at ez ex
    exact ⟨(z, x), by rw [ez, ex], hz, hx⟩) f5
  obtain ⟨a1, n1, c1, zs, e3, m1, l1, r1, b1⟩ : ∃ (a1 : Option Addr) (n1 c1 : Nat) (zs : List Int), [v3] = [.slice a1 n1 c1] ∧ n1 ≤ maxLen ∧ zs.length = n1 ∧ Rd w a1 zs ∧ Byt zs := by
    rcases open_ints Tryz.underlying37 Tryz.underlying5 (by kernel_rfl) f3 with ⟨hcs, _⟩ | ⟨x, l, c, zs, hcs, _, hl, hm, hz, _, hcell, hwz⟩
    · exact ⟨none, 0, 0, [], hcs, Nat.zero_le _, rfl, .inl rfl, fun z hz => by simp at hz⟩
    · obtain ⟨ys, hy, hr, hb⟩ := rd_of_row (w := w) (a := some x) (len := l) (cap := c) (zs := zs) (.inr ⟨x, rfl, hl, hm, by simpa using hz, hcell, hwz⟩)
      exact ⟨some x, l, c, ys, hcs, Nat.le_trans hl hm, hy, hr, hb⟩
  simp only [List.cons.injEq, and_true] at e0 e1 e2 e3 e4 e5
  subst e0 e1 e2 e3 e4 e5 l1 l2 l3
  exact ⟨⟨⟨ino, kind, links, zs, es, ats⟩, a1, c1, a2, c2, a3, c3⟩, rfl, ⟨w0, w1, w2, m1, m2, m3, q2, q3⟩, ⟨r1, b1, p2, p3⟩⟩
/-- A slice of inodes that came in, opened. -/
theorem open_inodes {fuel : Nat} {cs : List Value} {x : DataW H × List MemPlace} (h : DataW.trod enc Tryz.prog w base (fun _ => true) held fuel 22 cs = some x) :
    ∃ (a : Option Addr) (cap : Nat) (rs : List InoR), cs = [.slice a rs.length cap] ∧ rs.length ≤ maxLen ∧ (∀ r ∈ rs, InoIn r.D) ∧ RdI w a rs := by
  rcases Deep.open_slice Tryz.underlying22 h with ⟨rfl, _⟩ | ⟨a, len, cap, m, n, D, Pl, rfl, _, hl, hm, hmm, _, hx⟩
  · exact ⟨none, 0, [], rfl, Nat.zero_le _, fun q hq => by simp at hq, .inl rfl⟩
  · simp only [if_true] at hmm
    subst hmm
    have hC : Tryz.prog.cellsOf 134 = 6 := by kernel_rfl
    rw [hC] at hx
    haveI : Inhabited InoR := ⟨inoZ⟩
    obtain ⟨f, hf⟩ := Deep.choose_lt (α := InoR) (n := len) (p := fun i q => (w.cell? (a.add (i * 6)) = some (.int .i64 q.D.ino) ∧ w.cell? ((a.add (i * 6)).add 1) = some (.int .i64 q.D.kind) ∧ w.cell? ((a.add (i * 6)).add 2) = some (.int .i64 q.D.links) ∧ w.cell? ((a.add (i * 6)).add 3) = some (.slice q.a1 q.D.data.length q.c1) ∧ w.cell? ((a.add (i * 6)).add 4) = some (.slice q.a2 q.D.ents.length q.c2) ∧ w.cell? ((a.add (i * 6)).add 5) = some (.slice q.a3 q.D.attrs.length q.c3)) ∧ InoIn q.D ∧ q.rd w) (fun i hi => by
      obtain ⟨cs', h1, h2⟩ := hx i (by omega)
      obtain ⟨q, hq, hI, hR⟩ := open_inode_cells h2
      obtain ⟨v0, v1, v2, v3, v4, v5, e, k0, k1, k2, k3, k4, k5⟩ := cells_six h1
      rw [hq] at e
      unfold InoR.six at e
      simp only [List.cons.injEq, and_true] at e
      obtain ⟨e0, e1, e2, e3, e4, e5⟩ := e
      exact ⟨q, ⟨by rw [k0, e0], by rw [k1, e1], by rw [k2, e2], by rw [k3, e3], by rw [k4, e4], by rw [k5, e5]⟩, hI, hR⟩)
    refine ⟨some a, m, (List.range len).map f, by simp, by simp; omega, ?_, ?_⟩
    · intro q hq
      obtain ⟨i, hi, rfl⟩ := List.mem_map.1 hq
      exact (hf i (List.mem_range.1 hi)).2.1
    · by_cases h0 : len = 0
      · subst h0; exact .inl rfl
      · obtain ⟨b, off, spot⟩ := a
        have hc0 := (hf 0 (by omega)).1.1
        have hspot : spot = none := by simpa [Addr.add] using World.cell?_spot hc0
        subst hspot
        refine .inr ⟨b, off, rfl, fun i r hi => ?_⟩
        obtain ⟨hi', hr'⟩ := List.getElem?_eq_some_iff.1 hi
        simp only [List.length_map, List.length_range] at hi'
        simp at hr'
        subst hr'
        obtain ⟨⟨k0, k1, k2, k3, k4, k5⟩, _, hR⟩ := hf i hi'
        have e1 : (⟨b, off, none⟩ : Addr).add (i * 6) = ⟨b, off + i * 6, none⟩ := by simp [Addr.add]
        have e2 : ∀ j, (⟨b, off + i * 6, none⟩ : Addr).add j = ⟨b, off + i * 6 + j, none⟩ := fun j => by simp [Addr.add]
        rw [e1] at k0 k1 k2 k3 k4 k5
        rw [e2] at k1 k2 k3 k4 k5
        exact ⟨⟨k0, k1, k2, k3, k4, k5⟩, hR⟩
set_option maxRecDepth 100000 in
theorem open_tab {base' : Nat} {v : Value} {d : DataW H} {p : List MemPlace} (hv : Value.okWide Tryz.prog w .any base' 24 v) (h : DataW.Trod enc Tryz.prog w base (fun _ => true) held 24 v d p) :
    ∃ (a : Option Addr) (cap : Nat) (nx : Int) (rs : List InoR), v = .agg #[.slice a rs.length cap, .int .i64 nx] ∧ (Lit.int .i64 nx).wf = true ∧ rs.length ≤ maxLen ∧ (∀ r ∈ rs, InoIn r.D) ∧ RdI w a rs := by
  obtain ⟨cs, rfl, hsz⟩ := okWide_struct Tryz.underlying24 hv
  obtain ⟨fuel, hf⟩ := h
  obtain ⟨xs, n, _, _, hl, hlen, hfld⟩ := DataW.trod_struct Tryz.underlying24 hf
  have hC : Tryz.prog.cellsOf 24 = 2 := by kernel_rfl
  have k3 : Tryz.prog.cellsOf 3 = 1 := by kernel_rfl
  have k22 : Tryz.prog.cellsOf 22 = 1 := by kernel_rfl
  rw [hC] at hsz
  obtain ⟨l⟩ := cs
  simp only [List.size_toArray] at hsz
  obtain ⟨v0, v1, rfl⟩ := list2 hsz
  obtain ⟨y0, y1, rfl⟩ := list2 hlen
  have f0 := hfld 0 _ rfl
  have f1 := hfld 1 _ rfl
  simp [Value.cells, k3, k22] at f0 f1
  obtain ⟨a, cap, rs, e0, hm, hI, hR⟩ := open_inodes f0
  obtain ⟨nx, e1, _, w1⟩ := DataW.trod_int Tryz.underlying3 f1
  simp only [List.cons.injEq, and_true] at e0 e1
  subst e0 e1
  exact ⟨a, cap, nx, rs, rfl, w1, hm, hI, hR⟩
end
end

section
open Go.RowKit
theorem Cpd.len {w : World} {B : Nat} {rs ts : List InoR} (h : Cpd w B rs ts) : ts.length = rs.length := by
  have := congrArg List.length h.1
  simpa using this
theorem Cpd.small {w : World} {B : Nat} {rs ts : List InoR} (h : Cpd w B rs ts) (hs : ∀ r ∈ rs, InoSmall r.D) : ∀ r ∈ ts, InoSmall r.D := by
  intro r hr
  have h1 : r.D ∈ ts.map InoR.D := List.mem_map_of_mem hr
  rw [h.1] at h1
  obtain ⟨q, hq, hqr⟩ := List.mem_map.1 h1
  rw [← hqr]
  exact hs q hq
theorem Cpd.keep {w w' : World} {B : Nat} {rs ts : List InoR} (h : Cpd w B rs ts) (hb : Below w.heap.size w w') : Cpd w' B rs ts := ⟨h.1, fun r hr => (h.2 r hr).keep hb⟩
/-- A table copied: the row g, at or behind B; the copies' data are rs's. -/
structure TabQ (w : World) (B g n : Nat) (rs ts : List InoR) : Prop where
  at_ : B ≤ g
  len : rs.length = n
  cpd : Cpd w (g + 1) rs ts
  own : OwnI w g n n ts
theorem TabQ.keep {w w' : World} {B g n : Nat} {rs ts : List InoR} (h : TabQ w B g n rs ts) (hb : Below w.heap.size w w') : TabQ w' B g n rs ts := ⟨h.at_, h.len, h.cpd.keep hb, h.own.keep hb⟩
theorem TabQ.rd {w : World} {B g n : Nat} {rs ts : List InoR} (h : TabQ w B g n rs ts) : RdI w (some ⟨g, 0, none⟩) ts := h.own.rd h.cpd.2
theorem TabQ.tlen {w : World} {B g n : Nat} {rs ts : List InoR} (h : TabQ w B g n rs ts) : ts.length = n := by rw [h.cpd.len, h.len]
/-- eqTab of two copies, or of a copy and what it is of. -/
theorem eqTabQ (B B' g g' n cap cap' : Nat) (nx : Int) (rs ts ts' : List InoR) (w : World) (hs : n ≤ 1048576) (hsm : ∀ r ∈ rs, InoSmall r.D) (h : TabQ w B g n rs ts) (h' : TabQ w B' g' n rs ts') :
    Calls Tryz.prog 19 #[.agg #[.slice (some ⟨g, 0, none⟩) n cap, .int .i64 nx], .agg #[.slice (some ⟨g', 0, none⟩) n cap', .int .i64 nx]] w fun e w' => e = .returned (.bool true) ∧ Below w.heap.size w w' :=
  eqTab_same _ _ n cap cap' nx ts ts' w h.tlen (by omega) (by rw [h'.cpd.1, h.cpd.1]) (h.cpd.small hsm) h.rd h'.rd
end

section
open Go.RowKit
/-- What the measuring functions answer: below 0, or what is left of x when c is taken, and P. -/
def SzQ (x c : Nat) (P : Prop) (e : Ending) : Prop := e = .returned (.int .i64 (-1)) ∨ ∃ v : Nat, v + c ≤ x ∧ e = .returned (.int .i64 v) ∧ P
/-- How much the lists of inodes hold. -/
def cntI (rs : List InoR) : Nat := (rs.map fun r => r.D.data.length + r.D.ents.length + r.D.attrs.length).sum
set_option maxHeartbeats 400000 in
theorem szByteS_w (a : Option Addr) (n cap x : Nat) (w : World) (hn : n ≤ maxLen) (hx : x ≤ 1048576) :
    Calls Tryz.prog 160 #[.slice a n cap, .int .i64 x] w fun e w' => SzQ x n (n ≤ 1048576) e ∧ Below w.heap.size w w' := by
  unfold maxLen at hn
  by_cases h : x < n
  · have h1 : ((x : Int) - (n : Int)) < 0 := by omega
    go_enter Tryz.func160, Tryz.ntmps160
    go_wp2
    go_ret
    exact ⟨.inl rfl, Below.refl _ _⟩
  · have h1 : ¬ ((x : Int) - (n : Int)) < 0 := by omega
    go_enter Tryz.func160, Tryz.ntmps160
    go_wp2
    go_ret
    exact ⟨.inr ⟨x - n, by omega, ret_int (by omega), by omega⟩, Below.refl _ _⟩
set_option maxHeartbeats 400000 in
theorem szEnt_w (z : ByteArray) (y : Int) (x : Nat) (w : World) (hz : z.size ≤ maxLen) (hx : x ≤ 1048576) :
    Calls Tryz.prog 213 #[.agg #[.string z, .int .i64 y], .int .i64 x] w fun e w' => SzQ x 0 (z.size ≤ 1048576) e ∧ Below w.heap.size w w' := by
  unfold maxLen at hz
  by_cases h : x < z.size
  · have h1 : ((x : Int) - (z.size : Int)) < 0 := by omega
    go_enter Tryz.func213, Tryz.ntmps213
    go_wp2
    go_ret
    exact ⟨.inl rfl, (Below.refl _ w).alloc (Nat.le_refl _) _⟩
  · have h1 : ¬ ((x : Int) - (z.size : Int)) < 0 := by omega
    go_enter Tryz.func213, Tryz.ntmps213
    go_wp2
    go_ret
    exact ⟨.inr ⟨x - z.size, by omega, ret_int (by omega), by omega⟩, (Below.refl _ w).alloc (Nat.le_refl _) _⟩
set_option maxHeartbeats 400000 in
theorem szAttr_w (z y : ByteArray) (x : Nat) (w : World) (hz : z.size ≤ maxLen ∧ y.size ≤ maxLen) (hx : x ≤ 1048576) :
    Calls Tryz.prog 214 #[.agg #[.string z, .string y], .int .i64 x] w fun e w' => SzQ x 0 (z.size ≤ 1048576 ∧ y.size ≤ 1048576) e ∧ Below w.heap.size w w' := by
  unfold maxLen at hz
  obtain ⟨hz, hy⟩ := hz
  by_cases h : x < z.size
  · have h1 : ((x : Int) - (z.size : Int)) < 0 := by omega
    go_enter Tryz.func214, Tryz.ntmps214
    go_wp2
    go_ret
    exact ⟨.inl rfl, (Below.refl _ w).alloc (Nat.le_refl _) _⟩
  · have h1 : ¬ ((x : Int) - (z.size : Int)) < 0 := by omega
    by_cases h' : x - z.size < y.size
    · have h2 : ((x : Int) - (z.size : Int) - (y.size : Int)) < 0 := by omega
      go_enter Tryz.func214, Tryz.ntmps214
      go_wp2
      go_ret
      exact ⟨.inl rfl, (Below.refl _ w).alloc (Nat.le_refl _) _⟩
    · have h2 : ¬ ((x : Int) - (z.size : Int) - (y.size : Int)) < 0 := by omega
      go_enter Tryz.func214, Tryz.ntmps214
      go_wp2
      go_ret
      exact ⟨.inr ⟨x - z.size - y.size, by omega, ret_int (by omega), by omega, by omega⟩, (Below.refl _ w).alloc (Nat.le_refl _) _⟩
set_option maxHeartbeats 800000 in
theorem szEntS_w (a : Option Addr) (n cap x : Nat) (es : List (ByteArray × Int)) (w : World) (hn : es.length = n) (hm : n ≤ maxLen) (hx : x ≤ 1048576) (hsz : ∀ q ∈ es, q.1.size ≤ maxLen ∧ (Lit.int .i64 q.2).wf = true) (hr : RdP w a (eP es)) :
    Calls Tryz.prog 161 #[.slice a n cap, .int .i64 x] w fun e w' => SzQ x n (n ≤ 1048576 ∧ ∀ q ∈ es, q.1.size ≤ 1048576) e ∧ Below w.heap.size w w' := by
  unfold maxLen at hm
  by_cases h : x < n
  · have h1 : ((x : Int) - (n : Int)) < 0 := by omega
    go_enter Tryz.func161, Tryz.ntmps161
    go_wp2
    go_ret
    exact ⟨.inl rfl, Below.refl _ _⟩
  · have h1 : ¬ ((x : Int) - (n : Int)) < 0 := by omega
    by_cases h0 : n = 0
    · subst h0
      obtain rfl : es = [] := List.length_eq_zero_iff.1 hn
      go_enter Tryz.func161, Tryz.ntmps161
      go_wp2
      refine wp_loop_rounds 1 ?_; rw [rounds_succ]
      go_wp2
      go_ret
      exact ⟨.inr ⟨x, by omega, ret_int (by simp), by omega, by simp⟩, Below.refl _ _⟩
    · have hne : eP es ≠ [] := by intro h; have := congrArg List.length h; rw [eP_length] at this; simp at this; subst this; simp at hn; omega
      obtain ⟨b, off, rfl, hlt, hc⟩ := hr.lt hne
      clear hr hne
      have hn' : Hid (es.length = n) := hn
      clear hn
      go_enter Tryz.func161, Tryz.ntmps161
      go_wp2
      go_loopw [1, 5] (fun l i wr => ∃ k y : Nat, k ≤ n ∧ i = .int .i64 k ∧ l = .int .i64 y ∧ y + n ≤ x ∧ Below w.heap.size w wr ∧ Hid (∀ q ∈ es.take k, q.1.size ≤ 1048576)) (fun _ i _ => n - (intOf i).toNat)
      case atStart => exact ⟨0, x - n, Nat.zero_le _, rfl, by go_num, by omega, Below.refl _ _, fun q hq => by simp at hq⟩
      case round =>
        obtain ⟨k, y, hk, rfl, rfl, hy, hB, hall⟩ := hrel
        by_cases hkn : k < n
        · have hkl : k < es.length := by rw [hn'.out]; exact hkn
          have hki : (k : Int) < (n : Int) := by omega
          have hxx := hc k (by rw [eP_length]; exact hkl)
          rw [eP_at es k hkl] at hxx
          have hsk := (hsz es[k] (List.getElem_mem hkl)).1
          have hnext : Hid (es[k].1.size ≤ 1048576 → ∀ q ∈ es.take (k + 1), q.1.size ≤ 1048576) := by
            intro h q hq
            rw [List.take_succ_eq_append_getElem hkl] at hq
            simp only [List.mem_append, List.mem_cons, List.not_mem_nil, or_false] at hq
            rcases hq with hq | rfl
            · exact hall.out q hq
            · exact h
          obtain ⟨z, hz⟩ : ∃ z, es[k].1 = z := ⟨_, rfl⟩
          obtain ⟨u, hu⟩ : ∃ u, es[k].2 = u := ⟨_, rfl⟩
          rw [hz, hu] at hxx
          rw [hz] at hsk hnext
          have x1 : wr.cell? ⟨b, off + k * 2, none⟩ = _ := (hB.cell (by exact hlt)).trans hxx.1
          have x2 : wr.cell? ⟨b, off + k * 2 + 1, none⟩ = _ := (hB.cell (by exact hlt)).trans hxx.2
          dsimp only at x1 x2
          have hwz := hB.size
          clear hxx hz hu hkl hall
          go_wp2_with fail
          refine (szEnt_w z u y wr hsk (by omega)).mono ?_
          rintro e w1 ⟨(rfl | ⟨v, hv, rfl, hzz⟩), hb1⟩
          · go_wp2
            go_ret
            exact ⟨.inl rfl, hB.trans (hb1.mono hwz)⟩
          · have hnx : Hid _ := hnext.out hzz
            clear x1 x2
            go_wp2
            go_roundw
            case rel => exact ⟨k + 1, v, by omega, by go_num, rfl, by omega, hB.trans (hb1.mono hwz), hnx⟩
            case measure => simp [intOf]; omega
        · have hki : ¬ (k : Int) < (n : Int) := by omega
          go_wp2
          go_ret
          refine ⟨.inr ⟨y, hy, rfl, by omega, ?_⟩, hB⟩
          have := hall.out
          rw [List.take_of_length_le (by rw [hn'.out]; omega)] at this
          exact fun a b h => this (a, b) h
set_option maxHeartbeats 800000 in
theorem szAttrS_w (a : Option Addr) (n cap x : Nat) (es : List (ByteArray × ByteArray)) (w : World) (hn : es.length = n) (hm : n ≤ maxLen) (hx : x ≤ 1048576) (hsz : ∀ q ∈ es, q.1.size ≤ maxLen ∧ q.2.size ≤ maxLen) (hr : RdP w a (aP es)) :
    Calls Tryz.prog 162 #[.slice a n cap, .int .i64 x] w fun e w' => SzQ x n (n ≤ 1048576 ∧ ∀ q ∈ es, q.1.size ≤ 1048576 ∧ q.2.size ≤ 1048576) e ∧ Below w.heap.size w w' := by
  unfold maxLen at hm
  by_cases h : x < n
  · have h1 : ((x : Int) - (n : Int)) < 0 := by omega
    go_enter Tryz.func162, Tryz.ntmps162
    go_wp2
    go_ret
    exact ⟨.inl rfl, Below.refl _ _⟩
  · have h1 : ¬ ((x : Int) - (n : Int)) < 0 := by omega
    by_cases h0 : n = 0
    · subst h0
      obtain rfl : es = [] := List.length_eq_zero_iff.1 hn
      go_enter Tryz.func162, Tryz.ntmps162
      go_wp2
      refine wp_loop_rounds 1 ?_; rw [rounds_succ]
      go_wp2
      go_ret
      exact ⟨.inr ⟨x, by omega, ret_int (by simp), by omega, by simp⟩, Below.refl _ _⟩
    · have hne : aP es ≠ [] := by intro h; have := congrArg List.length h; rw [aP_length] at this; simp at this; subst this; simp at hn; omega
      obtain ⟨b, off, rfl, hlt, hc⟩ := hr.lt hne
      clear hr hne
      have hn' : Hid (es.length = n) := hn
      clear hn
      go_enter Tryz.func162, Tryz.ntmps162
      go_wp2
      go_loopw [1, 5] (fun l i wr => ∃ k y : Nat, k ≤ n ∧ i = .int .i64 k ∧ l = .int .i64 y ∧ y + n ≤ x ∧ Below w.heap.size w wr ∧ Hid (∀ q ∈ es.take k, q.1.size ≤ 1048576 ∧ q.2.size ≤ 1048576)) (fun _ i _ => n - (intOf i).toNat)
      case atStart => exact ⟨0, x - n, Nat.zero_le _, rfl, by go_num, by omega, Below.refl _ _, fun q hq => by simp at hq⟩
      case round =>
        obtain ⟨k, y, hk, rfl, rfl, hy, hB, hall⟩ := hrel
        by_cases hkn : k < n
        · have hkl : k < es.length := by rw [hn'.out]; exact hkn
          have hki : (k : Int) < (n : Int) := by omega
          have hxx := hc k (by rw [aP_length]; exact hkl)
          rw [aP_at es k hkl] at hxx
          have hsk := hsz es[k] (List.getElem_mem hkl)
          have hnext : Hid (es[k].1.size ≤ 1048576 ∧ es[k].2.size ≤ 1048576 → ∀ q ∈ es.take (k + 1), q.1.size ≤ 1048576 ∧ q.2.size ≤ 1048576) := by
            intro h q hq
            rw [List.take_succ_eq_append_getElem hkl] at hq
            simp only [List.mem_append, List.mem_cons, List.not_mem_nil, or_false] at hq
            rcases hq with hq | rfl
            · exact hall.out q hq
            · exact h
          obtain ⟨z, hz⟩ : ∃ z, es[k].1 = z := ⟨_, rfl⟩
          obtain ⟨u, hu⟩ : ∃ u, es[k].2 = u := ⟨_, rfl⟩
          rw [hz, hu] at hxx
          rw [hz, hu] at hsk hnext
          have x1 : wr.cell? ⟨b, off + k * 2, none⟩ = _ := (hB.cell (by exact hlt)).trans hxx.1
          have x2 : wr.cell? ⟨b, off + k * 2 + 1, none⟩ = _ := (hB.cell (by exact hlt)).trans hxx.2
          dsimp only at x1 x2
          have hwz := hB.size
          clear hxx hz hu hkl hall
          go_wp2_with fail
          refine (szAttr_w z u y wr hsk (by omega)).mono ?_
          rintro e w1 ⟨(rfl | ⟨v, hv, rfl, hzz⟩), hb1⟩
          · go_wp2
            go_ret
            exact ⟨.inl rfl, hB.trans (hb1.mono hwz)⟩
          · have hnx : Hid _ := hnext.out hzz
            clear x1 x2
            go_wp2
            go_roundw
            case rel => exact ⟨k + 1, v, by omega, by go_num, rfl, by omega, hB.trans (hb1.mono hwz), hnx⟩
            case measure => simp [intOf]; omega
        · have hki : ¬ (k : Int) < (n : Int) := by omega
          go_wp2
          go_ret
          refine ⟨.inr ⟨y, hy, rfl, by omega, ?_⟩, hB⟩
          have := hall.out
          rw [List.take_of_length_le (by rw [hn'.out]; omega)] at this
          exact fun a b h => this (a, b) h
set_option maxHeartbeats 1600000 in
theorem szInode_w (D : InoD) (a1 a2 a3 : Option Addr) (c1 c2 c3 x : Nat) (w : World) (hx : x ≤ 1048576) (hi : InoIn D) (hr : InoRd w D a1 a2 a3) :
    Calls Tryz.prog 108 #[inoV D a1 c1 a2 c2 a3 c3, .int .i64 x] w fun e w' => SzQ x (D.data.length + D.ents.length + D.attrs.length) (InoSmall D) e ∧ Below w.heap.size w w' := by
  obtain ⟨ino, kind, links, data, ents, attrs⟩ := D
  obtain ⟨n1, hn1⟩ : ∃ n, data.length = n := ⟨_, rfl⟩
  obtain ⟨n2, hn2⟩ : ∃ n, ents.length = n := ⟨_, rfl⟩
  obtain ⟨n3, hn3⟩ : ∃ n, attrs.length = n := ⟨_, rfl⟩
  obtain ⟨_, _, _, m1, m2, m3, m4, m5⟩ := hi
  dsimp only at m1 m2 m3 m4 m5
  unfold inoV
  dsimp only
  rw [hn1] at m1
  rw [hn2] at m2
  rw [hn3] at m3
  simp only [hn1, hn2, hn3]
  have k1 : Hid (data.length = n1) := hn1
  have k2 : Hid (ents.length = n2) := hn2
  have k3 : Hid (attrs.length = n3) := hn3
  clear hn1 hn2 hn3
  obtain ⟨r1, r2, r3, r4⟩ := hr
  dsimp only at r1 r2 r3 r4
  have M4 : Hid _ := m4
  have M5 : Hid _ := m5
  clear m4 m5
  obtain ⟨Q, hQ⟩ : ∃ Q : Ending → Prop, SzQ x (n1 + n2 + n3) (InoSmall ⟨ino, kind, links, data, ents, attrs⟩) = Q := ⟨_, rfl⟩
  rw [hQ]
  have hneg : Q (.returned (.int .i64 (-1))) := by rw [← hQ]; exact .inl rfl
  have hpos : Hid (∀ v : Nat, v + (n1 + n2 + n3) ≤ x → n1 ≤ 1048576 → (n2 ≤ 1048576 ∧ ∀ q ∈ ents, q.1.size ≤ 1048576) → (n3 ≤ 1048576 ∧ ∀ q ∈ attrs, q.1.size ≤ 1048576 ∧ q.2.size ≤ 1048576) → Q (.returned (.int .i64 v))) := by
    intro v hv p1 p2 p3
    rw [← hQ]
    exact .inr ⟨v, hv, rfl, by dsimp only; rw [k1.out]; exact p1, by dsimp only; rw [k2.out]; exact p2.1, by dsimp only; rw [k3.out]; exact p3.1, p2.2, p3.2⟩
  have HN : Hid _ := hneg
  clear hneg hQ
  go_enter Tryz.func108, Tryz.ntmps108
  go_wp2_with fail
  have z0 := Blk.new w 134 #[.int .i64 ino, .int .i64 kind, .int .i64 links, .slice a1 n1 c1, .slice a2 n2 c2, .slice a3 n3 c3]
  have B0 : Below w.heap.size w (w.alloc (.cells #[.int .i64 ino, .int .i64 kind, .int .i64 links, .slice a1 n1 c1, .slice a2 n2 c2, .slice a3 n3 c3] 134)) := (Below.refl _ w).alloc (Nat.le_refl _) _
  obtain ⟨W0, hW0⟩ : ∃ W0, w.alloc (.cells #[.int .i64 ino, .int .i64 kind, .int .i64 links, .slice a1 n1 c1, .slice a2 n2 c2, .slice a3 n3 c3] 134) = W0 := ⟨_, rfl⟩
  rw [hW0] at z0 B0 ⊢
  clear hW0
  refine (szByteS_w a1 n1 c1 x W0 m1 hx).mono ?_
  rintro e w1 ⟨(rfl | ⟨v, hv, rfl, p1⟩), t1⟩
  · go_wp2
    go_ret
    exact ⟨HN.out, B0.trans (t1.mono B0.size)⟩
  · have B1 := B0.trans (t1.mono B0.size)
    have y0 := z0.keep t1
    have d0 := y0.cell 4
    simp at d0
    go_wp2_with fail
    refine (szEntS_w a2 n2 c2 v ents w1 k2.out m2 (by omega) M4.out (r3.keep B1)).mono ?_
    rintro e w2 ⟨(rfl | ⟨u, hu, rfl, p2⟩), t2⟩
    · go_wp2
      go_ret
      exact ⟨HN.out, B1.trans (t2.mono B1.size)⟩
    · have B2 := B1.trans (t2.mono B1.size)
      have P2 : Hid _ := p2
      have x0 := (y0.keep t2).cell 5
      simp at x0
      clear d0 p2
      go_wp2_with fail
      refine (szAttrS_w a3 n3 c3 u attrs w2 k3.out m3 (by omega) M5.out (r4.keep B2)).mono ?_
      rintro e w3 ⟨(rfl | ⟨q, hq, rfl, p3⟩), t3⟩
      · go_wp2
        go_ret
        exact ⟨HN.out, B2.trans (t3.mono B2.size)⟩
      · have P3 : Hid _ := p3
        clear p3
        go_wp2
        go_ret
        exact ⟨hpos.out q (by omega) p1 P2.out P3.out, B2.trans (t3.mono B2.size)⟩
set_option maxHeartbeats 1600000 in
theorem szInodeS_w (a : Option Addr) (n cap x : Nat) (rs : List InoR) (w : World) (hn : rs.length = n) (hm : n ≤ maxLen) (hx : x ≤ 1048576) (hin : ∀ r ∈ rs, InoIn r.D) (hr : RdI w a rs) :
    Calls Tryz.prog 58 #[.slice a n cap, .int .i64 x] w fun e w' => SzQ x (n + cntI rs) (n ≤ 1048576 ∧ ∀ r ∈ rs, InoSmall r.D) e ∧ Below w.heap.size w w' := by
  unfold maxLen at hm
  by_cases h : x < n
  · have h1 : ((x : Int) - (n : Int)) < 0 := by omega
    go_enter Tryz.func58, Tryz.ntmps58
    go_wp2
    go_ret
    exact ⟨.inl rfl, Below.refl _ _⟩
  · have h1 : ¬ ((x : Int) - (n : Int)) < 0 := by omega
    by_cases h0 : n = 0
    · subst h0
      obtain rfl : rs = [] := List.length_eq_zero_iff.1 hn
      go_enter Tryz.func58, Tryz.ntmps58
      go_wp2
      refine wp_loop_rounds 1 ?_; rw [rounds_succ]
      go_wp2
      go_ret
      exact ⟨.inr ⟨x, by simp [cntI], ret_int (by simp), by omega, by simp⟩, Below.refl _ _⟩
    · have hne : rs ≠ [] := by intro h; subst h; simp at hn; omega
      obtain ⟨b, off, rfl, hlt, hc⟩ := hr.lt hne
      clear hr hne
      have hn' : Hid (rs.length = n) := hn
      have HC : Hid _ := hc
      have HI : Hid _ := hin
      clear hn hc hin
      go_enter Tryz.func58, Tryz.ntmps58
      go_wp2
      go_loopw [1, 5] (fun l i wr => ∃ k y : Nat, k ≤ n ∧ i = .int .i64 k ∧ l = .int .i64 y ∧ y + (n + cntI (rs.take k)) ≤ x ∧ Below w.heap.size w wr ∧ Hid (∀ r ∈ rs.take k, InoSmall r.D)) (fun _ i _ => n - (intOf i).toNat)
      case atStart => exact ⟨0, x - n, Nat.zero_le _, rfl, by go_num, by simp [cntI]; omega, Below.refl _ _, fun q hq => by simp at hq⟩
      case round =>
        obtain ⟨k, y, hk, rfl, rfl, hy, hB, hall⟩ := hrel
        by_cases hkn : k < n
        · have hkl : k < rs.length := by rw [hn'.out]; exact hkn
          have hki : (k : Int) < (n : Int) := by omega
          obtain ⟨r, hrk⟩ : ∃ r, rs[k]? = some r := ⟨_, List.getElem?_eq_getElem hkl⟩
          obtain ⟨x6, xr⟩ := HC.out k r hrk
          have hcall := szInode_w r.D r.a1 r.a2 r.a3 r.c1 r.c2 r.c3 y wr (by omega) (HI.out r (List.mem_of_getElem? hrk)) (xr.keep hB)
          have hcn : cntI (rs.take (k + 1)) = cntI (rs.take k) + (r.D.data.length + r.D.ents.length + r.D.attrs.length) := by unfold cntI; rw [List.take_add_one, hrk]; simp
          have hnext : Hid (InoSmall r.D → ∀ q ∈ rs.take (k + 1), InoSmall q.D) := by
            intro h q hq
            rw [List.take_add_one, hrk] at hq
            simp only [Option.toList_some, List.mem_append, List.mem_singleton] at hq
            rcases hq with hq | rfl
            · exact hall.out q hq
            · exact h
          have z6 := x6.keep hB hlt
          obtain ⟨x0, x1, x2, x3, x4, x5⟩ := z6
          unfold inoV at hcall
          have hwz := hB.size
          obtain ⟨n1, hn1⟩ : ∃ n, r.D.data.length = n := ⟨_, rfl⟩
          obtain ⟨n2, hn2⟩ : ∃ n, r.D.ents.length = n := ⟨_, rfl⟩
          obtain ⟨n3, hn3⟩ : ∃ n, r.D.attrs.length = n := ⟨_, rfl⟩
          rw [hn1] at x3 hcall
          rw [hn1, hn2, hn3] at hcn
          have HCN : Hid _ := hcn
          clear hcn
          rw [hn2] at x4 hcall
          rw [hn3] at x5 hcall
          clear x6 xr hall hn1 hn2 hn3 hrk hkl
          go_wp2_with fail
          refine hcall.mono ?_
          rintro e w1 ⟨(rfl | ⟨v, hv, rfl, hzz⟩), hb1⟩
          · go_wp2
            go_ret
            exact ⟨.inl rfl, hB.trans (hb1.mono hwz)⟩
          · have hnx : Hid _ := hnext.out hzz
            clear x0 x1 x2 x3 x4 x5 hcall
            go_wp2
            go_roundw
            case rel => exact ⟨k + 1, v, by omega, by go_num, rfl, by have := HCN.out; omega, hB.trans (hb1.mono hwz), hnx⟩
            case measure => simp [intOf]; omega
        · have hki : ¬ (k : Int) < (n : Int) := by omega
          go_wp2
          go_ret
          rw [List.take_of_length_le (by rw [hn'.out]; omega)] at hy
          refine ⟨.inr ⟨y, hy, rfl, by omega, ?_⟩, hB⟩
          have := hall.out
          rw [List.take_of_length_le (by rw [hn'.out]; omega)] at this
          exact this
set_option maxHeartbeats 800000 in
theorem szTab_w (a : Option Addr) (n cap x : Nat) (nx : Int) (rs : List InoR) (w : World) (hn : rs.length = n) (hm : n ≤ maxLen) (hx : x ≤ 1048576) (hin : ∀ r ∈ rs, InoIn r.D) (hr : RdI w a rs) :
    Calls Tryz.prog 15 #[.agg #[.slice a n cap, .int .i64 nx], .int .i64 x] w fun e w' => SzQ x (n + cntI rs) (n ≤ 1048576 ∧ ∀ r ∈ rs, InoSmall r.D) e ∧ Below w.heap.size w w' := by
  have B0 : Below w.heap.size w (w.alloc (.cells #[.slice a n cap, .int .i64 nx] 24)) := (Below.refl _ w).alloc (Nat.le_refl _) _
  have hcall := szInodeS_w a n cap x rs (w.alloc (.cells #[.slice a n cap, .int .i64 nx] 24)) hn hm hx hin (hr.keep B0)
  have HB : Hid _ := B0
  clear hin hr hn hm
  go_enter Tryz.func15, Tryz.ntmps15
  go_wp2_with fail
  refine hcall.mono ?_
  rintro e w1 ⟨(rfl | ⟨v, hv, rfl, hzz⟩), hb1⟩
  · go_wp2
    go_ret
    exact ⟨.inl rfl, HB.out.trans (hb1.mono HB.out.size)⟩
  · have hz : Hid _ := hzz
    clear hzz
    go_wp2
    go_ret
    exact ⟨.inr ⟨v, hv, rfl, hz.out⟩, HB.out.trans (hb1.mono HB.out.size)⟩
end

section
open Go.RowKit
set_option maxHeartbeats 1000000 in
set_option maxRecDepth 100000 in
theorem markText_big (k : Nat) (w : World) (hk : k ≤ 9999999) (h1 : 1 ≤ k) :
    Calls Tryz.prog 179 #[.int .i64 k] w fun e w' => e = .returned (.string (mt k)) ∧ Below w.heap.size w w' := by
  have hk1 : ¬ (k : Int) ≤ 0 := by omega
  go_enter Tryz.func179, Tryz.ntmps179
  go_wp2
  go_loopw [0, 3] (fun i v wr => ∃ (m f : Nat) (acc : Str), i = .int .i64 m ∧ m ≤ k ∧ v = .string ⟨acc.toArray⟩ ∧ m < 10 ^ f ∧ acc.length + f ≤ 7 ∧ Below w.heap.size w wr ∧ Hid (mtL 7 k [] = mtL f m acc)) (fun i _ _ => (intOf i).toNat)
  case atStart => exact ⟨k, 7, [], rfl, Nat.le_refl _, rfl, by omega, by simp, Below.refl _ _, rfl⟩
  case round =>
    obtain ⟨m, f, acc, rfl, hm, rfl, hf, hl, hB, he⟩ := hrel
    by_cases hm0 : m = 0
    · subst hm0
      have he' : Hid (mt k = ⟨(109 :: acc).toArray⟩) := by show _ = _; unfold mt; rw [he.out, mtL_zero]
      go_wp2
      go_ret
      refine ⟨?_, hB⟩
      rw [he'.out]
      show Ending.returned (.string (⟨#[109]⟩ ++ ⟨List.toArray acc⟩)) = _
      rw [app_mk]
      rfl
    · have hm1 : (0 : Int) < (m : Int) := by omega
      obtain ⟨f', rfl⟩ : ∃ f', f = f' + 1 := by
        cases f with
        | zero => simp at hf; omega
        | succ f' => exact ⟨f', rfl⟩
      have hcv := conv_digit wr m
      have he0 := mtL_step (f := f') acc hm0
      obtain ⟨d, hd⟩ : ∃ d, (48 + m % 10).toUInt8 = d := ⟨_, rfl⟩
      rw [hd] at hcv he0
      have he' : Hid (mtL 7 k [] = mtL f' (m / 10) (d :: acc)) := by show _ = _; rw [he.out, he0]
      have happ := app_mk [d] acc
      clear he hd he0
      go_wp2
      go_roundw
      case rel => exact ⟨m / 10, f', d :: acc, by go_num, by omega, by first | rfl | exact congrArg Value.string happ, Nat.div_lt_of_lt_mul (by rw [Nat.pow_succ] at hf; omega), by simp only [List.length_cons]; omega, hB.trans ((Below.refl _ wr).alloc hB.size _), he'⟩
      case measure => simp [intOf]; omega
/-- The first k are marked, the others as they were. -/
def mkP (f : Nat → VP) (ps : List VP) (k : Nat) : List VP := (List.range k).map f ++ ps.drop k
theorem mkP_zero (f : Nat → VP) (ps : List VP) : mkP f ps 0 = ps := by simp [mkP]
theorem mkP_set (f : Nat → VP) (ps : List VP) (k : Nat) (h : k < ps.length) : (mkP f ps k).set k (f k) = mkP f ps (k + 1) := by
  unfold mkP
  rw [List.set_append_right _ _ (by simp)]
  have e : k - ((List.range k).map f).length = 0 := by simp
  rw [e, List.drop_eq_getElem_cons h, List.set_cons_zero, List.range_succ, List.map_append, List.append_assoc]
  rfl
theorem mkP_all (f : Nat → VP) (ps : List VP) (n : Nat) (h : ps.length = n) : mkP f ps n = (List.range n).map f := by subst h; simp [mkP]
def mE (k0 i : Nat) : VP := (.string (mt (k0 + 2 * i)), .int .i64 ((k0 + 2 * i + 1 : Nat) : Int))
def mA (k0 i : Nat) : VP := (.string (mt (k0 + 2 * i)), .string (mt (k0 + 2 * i + 1)))
/-- v is a row of the call's own of pairs; nil, if there are none. -/
def OwnQ (e : TypeId) (w : World) (v : Value) (n : Nat) (ps : List VP) : Prop := w.ownsRow 0 e 2 v n (pv ps)
theorem OwnQ.cases {e : TypeId} {w : World} {v : Value} {n : Nat} {ps : List VP} (h : OwnQ e w v n ps) : (v = .slice none 0 0 ∧ n = 0 ∧ ps = []) ∨ ∃ g c, v = .slice (some ⟨g, 0, none⟩) n c ∧ OwnP e w g n c ps := by
  have hl : ps.length = n := by have := h.1; rw [pv_length] at this; omega
  rcases h.2 with ⟨h1, h2⟩ | ⟨g, cap, cur, rfl, rest⟩
  · subst h2; exact .inl ⟨h1, rfl, List.length_eq_zero_iff.1 hl⟩
  · exact .inr ⟨g, cap, rfl, h.1, .inr ⟨g, cap, cur, rfl, rest⟩⟩
theorem OwnP.q {e : TypeId} {w : World} {g n c : Nat} {ps : List VP} (h : OwnP e w g n c ps) : OwnQ e w (.slice (some ⟨g, 0, none⟩) n c) n ps := h
theorem ownQ_nil (e : TypeId) (w : World) : OwnQ e w (.slice none 0 0) 0 [] := ⟨rfl, .inl ⟨rfl, rfl⟩⟩
theorem OwnQ.keep {e : TypeId} {w w' : World} {v : Value} {n : Nat} {ps : List VP} (h : OwnQ e w v n ps) (hb : Below w.heap.size w w') : OwnQ e w' v n ps := by
  refine ⟨h.1, ?_⟩
  rcases h.2 with h' | ⟨g', cap', cur, h', hb', hgg, rest⟩
  · exact .inl h'
  · exact .inr ⟨g', cap', cur, h', hb', (hb.block g' (Array.getElem?_eq_some_iff.1 hgg).1).trans hgg, rest⟩
theorem raw_keep {e : TypeId} {w w' : World} {v : Value} {n : Nat} {xs : List Value} (h : w.ownsRow 0 e 2 v n xs) (hb : Below w.heap.size w w') : w'.ownsRow 0 e 2 v n xs := by
  refine ⟨h.1, ?_⟩
  rcases h.2 with h' | ⟨g', cap', cur, h', hb', hgg, rest⟩
  · exact .inl h'
  · exact .inr ⟨g', cap', cur, h', hb', (hb.block g' (Array.getElem?_eq_some_iff.1 hgg).1).trans hgg, rest⟩
set_option maxHeartbeats 2000000 in
theorem markE_any (v : Value) (n k0 : Nat) (ps : List VP) (w : World) (h1 : 1 ≤ k0) (hs : k0 + 2 * n ≤ 9999990) (hown : OwnQ 89 w v n ps) :
    Calls Tryz.prog 114 #[v, .int .i64 k0] w fun e w' => e = .returned (.int .i64 ((k0 + 2 * n : Nat) : Int)) ∧ OwnQ 89 w' v n ((List.range n).map (mE k0)) ∧ w.grownBy w' v.ownBlock := by
  rcases hown.cases with ⟨rfl, rfl, rfl⟩ | ⟨g, c, rfl, hownP⟩
  · go_enter Tryz.func114, Tryz.ntmps114
    go_wp2
    refine wp_loop_rounds 1 ?_; rw [rounds_succ]
    go_wp2
    go_ret
    exact ⟨rfl, ownQ_nil _ _, gr_refl w _⟩
  · have hn' : Hid (ps.length = n) := hownP.len
    clear hown
    go_enter Tryz.func114, Tryz.ntmps114
    go_wp2
    go_loopw [1, 5] (fun q i wr => ∃ k : Nat, k ≤ n ∧ i = .int .i64 k ∧ q = .int .i64 ((k0 + 2 * k : Nat) : Int) ∧ OwnP 89 wr g n c (mkP (mE k0) ps k) ∧ w.grownBy wr (some g)) (fun _ i _ => n - (intOf i).toNat)
    case atStart => exact ⟨0, Nat.zero_le _, rfl, rfl, by rw [mkP_zero]; exact hownP, gr_refl w _⟩
    case round =>
      obtain ⟨k, hk, rfl, rfl, ho, hgr⟩ := hrel
      obtain ⟨q, hq⟩ : ∃ q, k0 + 2 * k = q := ⟨_, rfl⟩
      rw [hq]
      by_cases hkn : k < n
      · have hki : (k : Int) < (n : Int) := by omega
        go_wp2_with fail
        refine (markText_big q _ (by omega) (by omega)).mono ?_
        rintro e w1 ⟨rfl, hb1⟩
        have ho1 := ho.keep hb1
        obtain ⟨p1, p2⟩ := ho1.cells k hkn
        have f1 := ho1.frozen (k * 2)
        have f2 := ho1.frozen (k * 2 + 1)
        obtain ⟨T1, hT1⟩ : ∃ T, mt q = T := ⟨_, rfl⟩
        rw [hT1]
        obtain ⟨V1, hV1⟩ : ∃ V, ((mkP (mE k0) ps k).getD k (undef, undef)).1 = V := ⟨_, rfl⟩
        rw [hV1] at p1
        clear hV1
        have hgr' : w.grownBy ((w1.setCell ⟨g, k * 2, none⟩ (.string T1)).setCell ⟨g, k * 2 + 1, none⟩ (.int .i64 ((q + 1 : Nat) : Int))) (some g) := ((hgr.trans (gr_of_below hb1 _)).trans (gr_setC _ g (k * 2) _)).trans (gr_setC _ g (k * 2 + 1) _)
        have hst := ownP_stored ho1 k hkn (.string T1, .int .i64 ((q + 1 : Nat) : Int))
        dsimp only at hst
        rw [show ((Value.string T1, Value.int .i64 ((q + 1 : Nat) : Int)) : VP) = mE k0 k from by unfold mE; rw [hq, hT1], mkP_set _ ps k (by rw [hn'.out]; exact hkn)] at hst
        clear ho hgr ho1 hb1 hT1
        go_wp2
        go_roundw
        case rel => exact ⟨k + 1, by omega, by go_num, by rw [show k0 + 2 * (k + 1) = q + 1 + 1 by omega]; go_num, hst, hgr'⟩
        case measure => simp [intOf]; omega
      · have hki : ¬ (k : Int) < (n : Int) := by omega
        go_wp2
        go_ret
        obtain rfl : k = n := by omega
        refine ⟨by show Ending.returned (.int .i64 (q : Int)) = _; rw [← hq]; first | rfl | simp, ?_, hgr⟩
        rw [mkP_all _ ps k hn'.out] at ho
        exact ho.q
set_option maxHeartbeats 2000000 in
theorem heldE_any (v : Value) (n k0 : Nat) (w : World) (h1 : 1 ≤ k0) (hs : k0 + 2 * n ≤ 9999990) (hown : OwnQ 89 w v n ((List.range n).map (mE k0))) :
    Calls Tryz.prog 117 #[v, .int .i64 k0] w fun e w' => e = .returned (.int .i64 ((k0 + 2 * n : Nat) : Int)) ∧ Below w.heap.size w w' := by
  rcases hown.cases with ⟨rfl, rfl, _⟩ | ⟨g, c, rfl, hownP⟩
  · go_enter Tryz.func117, Tryz.ntmps117
    go_wp2
    refine wp_loop_rounds 1 ?_; rw [rounds_succ]
    go_wp2
    go_ret
    exact ⟨rfl, Below.refl _ _⟩
  · have HC : Hid (∀ k, k < n → w.cell? ⟨g, k * 2, none⟩ = some (mE k0 k).1 ∧ w.cell? ⟨g, k * 2 + 1, none⟩ = some (mE k0 k).2) := by
      intro k hk
      have := hownP.cells k hk
      rw [show ((List.range n).map (mE k0)).getD k (undef, undef) = mE k0 k by simp [hk]] at this
      exact this
    have hgw := hownP.lt
    clear hown hownP
    go_enter Tryz.func117, Tryz.ntmps117
    go_wp2
    go_loopw [1, 5] (fun q i wr => ∃ k : Nat, k ≤ n ∧ i = .int .i64 k ∧ q = .int .i64 ((k0 + 2 * k : Nat) : Int) ∧ Below w.heap.size w wr) (fun _ i _ => n - (intOf i).toNat)
    case atStart => exact ⟨0, Nat.zero_le _, rfl, rfl, Below.refl _ _⟩
    case round =>
      obtain ⟨k, hk, rfl, rfl, hB⟩ := hrel
      have hbs := hB.size
      have hglt : g < wr.heap.size := by omega
      obtain ⟨q, hq⟩ : ∃ q, k0 + 2 * k = q := ⟨_, rfl⟩
      rw [hq]
      by_cases hkn : k < n
      · have hki : (k : Int) < (n : Int) := by omega
        obtain ⟨T1, hT1⟩ : ∃ T, mt q = T := ⟨_, rfl⟩
        have hx := HC.out k hkn
        rw [show mE k0 k = (.string T1, .int .i64 ((q + 1 : Nat) : Int)) from by unfold mE; rw [hq, hT1]] at hx
        have x1 : wr.cell? ⟨g, k * 2, none⟩ = _ := (hB.cell (by exact hgw)).trans hx.1
        have x2 : wr.cell? ⟨g, k * 2 + 1, none⟩ = _ := (hB.cell (by exact hgw)).trans hx.2
        dsimp only at x1 x2
        have HX : Hid (wr.cell? ⟨g, k * 2, none⟩ = some (.string T1) ∧ wr.cell? ⟨g, k * 2 + 1, none⟩ = some (.int .i64 ((q + 1 : Nat) : Int))) := ⟨x1, x2⟩
        clear hx
        go_wp2
        go_region_with (go_at_call 179; refine (markText_big q _ (by omega) (by omega)).mono ?_; rintro e w1 ⟨rfl, b1⟩; rw [hT1]; have x1' : w1.cell? ⟨g, k * 2, none⟩ = _ := (b1.cell (by exact hglt)).trans HX.out.1; have x2' : w1.cell? ⟨g, k * 2 + 1, none⟩ = _ := (b1.cell (by exact hglt)).trans HX.out.2)
        all_goals go_wp2
        all_goals go_roundw
        all_goals first
          | (case rel => exact ⟨k + 1, by omega, by go_num, by rw [show k0 + 2 * (k + 1) = q + 1 + 1 by omega]; go_num, hB.drew.trans (b1.mono hbs)⟩)
          | (case measure => simp [intOf]; omega)
      · have hki : ¬ (k : Int) < (n : Int) := by omega
        go_wp2
        go_ret
        obtain rfl : k = n := by omega
        exact ⟨by show Ending.returned (.int .i64 (q : Int)) = _; rw [← hq]; first | rfl | simp, hB⟩
set_option maxHeartbeats 2000000 in
theorem markA_any (v : Value) (n k0 : Nat) (ps : List VP) (w : World) (h1 : 1 ≤ k0) (hs : k0 + 2 * n ≤ 9999990) (hown : OwnQ 75 w v n ps) :
    Calls Tryz.prog 115 #[v, .int .i64 k0] w fun e w' => e = .returned (.int .i64 ((k0 + 2 * n : Nat) : Int)) ∧ OwnQ 75 w' v n ((List.range n).map (mA k0)) ∧ w.grownBy w' v.ownBlock := by
  rcases hown.cases with ⟨rfl, rfl, rfl⟩ | ⟨g, c, rfl, hownP⟩
  · go_enter Tryz.func115, Tryz.ntmps115
    go_wp2
    refine wp_loop_rounds 1 ?_; rw [rounds_succ]
    go_wp2
    go_ret
    exact ⟨rfl, ownQ_nil _ _, gr_refl w _⟩
  · have hn' : Hid (ps.length = n) := hownP.len
    clear hown
    go_enter Tryz.func115, Tryz.ntmps115
    go_wp2
    go_loopw [1, 5] (fun q i wr => ∃ k : Nat, k ≤ n ∧ i = .int .i64 k ∧ q = .int .i64 ((k0 + 2 * k : Nat) : Int) ∧ OwnP 75 wr g n c (mkP (mA k0) ps k) ∧ w.grownBy wr (some g)) (fun _ i _ => n - (intOf i).toNat)
    case atStart => exact ⟨0, Nat.zero_le _, rfl, rfl, by rw [mkP_zero]; exact hownP, gr_refl w _⟩
    case round =>
      obtain ⟨k, hk, rfl, rfl, ho, hgr⟩ := hrel
      obtain ⟨q, hq⟩ : ∃ q, k0 + 2 * k = q := ⟨_, rfl⟩
      rw [hq]
      by_cases hkn : k < n
      · have hki : (k : Int) < (n : Int) := by omega
        go_wp2_with fail
        refine (markText_big q _ (by omega) (by omega)).mono ?_
        rintro e w1 ⟨rfl, hb1⟩
        have ho1 := ho.keep hb1
        obtain ⟨p1, p2⟩ := ho1.cells k hkn
        have f1 := ho1.frozen (k * 2)
        have f2 := ho1.frozen (k * 2 + 1)
        obtain ⟨T1, hT1⟩ : ∃ T, mt q = T := ⟨_, rfl⟩
        rw [hT1]
        obtain ⟨V1, hV1⟩ : ∃ V, ((mkP (mA k0) ps k).getD k (undef, undef)).1 = V := ⟨_, rfl⟩
        rw [hV1] at p1
        clear hV1
        obtain ⟨V2, hV2⟩ : ∃ V, ((mkP (mA k0) ps k).getD k (undef, undef)).2 = V := ⟨_, rfl⟩
        rw [hV2] at p2
        have hraw := (World.ownsRow.stored ho1 (k * 2) (.string T1)).1
        have hgr1 : w.grownBy (w1.setCell ⟨g, k * 2, none⟩ (.string T1)) (some g) := (hgr.trans (gr_of_below hb1 _)).trans (gr_setC _ g (k * 2) _)
        have hcell1 : ((pv (mkP (mA k0) ps k)).set (k * 2) (.string T1))[k * 2 + 1]? = some V2 := by
          rw [List.getElem?_set_ne (by omega), (pv_at _ k (by have := ho1.len; omega)).2, hV2]
        have hl1 := ho1.lt
        have hsz1 : (w1.setCell ⟨g, k * 2, none⟩ (.string T1)).heap.size = w1.heap.size := size_setC _ _ _
        obtain ⟨W1, hW1⟩ : ∃ W, w1.setCell ⟨g, k * 2, none⟩ (.string T1) = W := ⟨_, rfl⟩
        go_wp2_with fail
        try simp only [hW1] at hraw hgr1 hsz1 ⊢
        refine (markText_big (q + 1) W1 (by omega) (by omega)).mono ?_
        rintro e w2 ⟨rfl, hb2⟩
        have hraw2 : w2.ownsRow 0 75 2 (.slice (some ⟨g, 0, none⟩) n c) n ((pv (mkP (mA k0) ps k)).set (k * 2) (.string T1)) := raw_keep hraw hb2
        have r1 := World.ownsRow.cells hraw2 (g := g) rfl (k * 2 + 1) _ hcell1
        rw [add_at] at r1
        have r2 := World.ownsRow.frozenAt hraw2 (k * 2 + 1)
        obtain ⟨T2, hT2⟩ : ∃ T, mt (q + 1) = T := ⟨_, rfl⟩
        rw [hT2]
        have hst := (World.ownsRow.stored hraw2 (k * 2 + 1) (.string T2)).1
        rw [pv_set _ k (.string T1, .string T2) (by have := ho1.len; omega), show ((Value.string T1, Value.string T2) : VP) = mA k0 k from by unfold mA; rw [hq, hT1, hT2], mkP_set _ ps k (by rw [hn'.out]; exact hkn)] at hst
        have hgr' : w.grownBy (w2.setCell ⟨g, k * 2 + 1, none⟩ (.string T2)) (some g) := (hgr1.trans (gr_of_below hb2 _)).trans (gr_setC _ g (k * 2 + 1) _)
        clear ho hgr ho1 hb1 hT1 hT2 hraw hraw2 hgr1 hb2 hcell1
        go_wp2
        go_roundw
        case rel => exact ⟨k + 1, by omega, by go_num, by rw [show k0 + 2 * (k + 1) = q + 1 + 1 by omega]; go_num, hst, hgr'⟩
        case measure => simp [intOf]; omega
      · have hki : ¬ (k : Int) < (n : Int) := by omega
        go_wp2
        go_ret
        obtain rfl : k = n := by omega
        refine ⟨by show Ending.returned (.int .i64 (q : Int)) = _; rw [← hq]; first | rfl | simp, ?_, hgr⟩
        rw [mkP_all _ ps k hn'.out] at ho
        exact ho.q
set_option maxHeartbeats 2000000 in
theorem heldA_any (v : Value) (n k0 : Nat) (w : World) (h1 : 1 ≤ k0) (hs : k0 + 2 * n ≤ 9999990) (hown : OwnQ 75 w v n ((List.range n).map (mA k0))) :
    Calls Tryz.prog 118 #[v, .int .i64 k0] w fun e w' => e = .returned (.int .i64 ((k0 + 2 * n : Nat) : Int)) ∧ Below w.heap.size w w' := by
  rcases hown.cases with ⟨rfl, rfl, _⟩ | ⟨g, c, rfl, hownP⟩
  · go_enter Tryz.func118, Tryz.ntmps118
    go_wp2
    refine wp_loop_rounds 1 ?_; rw [rounds_succ]
    go_wp2
    go_ret
    exact ⟨rfl, Below.refl _ _⟩
  · have HC : Hid (∀ k, k < n → w.cell? ⟨g, k * 2, none⟩ = some (mA k0 k).1 ∧ w.cell? ⟨g, k * 2 + 1, none⟩ = some (mA k0 k).2) := by
      intro k hk
      have := hownP.cells k hk
      rw [show ((List.range n).map (mA k0)).getD k (undef, undef) = mA k0 k by simp [hk]] at this
      exact this
    have hgw := hownP.lt
    clear hown hownP
    go_enter Tryz.func118, Tryz.ntmps118
    go_wp2
    go_loopw [1, 5] (fun q i wr => ∃ k : Nat, k ≤ n ∧ i = .int .i64 k ∧ q = .int .i64 ((k0 + 2 * k : Nat) : Int) ∧ Below w.heap.size w wr) (fun _ i _ => n - (intOf i).toNat)
    case atStart => exact ⟨0, Nat.zero_le _, rfl, rfl, Below.refl _ _⟩
    case round =>
      obtain ⟨k, hk, rfl, rfl, hB⟩ := hrel
      have hbs := hB.size
      have hglt : g < wr.heap.size := by omega
      obtain ⟨q, hq⟩ : ∃ q, k0 + 2 * k = q := ⟨_, rfl⟩
      rw [hq]
      by_cases hkn : k < n
      · have hki : (k : Int) < (n : Int) := by omega
        obtain ⟨T1, hT1⟩ : ∃ T, mt q = T := ⟨_, rfl⟩
        obtain ⟨T2, hT2⟩ : ∃ T, mt (q + 1) = T := ⟨_, rfl⟩
        have hx := HC.out k hkn
        rw [show mA k0 k = (.string T1, .string T2) from by unfold mA; rw [hq, hT1, hT2]] at hx
        have x1 : wr.cell? ⟨g, k * 2, none⟩ = _ := (hB.cell (by exact hgw)).trans hx.1
        have x2 : wr.cell? ⟨g, k * 2 + 1, none⟩ = _ := (hB.cell (by exact hgw)).trans hx.2
        dsimp only at x1 x2
        have HX : Hid (wr.cell? ⟨g, k * 2, none⟩ = some (.string T1) ∧ wr.cell? ⟨g, k * 2 + 1, none⟩ = some (.string T2)) := ⟨x1, x2⟩
        clear hx
        go_upto_region 4 with fail
        go_cut [19] (fun s wx => s = .bool false ∧ Below wr.heap.size wr wx)
        case first =>
          go_region_with (go_at_call 179; refine (markText_big q _ (by omega) (by omega)).mono ?_; rintro e w1 ⟨rfl, b1⟩; rw [hT1]; have x1' : w1.cell? ⟨g, k * 2, none⟩ = _ := (b1.cell (by exact hglt)).trans HX.out.1)
          all_goals (go_wp2_with fail; go_meet; exact ⟨rfl, (Below.refl wr.heap.size wr).drew.trans b1⟩)
        case rest =>
        obtain ⟨rfl, b1⟩ := hcut
        have hB1 := hB.trans (b1.mono hbs)
        have hbs1 := hB1.size
        have hglt1 : g < wc.heap.size := by have := b1.size; omega
        have y1 : wc.cell? ⟨g, k * 2, none⟩ = _ := (b1.cell (by exact hglt)).trans HX.out.1
        have y2 : wc.cell? ⟨g, k * 2 + 1, none⟩ = _ := (b1.cell (by exact hglt)).trans HX.out.2
        clear x1 x2
        go_wp2
        go_region_with (go_at_call 179; refine (markText_big (q + 1) _ (by omega) (by omega)).mono ?_; rintro e w2 ⟨rfl, b2⟩; rw [hT2]; have z1' : w2.cell? ⟨g, k * 2 + 1, none⟩ = _ := (b2.cell (by exact hglt1)).trans y2)
        all_goals go_wp2
        all_goals go_roundw
        all_goals first
          | (case rel => (repeat apply Exists.intro); exact ⟨⟨k + 1, by omega, by go_num, by rw [show k0 + 2 * (k + 1) = q + 1 + 1 by omega]; go_num, hB1.drew.trans (b2.mono hbs1)⟩, rfl⟩)
          | (case rel => exact ⟨k + 1, by omega, by go_num, by rw [show k0 + 2 * (k + 1) = q + 1 + 1 by omega]; go_num, hB1.drew.trans (b2.mono hbs1)⟩)
          | (case measure => simp [intOf]; omega)
      · have hki : ¬ (k : Int) < (n : Int) := by omega
        go_wp2
        go_ret
        obtain rfl : k = n := by omega
        exact ⟨by show Ending.returned (.int .i64 (q : Int)) = _; rw [← hq]; first | rfl | simp, hB⟩
end

section
open Go.RowKit
/-- A text's bytes as numbers. -/
def strZ (s : ByteArray) : List Int := s.data.toList.map fun b => (b.toNat : Int)
/-- v is a row of the call's own, at or behind B, of the bytes zs; nil, if there are none. -/
def OwnV (B : Nat) (w : World) (v : Value) (n : Nat) (zs : List Int) : Prop := w.ownsRow B 5 1 v n (zs.map (Value.int .u8))
theorem OwnV.len {B : Nat} {w : World} {v : Value} {n : Nat} {zs : List Int} (h : OwnV B w v n zs) : zs.length = n := by simpa using h.1
theorem OwnV.block {B : Nat} {w : World} {v : Value} {n k : Nat} {zs : List Int} (h : OwnV B w v n zs) (hk : v.ownBlock = some k) : B ≤ k ∧ ∃ cur, w.heap[k]? = some (.cells cur 5 (0, 0)) := by
  rcases h.2 with ⟨rfl, _⟩ | ⟨g, cap, cur, rfl, hb, hg, _⟩
  · simp [Value.ownBlock] at hk
  · simp [Value.ownBlock] at hk
    subst hk
    exact ⟨hb, cur, hg⟩
theorem OwnV.alloc {B : Nat} {w : World} {v : Value} {n : Nat} {zs : List Int} (h : OwnV B w v n zs) (o : Obj) : OwnV B (w.alloc o) v n zs := World.ownsRow.alloc h o
theorem Blk.row {B : Nat} {w w' : World} {v : Value} {n ad : Nat} {zs : List Int} {t : TypeId} {vs : Array Value} (h : Blk w ad t vs) (ht : t ≠ 5) (ho : OwnV B w v n zs) (hg : w.grownBy w' v.ownBlock) : Blk w' ad t vs := by
  refine (hg.block ad h.lt ?_).trans h
  intro e
  obtain ⟨_, cur, hc⟩ := ho.block e.symm
  rw [show w.heap[ad]? = _ from h] at hc
  simp at hc
  exact ht hc.2
theorem OwnV.some {B : Nat} {w : World} {v : Value} {n : Nat} {zs : List Int} (h : OwnV B w v n zs) (hn : n ≠ 0) : ∃ g c, v = .slice (some ⟨g, 0, none⟩) n c ∧ B ≤ g ∧ Own w g n c zs := by
  rcases h.2 with ⟨rfl, h0⟩ | ⟨g, cap, cur, rfl, hb, hg, rest⟩
  · exact absurd h0 hn
  · exact ⟨g, cap, rfl, hb, h.1, .inr ⟨g, cap, cur, rfl, Nat.zero_le _, hg, rest⟩⟩
end
end Go.Proofs.YtmfimoccemgoiaaGreatDoor
