/-
  Joined: TabOpen, TabW, SzW.
-/
import Derived.Test.YtnfplimhhjpbkaaGreatDoorEqTabT
namespace Go.Proofs.YtnfplimhhjpbkaaGreatDoor
section
open Go.ChangeShapes Go.WideShapes Go.ChangeAt Go.RowKit
section
variable {H : Type} {enc : TypeId × Value → H} {w : World} {base : Nat} {held : Bool}
theorem cells_six {a : Addr} {cs : List Value} (h : w.cells? base a 6 = some cs) : ∃ v0 v1 v2 v3 v4 v5, cs = [v0, v1, v2, v3, v4, v5] ∧ w.cell? a = some v0 ∧ w.cell? (a.add 1) = some v1 ∧ w.cell? (a.add 2) = some v2 ∧ w.cell? (a.add 3) = some v3 ∧ w.cell? (a.add 4) = some v4 ∧ w.cell? (a.add 5) = some v5 := by
  unfold World.cells? at h
  split at h
  · have e : List.range 6 = [0, 1, 2, 3, 4, 5] := rfl
    rw [e] at h
    simp only [List.mapM_cons, List.mapM_nil, Option.bind_eq_bind, Option.pure_def, Option.bind_eq_some_iff, Option.some.injEq] at h
    obtain ⟨v0, h0, _, ⟨v1, h1, _, ⟨v2, h2, _, ⟨v3, h3, _, ⟨v4, h4, _, ⟨v5, h5, _, rfl, rfl⟩, rfl⟩, rfl⟩, rfl⟩, rfl⟩, rfl⟩ := h
    exact ⟨v0, v1, v2, v3, v4, v5, rfl, by simpa [Addr.add] using h0, h1, h2, h3, h4, h5⟩
  · simp at h
set_option maxRecDepth 100000 in
set_option maxHeartbeats 1000000 in
theorem open_inode_cells {fuel : Nat} {cs : List Value} {x : DataW H × List MemPlace} (hf : DataW.trod enc Tryz.prog w base (fun _ => true) held fuel 160 cs = some x) :
    ∃ r : InoR, cs = r.six ∧ InoIn r.D ∧ r.rd w := by
  obtain ⟨xs, n, _, _, hl, hlen, hfld⟩ := DataW.trod_struct Tryz.underlying160 hf
  have hC : Tryz.prog.cellsOf 160 = 6 := by kernel_rfl
  have k3 : Tryz.prog.cellsOf 3 = 1 := by kernel_rfl
  have k22 : Tryz.prog.cellsOf 22 = 1 := by kernel_rfl
  have k41 : Tryz.prog.cellsOf 157 = 1 := by kernel_rfl
  have k42 : Tryz.prog.cellsOf 158 = 1 := by kernel_rfl
  rw [hC] at hl
  obtain ⟨v0, v1, v2, v3, v4, v5, rfl⟩ := list6 hl
  obtain ⟨y0, y1, y2, y3, y4, y5, rfl⟩ := list6 hlen
  have f0 := hfld 0 _ rfl
  have f1 := hfld 1 _ rfl
  have f2 := hfld 2 _ rfl
  have f3 := hfld 3 _ rfl
  have f4 := hfld 4 _ rfl
  have f5 := hfld 5 _ rfl
  simp [k3, k22, k41, k42] at f0 f1 f2 f3 f4 f5
  obtain ⟨ino, e0, _, w0⟩ := DataW.trod_int Tryz.underlying3 f0
  obtain ⟨kind, e1, _, w1⟩ := DataW.trod_int Tryz.underlying3 f1
  obtain ⟨links, e2, _, w2⟩ := DataW.trod_int Tryz.underlying3 f2
  obtain ⟨a2, n2, c2, es, e4, m2, l2, q2, p2⟩ := open_pairs (α := ByteArray × Int) (fun e => (.string e.1, .int .i64 e.2)) (fun q => q.1.size ≤ maxLen ∧ (Lit.int .i64 q.2).wf = true) Tryz.underlying157 (by kernel_rfl) (by
    intro n cs' y hy
    obtain ⟨y0, y1, n', _, hcl, g0, g1⟩ := trod_struct2 Tryz.underlying247 hy
    have hc2 : Tryz.prog.cellsOf 247 = 2 := by kernel_rfl
    have k9 : Tryz.prog.cellsOf 9 = 1 := by kernel_rfl
    rw [hc2] at hcl
    obtain ⟨u0, u1, rfl⟩ := list2 hcl
    simp [k3, k9] at g0 g1
    obtain ⟨z, ez, _, hz⟩ := DataW.trod_string Tryz.underlying9 g0
    obtain ⟨x, ex, _, hx⟩ := DataW.trod_int Tryz.underlying3 g1
    simp only [List.cons.injEq, and_true] at ez ex
    exact ⟨(z, x), by rw [ez, ex], hz, hx⟩) f4
  obtain ⟨a3, n3, c3, ats, e5, m3, l3, q3, p3⟩ := open_pairs (α := ByteArray × ByteArray) (fun e => (.string e.1, .string e.2)) (fun q => q.1.size ≤ maxLen ∧ q.2.size ≤ maxLen) Tryz.underlying158 (by kernel_rfl) (by
    intro n cs' y hy
    obtain ⟨y0, y1, n', _, hcl, g0, g1⟩ := trod_struct2 Tryz.underlying249 hy
    have hc2 : Tryz.prog.cellsOf 249 = 2 := by kernel_rfl
    have k9 : Tryz.prog.cellsOf 9 = 1 := by kernel_rfl
    rw [hc2] at hcl
    obtain ⟨u0, u1, rfl⟩ := list2 hcl
    simp [k9] at g0 g1
    obtain ⟨z, ez, _, hz⟩ := DataW.trod_string Tryz.underlying9 g0
    obtain ⟨x, ex, _, hx⟩ := DataW.trod_string Tryz.underlying9 g1
    simp only [List.cons.injEq, and_true] at ez ex
    exact ⟨(z, x), by rw [ez, ex], hz, hx⟩) f5
  obtain ⟨a1, n1, c1, zs, e3, m1, l1, r1, b1⟩ : ∃ (a1 : Option Addr) (n1 c1 : Nat) (zs : List Int), [v3] = [.slice a1 n1 c1] ∧ n1 ≤ maxLen ∧ zs.length = n1 ∧ Rd w a1 zs ∧ Byt zs := by
    rcases open_ints Tryz.underlying22 Tryz.underlying5 (by kernel_rfl) f3 with ⟨hcs, _⟩ | ⟨x, l, c, zs, hcs, _, hl, hm, hz, _, hcell, hwz⟩
    · exact ⟨none, 0, 0, [], hcs, Nat.zero_le _, rfl, .inl rfl, fun z hz => by simp at hz⟩
    · obtain ⟨ys, hy, hr, hb⟩ := rd_of_row (w := w) (a := some x) (len := l) (cap := c) (zs := zs) (.inr ⟨x, rfl, hl, hm, by simpa using hz, hcell, hwz⟩)
      exact ⟨some x, l, c, ys, hcs, Nat.le_trans hl hm, hy, hr, hb⟩
  simp only [List.cons.injEq, and_true] at e0 e1 e2 e3 e4 e5
  subst e0 e1 e2 e3 e4 e5 l1 l2 l3
  exact ⟨⟨⟨ino, kind, links, zs, es, ats⟩, a1, c1, a2, c2, a3, c3⟩, rfl, ⟨w0, w1, w2, m1, m2, m3, q2, q3⟩, ⟨r1, b1, p2, p3⟩⟩
/-- A slice of inodes that came in, opened. -/
theorem open_inodes {fuel : Nat} {cs : List Value} {x : DataW H × List MemPlace} (h : DataW.trod enc Tryz.prog w base (fun _ => true) held fuel 47 cs = some x) :
    ∃ (a : Option Addr) (cap : Nat) (rs : List InoR), cs = [.slice a rs.length cap] ∧ rs.length ≤ maxLen ∧ (∀ r ∈ rs, InoIn r.D) ∧ RdI w a rs := by
  rcases Deep.open_slice Tryz.underlying47 h with ⟨rfl, _⟩ | ⟨a, len, cap, m, n, D, Pl, rfl, _, hl, hm, hmm, _, hx⟩
  · exact ⟨none, 0, [], rfl, Nat.zero_le _, fun q hq => by simp at hq, .inl rfl⟩
  · simp only [if_true] at hmm
    subst hmm
    have hC : Tryz.prog.cellsOf 160 = 6 := by kernel_rfl
    rw [hC] at hx
    haveI : Inhabited InoR := ⟨inoZ⟩
    obtain ⟨f, hf⟩ := Deep.choose_lt (α := InoR) (n := len) (p := fun i q => (w.cell? (a.add (i * 6)) = some (.int .i64 q.D.ino) ∧ w.cell? ((a.add (i * 6)).add 1) = some (.int .i64 q.D.kind) ∧ w.cell? ((a.add (i * 6)).add 2) = some (.int .i64 q.D.links) ∧ w.cell? ((a.add (i * 6)).add 3) = some (.slice q.a1 q.D.data.length q.c1) ∧ w.cell? ((a.add (i * 6)).add 4) = some (.slice q.a2 q.D.ents.length q.c2) ∧ w.cell? ((a.add (i * 6)).add 5) = some (.slice q.a3 q.D.attrs.length q.c3)) ∧ InoIn q.D ∧ q.rd w) (fun i hi => by
      obtain ⟨cs', h1, h2⟩ := hx i (by omega)
      obtain ⟨q, hq, hI, hR⟩ := open_inode_cells h2
      obtain ⟨v0, v1, v2, v3, v4, v5, e, k0, k1, k2, k3, k4, k5⟩ := cells_six h1
      rw [hq] at e
      unfold InoR.six at e
      simp only [List.cons.injEq, and_true] at e
      obtain ⟨e0, e1, e2, e3, e4, e5⟩ := e
      exact ⟨q, ⟨by rw [k0, e0], by rw [k1, e1], by rw [k2, e2], by rw [k3, e3], by rw [k4, e4], by rw [k5, e5]⟩, hI, hR⟩)
    refine ⟨some a, m, (List.range len).map f, by simp, by simp; omega, ?_, ?_⟩
    · intro q hq
      obtain ⟨i, hi, rfl⟩ := List.mem_map.1 hq
      exact (hf i (List.mem_range.1 hi)).2.1
    · by_cases h0 : len = 0
      · subst h0; exact .inl rfl
      · obtain ⟨b, off, spot⟩ := a
        have hc0 := (hf 0 (by omega)).1.1
        have hspot : spot = none := by simpa [Addr.add] using World.cell?_spot hc0
        subst hspot
        refine .inr ⟨b, off, rfl, fun i r hi => ?_⟩
        obtain ⟨hi', hr'⟩ := List.getElem?_eq_some_iff.1 hi
        simp only [List.length_map, List.length_range] at hi'
        simp at hr'
        subst hr'
        obtain ⟨⟨k0, k1, k2, k3, k4, k5⟩, _, hR⟩ := hf i hi'
        have e1 : (⟨b, off, none⟩ : Addr).add (i * 6) = ⟨b, off + i * 6, none⟩ := by simp [Addr.add]
        have e2 : ∀ j, (⟨b, off + i * 6, none⟩ : Addr).add j = ⟨b, off + i * 6 + j, none⟩ := fun j => by simp [Addr.add]
        rw [e1] at k0 k1 k2 k3 k4 k5
        rw [e2] at k1 k2 k3 k4 k5
        exact ⟨⟨k0, k1, k2, k3, k4, k5⟩, hR⟩
set_option maxRecDepth 100000 in
theorem open_tab {base' : Nat} {v : Value} {d : DataW H} {p : List MemPlace} (hv : Value.okWide Tryz.prog w .any base' 49 v) (h : DataW.Trod enc Tryz.prog w base (fun _ => true) held 49 v d p) :
    ∃ (a : Option Addr) (cap : Nat) (nx : Int) (rs : List InoR), v = .agg #[.slice a rs.length cap, .int .i64 nx] ∧ (Lit.int .i64 nx).wf = true ∧ rs.length ≤ maxLen ∧ (∀ r ∈ rs, InoIn r.D) ∧ RdI w a rs := by
  obtain ⟨cs, rfl, hsz⟩ := okWide_struct Tryz.underlying49 hv
  obtain ⟨fuel, hf⟩ := h
  obtain ⟨xs, n, _, _, hl, hlen, hfld⟩ := DataW.trod_struct Tryz.underlying49 hf
  have hC : Tryz.prog.cellsOf 49 = 2 := by kernel_rfl
  have k3 : Tryz.prog.cellsOf 3 = 1 := by kernel_rfl
  have k22 : Tryz.prog.cellsOf 47 = 1 := by kernel_rfl
  rw [hC] at hsz
  obtain ⟨l⟩ := cs
  simp only [List.size_toArray] at hsz
  obtain ⟨v0, v1, rfl⟩ := list2 hsz
  obtain ⟨y0, y1, rfl⟩ := list2 hlen
  have f0 := hfld 0 _ rfl
  have f1 := hfld 1 _ rfl
  simp [Value.cells, k3, k22] at f0 f1
  obtain ⟨a, cap, rs, e0, hm, hI, hR⟩ := open_inodes f0
  obtain ⟨nx, e1, _, w1⟩ := DataW.trod_int Tryz.underlying3 f1
  simp only [List.cons.injEq, and_true] at e0 e1
  subst e0 e1
  exact ⟨a, cap, nx, rs, rfl, w1, hm, hI, hR⟩
end
end

section
open Go.RowKit
theorem Cpd.len {w : World} {B : Nat} {rs ts : List InoR} (h : Cpd w B rs ts) : ts.length = rs.length := by
  have := congrArg List.length h.1
  simpa using this
theorem Cpd.small {w : World} {B : Nat} {rs ts : List InoR} (h : Cpd w B rs ts) (hs : ∀ r ∈ rs, InoSmall r.D) : ∀ r ∈ ts, InoSmall r.D := by
  intro r hr
  have h1 : r.D ∈ ts.map InoR.D := List.mem_map_of_mem hr
  rw [h.1] at h1
  obtain ⟨q, hq, hqr⟩ := List.mem_map.1 h1
  rw [← hqr]
  exact hs q hq
theorem Cpd.keep {w w' : World} {B : Nat} {rs ts : List InoR} (h : Cpd w B rs ts) (hb : Below w.heap.size w w') : Cpd w' B rs ts := ⟨h.1, fun r hr => (h.2 r hr).keep hb⟩
/-- A table copied: the row g, at or behind B; the copies' data are rs's. -/
structure TabQ (w : World) (B g n : Nat) (rs ts : List InoR) : Prop where
  at_ : B ≤ g
  len : rs.length = n
  cpd : Cpd w (g + 1) rs ts
  own : OwnI w g n n ts
theorem TabQ.keep {w w' : World} {B g n : Nat} {rs ts : List InoR} (h : TabQ w B g n rs ts) (hb : Below w.heap.size w w') : TabQ w' B g n rs ts := ⟨h.at_, h.len, h.cpd.keep hb, h.own.keep hb⟩
theorem TabQ.rd {w : World} {B g n : Nat} {rs ts : List InoR} (h : TabQ w B g n rs ts) : RdI w (some ⟨g, 0, none⟩) ts := h.own.rd h.cpd.2
theorem TabQ.tlen {w : World} {B g n : Nat} {rs ts : List InoR} (h : TabQ w B g n rs ts) : ts.length = n := by rw [h.cpd.len, h.len]
/-- eqTab of two copies, or of a copy and what it is of. -/
theorem eqTabQ (B B' g g' n cap cap' : Nat) (nx : Int) (rs ts ts' : List InoR) (w : World) (hs : n ≤ 1048576) (hsm : ∀ r ∈ rs, InoSmall r.D) (h : TabQ w B g n rs ts) (h' : TabQ w B' g' n rs ts') :
    Calls Tryz.prog 44 #[.agg #[.slice (some ⟨g, 0, none⟩) n cap, .int .i64 nx], .agg #[.slice (some ⟨g', 0, none⟩) n cap', .int .i64 nx]] w fun e w' => e = .returned (.bool true) ∧ Below w.heap.size w w' :=
  eqTab_same _ _ n cap cap' nx ts ts' w h.tlen (by omega) (by rw [h'.cpd.1, h.cpd.1]) (h.cpd.small hsm) h.rd h'.rd
end

section
open Go.RowKit
/-- What the measuring functions answer: below 0, or what is left of x when c is taken, and P. -/
def SzQ (x c : Nat) (P : Prop) (e : Ending) : Prop := e = .returned (.int .i64 (-1)) ∨ ∃ v : Nat, v + c ≤ x ∧ e = .returned (.int .i64 v) ∧ P
/-- How much the lists of inodes hold. -/
def cntI (rs : List InoR) : Nat := (rs.map fun r => r.D.data.length + r.D.ents.length + r.D.attrs.length).sum
set_option maxHeartbeats 400000 in
theorem szByteS_w (a : Option Addr) (n cap x : Nat) (w : World) (hn : n ≤ maxLen) (hx : x ≤ 1048576) :
    Calls Tryz.prog 192 #[.slice a n cap, .int .i64 x] w fun e w' => SzQ x n (n ≤ 1048576) e ∧ Below w.heap.size w w' := by
  unfold maxLen at hn
  by_cases h : x < n
  · have h1 : ((x : Int) - (n : Int)) < 0 := by omega
    go_enter Tryz.func192, Tryz.ntmps192
    go_wp2
    go_ret
    exact ⟨.inl rfl, Below.refl _ _⟩
  · have h1 : ¬ ((x : Int) - (n : Int)) < 0 := by omega
    go_enter Tryz.func192, Tryz.ntmps192
    go_wp2
    go_ret
    exact ⟨.inr ⟨x - n, by omega, ret_int (by omega), by omega⟩, Below.refl _ _⟩
set_option maxHeartbeats 400000 in
theorem szEnt_w (z : ByteArray) (y : Int) (x : Nat) (w : World) (hz : z.size ≤ maxLen) (hx : x ≤ 1048576) :
    Calls Tryz.prog 236 #[.agg #[.string z, .int .i64 y], .int .i64 x] w fun e w' => SzQ x 0 (z.size ≤ 1048576) e ∧ Below w.heap.size w w' := by
  unfold maxLen at hz
  by_cases h : x < z.size
  · have h1 : ((x : Int) - (z.size : Int)) < 0 := by omega
    go_enter Tryz.func236, Tryz.ntmps236
    go_wp2
    go_ret
    exact ⟨.inl rfl, (Below.refl _ w).alloc (Nat.le_refl _) _⟩
  · have h1 : ¬ ((x : Int) - (z.size : Int)) < 0 := by omega
    go_enter Tryz.func236, Tryz.ntmps236
    go_wp2
    go_ret
    exact ⟨.inr ⟨x - z.size, by omega, ret_int (by omega), by omega⟩, (Below.refl _ w).alloc (Nat.le_refl _) _⟩
set_option maxHeartbeats 400000 in
theorem szAttr_w (z y : ByteArray) (x : Nat) (w : World) (hz : z.size ≤ maxLen ∧ y.size ≤ maxLen) (hx : x ≤ 1048576) :
    Calls Tryz.prog 237 #[.agg #[.string z, .string y], .int .i64 x] w fun e w' => SzQ x 0 (z.size ≤ 1048576 ∧ y.size ≤ 1048576) e ∧ Below w.heap.size w w' := by
  unfold maxLen at hz
  obtain ⟨hz, hy⟩ := hz
  by_cases h : x < z.size
  · have h1 : ((x : Int) - (z.size : Int)) < 0 := by omega
    go_enter Tryz.func237, Tryz.ntmps237
    go_wp2
    go_ret
    exact ⟨.inl rfl, (Below.refl _ w).alloc (Nat.le_refl _) _⟩
  · have h1 : ¬ ((x : Int) - (z.size : Int)) < 0 := by omega
    by_cases h' : x - z.size < y.size
    · have h2 : ((x : Int) - (z.size : Int) - (y.size : Int)) < 0 := by omega
      go_enter Tryz.func237, Tryz.ntmps237
      go_wp2
      go_ret
      exact ⟨.inl rfl, (Below.refl _ w).alloc (Nat.le_refl _) _⟩
    · have h2 : ¬ ((x : Int) - (z.size : Int) - (y.size : Int)) < 0 := by omega
      go_enter Tryz.func237, Tryz.ntmps237
      go_wp2
      go_ret
      exact ⟨.inr ⟨x - z.size - y.size, by omega, ret_int (by omega), by omega, by omega⟩, (Below.refl _ w).alloc (Nat.le_refl _) _⟩
set_option maxHeartbeats 800000 in
theorem szEntS_w (a : Option Addr) (n cap x : Nat) (es : List (ByteArray × Int)) (w : World) (hn : es.length = n) (hm : n ≤ maxLen) (hx : x ≤ 1048576) (hsz : ∀ q ∈ es, q.1.size ≤ maxLen ∧ (Lit.int .i64 q.2).wf = true) (hr : RdP w a (eP es)) :
    Calls Tryz.prog 193 #[.slice a n cap, .int .i64 x] w fun e w' => SzQ x n (n ≤ 1048576 ∧ ∀ q ∈ es, q.1.size ≤ 1048576) e ∧ Below w.heap.size w w' := by
  unfold maxLen at hm
  by_cases h : x < n
  · have h1 : ((x : Int) - (n : Int)) < 0 := by omega
    go_enter Tryz.func193, Tryz.ntmps193
    go_wp2
    go_ret
    exact ⟨.inl rfl, Below.refl _ _⟩
  · have h1 : ¬ ((x : Int) - (n : Int)) < 0 := by omega
    by_cases h0 : n = 0
    · subst h0
      obtain rfl : es = [] := List.length_eq_zero_iff.1 hn
      go_enter Tryz.func193, Tryz.ntmps193
      go_wp2
      refine wp_loop_rounds 1 ?_; rw [rounds_succ]
      go_wp2
      go_ret
      exact ⟨.inr ⟨x, by omega, ret_int (by simp), by omega, by simp⟩, Below.refl _ _⟩
    · have hne : eP es ≠ [] := by intro h; have := congrArg List.length h; rw [eP_length] at this; simp at this; subst this; simp at hn; omega
      obtain ⟨b, off, rfl, hlt, hc⟩ := hr.lt hne
      clear hr hne
      have hn' : Hid (es.length = n) := hn
      clear hn
      go_enter Tryz.func193, Tryz.ntmps193
      go_wp2
      go_loopw [1, 5] (fun l i wr => ∃ k y : Nat, k ≤ n ∧ i = .int .i64 k ∧ l = .int .i64 y ∧ y + n ≤ x ∧ Below w.heap.size w wr ∧ Hid (∀ q ∈ es.take k, q.1.size ≤ 1048576)) (fun _ i _ => n - (intOf i).toNat)
      case atStart => exact ⟨0, x - n, Nat.zero_le _, rfl, by go_num, by omega, Below.refl _ _, fun q hq => by simp at hq⟩
      case round =>
        obtain ⟨k, y, hk, rfl, rfl, hy, hB, hall⟩ := hrel
        by_cases hkn : k < n
        · have hkl : k < es.length := by rw [hn'.out]; exact hkn
          have hki : (k : Int) < (n : Int) := by omega
          have hxx := hc k (by rw [eP_length]; exact hkl)
          rw [eP_at es k hkl] at hxx
          have hsk := (hsz es[k] (List.getElem_mem hkl)).1
          have hnext : Hid (es[k].1.size ≤ 1048576 → ∀ q ∈ es.take (k + 1), q.1.size ≤ 1048576) := by
            intro h q hq
            rw [List.take_succ_eq_append_getElem hkl] at hq
            simp only [List.mem_append, List.mem_cons, List.not_mem_nil, or_false] at hq
            rcases hq with hq | rfl
            · exact hall.out q hq
            · exact h
          obtain ⟨z, hz⟩ : ∃ z, es[k].1 = z := ⟨_, rfl⟩
          obtain ⟨u, hu⟩ : ∃ u, es[k].2 = u := ⟨_, rfl⟩
          rw [hz, hu] at hxx
          rw [hz] at hsk hnext
          have x1 : wr.cell? ⟨b, off + k * 2, none⟩ = _ := (hB.cell (by exact hlt)).trans hxx.1
          have x2 : wr.cell? ⟨b, off + k * 2 + 1, none⟩ = _ := (hB.cell (by exact hlt)).trans hxx.2
          dsimp only at x1 x2
          have hwz := hB.size
          clear hxx hz hu hkl hall
          go_wp2_with fail
          refine (szEnt_w z u y wr hsk (by omega)).mono ?_
          rintro e w1 ⟨(rfl | ⟨v, hv, rfl, hzz⟩), hb1⟩
          · go_wp2
            go_ret
            exact ⟨.inl rfl, hB.trans (hb1.mono hwz)⟩
          · have hnx : Hid _ := hnext.out hzz
            clear x1 x2
            go_wp2
            go_roundw
            case rel => exact ⟨k + 1, v, by omega, by go_num, rfl, by omega, hB.trans (hb1.mono hwz), hnx⟩
            case measure => simp [intOf]; omega
        · have hki : ¬ (k : Int) < (n : Int) := by omega
          go_wp2
          go_ret
          refine ⟨.inr ⟨y, hy, rfl, by omega, ?_⟩, hB⟩
          have := hall.out
          rw [List.take_of_length_le (by rw [hn'.out]; omega)] at this
          exact fun a b h => this (a, b) h
set_option maxHeartbeats 800000 in
theorem szAttrS_w (a : Option Addr) (n cap x : Nat) (es : List (ByteArray × ByteArray)) (w : World) (hn : es.length = n) (hm : n ≤ maxLen) (hx : x ≤ 1048576) (hsz : ∀ q ∈ es, q.1.size ≤ maxLen ∧ q.2.size ≤ maxLen) (hr : RdP w a (aP es)) :
    Calls Tryz.prog 194 #[.slice a n cap, .int .i64 x] w fun e w' => SzQ x n (n ≤ 1048576 ∧ ∀ q ∈ es, q.1.size ≤ 1048576 ∧ q.2.size ≤ 1048576) e ∧ Below w.heap.size w w' := by
  unfold maxLen at hm
  by_cases h : x < n
  · have h1 : ((x : Int) - (n : Int)) < 0 := by omega
    go_enter Tryz.func194, Tryz.ntmps194
    go_wp2
    go_ret
    exact ⟨.inl rfl, Below.refl _ _⟩
  · have h1 : ¬ ((x : Int) - (n : Int)) < 0 := by omega
    by_cases h0 : n = 0
    · subst h0
      obtain rfl : es = [] := List.length_eq_zero_iff.1 hn
      go_enter Tryz.func194, Tryz.ntmps194
      go_wp2
      refine wp_loop_rounds 1 ?_; rw [rounds_succ]
      go_wp2
      go_ret
      exact ⟨.inr ⟨x, by omega, ret_int (by simp), by omega, by simp⟩, Below.refl _ _⟩
    · have hne : aP es ≠ [] := by intro h; have := congrArg List.length h; rw [aP_length] at this; simp at this; subst this; simp at hn; omega
      obtain ⟨b, off, rfl, hlt, hc⟩ := hr.lt hne
      clear hr hne
      have hn' : Hid (es.length = n) := hn
      clear hn
      go_enter Tryz.func194, Tryz.ntmps194
      go_wp2
      go_loopw [1, 5] (fun l i wr => ∃ k y : Nat, k ≤ n ∧ i = .int .i64 k ∧ l = .int .i64 y ∧ y + n ≤ x ∧ Below w.heap.size w wr ∧ Hid (∀ q ∈ es.take k, q.1.size ≤ 1048576 ∧ q.2.size ≤ 1048576)) (fun _ i _ => n - (intOf i).toNat)
      case atStart => exact ⟨0, x - n, Nat.zero_le _, rfl, by go_num, by omega, Below.refl _ _, fun q hq => by simp at hq⟩
      case round =>
        obtain ⟨k, y, hk, rfl, rfl, hy, hB, hall⟩ := hrel
        by_cases hkn : k < n
        · have hkl : k < es.length := by rw [hn'.out]; exact hkn
          have hki : (k : Int) < (n : Int) := by omega
          have hxx := hc k (by rw [aP_length]; exact hkl)
          rw [aP_at es k hkl] at hxx
          have hsk := hsz es[k] (List.getElem_mem hkl)
          have hnext : Hid (es[k].1.size ≤ 1048576 ∧ es[k].2.size ≤ 1048576 → ∀ q ∈ es.take (k + 1), q.1.size ≤ 1048576 ∧ q.2.size ≤ 1048576) := by
            intro h q hq
            rw [List.take_succ_eq_append_getElem hkl] at hq
            simp only [List.mem_append, List.mem_cons, List.not_mem_nil, or_false] at hq
            rcases hq with hq | rfl
            · exact hall.out q hq
            · exact h
          obtain ⟨z, hz⟩ : ∃ z, es[k].1 = z := ⟨_, rfl⟩
          obtain ⟨u, hu⟩ : ∃ u, es[k].2 = u := ⟨_, rfl⟩
          rw [hz, hu] at hxx
          rw [hz, hu] at hsk hnext
          have x1 : wr.cell? ⟨b, off + k * 2, none⟩ = _ := (hB.cell (by exact hlt)).trans hxx.1
          have x2 : wr.cell? ⟨b, off + k * 2 + 1, none⟩ = _ := (hB.cell (by exact hlt)).trans hxx.2
          dsimp only at x1 x2
          have hwz := hB.size
          clear hxx hz hu hkl hall
          go_wp2_with fail
          refine (szAttr_w z u y wr hsk (by omega)).mono ?_
          rintro e w1 ⟨(rfl | ⟨v, hv, rfl, hzz⟩), hb1⟩
          · go_wp2
            go_ret
            exact ⟨.inl rfl, hB.trans (hb1.mono hwz)⟩
          · have hnx : Hid _ := hnext.out hzz
            clear x1 x2
            go_wp2
            go_roundw
            case rel => exact ⟨k + 1, v, by omega, by go_num, rfl, by omega, hB.trans (hb1.mono hwz), hnx⟩
            case measure => simp [intOf]; omega
        · have hki : ¬ (k : Int) < (n : Int) := by omega
          go_wp2
          go_ret
          refine ⟨.inr ⟨y, hy, rfl, by omega, ?_⟩, hB⟩
          have := hall.out
          rw [List.take_of_length_le (by rw [hn'.out]; omega)] at this
          exact fun a b h => this (a, b) h
set_option maxHeartbeats 1600000 in
theorem szInode_w (D : InoD) (a1 a2 a3 : Option Addr) (c1 c2 c3 x : Nat) (w : World) (hx : x ≤ 1048576) (hi : InoIn D) (hr : InoRd w D a1 a2 a3) :
    Calls Tryz.prog 141 #[inoV D a1 c1 a2 c2 a3 c3, .int .i64 x] w fun e w' => SzQ x (D.data.length + D.ents.length + D.attrs.length) (InoSmall D) e ∧ Below w.heap.size w w' := by
  obtain ⟨ino, kind, links, data, ents, attrs⟩ := D
  obtain ⟨n1, hn1⟩ : ∃ n, data.length = n := ⟨_, rfl⟩
  obtain ⟨n2, hn2⟩ : ∃ n, ents.length = n := ⟨_, rfl⟩
  obtain ⟨n3, hn3⟩ : ∃ n, attrs.length = n := ⟨_, rfl⟩
  obtain ⟨_, _, _, m1, m2, m3, m4, m5⟩ := hi
  dsimp only at m1 m2 m3 m4 m5
  unfold inoV
  dsimp only
  rw [hn1] at m1
  rw [hn2] at m2
  rw [hn3] at m3
  simp only [hn1, hn2, hn3]
  have k1 : Hid (data.length = n1) := hn1
  have k2 : Hid (ents.length = n2) := hn2
  have k3 : Hid (attrs.length = n3) := hn3
  clear hn1 hn2 hn3
  obtain ⟨r1, r2, r3, r4⟩ := hr
  dsimp only at r1 r2 r3 r4
  have M4 : Hid _ := m4
  have M5 : Hid _ := m5
  clear m4 m5
  obtain ⟨Q, hQ⟩ : ∃ Q : Ending → Prop, SzQ x (n1 + n2 + n3) (InoSmall ⟨ino, kind, links, data, ents, attrs⟩) = Q := ⟨_, rfl⟩
  rw [hQ]
  have hneg : Q (.returned (.int .i64 (-1))) := by rw [← hQ]; exact .inl rfl
  have hpos : Hid (∀ v : Nat, v + (n1 + n2 + n3) ≤ x → n1 ≤ 1048576 → (n2 ≤ 1048576 ∧ ∀ q ∈ ents, q.1.size ≤ 1048576) → (n3 ≤ 1048576 ∧ ∀ q ∈ attrs, q.1.size ≤ 1048576 ∧ q.2.size ≤ 1048576) → Q (.returned (.int .i64 v))) := by
    intro v hv p1 p2 p3
    rw [← hQ]
    exact .inr ⟨v, hv, rfl, by dsimp only; rw [k1.out]; exact p1, by dsimp only; rw [k2.out]; exact p2.1, by dsimp only; rw [k3.out]; exact p3.1, p2.2, p3.2⟩
  have HN : Hid _ := hneg
  clear hneg hQ
  go_enter Tryz.func141, Tryz.ntmps141
  go_wp2_with fail
  have z0 := Blk.new w 160 #[.int .i64 ino, .int .i64 kind, .int .i64 links, .slice a1 n1 c1, .slice a2 n2 c2, .slice a3 n3 c3]
  have B0 : Below w.heap.size w (w.alloc (.cells #[.int .i64 ino, .int .i64 kind, .int .i64 links, .slice a1 n1 c1, .slice a2 n2 c2, .slice a3 n3 c3] 160)) := (Below.refl _ w).alloc (Nat.le_refl _) _
  obtain ⟨W0, hW0⟩ : ∃ W0, w.alloc (.cells #[.int .i64 ino, .int .i64 kind, .int .i64 links, .slice a1 n1 c1, .slice a2 n2 c2, .slice a3 n3 c3] 160) = W0 := ⟨_, rfl⟩
  rw [hW0] at z0 B0 ⊢
  clear hW0
  refine (szByteS_w a1 n1 c1 x W0 m1 hx).mono ?_
  rintro e w1 ⟨(rfl | ⟨v, hv, rfl, p1⟩), t1⟩
  · go_wp2
    go_ret
    exact ⟨HN.out, B0.trans (t1.mono B0.size)⟩
  · have B1 := B0.trans (t1.mono B0.size)
    have y0 := z0.keep t1
    have d0 := y0.cell 4
    simp at d0
    go_wp2_with fail
    refine (szEntS_w a2 n2 c2 v ents w1 k2.out m2 (by omega) M4.out (r3.keep B1)).mono ?_
    rintro e w2 ⟨(rfl | ⟨u, hu, rfl, p2⟩), t2⟩
    · go_wp2
      go_ret
      exact ⟨HN.out, B1.trans (t2.mono B1.size)⟩
    · have B2 := B1.trans (t2.mono B1.size)
      have P2 : Hid _ := p2
      have x0 := (y0.keep t2).cell 5
      simp at x0
      clear d0 p2
      go_wp2_with fail
      refine (szAttrS_w a3 n3 c3 u attrs w2 k3.out m3 (by omega) M5.out (r4.keep B2)).mono ?_
      rintro e w3 ⟨(rfl | ⟨q, hq, rfl, p3⟩), t3⟩
      · go_wp2
        go_ret
        exact ⟨HN.out, B2.trans (t3.mono B2.size)⟩
      · have P3 : Hid _ := p3
        clear p3
        go_wp2
        go_ret
        exact ⟨hpos.out q (by omega) p1 P2.out P3.out, B2.trans (t3.mono B2.size)⟩
set_option maxHeartbeats 1600000 in
theorem szInodeS_w (a : Option Addr) (n cap x : Nat) (rs : List InoR) (w : World) (hn : rs.length = n) (hm : n ≤ maxLen) (hx : x ≤ 1048576) (hin : ∀ r ∈ rs, InoIn r.D) (hr : RdI w a rs) :
    Calls Tryz.prog 91 #[.slice a n cap, .int .i64 x] w fun e w' => SzQ x (n + cntI rs) (n ≤ 1048576 ∧ ∀ r ∈ rs, InoSmall r.D) e ∧ Below w.heap.size w w' := by
  unfold maxLen at hm
  by_cases h : x < n
  · have h1 : ((x : Int) - (n : Int)) < 0 := by omega
    go_enter Tryz.func91, Tryz.ntmps91
    go_wp2
    go_ret
    exact ⟨.inl rfl, Below.refl _ _⟩
  · have h1 : ¬ ((x : Int) - (n : Int)) < 0 := by omega
    by_cases h0 : n = 0
    · subst h0
      obtain rfl : rs = [] := List.length_eq_zero_iff.1 hn
      go_enter Tryz.func91, Tryz.ntmps91
      go_wp2
      refine wp_loop_rounds 1 ?_; rw [rounds_succ]
      go_wp2
      go_ret
      exact ⟨.inr ⟨x, by simp [cntI], ret_int (by simp), by omega, by simp⟩, Below.refl _ _⟩
    · have hne : rs ≠ [] := by intro h; subst h; simp at hn; omega
      obtain ⟨b, off, rfl, hlt, hc⟩ := hr.lt hne
      clear hr hne
      have hn' : Hid (rs.length = n) := hn
      have HC : Hid _ := hc
      have HI : Hid _ := hin
      clear hn hc hin
      go_enter Tryz.func91, Tryz.ntmps91
      go_wp2
      go_loopw [1, 5] (fun l i wr => ∃ k y : Nat, k ≤ n ∧ i = .int .i64 k ∧ l = .int .i64 y ∧ y + (n + cntI (rs.take k)) ≤ x ∧ Below w.heap.size w wr ∧ Hid (∀ r ∈ rs.take k, InoSmall r.D)) (fun _ i _ => n - (intOf i).toNat)
      case atStart => exact ⟨0, x - n, Nat.zero_le _, rfl, by go_num, by simp [cntI]; omega, Below.refl _ _, fun q hq => by simp at hq⟩
      case round =>
        obtain ⟨k, y, hk, rfl, rfl, hy, hB, hall⟩ := hrel
        by_cases hkn : k < n
        · have hkl : k < rs.length := by rw [hn'.out]; exact hkn
          have hki : (k : Int) < (n : Int) := by omega
          obtain ⟨r, hrk⟩ : ∃ r, rs[k]? = some r := ⟨_, List.getElem?_eq_getElem hkl⟩
          obtain ⟨x6, xr⟩ := HC.out k r hrk
          have hcall := szInode_w r.D r.a1 r.a2 r.a3 r.c1 r.c2 r.c3 y wr (by omega) (HI.out r (List.mem_of_getElem? hrk)) (xr.keep hB)
          have hcn : cntI (rs.take (k + 1)) = cntI (rs.take k) + (r.D.data.length + r.D.ents.length + r.D.attrs.length) := by unfold cntI; rw [List.take_add_one, hrk]; simp
          have hnext : Hid (InoSmall r.D → ∀ q ∈ rs.take (k + 1), InoSmall q.D) := by
            intro h q hq
            rw [List.take_add_one, hrk] at hq
            simp only [Option.toList_some, List.mem_append, List.mem_singleton] at hq
            rcases hq with hq | rfl
            · exact hall.out q hq
            · exact h
          have z6 := x6.keep hB hlt
          obtain ⟨x0, x1, x2, x3, x4, x5⟩ := z6
          unfold inoV at hcall
          have hwz := hB.size
          obtain ⟨n1, hn1⟩ : ∃ n, r.D.data.length = n := ⟨_, rfl⟩
          obtain ⟨n2, hn2⟩ : ∃ n, r.D.ents.length = n := ⟨_, rfl⟩
          obtain ⟨n3, hn3⟩ : ∃ n, r.D.attrs.length = n := ⟨_, rfl⟩
          rw [hn1] at x3 hcall
          rw [hn1, hn2, hn3] at hcn
          have HCN : Hid _ := hcn
          clear hcn
          rw [hn2] at x4 hcall
          rw [hn3] at x5 hcall
          clear x6 xr hall hn1 hn2 hn3 hrk hkl
          go_wp2_with fail
          refine hcall.mono ?_
          rintro e w1 ⟨(rfl | ⟨v, hv, rfl, hzz⟩), hb1⟩
          · go_wp2
            go_ret
            exact ⟨.inl rfl, hB.trans (hb1.mono hwz)⟩
          · have hnx : Hid _ := hnext.out hzz
            clear x0 x1 x2 x3 x4 x5 hcall
            go_wp2
            go_roundw
            case rel => exact ⟨k + 1, v, by omega, by go_num, rfl, by have := HCN.out; omega, hB.trans (hb1.mono hwz), hnx⟩
            case measure => simp [intOf]; omega
        · have hki : ¬ (k : Int) < (n : Int) := by omega
          go_wp2
          go_ret
          rw [List.take_of_length_le (by rw [hn'.out]; omega)] at hy
          refine ⟨.inr ⟨y, hy, rfl, by omega, ?_⟩, hB⟩
          have := hall.out
          rw [List.take_of_length_le (by rw [hn'.out]; omega)] at this
          exact this
set_option maxHeartbeats 800000 in
theorem szTab_w (a : Option Addr) (n cap x : Nat) (nx : Int) (rs : List InoR) (w : World) (hn : rs.length = n) (hm : n ≤ maxLen) (hx : x ≤ 1048576) (hin : ∀ r ∈ rs, InoIn r.D) (hr : RdI w a rs) :
    Calls Tryz.prog 41 #[.agg #[.slice a n cap, .int .i64 nx], .int .i64 x] w fun e w' => SzQ x (n + cntI rs) (n ≤ 1048576 ∧ ∀ r ∈ rs, InoSmall r.D) e ∧ Below w.heap.size w w' := by
  have B0 : Below w.heap.size w (w.alloc (.cells #[.slice a n cap, .int .i64 nx] 49)) := (Below.refl _ w).alloc (Nat.le_refl _) _
  have hcall := szInodeS_w a n cap x rs (w.alloc (.cells #[.slice a n cap, .int .i64 nx] 49)) hn hm hx hin (hr.keep B0)
  have HB : Hid _ := B0
  clear hin hr hn hm
  go_enter Tryz.func41, Tryz.ntmps41
  go_wp2_with fail
  refine hcall.mono ?_
  rintro e w1 ⟨(rfl | ⟨v, hv, rfl, hzz⟩), hb1⟩
  · go_wp2
    go_ret
    exact ⟨.inl rfl, HB.out.trans (hb1.mono HB.out.size)⟩
  · have hz : Hid _ := hzz
    clear hzz
    go_wp2
    go_ret
    exact ⟨.inr ⟨v, hv, rfl, hz.out⟩, HB.out.trans (hb1.mono HB.out.size)⟩
end
end Go.Proofs.YtnfplimhhjpbkaaGreatDoor
