/-
  Joined: ChOpen, DvO.
-/
import Derived.Test.YtkhgafmhbibikaaGreatDoorDvMY
namespace Go.Proofs.YtkhgafmhbibikaaGreatDoor
section
open Go.ChangeShapes Go.WideShapes Go.ChangeAt Go.RowKit
section
variable {H : Type} {enc : TypeId × Value → H} {w : World} {base : Nat} {held : Bool}
theorem cells_row {a : Addr} {cs : List Value} {k : Nat} (h : w.cells? base a k = some cs) (_h1 : cs.length = k) : ∀ j, j < k → w.cell? (a.add j) = cs[j]? := by
  unfold World.cells? at h
  split at h
  · intro j hj
    have hm : ∀ (l : List Nat) (cs : List Value), l.mapM (fun i => w.cell? (a.add i)) = some cs → ∀ (i x : Nat), l[i]? = some x → w.cell? (a.add x) = cs[i]? := by
      intro l
      induction l with
      | nil => intro cs _ i x hx; simp at hx
      | cons y l ih =>
        intro cs hc i x hx
        simp only [List.mapM_cons, Option.bind_eq_bind, Option.pure_def, Option.bind_eq_some_iff, Option.some.injEq] at hc
        obtain ⟨v, hv, vs, hvs, rfl⟩ := hc
        cases i with
        | zero => simp at hx; subst hx; simpa using hv
        | succ i => simp at hx ⊢; exact ih vs hvs i x hx
    exact hm _ cs h j j (by simp [hj])
  · simp at h
theorem add_any (b o j : Nat) : (⟨b, o, none⟩ : Addr).add j = ⟨b, o + j, none⟩ := by
  unfold Addr.add
  split
  · rename_i h; rw [h]; rfl
  · simp
theorem list3 {α : Type} {l : List α} (h : l.length = 3) : ∃ a b c, l = [a, b, c] := by
  match l, h with
  | [a, b, c], _ => exact ⟨a, b, c, rfl⟩
theorem list1 {α : Type} {l : List α} (h : l.length = 1) : ∃ a, l = [a] := by
  match l, h with
  | [a], _ => exact ⟨a, rfl⟩
/-- A slice of elements that came in, opened. -/
theorem open_row {P : Program} {α : Type} [Inhabited α] (E : El α) (R rd : α → Prop) {t e : TypeId} {fuel : Nat} {cs : List Value} {x : DataW H × List MemPlace} (ht : P.underlying t = some (.slice e)) (hc : P.cellsOf e = E.k)
    (hel : ∀ n cs' y, DataW.trod enc P w base (fun _ => true) held n e cs' = some y → ∃ q, cs' = E.en q ∧ R q ∧ rd q)
    (h : DataW.trod enc P w base (fun _ => true) held fuel t cs = some x) :
    ∃ (a : Option Addr) (cap : Nat) (es : List α), cs = [.slice a es.length cap] ∧ es.length ≤ maxLen ∧ (∀ q ∈ es, R q) ∧ RdE E rd w a es := by
  rcases Deep.open_slice ht h with ⟨rfl, _⟩ | ⟨a, len, cap, m, n, D, Pl, rfl, _, hl, hm, hmm, _, hx⟩
  · exact ⟨none, 0, [], rfl, Nat.zero_le _, fun q hq => by simp at hq, .inl rfl⟩
  · simp only [if_true] at hmm
    subst hmm
    rw [hc] at hx
    obtain ⟨f, hf⟩ := Deep.choose_lt (α := α) (n := len) (p := fun i q => (∀ j, j < E.k → w.cell? ((a.add (i * E.k)).add j) = (E.en q)[j]?) ∧ R q ∧ rd q) (fun i hi => by
      obtain ⟨cs', h1, h2⟩ := hx i (by omega)
      obtain ⟨q, hq, hR⟩ := hel n cs' _ h2
      have := cells_row h1 (by rw [hq]; exact E.len q)
      rw [hq] at this
      exact ⟨q, this, hR⟩)
    refine ⟨some a, m, (List.range len).map f, by simp, by simp; omega, ?_, ?_⟩
    · intro q hq
      obtain ⟨i, hi, rfl⟩ := List.mem_map.1 hq
      exact (hf i (List.mem_range.1 hi)).2.1
    · by_cases h0 : len = 0
      · subst h0; exact .inl rfl
      · obtain ⟨b, off, spot⟩ := a
        have hc0 := (hf 0 (by omega)).1 0 E.pos
        have hspot : spot = none := by
          have hp := E.pos
          have hl := E.len (f 0)
          rw [List.getElem?_eq_getElem (by omega)] at hc0
          simpa [Addr.add] using World.cell?_spot hc0
        subst hspot
        refine .inr ⟨b, off, rfl, fun i r hi => ?_⟩
        obtain ⟨hi', hr'⟩ := List.getElem?_eq_some_iff.1 hi
        simp only [List.length_map, List.length_range] at hi'
        simp at hr'
        subst hr'
        obtain ⟨k0, _, hR⟩ := hf i hi'
        refine ⟨fun j hj => ?_, hR⟩
        have := k0 j hj
        rw [add_any, add_any] at this
        exact this
instance instPgR : Inhabited PgR := ⟨⟨false, none, 0, []⟩⟩
instance instBkR : Inhabited BkR := ⟨⟨none, 0, [], 0, false⟩⟩
set_option maxRecDepth 100000 in
set_option maxHeartbeats 1000000 in
theorem open_pages {fuel : Nat} {cs : List Value} {x : DataW H × List MemPlace} (h : DataW.trod enc Tryz.prog w base (fun _ => true) held fuel 143 cs = some x) :
    ∃ (a : Option Addr) (cap : Nat) (es : List PgR), cs = [.slice a es.length cap] ∧ es.length ≤ maxLen ∧ (∀ q ∈ es, PgIn q) ∧ RdPs w a es := by
  refine open_row pgE PgIn (fun p => Rd w p.a p.zs) Tryz.underlying143 (by kernel_rfl) ?_ h
  intro n cs' y hy
  obtain ⟨y0, y1, n', _, hcl, g0, g1⟩ := trod_struct2 Tryz.underlying179 hy
  have hc2 : Tryz.prog.cellsOf 179 = 2 := by kernel_rfl
  have k4 : Tryz.prog.cellsOf 4 = 1 := by kernel_rfl
  have k5 : Tryz.prog.cellsOf 28 = 1 := by kernel_rfl
  rw [hc2] at hcl
  obtain ⟨u0, u1, rfl⟩ := list2 hcl
  simp [k4, k5] at g0 g1
  obtain ⟨u, e0, _⟩ := DataW.trod_bool Tryz.underlying4 g0
  obtain ⟨a1, n1, c1, zs, e3, m1, l1, r1, b1⟩ : ∃ (a1 : Option Addr) (n1 c1 : Nat) (zs : List Int), [u1] = [.slice a1 n1 c1] ∧ n1 ≤ maxLen ∧ zs.length = n1 ∧ Rd w a1 zs ∧ Byt zs := by
    rcases open_ints Tryz.underlying28 Tryz.underlying5 (by kernel_rfl) g1 with ⟨hcs, _⟩ | ⟨x, l, c, zs, hcs, _, hl, hm, hz, _, hcell, hwz⟩
    · exact ⟨none, 0, 0, [], hcs, Nat.zero_le _, rfl, .inl rfl, fun z hz => by simp at hz⟩
    · obtain ⟨ys, hy, hr, hb⟩ := rd_of_row (w := w) (a := some x) (len := l) (cap := c) (zs := zs) (.inr ⟨x, rfl, hl, hm, by simpa using hz, hcell, hwz⟩)
      exact ⟨some x, l, c, ys, hcs, Nat.le_trans hl hm, hy, hr, hb⟩
  simp only [List.cons.injEq, and_true] at e0 e3
  subst e0 e3 l1
  exact ⟨⟨u, a1, c1, zs⟩, rfl, ⟨m1, b1⟩, r1⟩
set_option maxRecDepth 100000 in
set_option maxHeartbeats 1000000 in
theorem open_blocks {fuel : Nat} {cs : List Value} {x : DataW H × List MemPlace} (h : DataW.trod enc Tryz.prog w base (fun _ => true) held fuel 22 cs = some x) :
    ∃ (a : Option Addr) (cap : Nat) (es : List BkR), cs = [.slice a es.length cap] ∧ es.length ≤ maxLen ∧ (∀ q ∈ es, BkIn q) ∧ RdBs w a es := by
  refine open_row bkE BkIn (fun b => RdPs w b.a b.ps) Tryz.underlying22 (by kernel_rfl) ?_ h
  intro n cs' y hy
  obtain ⟨xs, n, _, _, hl, hlen, hfld⟩ := DataW.trod_struct Tryz.underlying145 hy
  have hC : Tryz.prog.cellsOf 145 = 3 := by kernel_rfl
  have k3 : Tryz.prog.cellsOf 3 = 1 := by kernel_rfl
  have k4 : Tryz.prog.cellsOf 4 = 1 := by kernel_rfl
  have kP : Tryz.prog.cellsOf 143 = 1 := by kernel_rfl
  rw [hC] at hl
  obtain ⟨v0, v1, v2, rfl⟩ := list3 hl
  obtain ⟨y0, y1, y2, rfl⟩ := list3 hlen
  have f0 := hfld 0 _ rfl
  have f1 := hfld 1 _ rfl
  have f2 := hfld 2 _ rfl
  simp [k3, k4, kP] at f0 f1 f2
  obtain ⟨a, cap, es, e0, hm, hI, hR⟩ := open_pages f0
  obtain ⟨wear, e1, _, w1⟩ := DataW.trod_int Tryz.underlying3 f1
  obtain ⟨bad, e2, _⟩ := DataW.trod_bool Tryz.underlying4 f2
  simp only [List.cons.injEq, and_true] at e0 e1 e2
  subst e0 e1 e2
  exact ⟨⟨a, cap, es, wear, bad⟩, rfl, ⟨w1, hm, hI⟩, hR⟩
set_option maxRecDepth 100000 in
theorem open_chip {base' : Nat} {v : Value} {d : DataW H} {p : List MemPlace} (hv : Value.okWide Tryz.prog w .any base' 24 v) (h : DataW.Trod enc Tryz.prog w base (fun _ => true) held 24 v d p) :
    ∃ (a : Option Addr) (cap : Nat) (bs : List BkR), v = .agg #[.slice a bs.length cap] ∧ bs.length ≤ maxLen ∧ (∀ r ∈ bs, BkIn r) ∧ RdBs w a bs := by
  obtain ⟨cs, rfl, hsz⟩ := okWide_struct Tryz.underlying24 hv
  obtain ⟨fuel, hf⟩ := h
  obtain ⟨xs, n, _, _, hl, hlen, hfld⟩ := DataW.trod_struct Tryz.underlying24 hf
  have hC : Tryz.prog.cellsOf 24 = 1 := by kernel_rfl
  have kB : Tryz.prog.cellsOf 22 = 1 := by kernel_rfl
  rw [hC] at hsz
  obtain ⟨l⟩ := cs
  simp only [List.size_toArray] at hsz
  obtain ⟨v0, rfl⟩ := list1 hsz
  obtain ⟨y0, rfl⟩ := list1 hlen
  have f0 := hfld 0 _ rfl
  simp [Value.cells, kB] at f0
  obtain ⟨a, cap, es, e0, hm, hI, hR⟩ := open_blocks f0
  simp only [List.cons.injEq, and_true] at e0
  subst e0
  exact ⟨a, cap, es, rfl, hm, hI, hR⟩
end
end

section
open Go.ChangeShapes Go.WideShapes Go.ChangeAt Go.RowKit
section
variable {H : Type} {enc : TypeId × Value → H} {w : World} {base : Nat} {held : Bool}
theorem list4 {α : Type} {l : List α} (h : l.length = 4) : ∃ a b c d, l = [a, b, c, d] := by
  match l, h with
  | [a, b, c, d], _ => exact ⟨a, b, c, d, rfl⟩
set_option maxRecDepth 100000 in
set_option maxHeartbeats 1000000 in
theorem open_fts {fuel : Nat} {cs : List Value} {x : DataW H × List MemPlace} (h : DataW.trod enc Tryz.prog w base (fun _ => true) held fuel 25 cs = some x) :
    ∃ (a : Option Addr) (cap : Nat) (es : List FtD), cs = [.slice a es.length cap] ∧ es.length ≤ maxLen ∧ RdFa w a es := by
  obtain ⟨a, cap, es, h1, h2, _, h3⟩ := open_row ftE (fun _ => True) (fun _ => True) Tryz.underlying25 (by kernel_rfl) (by
    intro n cs' y hy
    obtain ⟨xs, n, _, _, hl, hlen, hfld⟩ := DataW.trod_struct Tryz.underlying112 hy
    have hC : Tryz.prog.cellsOf 112 = 3 := by kernel_rfl
    have k3 : Tryz.prog.cellsOf 3 = 1 := by kernel_rfl
    rw [hC] at hl
    obtain ⟨v0, v1, v2, rfl⟩ := list3 hl
    obtain ⟨y0, y1, y2, rfl⟩ := list3 hlen
    have f0 := hfld 0 _ rfl
    have f1 := hfld 1 _ rfl
    have f2 := hfld 2 _ rfl
    simp [k3] at f0 f1 f2
    obtain ⟨t, e0, _, _⟩ := DataW.trod_int Tryz.underlying3 f0
    obtain ⟨k, e1, _, _⟩ := DataW.trod_int Tryz.underlying3 f1
    obtain ⟨m, e2, _, _⟩ := DataW.trod_int Tryz.underlying3 f2
    simp only [List.cons.injEq, and_true] at e0 e1 e2
    subst e0 e1 e2
    exact ⟨⟨t, k, m⟩, rfl, trivial, trivial⟩) h
  exact ⟨a, cap, es, h1, h2, h3⟩
set_option maxRecDepth 100000 in
theorem open_faults {base' : Nat} {v : Value} {d : DataW H} {p : List MemPlace} (hv : Value.okWide Tryz.prog w .any base' 25 v) (h : DataW.Trod enc Tryz.prog w base (fun _ => true) held 25 v d p) :
    ∃ (a : Option Addr) (cap : Nat) (fs : List FtD), v = .slice a fs.length cap ∧ fs.length ≤ maxLen ∧ RdFa w a fs := by
  obtain ⟨a, l, c, rfl⟩ := okWide_slice Tryz.underlying25 hv
  obtain ⟨fuel, hf⟩ := h
  simp [Value.cells] at hf
  obtain ⟨a', cap, es, e0, hm, hR⟩ := open_fts hf
  simp only [List.cons.injEq, and_true, Value.slice.injEq] at e0
  obtain ⟨rfl, rfl, rfl⟩ := e0
  exact ⟨a, c, es, rfl, hm, hR⟩
set_option maxRecDepth 100000 in
theorem open_dev {base' : Nat} {v : Value} {d : DataW H} {p : List MemPlace} (hv : Value.okWide Tryz.prog w .any base' 27 v) (h : DataW.Trod enc Tryz.prog w base (fun _ => true) held 27 v d p) :
    ∃ (a : Option Addr) (cap : Nat) (bs : List BkR) (ops : Int) (fa : Option Addr) (fc : Nat) (fs : List FtD) (down : Bool), v = .agg #[.slice a bs.length cap, .int .i64 ops, .slice fa fs.length fc, .bool down] ∧ bs.length ≤ maxLen ∧ (∀ r ∈ bs, BkIn r) ∧ RdBs w a bs ∧ fs.length ≤ maxLen ∧ RdFa w fa fs := by
  obtain ⟨cs, rfl, hsz⟩ := okWide_struct Tryz.underlying27 hv
  obtain ⟨fuel, hf⟩ := h
  obtain ⟨xs, n, _, _, hl, hlen, hfld⟩ := DataW.trod_struct Tryz.underlying27 hf
  have hC : Tryz.prog.cellsOf 27 = 4 := by kernel_rfl
  have kC : Tryz.prog.cellsOf 24 = 1 := by kernel_rfl
  have k3 : Tryz.prog.cellsOf 3 = 1 := by kernel_rfl
  have kF : Tryz.prog.cellsOf 25 = 1 := by kernel_rfl
  have k4 : Tryz.prog.cellsOf 4 = 1 := by kernel_rfl
  have kB : Tryz.prog.cellsOf 22 = 1 := by kernel_rfl
  rw [hC] at hsz
  obtain ⟨l⟩ := cs
  simp only [List.size_toArray] at hsz
  obtain ⟨v0, v1, v2, v3, rfl⟩ := list4 hsz
  obtain ⟨y0, y1, y2, y3, rfl⟩ := list4 hlen
  have f0 := hfld 0 _ rfl
  have f1 := hfld 1 _ rfl
  have f2 := hfld 2 _ rfl
  have f3 := hfld 3 _ rfl
  simp [Value.cells, kC, k3, kF, k4] at f0 f1 f2 f3
  obtain ⟨xs', n', _, _, hl', hlen', hfld'⟩ := DataW.trod_struct Tryz.underlying24 f0
  obtain ⟨y0', rfl⟩ := list1 hlen'
  have g0 := hfld' 0 _ rfl
  simp [kB] at g0
  obtain ⟨a, cap, es, e0, hm, hI, hR⟩ := open_blocks g0
  obtain ⟨ops, e1, _, _⟩ := DataW.trod_int Tryz.underlying3 f1
  obtain ⟨fa, fc, fs, e2, hfm, hfR⟩ := open_fts f2
  obtain ⟨down, e3, _⟩ := DataW.trod_bool Tryz.underlying4 f3
  simp only [List.cons.injEq, and_true] at e0 e1 e2 e3
  subst e0 e1 e2 e3
  exact ⟨a, cap, es, ops, fa, fc, fs, down, rfl, hm, hI, hR, hfm, hfR⟩
end
end
end Go.Proofs.YtkhgafmhbibikaaGreatDoor
