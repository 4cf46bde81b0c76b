/-
  Joined: SzFs, FsOpen.
-/
import Derived.Test.YtfjlemnohjnkhaaGreatJ11F
import Derived.Test.YtfjlemnohjnkhaaGreatJ12F
namespace Go.Proofs.YtfjlemnohjnkhaaGreat
section
open Go.RowKit
/-- How much a volume holds. -/
def VolR.cnt (r : VolR) : Nat := r.name.size + (r.rs.length + cntI r.rs)
def cntV (vs : List VolR) : Nat := (vs.map VolR.cnt).sum
set_option maxHeartbeats 1600000 in
theorem szVol_w (r : VolR) (x : Nat) (w : World) (hx : x ≤ 1048576) (hi : VolIn r) (hr : r.rd w) :
    Calls Tryz.prog 41 #[r.v, .int .i64 x] w fun e w' => SzQ x r.cnt (VolSmall r) e ∧ Below w.heap.size w w' := by
  obtain ⟨id, name, ro, limit, a, cap, nx, rs⟩ := r
  obtain ⟨h1, h2, h3, h4, h5, h6⟩ := hi
  unfold VolR.v VolR.cnt
  unfold VolR.rd at hr
  dsimp only at h1 h2 h3 h4 h5 h6 hr ⊢
  obtain ⟨n, hn⟩ : ∃ n, rs.length = n := ⟨_, rfl⟩
  rw [hn] at h5 ⊢
  have B0 : Below w.heap.size w (w.alloc (.cells #[.int .i64 id, .string name, .bool ro, .int .i64 limit, .slice a n cap, .int .i64 nx] 79)) := (Below.refl _ w).alloc (Nat.le_refl _) _
  have hc := fun (y : Nat) (hy : y ≤ 1048576) => szTab_w a n cap y nx rs (w.alloc (.cells #[.int .i64 id, .string name, .bool ro, .int .i64 limit, .slice a n cap, .int .i64 nx] 79)) hn h5 hy h6 (hr.keep B0)
  have HC : Hid _ := hc
  have HB : Hid _ := B0
  have HN : Hid _ := hn
  have h2' := h2
  unfold maxLen at h2'
  clear hc hr h6 hn B0 h5
  by_cases hl : x < name.size
  · have h1 : ((x : Int) - (name.size : Int)) < 0 := by omega
    go_enter Tryz.func41, Tryz.ntmps41
    go_wp2
    go_ret
    exact ⟨.inl rfl, HB.out⟩
  · have h1 : ¬ ((x : Int) - (name.size : Int)) < 0 := by omega
    obtain ⟨y, hy⟩ : ∃ y : Nat, y + name.size = x := ⟨x - name.size, by omega⟩
    have hyi : (x : Int) - (name.size : Int) = (y : Int) := by omega
    have hcy := HC.out y (by omega)
    clear HC
    go_enter Tryz.func41, Tryz.ntmps41
    go_wp2_with fail
    refine hcy.mono ?_
    rintro e w1 ⟨(rfl | ⟨v, hv, rfl, hzz⟩), hb1⟩
    · go_wp2
      go_ret
      exact ⟨.inl rfl, HB.out.trans (hb1.mono HB.out.size)⟩
    · have hz : Hid _ := hzz
      clear hzz hcy
      go_wp2
      go_ret
      refine ⟨.inr ⟨v, by omega, rfl, ⟨by dsimp only; omega, by dsimp only; rw [HN.out]; exact hz.out.1, hz.out.2⟩⟩, HB.out.trans (hb1.mono HB.out.size)⟩
set_option maxHeartbeats 1600000 in
theorem szVolS_w (a : Option Addr) (n cap x : Nat) (vs : List VolR) (w : World) (hn : vs.length = n) (hm : n ≤ maxLen) (hx : x ≤ 1048576) (hin : ∀ r ∈ vs, VolIn r) (hr : RdVo w a vs) :
    Calls Tryz.prog 17 #[.slice a n cap, .int .i64 x] w fun e w' => SzQ x (n + cntV vs) (n ≤ 1048576 ∧ ∀ r ∈ vs, VolSmall r) e ∧ Below w.heap.size w w' := by
  unfold maxLen at hm
  by_cases h : x < n
  · have h1 : ((x : Int) - (n : Int)) < 0 := by omega
    go_enter Tryz.func17, Tryz.ntmps17
    go_wp2
    go_ret
    exact ⟨.inl rfl, Below.refl _ _⟩
  · have h1 : ¬ ((x : Int) - (n : Int)) < 0 := by omega
    by_cases h0 : n = 0
    · subst h0
      obtain rfl : vs = [] := List.length_eq_zero_iff.1 hn
      go_enter Tryz.func17, Tryz.ntmps17
      go_wp2
      refine wp_loop_rounds 1 ?_; rw [rounds_succ]
      go_wp2
      go_ret
      exact ⟨.inr ⟨x, by simp [cntV], ret_int (by simp), by omega, by simp⟩, Below.refl _ _⟩
    · have hne : vs ≠ [] := by intro h; subst h; simp at hn; omega
      obtain ⟨b, off, rfl, hlt, hc⟩ := hr.lt hne
      clear hr hne
      have hn' : Hid (vs.length = n) := hn
      have HC : Hid _ := hc
      have HI : Hid _ := hin
      clear hn hc hin
      go_enter Tryz.func17, Tryz.ntmps17
      go_wp2
      go_loopw [1, 5] (fun l i wr => ∃ k y : Nat, k ≤ n ∧ i = .int .i64 k ∧ l = .int .i64 y ∧ y + (n + cntV (vs.take k)) ≤ x ∧ Below w.heap.size w wr ∧ Hid (∀ r ∈ vs.take k, VolSmall r)) (fun _ i _ => n - (intOf i).toNat)
      case atStart => exact ⟨0, x - n, Nat.zero_le _, rfl, by go_num, by simp [cntV]; omega, Below.refl _ _, fun q hq => by simp at hq⟩
      case round =>
        obtain ⟨k, y, hk, rfl, rfl, hy, hB, hall⟩ := hrel
        by_cases hkn : k < n
        · have hkl : k < vs.length := by rw [hn'.out]; exact hkn
          have hki : (k : Int) < (n : Int) := by omega
          obtain ⟨r, hrk⟩ : ∃ r, vs[k]? = some r := ⟨_, List.getElem?_eq_getElem hkl⟩
          obtain ⟨x6, xr⟩ := HC.out k r hrk
          have hcall := szVol_w r y wr (by omega) (HI.out r (List.mem_of_getElem? hrk)) (xr.keep hB)
          have hcn : cntV (vs.take (k + 1)) = cntV (vs.take k) + r.cnt := by unfold cntV; rw [List.take_add_one, hrk]; simp
          have hnext : Hid (VolSmall r → ∀ q ∈ vs.take (k + 1), VolSmall q) := by
            intro h q hq
            rw [List.take_add_one, hrk] at hq
            simp only [Option.toList_some, List.mem_append, List.mem_singleton] at hq
            rcases hq with hq | rfl
            · exact hall.out q hq
            · exact h
          have z6 := x6.keep hB hlt
          obtain ⟨x0, x1, x2, x3, x4, x5⟩ := z6
          unfold VolR.v at hcall
          have hwz := hB.size
          obtain ⟨n1, hn1⟩ : ∃ n, r.rs.length = n := ⟨_, rfl⟩
          rw [hn1] at x4 hcall
          obtain ⟨rc, hrc⟩ : ∃ n, r.cnt = n := ⟨_, rfl⟩
          rw [hrc] at hcn hcall
          have HCN : Hid _ := hcn
          clear hcn hrc
          clear x6 xr hall hn1 hrk hkl
          go_wp2_with fail
          refine hcall.mono ?_
          rintro e w1 ⟨(rfl | ⟨v, hv, rfl, hzz⟩), hb1⟩
          · go_wp2
            go_ret
            exact ⟨.inl rfl, hB.trans (hb1.mono hwz)⟩
          · have hnx : Hid _ := hnext.out hzz
            clear x0 x1 x2 x3 x4 x5 hcall
            go_wp2
            go_roundw
            case rel => exact ⟨k + 1, v, by omega, by go_num, rfl, by have := HCN.out; omega, hB.trans (hb1.mono hwz), hnx⟩
            case measure => simp [intOf]; omega
        · have hki : ¬ (k : Int) < (n : Int) := by omega
          go_wp2
          go_ret
          rw [List.take_of_length_le (by rw [hn'.out]; omega)] at hy
          refine ⟨.inr ⟨y, hy, rfl, by omega, ?_⟩, hB⟩
          have := hall.out
          rw [List.take_of_length_le (by rw [hn'.out]; omega)] at this
          exact this
set_option maxHeartbeats 800000 in
theorem szFs_w (a : Option Addr) (n cap x : Nat) (nx : Int) (vs : List VolR) (w : World) (hn : vs.length = n) (hm : n ≤ maxLen) (hx : x ≤ 1048576) (hin : ∀ r ∈ vs, VolIn r) (hr : RdVo w a vs) :
    Calls Tryz.prog 5 #[.agg #[.slice a n cap, .int .i64 nx], .int .i64 x] w fun e w' => SzQ x (n + cntV vs) (n ≤ 1048576 ∧ ∀ r ∈ vs, VolSmall r) e ∧ Below w.heap.size w w' := by
  have B0 : Below w.heap.size w (w.alloc (.cells #[.slice a n cap, .int .i64 nx] 24)) := (Below.refl _ w).alloc (Nat.le_refl _) _
  have hcall := szVolS_w a n cap x vs (w.alloc (.cells #[.slice a n cap, .int .i64 nx] 24)) hn hm hx hin (hr.keep B0)
  have HB : Hid _ := B0
  clear hin hr hn hm
  go_enter Tryz.func5, Tryz.ntmps5
  go_wp2_with fail
  refine hcall.mono ?_
  rintro e w1 ⟨(rfl | ⟨v, hv, rfl, hzz⟩), hb1⟩
  · go_wp2
    go_ret
    exact ⟨.inl rfl, HB.out.trans (hb1.mono HB.out.size)⟩
  · have hz : Hid _ := hzz
    clear hzz
    go_wp2
    go_ret
    exact ⟨.inr ⟨v, hv, rfl, hz.out⟩, HB.out.trans (hb1.mono HB.out.size)⟩
end

section
open Go.ChangeShapes Go.WideShapes Go.ChangeAt Go.RowKit
section
variable {H : Type} {enc : TypeId × Value → H} {w : World} {base : Nat} {held : Bool}
theorem list5 {α : Type} {l : List α} (h : l.length = 5) : ∃ a b c d e, l = [a, b, c, d, e] := by
  match l, h with
  | [a, b, c, d, e], _ => exact ⟨a, b, c, d, e, rfl⟩
set_option maxRecDepth 100000 in
set_option maxHeartbeats 1000000 in
theorem open_vol_cells {fuel : Nat} {cs : List Value} {x : DataW H × List MemPlace} (hf : DataW.trod enc Tryz.prog w base (fun _ => true) held fuel 79 cs = some x) :
    ∃ r : VolR, cs = r.six ∧ VolIn r ∧ r.rd w := by
  obtain ⟨xs, n, _, _, hl, hlen, hfld⟩ := DataW.trod_struct Tryz.underlying79 hf
  have hC : Tryz.prog.cellsOf 79 = 6 := by kernel_rfl
  have k3 : Tryz.prog.cellsOf 3 = 1 := by kernel_rfl
  have k4 : Tryz.prog.cellsOf 4 = 1 := by kernel_rfl
  have k9 : Tryz.prog.cellsOf 9 = 1 := by kernel_rfl
  have kT : Tryz.prog.cellsOf 77 = 2 := by kernel_rfl
  have kI : Tryz.prog.cellsOf 75 = 1 := by kernel_rfl
  rw [hC] at hl
  obtain ⟨v0, v1, v2, v3, v4, v5, rfl⟩ := list6 hl
  obtain ⟨y0, y1, y2, y3, y4, rfl⟩ := list5 hlen
  have f0 := hfld 0 _ rfl
  have f1 := hfld 1 _ rfl
  have f2 := hfld 2 _ rfl
  have f3 := hfld 3 _ rfl
  have f4 := hfld 4 _ rfl
  simp [k3, k4, k9, kT] at f0 f1 f2 f3 f4
  obtain ⟨id, e0, _, w0⟩ := DataW.trod_int Tryz.underlying3 f0
  obtain ⟨name, e1, _, w1⟩ := DataW.trod_string Tryz.underlying9 f1
  obtain ⟨ro, e2, _⟩ := DataW.trod_bool Tryz.underlying4 f2
  obtain ⟨limit, e3, _, w3⟩ := DataW.trod_int Tryz.underlying3 f3
  obtain ⟨xs', n', _, _, hl', hlen', hfld'⟩ := DataW.trod_struct Tryz.underlying77 f4
  obtain ⟨z0, z1, rfl⟩ := list2 hlen'
  have g0 := hfld' 0 _ rfl
  have g1 := hfld' 1 _ rfl
  simp [k3, kI] at g0 g1
  obtain ⟨a, cap, rs, e4, hm, hI, hR⟩ := open_inodes g0
  obtain ⟨nx, e5, _, w5⟩ := DataW.trod_int Tryz.underlying3 g1
  simp only [List.cons.injEq, and_true] at e0 e1 e2 e3 e4 e5
  subst e0 e1 e2 e3 e4 e5
  exact ⟨⟨id, name, ro, limit, a, cap, nx, rs⟩, rfl, ⟨w0, w1, w3, w5, hm, hI⟩, hR⟩
/-- A slice of volumes that came in, opened. -/
theorem open_vols {fuel : Nat} {cs : List Value} {x : DataW H × List MemPlace} (h : DataW.trod enc Tryz.prog w base (fun _ => true) held fuel 22 cs = some x) :
    ∃ (a : Option Addr) (cap : Nat) (rs : List VolR), cs = [.slice a rs.length cap] ∧ rs.length ≤ maxLen ∧ (∀ r ∈ rs, VolIn r) ∧ RdVo w a rs := by
  rcases Deep.open_slice Tryz.underlying22 h with ⟨rfl, _⟩ | ⟨a, len, cap, m, n, D, Pl, rfl, _, hl, hm, hmm, _, hx⟩
  · exact ⟨none, 0, [], rfl, Nat.zero_le _, fun q hq => by simp at hq, .inl rfl⟩
  · simp only [if_true] at hmm
    subst hmm
    have hC : Tryz.prog.cellsOf 79 = 6 := by kernel_rfl
    rw [hC] at hx
    haveI : Inhabited VolR := ⟨volZ⟩
    obtain ⟨f, hf⟩ := Deep.choose_lt (α := VolR) (n := len) (p := fun i q => (w.cell? (a.add (i * 6)) = some (.int .i64 q.id) ∧ w.cell? ((a.add (i * 6)).add 1) = some (.string q.name) ∧ w.cell? ((a.add (i * 6)).add 2) = some (.bool q.ro) ∧ w.cell? ((a.add (i * 6)).add 3) = some (.int .i64 q.limit) ∧ w.cell? ((a.add (i * 6)).add 4) = some (.slice q.a q.rs.length q.cap) ∧ w.cell? ((a.add (i * 6)).add 5) = some (.int .i64 q.nx)) ∧ VolIn q ∧ q.rd w) (fun i hi => by
      obtain ⟨cs', h1, h2⟩ := hx i (by omega)
      obtain ⟨q, hq, hI, hR⟩ := open_vol_cells h2
      obtain ⟨v0, v1, v2, v3, v4, v5, e, k0, k1, k2, k3, k4, k5⟩ := cells_six h1
      rw [hq] at e
      unfold VolR.six at e
      simp only [List.cons.injEq, and_true] at e
      obtain ⟨e0, e1, e2, e3, e4, e5⟩ := e
      exact ⟨q, ⟨by rw [k0, e0], by rw [k1, e1], by rw [k2, e2], by rw [k3, e3], by rw [k4, e4], by rw [k5, e5]⟩, hI, hR⟩)
    refine ⟨some a, m, (List.range len).map f, by simp, by simp; omega, ?_, ?_⟩
    · intro q hq
      obtain ⟨i, hi, rfl⟩ := List.mem_map.1 hq
      exact (hf i (List.mem_range.1 hi)).2.1
    · by_cases h0 : len = 0
      · subst h0; exact .inl rfl
      · obtain ⟨b, off, spot⟩ := a
        have hc0 := (hf 0 (by omega)).1.1
        have hspot : spot = none := by simpa [Addr.add] using World.cell?_spot hc0
        subst hspot
        refine .inr ⟨b, off, rfl, fun i r hi => ?_⟩
        obtain ⟨hi', hr'⟩ := List.getElem?_eq_some_iff.1 hi
        simp only [List.length_map, List.length_range] at hi'
        simp at hr'
        subst hr'
        obtain ⟨⟨k0, k1, k2, k3, k4, k5⟩, _, hR⟩ := hf i hi'
        have e1 : (⟨b, off, none⟩ : Addr).add (i * 6) = ⟨b, off + i * 6, none⟩ := by simp [Addr.add]
        have e2 : ∀ j, (⟨b, off + i * 6, none⟩ : Addr).add j = ⟨b, off + i * 6 + j, none⟩ := fun j => by simp [Addr.add]
        rw [e1] at k0 k1 k2 k3 k4 k5
        rw [e2] at k1 k2 k3 k4 k5
        exact ⟨⟨k0, k1, k2, k3, k4, k5⟩, hR⟩
set_option maxRecDepth 100000 in
theorem open_fs {base' : Nat} {v : Value} {d : DataW H} {p : List MemPlace} (hv : Value.okWide Tryz.prog w .any base' 24 v) (h : DataW.Trod enc Tryz.prog w base (fun _ => true) held 24 v d p) :
    ∃ (a : Option Addr) (cap : Nat) (nx : Int) (rs : List VolR), v = .agg #[.slice a rs.length cap, .int .i64 nx] ∧ (Lit.int .i64 nx).wf = true ∧ rs.length ≤ maxLen ∧ (∀ r ∈ rs, VolIn r) ∧ RdVo w a rs := by
  obtain ⟨cs, rfl, hsz⟩ := okWide_struct Tryz.underlying24 hv
  obtain ⟨fuel, hf⟩ := h
  obtain ⟨xs, n, _, _, hl, hlen, hfld⟩ := DataW.trod_struct Tryz.underlying24 hf
  have hC : Tryz.prog.cellsOf 24 = 2 := by kernel_rfl
  have k3 : Tryz.prog.cellsOf 3 = 1 := by kernel_rfl
  have k22 : Tryz.prog.cellsOf 22 = 1 := by kernel_rfl
  rw [hC] at hsz
  obtain ⟨l⟩ := cs
  simp only [List.size_toArray] at hsz
  obtain ⟨v0, v1, rfl⟩ := list2 hsz
  obtain ⟨y0, y1, rfl⟩ := list2 hlen
  have f0 := hfld 0 _ rfl
  have f1 := hfld 1 _ rfl
  simp [Value.cells, k3, k22] at f0 f1
  obtain ⟨a, cap, rs, e0, hm, hI, hR⟩ := open_vols f0
  obtain ⟨nx, e1, _, w1⟩ := DataW.trod_int Tryz.underlying3 f1
  simp only [List.cons.injEq, and_true] at e0 e1
  subst e0 e1
  exact ⟨a, cap, nx, rs, rfl, w1, hm, hI, hR⟩
end
end
end Go.Proofs.YtfjlemnohjnkhaaGreat
