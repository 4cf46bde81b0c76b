/-
  Rows of tables of volumes: five cells an element, a text and a flag among them; read, owned, measured, copied, compared, marked, held.
-/
import Derived.Test.YtmkcadnpleijdaaSzInoQ
import Derived.Test.YtmkcadnpleijdaaSzWQ
import Derived.Test.YtmkcadnpleijdaaToTabQ
import Derived.Test.YtmkcadnpleijdaaToChQ
namespace Go.Proofs.Ytmkcadnpleijdaa
open Go.RowKit
/-- A row: a volume's number, its name, whether it is for reading alone, its limit, where its map is. -/
structure RwD where
  id : Int
  name : ByteArray
  ro : Bool
  lim : Int
  mp : Int
deriving Inhabited
def rwE : El RwD := ⟨5, by omega, fun f => [.int .i64 f.id, .string f.name, .bool f.ro, .int .i64 f.lim, .int .i64 f.mp], fun _ => rfl⟩
def RdRw (w : World) (a : Option Addr) (ps : List RwD) : Prop := RdE rwE (fun _ => True) w a ps
theorem RdRw.keep {w w' : World} {a : Option Addr} {ps : List RwD} (h : RdRw w a ps) (hb : Below w.heap.size w w') : RdRw w' a ps := RdE.mono h hb fun _ _ hr => hr
/-- The cells of a row. -/
structure Fiv (w : World) (b off : Nat) (r : RwD) : Prop where
  c0 : w.cell? ⟨b, off, none⟩ = some (.int .i64 r.id)
  c1 : w.cell? ⟨b, off + 1, none⟩ = some (.string r.name)
  c2 : w.cell? ⟨b, off + 2, none⟩ = some (.bool r.ro)
  c3 : w.cell? ⟨b, off + 3, none⟩ = some (.int .i64 r.lim)
  c4 : w.cell? ⟨b, off + 4, none⟩ = some (.int .i64 r.mp)
theorem Fiv.keep {w w' : World} {b off B : Nat} {r : RwD} (h : Fiv w b off r) (hb : Below B w w') (hlt : b < B) : Fiv w' b off r := ⟨(hb.cell hlt).trans h.c0, (hb.cell hlt).trans h.c1, (hb.cell hlt).trans h.c2, (hb.cell hlt).trans h.c3, (hb.cell hlt).trans h.c4⟩
theorem RdRw.lt {w : World} {a : Option Addr} {ps : List RwD} (h : RdRw w a ps) (hz : ps ≠ []) : ∃ b off, a = some ⟨b, off, none⟩ ∧ b < w.heap.size ∧ ∀ i r, ps[i]? = some r → Fiv w b (off + i * 5) r := by
  obtain ⟨b, off, h1, h2, h3⟩ := RdE.lt h hz
  exact ⟨b, off, h1, h2, fun i p hi => ⟨(h3 i p hi).1 0 (by decide), (h3 i p hi).1 1 (by decide), (h3 i p hi).1 2 (by decide), (h3 i p hi).1 3 (by decide), (h3 i p hi).1 4 (by decide)⟩⟩
/-- Rows that can be read. -/
structure WR (w : World) (a : Option Addr) (m : Nat) (ps : List RwD) : Prop where
  len : ps.length = m
  tot : m ≤ 1048576
  nam : ∀ r ∈ ps, r.name.size ≤ 1048576
  rd : RdRw w a ps
theorem WR.keep {w w' : World} {a : Option Addr} {m : Nat} {ps : List RwD} (h : WR w a m ps) (hb : Below w.heap.size w w') : WR w' a m ps := ⟨h.len, h.tot, h.nam, h.rd.keep hb⟩
theorem WR.some {w : World} {a : Option Addr} {m k : Nat} {ps : List RwD} (h : WR w a m ps) (hk : k < m) : ∃ b off r, a = some ⟨b, off, none⟩ ∧ b < w.heap.size ∧ ps[k]? = .some r ∧ Fiv w b (off + k * 5) r := by
  have hl := h.len
  have hrk : ps[k]? = .some ps[k] := List.getElem?_eq_getElem (by omega)
  obtain ⟨b, off, e, hlt, hc⟩ := h.rd.lt (by intro h0; subst h0; simp at hl; omega)
  exact ⟨b, off, ps[k], e, hlt, hrk, hc k _ hrk⟩
/-- Rows of the call's own. -/
def OwnRw (w : World) (v : Value) (m : Nat) (ps : List RwD) : Prop := OwnE rwE 35 w v m ps
theorem OwnRw.rd {w : World} {a : Option Addr} {c n m : Nat} {ps : List RwD} (h : OwnRw w (.slice a n c) m ps) : RdRw w a ps := by
  obtain ⟨a', c', e, r⟩ := OwnE.rd (rd := fun _ => True) h (fun _ _ => trivial)
  simp only [Value.slice.injEq] at e
  rw [e.1]; exact r
theorem OwnRw.wr {w : World} {a : Option Addr} {c m : Nat} {ps : List RwD} (h : OwnRw w (.slice a m c) m ps) (hm : m ≤ 1048576) (hn : ∀ r ∈ ps, r.name.size ≤ 1048576) : WR w a m ps := ⟨OwnE.len h, hm, hn, h.rd⟩
/-- How much the rows hold: their names' bytes. -/
def cntW (ps : List RwD) : Nat := (ps.map fun r => r.name.size).sum
theorem cntW_mem {ps : List RwD} {r : RwD} (h : r ∈ ps) : r.name.size ≤ cntW ps := by
  unfold cntW
  induction ps with
  | nil => simp at h
  | cons q qs ih =>
    simp only [List.map_cons, List.sum_cons]
    rcases List.mem_cons.1 h with h2 | h2
    · subst h2; omega
    · have := ih h2; omega
set_option maxHeartbeats 1600000 in
theorem szRow_w (x0 : Int) (x1 : ByteArray) (x2 : Bool) (x3 : Int) (x4 : Int) (x : Nat) (w : World) (hx : x ≤ 1048576) (hm : x1.size ≤ maxLen) :
    Calls Try.prog 67 #[.agg #[.int .i64 x0, .string x1, .bool x2, .int .i64 x3, .int .i64 x4], .int .i64 x] w fun e w' => SzQ x x1.size True e ∧ Below w.heap.size w w' := by
  have B0 : Below w.heap.size w (w.alloc (.cells #[.int .i64 x0, .string x1, .bool x2, .int .i64 x3, .int .i64 x4] 95)) := (Below.refl _ w).alloc (Nat.le_refl _) _
  have HB : Hid _ := B0
  clear B0
  unfold maxLen at hm
  by_cases h : x < x1.size
  · have h1 : ((x : Int) - (x1.size : Int)) < 0 := by omega
    go_enter Try.func67, Try.ntmps67
    go_wp2
    go_ret
    exact ⟨.inl rfl, HB.out⟩
  · have h1 : ¬ ((x : Int) - (x1.size : Int)) < 0 := by omega
    go_enter Try.func67, Try.ntmps67
    go_wp2
    go_ret
    exact ⟨.inr ⟨x - x1.size, by omega, ret_int (by omega), trivial⟩, HB.out⟩
set_option maxHeartbeats 3200000 in
theorem szRowS_w (a : Option Addr) (n cap x : Nat) (ps : List RwD) (w : World) (hn : ps.length = n) (hm : n ≤ maxLen) (hx : x ≤ 1048576) (hin : ∀ r ∈ ps, r.name.size ≤ maxLen) (hr : RdRw w a ps) :
    Calls Try.prog 45 #[.slice a n cap, .int .i64 x] w fun e w' => SzQ x (n + cntW ps) (∀ r ∈ ps, r.name.size ≤ 1048576) e ∧ Below w.heap.size w w' := by
  unfold maxLen at hm
  by_cases h : x < n
  · have h1 : ((x : Int) - (n : Int)) < 0 := by omega
    go_enter Try.func45, Try.ntmps45
    go_wp2
    go_ret
    exact ⟨.inl rfl, Below.refl _ _⟩
  · have h1 : ¬ ((x : Int) - (n : Int)) < 0 := by omega
    by_cases h0 : n = 0
    · subst h0
      obtain rfl : ps = [] := List.length_eq_zero_iff.1 hn
      go_enter Try.func45, Try.ntmps45
      go_wp2
      refine wp_loop_rounds 1 ?_; rw [rounds_succ]
      go_wp2
      go_ret
      exact ⟨.inr ⟨x, by simp [cntW], ret_int (by simp), by simp⟩, Below.refl _ _⟩
    · have hne : ps ≠ [] := by intro h; subst h; simp at hn; omega
      obtain ⟨b, off, rfl, hlt, hc⟩ := hr.lt hne
      have hn' : Hid (ps.length = n) := hn
      have HC : Hid _ := hc
      have HI : Hid _ := hin
      clear hr hne hn hc hin
      go_enter Try.func45, Try.ntmps45
      go_wp2
      go_loopw [1, 5] (fun l i wr => ∃ k y : Nat, k ≤ n ∧ i = .int .i64 k ∧ l = .int .i64 y ∧ y + (n + cntW (ps.take k)) ≤ x ∧ Below w.heap.size w wr) (fun _ i _ => n - (intOf i).toNat)
      case atStart => exact ⟨0, x - n, Nat.zero_le _, rfl, by go_num, by simp [cntW]; omega, Below.refl _ _⟩
      case round =>
        obtain ⟨k, y, hk, rfl, rfl, hy, hB⟩ := hrel
        by_cases hkn : k < n
        · have hkl : k < ps.length := by rw [hn'.out]; exact hkn
          have hki : (k : Int) < (n : Int) := by omega
          obtain ⟨r, hrk⟩ : ∃ r, ps[k]? = some r := ⟨_, List.getElem?_eq_getElem hkl⟩
          have hcn : cntW (ps.take (k + 1)) = cntW (ps.take k) + r.name.size := by unfold cntW; rw [List.take_add_one, hrk]; simp
          have hnm := HI.out r (List.mem_of_getElem? hrk)
          obtain ⟨c0, c1, c2, c3, c4⟩ := (HC.out k r hrk).keep hB hlt
          obtain ⟨x0, x1, x2, x3, x4⟩ := r
          dsimp only at c0 c1 c2 c3 c4 hnm hcn
          have hcall := szRow_w x0 x1 x2 x3 x4 y wr (by omega) hnm
          have hwz := hB.size
          obtain ⟨rc, hrc⟩ : ∃ n, x1.size = n := ⟨_, rfl⟩
          rw [hrc] at hcn hcall
          have HCN : Hid _ := hcn
          clear hcn hrc hrk hkl hnm
          go_wp2_with fail
          refine hcall.mono ?_
          rintro e w1 ⟨(rfl | ⟨v, hv, rfl, hzz⟩), hb1⟩
          · go_wp2
            go_ret
            exact ⟨.inl rfl, hB.trans (hb1.mono hwz)⟩
          · have hcm := HCN.out
            have hxx : v + (n + cntW (ps.take (k + 1))) ≤ x := by omega
            have HXX : Hid _ := hxx
            clear c0 c1 c2 c3 c4 hcall hcm hxx
            go_wp2
            go_roundw
            case rel => exact ⟨k + 1, v, by omega, by go_num, rfl, HXX.out, hB.trans (hb1.mono hwz)⟩
            case measure => simp [intOf]; omega
        · have hki : ¬ (k : Int) < (n : Int) := by omega
          obtain rfl : k = n := by omega
          go_wp2
          go_ret
          rw [List.take_of_length_le (by rw [hn'.out]; exact Nat.le_refl _)] at hy
          refine ⟨.inr ⟨y, by omega, rfl, fun r hr => ?_⟩, hB⟩
          have := cntW_mem hr
          omega
set_option maxHeartbeats 1600000 in
theorem szTable_any (nx : Int) (a : Option Addr) (n cap : Nat) (ps : List RwD) (w : World) (hn : ps.length = n) (hm : n ≤ maxLen) (hin : ∀ r ∈ ps, r.name.size ≤ maxLen) (hr : RdRw w a ps) :
    Calls Try.prog 16 #[.agg #[.int .i64 nx, .slice a n cap], .int .i64 1048576] w fun e w' => SzP (n ≤ 1048576 ∧ ∀ r ∈ ps, r.name.size ≤ 1048576) e ∧ Below w.heap.size w w' := by
  have B0 : Below w.heap.size w (w.alloc (.cells #[.int .i64 nx, .slice a n cap] 38)) := (Below.refl _ w).alloc (Nat.le_refl _) _
  have hcall := szRowS_w a n cap 1048576 ps (w.alloc (.cells #[.int .i64 nx, .slice a n cap] 38)) hn hm (Nat.le_refl _) hin (hr.keep B0)
  have HB : Hid _ := B0
  clear B0
  go_enter Try.func16, Try.ntmps16
  go_wp2_with fail
  refine hcall.mono ?_
  rintro e w1 ⟨(rfl | ⟨v, hv, rfl, hzz⟩), hb1⟩
  · go_wp2
    go_ret
    exact ⟨.inl rfl, HB.out.trans (hb1.mono HB.out.size)⟩
  · have hv0 : ¬ (v : Int) < 0 := by omega
    have HZ : Hid _ := hzz
    clear hzz
    go_wp2
    go_ret
    exact ⟨.inr ⟨v, by omega, rfl, by omega, HZ.out⟩, HB.out.trans (hb1.mono HB.out.size)⟩
set_option maxHeartbeats 3200000 in
theorem toRow_any (x0 : Int) (x1 : ByteArray) (x2 : Bool) (x3 : Int) (x4 : Int) (w : World) :
    Calls Try.prog 68 #[.agg #[.int .i64 x0, .string x1, .bool x2, .int .i64 x3, .int .i64 x4]] w fun e w' => e = .returned (.agg #[.int .i64 x0, .string x1, .bool x2, .int .i64 x3, .int .i64 x4]) ∧ Below w.heap.size w w' := by
  have B0 : Below w.heap.size w (((w.alloc (.cells #[.int .i64 x0, .string x1, .bool x2, .int .i64 x3, .int .i64 x4] 95)).alloc (.cells #[.int .i64 0, .string ⟨#[]⟩, .bool false, .int .i64 0, .int .i64 0] 35)).alloc (.cells #[.int .i64 0, .string ⟨#[]⟩, .bool false, .int .i64 0, .int .i64 0] 35)) := (((Below.refl _ w).alloc (Nat.le_refl _) _).alloc (by simp) _).alloc (by simp; omega) _
  obtain ⟨H, hH⟩ : ∃ H, w.heap.size = H := ⟨_, rfl⟩
  have t0 : Blk (((w.alloc (.cells #[.int .i64 x0, .string x1, .bool x2, .int .i64 x3, .int .i64 x4] 95)).alloc (.cells #[.int .i64 0, .string ⟨#[]⟩, .bool false, .int .i64 0, .int .i64 0] 35)).alloc (.cells #[.int .i64 0, .string ⟨#[]⟩, .bool false, .int .i64 0, .int .i64 0] 35)) w.heap.size 95 #[.int .i64 x0, .string x1, .bool x2, .int .i64 x3, .int .i64 x4] := ((Blk.new w 95 _).alloc _).alloc _
  have t1 := (Blk.new (w.alloc (.cells #[.int .i64 x0, .string x1, .bool x2, .int .i64 x3, .int .i64 x4] 95)) 35 #[.int .i64 0, .string ⟨#[]⟩, .bool false, .int .i64 0, .int .i64 0]).alloc (.cells #[.int .i64 0, .string ⟨#[]⟩, .bool false, .int .i64 0, .int .i64 0] 35)
  have t2 := Blk.new ((w.alloc (.cells #[.int .i64 x0, .string x1, .bool x2, .int .i64 x3, .int .i64 x4] 95)).alloc (.cells #[.int .i64 0, .string ⟨#[]⟩, .bool false, .int .i64 0, .int .i64 0] 35)) 35 #[.int .i64 0, .string ⟨#[]⟩, .bool false, .int .i64 0, .int .i64 0]
  simp only [World.size_alloc] at t1 t2
  go_enter Try.func68, Try.ntmps68
  obtain ⟨W0, hW0⟩ : ∃ W, ((w.alloc (.cells #[.int .i64 x0, .string x1, .bool x2, .int .i64 x3, .int .i64 x4] 95)).alloc (.cells #[.int .i64 0, .string ⟨#[]⟩, .bool false, .int .i64 0, .int .i64 0] 35)).alloc (.cells #[.int .i64 0, .string ⟨#[]⟩, .bool false, .int .i64 0, .int .i64 0] 35) = W := ⟨_, rfl⟩
  rw [hW0] at B0 t0 t1 t2
  rw [hH] at t0 t1 t2 B0
  have a0 := t0.cell 0
  have a1 := t0.cell 1
  have a2 := t0.cell 2
  have a3 := t0.cell 3
  have a4 := t0.cell 4
  have c0 := t2.cell 0
  have f0 := t2.frozen 0
  have c1 := t2.cell 1
  have f1 := t2.frozen 1
  have c2 := t2.cell 2
  have f2 := t2.frozen 2
  have c3 := t2.cell 3
  have f3 := t2.frozen 3
  have c4 := t2.cell 4
  have f4 := t2.frozen 4
  have v2 := ((((t2.set 0 (.int .i64 x0)).set 1 (.string x1)).set 2 (.bool x2)).set 3 (.int .i64 x3)).set 4 (.int .i64 x4)
  have v1 := ((((t1.other (B' := H + 1 + 1) (by omega) 0 (.int .i64 x0)).other (B' := H + 1 + 1) (by omega) 1 (.string x1)).other (B' := H + 1 + 1) (by omega) 2 (.bool x2)).other (B' := H + 1 + 1) (by omega) 3 (.int .i64 x3)).other (B' := H + 1 + 1) (by omega) 4 (.int .i64 x4)
  have d0 := v2.cell 0
  have d1 := v2.cell 1
  have d2 := v2.cell 2
  have d3 := v2.cell 3
  have d4 := v2.cell 4
  have g0 := v1.cell 0
  have h0 := v1.frozen 0
  have g1 := v1.cell 1
  have h1 := v1.frozen 1
  have g2 := v1.cell 2
  have h2 := v1.frozen 2
  have g3 := v1.cell 3
  have h3 := v1.frozen 3
  have g4 := v1.cell 4
  have h4 := v1.frozen 4
  have vr := ((((v1.set 0 (.int .i64 x0)).set 1 (.string x1)).set 2 (.bool x2)).set 3 (.int .i64 x3)).set 4 (.int .i64 x4)
  have r0 := vr.cell 0
  have r1 := vr.cell 1
  have r2 := vr.cell 2
  have r3 := vr.cell 3
  have r4 := vr.cell 4
  simp at a0 a1 a2 a3 a4 c0 c1 c2 c3 c4 d0 d1 d2 d3 d4 g0 g1 g2 g3 g4 r0 r1 r2 r3 r4
  have HO : Hid (Below H w W0) := B0
  clear B0 v1 v2 vr t0 t1 t2
  go_wp2
  refine bodyPost_ret (v := .agg #[.int .i64 x0, .string x1, .bool x2, .int .i64 x3, .int .i64 x4]) (by simp [results, Try.f68, go_sem, r0, r1, r2, r3, r4]) rfl ?_
  have B2 := HO.out
  have s : ∀ (W : World) (j i : Nat) (v : Value), H ≤ j → Below H w W → Below H w (W.setCell ⟨j, i, none⟩ v) := fun W j i v hj hb => hb.setCell (p := ⟨j, i, none⟩) hj v
  refine ⟨rfl, ?_⟩
  rw [hH]
  exact s _ _ _ _ (by omega) (s _ _ _ _ (by omega) (s _ _ _ _ (by omega) (s _ _ _ _ (by omega) (s _ _ _ _ (by omega) (s _ _ _ _ (by omega) (s _ _ _ _ (by omega) (s _ _ _ _ (by omega) (s _ _ _ _ (by omega) (s _ _ _ _ (by omega) B2)))))))))
def rwZ : RwD := ⟨0, ⟨#[]⟩, false, 0, 0⟩
theorem Try.infoRow : (Try.prog.info? 35).map (fun i => (i.zero, i.size, i.bytes)) = some (some (.agg #[.int .i64 0, .string ⟨#[]⟩, .bool false, .int .i64 0, .int .i64 0]), 5, 48) := by kernel_rfl
theorem made_ownRow {w : World} {g n : Nat} (h : w.ownsRow 0 35 5 (.slice (some ⟨g, 0, none⟩) n n) n (madeCells (Value.agg #[.int .i64 0, .string ⟨#[]⟩, .bool false, .int .i64 0, .int .i64 0]).cells (n * 5)).toList) : OwnE rwE 35 w (.slice (some ⟨g, 0, none⟩) n n) n (List.replicate n rwZ) := made_row rwE rwZ (.agg #[.int .i64 0, .string ⟨#[]⟩, .bool false, .int .i64 0, .int .i64 0]) rfl h
set_option maxHeartbeats 3200000 in
theorem toRowS_any (a : Option Addr) (n cap : Nat) (ps : List RwD) (w : World) (hr : WR w a n ps) :
    Calls Try.prog 46 #[.slice a n cap] w fun e w' => e = .returned (.slice (some ⟨w.heap.size, 0, none⟩) n n) ∧ OwnRw w' (.slice (some ⟨w.heap.size, 0, none⟩) n n) n ps ∧ Below w.heap.size w w' := by
  obtain ⟨i0, hi, hz0, hz1, hz2⟩ := info_parts Try.infoRow
  have hnn := hr.tot
  have hm : n ≤ maxLen := by unfold maxLen; omega
  have hby : i0.bytes * n ≤ 281474976710656 := by rw [hz2]; omega
  have HR : Hid (WR w a n ps) := hr
  clear hr
  go_enter Try.func46, Try.ntmps46
  go_wp2_with (at_make; refine wpList_make_full _ rfl (.tmp 6) (.tmp 6) 24 rfl 0 35 i0 (.agg #[.int .i64 0, .string ⟨#[]⟩, .bool false, .int .i64 0, .int .i64 0]) 5 Try.underlying24 hi hz0 hz1 .i64 .i64 _ _ n rfl rfl rfl rfl hby hm (Nat.zero_le _) ?_; intro w1 hown hgrow)
  have ho := made_ownRow hown
  have hB : Below w.heap.size w w1 := (Below.refl _ _).grown hgrow (Nat.le_refl _) (by simp)
  clear hown hgrow
  go_loopw [4] (fun i wr => ∃ (k : Nat) (us : List RwD), k ≤ n ∧ i = .int .i64 k ∧ us.length = k ∧ Hid (us = ps.take k) ∧ OwnE rwE 35 wr (.slice (some ⟨w.heap.size, 0, none⟩) n n) n (us ++ List.replicate (n - k) rwZ) ∧ Below w.heap.size w wr) (fun i _ => n - (intOf i).toNat)
  case atStart => exact ⟨0, [], Nat.zero_le _, rfl, rfl, rfl, ho, hB⟩
  case round =>
    obtain ⟨k, us, hk, rfl, htk, hcp, hown, hbel⟩ := hrel
    clear ho hB
    by_cases hkn : k < n
    · have hki : (k : Int) < (n : Int) := by omega
      obtain ⟨b, off, r, rfl, hlt, hrk, x6⟩ := HR.out.some hkn
      have hcp' : Hid (us ++ [r] = ps.take (k + 1)) := by show _ = _; rw [List.take_add_one, hrk, hcp.out]; rfl
      obtain ⟨a0, a1, a2, a3, a4⟩ := x6.keep hbel hlt
      obtain ⟨x0, x1, x2, x3, x4⟩ := r
      dsimp only at a0 a1 a2 a3 a4
      have hcall := toRow_any x0 x1 x2 x3 x4 wr
      have hwz := hbel.size
      clear x6 hrk
      go_wp2_with fail
      refine hcall.mono ?_
      rintro e w1 ⟨rfl, hb1⟩
      have ho1 := hown.keep hb1
      have hlc := ho1.lt (g := w.heap.size) rfl
      have hz0 : (us ++ List.replicate (n - k) rwZ)[k]? = some rwZ := list_mid us rwZ (n - k) k htk (by omega)
      have q0 : w1.cell? ⟨w.heap.size, k * 5, none⟩ = some (.int .i64 0) := ho1.cell k 0 rwZ hz0 (by decide)
      have q1 : w1.cell? ⟨w.heap.size, k * 5 + 1, none⟩ = some (.string ⟨#[]⟩) := ho1.cell k 1 rwZ hz0 (by decide)
      have q2 : w1.cell? ⟨w.heap.size, k * 5 + 2, none⟩ = some (.bool false) := ho1.cell k 2 rwZ hz0 (by decide)
      have q3 : w1.cell? ⟨w.heap.size, k * 5 + 3, none⟩ = some (.int .i64 0) := ho1.cell k 3 rwZ hz0 (by decide)
      have q4 : w1.cell? ⟨w.heap.size, k * 5 + 4, none⟩ = some (.int .i64 0) := ho1.cell k 4 rwZ hz0 (by decide)
      have f0 := ho1.frozen (k * 5)
      have f1 := ho1.frozen (k * 5 + 1)
      have f2 := ho1.frozen (k * 5 + 2)
      have f3 := ho1.frozen (k * 5 + 3)
      have f4 := ho1.frozen (k * 5 + 4)
      have s0 := ho1.set k 0 rwZ ⟨x0, ⟨#[]⟩, false, 0, 0⟩ (.int .i64 x0) hz0 (by decide) (by simp [rwE, rwZ])
      have hz1 : ((us ++ List.replicate (n - k) rwZ).set k ⟨x0, ⟨#[]⟩, false, 0, 0⟩)[k]? = some ⟨x0, ⟨#[]⟩, false, 0, 0⟩ := by rw [List.getElem?_set_self (by simp; omega)]
      have s1 := s0.set k 1 ⟨x0, ⟨#[]⟩, false, 0, 0⟩ ⟨x0, x1, false, 0, 0⟩ (.string x1) hz1 (by decide) (by simp [rwE])
      rw [set_set_at] at s1
      have hz2 : ((us ++ List.replicate (n - k) rwZ).set k ⟨x0, x1, false, 0, 0⟩)[k]? = some ⟨x0, x1, false, 0, 0⟩ := by rw [List.getElem?_set_self (by simp; omega)]
      have s2 := s1.set k 2 ⟨x0, x1, false, 0, 0⟩ ⟨x0, x1, x2, 0, 0⟩ (.bool x2) hz2 (by decide) (by simp [rwE])
      rw [set_set_at] at s2
      have hz3 : ((us ++ List.replicate (n - k) rwZ).set k ⟨x0, x1, x2, 0, 0⟩)[k]? = some ⟨x0, x1, x2, 0, 0⟩ := by rw [List.getElem?_set_self (by simp; omega)]
      have s3 := s2.set k 3 ⟨x0, x1, x2, 0, 0⟩ ⟨x0, x1, x2, x3, 0⟩ (.int .i64 x3) hz3 (by decide) (by simp [rwE])
      rw [set_set_at] at s3
      have hz4 : ((us ++ List.replicate (n - k) rwZ).set k ⟨x0, x1, x2, x3, 0⟩)[k]? = some ⟨x0, x1, x2, x3, 0⟩ := by rw [List.getElem?_set_self (by simp; omega)]
      have s4 := s3.set k 4 ⟨x0, x1, x2, x3, 0⟩ ⟨x0, x1, x2, x3, x4⟩ (.int .i64 x4) hz4 (by decide) (by simp [rwE])
      rw [set_set_at, show (us ++ List.replicate (n - k) rwZ).set k ⟨x0, x1, x2, x3, x4⟩ = (us ++ [⟨x0, x1, x2, x3, x4⟩]) ++ List.replicate (n - (k + 1)) rwZ by rw [← htk, set_mid us _ _ _ (by omega), htk, show n - k - 1 = n - (k + 1) by omega]] at s4
      have hgr : w1.grownBy (((((w1.setCell ⟨w.heap.size, k * 5, none⟩ (.int .i64 x0)).setCell ⟨w.heap.size, k * 5 + 1, none⟩ (.string x1)).setCell ⟨w.heap.size, k * 5 + 2, none⟩ (.bool x2)).setCell ⟨w.heap.size, k * 5 + 3, none⟩ (.int .i64 x3)).setCell ⟨w.heap.size, k * 5 + 4, none⟩ (.int .i64 x4)) (some w.heap.size) := gr_more (gr_more (gr_more (gr_more (gr_setC w1 w.heap.size (k * 5) _) _ _) _ _) _ _) _ _
      have hbel1 : Below w.heap.size w w1 := hbel.trans (hb1.mono hwz)
      have hbel' := hbel1.grown hgr hbel1.size (by intro g hg; simp at hg; omega)
      have hl' : (us ++ [⟨x0, x1, x2, x3, x4⟩] : List RwD).length = k + 1 := by simp [htk]
      have S1 : Hid _ := s4
      clear hown hbel hcp ho1 hb1 hbel1 hgr hcall hz0 hz1 hz2 hz3 hz4 s0 s1 s2 s3 s4
      go_wp2
      go_roundw
      case rel => exact ⟨k + 1, _, by omega, by go_num, hl', hcp', S1.out, hbel'⟩
      case measure => simp [intOf]; omega
    · go_wp2
      go_ret
      obtain rfl : k = n := by omega
      have := hcp.out
      rw [List.take_of_length_le (by rw [HR.out.len]; omega)] at this
      rw [Nat.sub_self, List.replicate_zero, List.append_nil, this] at hown
      exact ⟨rfl, hown, hbel⟩
set_option maxHeartbeats 1600000 in
theorem eqRow_same (x0 : Int) (x1 : ByteArray) (x2 : Bool) (x3 : Int) (x4 : Int) (w : World) :
    Calls Try.prog 69 #[.agg #[.int .i64 x0, .string x1, .bool x2, .int .i64 x3, .int .i64 x4], .agg #[.int .i64 x0, .string x1, .bool x2, .int .i64 x3, .int .i64 x4]] w fun e w' => e = .returned (.bool true) ∧ Below w.heap.size w w' := by
  have B0 : Below w.heap.size w ((w.alloc (.cells #[.int .i64 x0, .string x1, .bool x2, .int .i64 x3, .int .i64 x4] 35)).alloc (.cells #[.int .i64 x0, .string x1, .bool x2, .int .i64 x3, .int .i64 x4] 35)) := ((Below.refl _ w).alloc (Nat.le_refl _) _).alloc (by simp) _
  have z0 := (Blk.new w 35 #[.int .i64 x0, .string x1, .bool x2, .int .i64 x3, .int .i64 x4]).alloc (.cells #[.int .i64 x0, .string x1, .bool x2, .int .i64 x3, .int .i64 x4] 35)
  have z1 := Blk.new (w.alloc (.cells #[.int .i64 x0, .string x1, .bool x2, .int .i64 x3, .int .i64 x4] 35)) 35 #[.int .i64 x0, .string x1, .bool x2, .int .i64 x3, .int .i64 x4]
  simp only [World.size_alloc] at z1
  have e0 : (x0 != x0) = false := by simp
  have e1 : (x1.toList == x1.toList) = true := by simp
  have e1b : (x1.toList != x1.toList) = false := by simp
  have e2 : (x2 != x2) = false := by simp
  have e3 : (x3 != x3) = false := by simp
  have e4 : (x4 != x4) = false := by simp
  obtain ⟨q0, q1, q2, q3, q4⟩ : _ ∧ _ ∧ _ ∧ _ ∧ _ := ⟨z0.cell 0, z0.cell 1, z0.cell 2, z0.cell 3, z0.cell 4⟩
  obtain ⟨p0, p1, p2, p3, p4⟩ : _ ∧ _ ∧ _ ∧ _ ∧ _ := ⟨z1.cell 0, z1.cell 1, z1.cell 2, z1.cell 3, z1.cell 4⟩
  simp at q0 q1 q2 q3 q4 p0 p1 p2 p3 p4
  have HB : Hid _ := B0
  clear z0 z1 B0
  go_enter Try.func69, Try.ntmps69
  go_wp2
  go_ret
  exact ⟨rfl, HB.out⟩
set_option maxHeartbeats 3200000 in
theorem eqRowS_same (a a' : Option Addr) (n cap cap' : Nat) (ps : List RwD) (w : World) (hr : WR w a n ps) (hr' : WR w a' n ps) :
    Calls Try.prog 47 #[.slice a n cap, .slice a' n cap'] w fun e w' => e = .returned (.bool true) ∧ Below w.heap.size w w' := by
  have hnn := hr.tot
  have HR : Hid (WR w a n ps) := hr
  have HR' : Hid (WR w a' n ps) := hr'
  clear hr hr'
  go_enter Try.func47, Try.ntmps47
  go_wp2
  go_loopw [5] (fun i wr => ∃ k : Nat, k ≤ n ∧ i = .int .i64 k ∧ Below w.heap.size w wr) (fun i _ => n - (intOf i).toNat)
  case atStart => exact ⟨0, Nat.zero_le _, rfl, Below.refl _ _⟩
  case round =>
    obtain ⟨k, hk, rfl, hB⟩ := hrel
    by_cases hkn : k < n
    · have hki : (k : Int) < (n : Int) := by omega
      obtain ⟨b, off, r, rfl, hlt, hrk, x6⟩ := HR.out.some hkn
      obtain ⟨b', off', r', rfl, hlt', hrk', y6⟩ := HR'.out.some hkn
      obtain rfl : r' = r := by rw [hrk] at hrk'; simpa using hrk'.symm
      have hcd := eqRow_same r'.id r'.name r'.ro r'.lim r'.mp wr.drew
      obtain ⟨a0, a1, a2, a3, a4⟩ := x6.keep hB hlt
      obtain ⟨b0, b1, b2, b3, b4⟩ := y6.keep hB hlt'
      have hwz := hB.size
      clear x6 y6 hrk hrk'
      go_wp2
      go_region_with ((go_at_call 69; (with_reducible refine hcd.mono ?_); rintro e w1 ⟨rfl, hb1⟩))
      all_goals go_wp2
      all_goals go_roundw
      all_goals first
        | (case rel => exact ⟨k + 1, by omega, by go_num, hB.drew.trans (hb1.mono hwz)⟩)
        | (case measure => simp [intOf]; omega)
    · have hki : ¬ (k : Int) < (n : Int) := by omega
      go_wp2
      go_ret
      exact ⟨rfl, hB⟩
end Go.Proofs.Ytmkcadnpleijdaa

