/-
  Joined: TbO, Reader.
-/
import Derived.Test.YtmkcadnpleijdaaJ16U
namespace Go.Proofs.Ytmkcadnpleijdaa
section
open Go.ChangeShapes Go.WideShapes Go.ChangeAt Go.RowKit
theorem Blk.duo {W : World} {B : Nat} {t : TypeId} {v0 v1 : Value} (h : Blk W B t #[v0, v1]) : W.cell? ⟨B, 0, none⟩ = some v0 ∧ W.cell? ⟨B, 1, none⟩ = some v1 := ⟨h.cell 0, h.cell 1⟩
section
variable {H : Type} {enc : TypeId × Value → H} {w : World} {base : Nat} {held : Bool}
theorem list5 {α : Type} {l : List α} (h : l.length = 5) : ∃ a b c d e, l = [a, b, c, d, e] := by
  match l, h with
  | [a, b, c, d, e], _ => exact ⟨a, b, c, d, e, rfl⟩
set_option maxRecDepth 100000 in
set_option maxHeartbeats 1000000 in
theorem open_rws {fuel : Nat} {cs : List Value} {x : DataW H × List MemPlace} (h : DataW.trod enc Try.prog w base (fun _ => true) held fuel 36 cs = some x) :
    ∃ (a : Option Addr) (cap : Nat) (es : List RwD), cs = [.slice a es.length cap] ∧ es.length ≤ maxLen ∧ (∀ r ∈ es, r.name.size ≤ maxLen) ∧ RdRw w a es := by
  obtain ⟨a, cap, es, h1, h2, h3, h4⟩ := open_row rwE (fun r => r.name.size ≤ maxLen) (fun _ => True) Try.underlying36 (by kernel_rfl) (by
    intro n cs' y hy
    obtain ⟨xs, n, _, _, hl, hlen, hfld⟩ := DataW.trod_struct Try.underlying95 hy
    have hC : Try.prog.cellsOf 95 = 5 := by kernel_rfl
    have k3 : Try.prog.cellsOf 3 = 1 := by kernel_rfl
    have k4 : Try.prog.cellsOf 4 = 1 := by kernel_rfl
    have k9 : Try.prog.cellsOf 9 = 1 := by kernel_rfl
    rw [hC] at hl
    obtain ⟨v0, v1, v2, v3, v4, rfl⟩ := list5 hl
    obtain ⟨y0, y1, y2, y3, y4, rfl⟩ := list5 hlen
    have f0 := hfld 0 _ rfl
    have f1 := hfld 1 _ rfl
    have f2 := hfld 2 _ rfl
    have f3 := hfld 3 _ rfl
    have f4 := hfld 4 _ rfl
    simp [k3, k4, k9] at f0 f1 f2 f3 f4
    obtain ⟨id, e0, _, _⟩ := DataW.trod_int Try.underlying3 f0
    obtain ⟨name, e1, _, w1⟩ := DataW.trod_string Try.underlying9 f1
    obtain ⟨ro, e2, _⟩ := DataW.trod_bool Try.underlying4 f2
    obtain ⟨lim, e3, _, _⟩ := DataW.trod_int Try.underlying3 f3
    obtain ⟨mp, e4, _, _⟩ := DataW.trod_int Try.underlying3 f4
    simp only [List.cons.injEq, and_true] at e0 e1 e2 e3 e4
    subst e0 e1 e2 e3 e4
    exact ⟨⟨id, name, ro, lim, mp⟩, rfl, w1, trivial⟩) h
  exact ⟨a, cap, es, h1, h2, h3, h4⟩
set_option maxRecDepth 100000 in
theorem open_table {base' : Nat} {v : Value} {d : DataW H} {p : List MemPlace} (hv : Value.okWide Try.prog w .any base' 38 v) (h : DataW.Trod enc Try.prog w base (fun _ => true) held 38 v d p) :
    ∃ (nx : Int) (a : Option Addr) (cap : Nat) (ps : List RwD), v = .agg #[.int .i64 nx, .slice a ps.length cap] ∧ (Lit.int .i64 nx).wf = true ∧ ps.length ≤ maxLen ∧ (∀ r ∈ ps, r.name.size ≤ maxLen) ∧ RdRw w a ps := by
  obtain ⟨cs, rfl, hsz⟩ := okWide_struct Try.underlying38 hv
  obtain ⟨fuel, hf⟩ := h
  obtain ⟨xs, n, _, _, hl, hlen, hfld⟩ := DataW.trod_struct Try.underlying38 hf
  have hC : Try.prog.cellsOf 38 = 2 := by kernel_rfl
  have k3 : Try.prog.cellsOf 3 = 1 := by kernel_rfl
  have kP : Try.prog.cellsOf 36 = 1 := by kernel_rfl
  rw [hC] at hsz
  obtain ⟨l⟩ := cs
  simp only [List.size_toArray] at hsz
  obtain ⟨v0, v1, rfl⟩ := list2 hsz
  obtain ⟨y0, y1, rfl⟩ := list2 hlen
  have f0 := hfld 0 _ rfl
  have f1 := hfld 1 _ rfl
  simp [Value.cells, k3, kP] at f0 f1
  obtain ⟨nx, e0, _, wn⟩ := DataW.trod_int Try.underlying3 f0
  obtain ⟨a, cap, ps, e1, hm, hI, hR⟩ := open_rws f1
  simp only [List.cons.injEq, and_true] at e0 e1
  subst e0 e1
  exact ⟨nx, a, cap, ps, rfl, wn, hm, hI, hR⟩
end
end

section
open Go.RowKit
/-- A number read on; the place is none once something was not there whole. -/
def rdN (zs : List Int) : Option Nat → Nat × Option Nat
  | none => (0, none)
  | some p => if (gn zs (p : Int)).2.2 = true then ((gn zs (p : Int)).1, some (gn zs (p : Int)).2.1) else (0, none)
/-- A text read on. -/
def rdT (zs : List Int) : Option Nat → ByteArray × Option Nat
  | none => (ByteArray.empty, none)
  | some p => if (gtOf zs (gn zs (p : Int))).2.2 = true then ((gtOf zs (gn zs (p : Int))).1, some (gtOf zs (gn zs (p : Int))).2.1) else (ByteArray.empty, none)
/-- The reader of the specification in block R stands at st. -/
def RS (W : World) (R : Nat) (a : Option Addr) (n cap : Nat) (st : Option Nat) : Prop :=
  ∃ p : Nat, Blk W R 65 #[.slice a n cap, .int .i64 (p : Int), .bool st.isNone] ∧ ∀ q, st = some q → p = q
theorem rdN_some {zs : List Int} {p x nx : Nat} (h : gn zs (p : Int) = (x, nx, true)) : rdN zs (some p) = (x, some nx) := by simp [rdN, h]
theorem rdN_bad {zs : List Int} {p : Nat} (h : (gn zs (p : Int)).2.2 = false) : rdN zs (some p) = (0, none) := by simp [rdN, h]
theorem rdT_some {zs : List Int} {p nx : Nat} {s : ByteArray} (h : gtOf zs (gn zs (p : Int)) = (s, nx, true)) : rdT zs (some p) = (s, some nx) := by simp [rdT, h]
theorem rdT_bad {zs : List Int} {p : Nat} (h : (gtOf zs (gn zs (p : Int))).2.2 = false) : rdT zs (some p) = (ByteArray.empty, none) := by simp [rdT, h]
theorem gr_two (w : World) (R i : Nat) (v : Value) (d : Nat) : w.grownBy ((w.drewN d).setCell ⟨R, i, none⟩ v) (some R) :=
  ⟨rfl, rfl, rfl, by simp [World.setCell, World.drewN], fun k _ hk => heap_setCell_other (w.drewN d) ⟨R, i, none⟩ k v (fun e => hk (by simp [e]))⟩
set_option maxHeartbeats 2000000 in
theorem l3Num_any (R : Nat) (a : Option Addr) (n cap : Nat) (zs : List Int) (st : Option Nat) (w : World) (hn : zs.length = n) (hs : n ≤ 4000000) (hr : Rd w a zs) (hb : Byt zs) (h : RS w R a n cap st) :
    Calls Try.prog 37 #[.pointer (some ⟨R, 0, none⟩)] w fun e w' => e = .returned (.int .i64 ((rdN zs st).1 : Int)) ∧ RS w' R a n cap (rdN zs st).2 ∧ w.grownBy w' (some R) := by
  obtain ⟨p, hB, hp⟩ := h
  have c0 := hB.cell 0
  have c1 := hB.cell 1
  have c2 := hB.cell 2
  have f1 := hB.frozen 1
  have f2 := hB.frozen 2
  simp at c0 c1 c2
  have hG := fun W (h : Rd W a zs) => specGetNum_any a n cap zs (p : Int) W hn hs h hb
  obtain ⟨x, hx⟩ : ∃ x, (gn zs (p : Int)).1 = x := ⟨_, rfl⟩
  obtain ⟨nx, hnx⟩ : ∃ x, (gn zs (p : Int)).2.1 = x := ⟨_, rfl⟩
  obtain ⟨ok, hok⟩ : ∃ x, (gn zs (p : Int)).2.2 = x := ⟨_, rfl⟩
  have hgn : gn zs (p : Int) = (x, nx, ok) := by rw [← hx, ← hnx, ← hok]
  rw [hgn] at hG
  have HG : ∀ W : World, W.heap = w.heap → Calls Try.prog 61 #[.slice a n cap, .int .i64 (p : Int)] W fun e w' => e = .returned (.tuple #[.int .i64 (x : Int), .int .i64 (nx : Int), .bool ok]) ∧ w' = W := fun W hW => hG W (by
    rcases hr with h | ⟨b, off, rfl, hc⟩
    · exact .inl h
    · refine .inr ⟨b, off, rfl, fun i hi => ?_⟩
      have := hc i hi
      simpa [World.cell?, hW] using this)
  have hHB : Hid (Blk w R 65 #[.slice a n cap, .int .i64 (p : Int), .bool st.isNone]) := hB
  have HP : Hid _ := hp
  have hgn' : Hid _ := hgn
  clear hG hB hp hgn hx hnx hok hr
  cases st with
  | none =>
    simp only [Option.isNone_none] at c2
    have hz : Hid (rdN zs none = (0, none)) := rfl
    go_enter Try.func37, Try.ntmps37
    go_wp2
    go_quiet ((go_at_call 61; refine Calls.quiet_of_same (HG _ rfl)))
    go_wp2
    go_ret
    refine ⟨rfl, ⟨p, ?_, fun q hq => by cases hq⟩, gr_two w R 2 _ _⟩
    exact (Blk.set (W := w.drewN _) (show Blk (w.drewN _) R _ _ from hHB.out) 2 (.bool true))
  | some q =>
    obtain rfl := HP.out q rfl
    simp only [Option.isNone_some] at c2
    cases ok with
    | false =>
      have hz : Hid (rdN zs (some p) = (0, none)) := rdN_bad (by rw [hgn'.out])
      go_enter Try.func37, Try.ntmps37
      go_wp2
      go_quiet ((go_at_call 61; refine Calls.quiet_of_same (HG _ rfl)))
      go_wp2
      go_ret
      rw [hz.out]
      refine ⟨rfl, ⟨p, ?_, fun q hq => by cases hq⟩, gr_two w R 2 _ _⟩
      exact (Blk.set (W := w.drewN _) (show Blk (w.drewN _) R _ _ from hHB.out) 2 (.bool true))
    | true =>
      have hz : Hid (rdN zs (some p) = (x, some nx)) := rdN_some hgn'.out
      go_enter Try.func37, Try.ntmps37
      go_wp2
      go_quiet ((go_at_call 61; refine Calls.quiet_of_same (HG _ rfl)))
      go_wp2
      go_ret
      rw [hz.out]
      refine ⟨rfl, ⟨nx, ?_, fun q hq => by cases hq; rfl⟩, gr_two w R 1 _ _⟩
      exact (Blk.set (W := w.drewN _) (show Blk (w.drewN _) R _ _ from hHB.out) 1 (.int .i64 (nx : Int)))
set_option maxHeartbeats 2000000 in
theorem l3Text_any (R : Nat) (a : Option Addr) (n cap : Nat) (zs : List Int) (st : Option Nat) (w : World) (hn : zs.length = n) (hs : n ≤ 4000000) (hcap : n ≤ cap) (hr : Rd w a zs) (hb : Byt zs) (h : RS w R a n cap st) :
    Calls Try.prog 38 #[.pointer (some ⟨R, 0, none⟩)] w fun e w' => e = .returned (.string (rdT zs st).1) ∧ RS w' R a n cap (rdT zs st).2 ∧ w.grownBy w' (some R) := by
  obtain ⟨p, hB, hp⟩ := h
  have c0 := hB.cell 0
  have c1 := hB.cell 1
  have c2 := hB.cell 2
  have f1 := hB.frozen 1
  have f2 := hB.frozen 2
  simp at c0 c1 c2
  have hG := fun W (h : Rd W a zs) => specGetText_any a n cap zs (p : Int) W hn hs hcap h hb
  obtain ⟨x, hx⟩ : ∃ x, (gtOf zs (gn zs (p : Int))).1 = x := ⟨_, rfl⟩
  obtain ⟨nx, hnx⟩ : ∃ x, (gtOf zs (gn zs (p : Int))).2.1 = x := ⟨_, rfl⟩
  obtain ⟨ok, hok⟩ : ∃ x, (gtOf zs (gn zs (p : Int))).2.2 = x := ⟨_, rfl⟩
  have hgn : gtOf zs (gn zs (p : Int)) = (x, nx, ok) := by rw [← hx, ← hnx, ← hok]
  rw [hgn] at hG
  have HG : ∀ W : World, W.heap = w.heap → Calls Try.prog 62 #[.slice a n cap, .int .i64 (p : Int)] W fun e w' => e = .returned (.tuple #[.string x, .int .i64 (nx : Int), .bool ok]) ∧ w' = W := fun W hW => hG W (by
    rcases hr with h | ⟨b, off, rfl, hc⟩
    · exact .inl h
    · refine .inr ⟨b, off, rfl, fun i hi => ?_⟩
      have := hc i hi
      simpa [World.cell?, hW] using this)
  have hHB : Hid (Blk w R 65 #[.slice a n cap, .int .i64 (p : Int), .bool st.isNone]) := hB
  have HP : Hid _ := hp
  have hgn' : Hid _ := hgn
  clear hG hB hp hgn hx hnx hok hr
  cases st with
  | none =>
    simp only [Option.isNone_none] at c2
    have hz : Hid (rdT zs none = (ByteArray.empty, none)) := rfl
    go_enter Try.func38, Try.ntmps38
    go_wp2
    go_quiet ((go_at_call 62; refine Calls.quiet_of_same (HG _ rfl)))
    go_wp2
    go_ret
    refine ⟨rfl, ⟨p, ?_, fun q hq => by cases hq⟩, gr_two w R 2 _ _⟩
    exact (Blk.set (W := w.drewN _) (show Blk (w.drewN _) R _ _ from hHB.out) 2 (.bool true))
  | some q =>
    obtain rfl := HP.out q rfl
    simp only [Option.isNone_some] at c2
    cases ok with
    | false =>
      have hz : Hid (rdT zs (some p) = (ByteArray.empty, none)) := rdT_bad (by rw [hgn'.out])
      go_enter Try.func38, Try.ntmps38
      go_wp2
      go_quiet ((go_at_call 62; refine Calls.quiet_of_same (HG _ rfl)))
      go_wp2
      go_ret
      rw [hz.out]
      refine ⟨rfl, ⟨p, ?_, fun q hq => by cases hq⟩, gr_two w R 2 _ _⟩
      exact (Blk.set (W := w.drewN _) (show Blk (w.drewN _) R _ _ from hHB.out) 2 (.bool true))
    | true =>
      have hz : Hid (rdT zs (some p) = (x, some nx)) := rdT_some hgn'.out
      go_enter Try.func38, Try.ntmps38
      go_wp2
      go_quiet ((go_at_call 62; refine Calls.quiet_of_same (HG _ rfl)))
      go_wp2
      go_ret
      rw [hz.out]
      refine ⟨rfl, ⟨nx, ?_, fun q hq => by cases hq; rfl⟩, gr_two w R 1 _ _⟩
      exact (Blk.set (W := w.drewN _) (show Blk (w.drewN _) R _ _ from hHB.out) 1 (.int .i64 (nx : Int)))
end
end Go.Proofs.Ytmkcadnpleijdaa
