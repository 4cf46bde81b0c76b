/-
  Reading on from a place: the specification's l3Num and l3Text; what the program's closures num, text and atEnd answer.
-/
import Derived.Test.YtmkcadnpleijdaaPutsQ
import Derived.Test.YtmkcadnpleijdaaTextQ
import Derived.ProofKit
import Derived.ChangeOld
import Derived.Below
import Derived.Deep.DeepCutAuto
namespace Go.Proofs.Ytmkcadnpleijdaa
open Go.RowKit
/-- A number read on; the place is none once something was not there whole. -/
def rdN (zs : List Int) : Option Nat → Nat × Option Nat
  | none => (0, none)
  | some p => if (gn zs (p : Int)).2.2 = true then ((gn zs (p : Int)).1, some (gn zs (p : Int)).2.1) else (0, none)
/-- A text read on. -/
def rdT (zs : List Int) : Option Nat → ByteArray × Option Nat
  | none => (ByteArray.empty, none)
  | some p => if (gtOf zs (gn zs (p : Int))).2.2 = true then ((gtOf zs (gn zs (p : Int))).1, some (gtOf zs (gn zs (p : Int))).2.1) else (ByteArray.empty, none)
/-- The reader of the specification in block R stands at st. -/
def RS (W : World) (R : Nat) (a : Option Addr) (n cap : Nat) (st : Option Nat) : Prop :=
  ∃ p : Nat, Blk W R 65 #[.slice a n cap, .int .i64 (p : Int), .bool st.isNone] ∧ ∀ q, st = some q → p = q
theorem rdN_some {zs : List Int} {p x nx : Nat} (h : gn zs (p : Int) = (x, nx, true)) : rdN zs (some p) = (x, some nx) := by simp [rdN, h]
theorem rdN_bad {zs : List Int} {p : Nat} (h : (gn zs (p : Int)).2.2 = false) : rdN zs (some p) = (0, none) := by simp [rdN, h]
theorem rdT_some {zs : List Int} {p nx : Nat} {s : ByteArray} (h : gtOf zs (gn zs (p : Int)) = (s, nx, true)) : rdT zs (some p) = (s, some nx) := by simp [rdT, h]
theorem rdT_bad {zs : List Int} {p : Nat} (h : (gtOf zs (gn zs (p : Int))).2.2 = false) : rdT zs (some p) = (ByteArray.empty, none) := by simp [rdT, h]
theorem gr_two (w : World) (R i : Nat) (v : Value) (d : Nat) : w.grownBy ((w.drewN d).setCell ⟨R, i, none⟩ v) (some R) :=
  ⟨rfl, rfl, rfl, by simp [World.setCell, World.drewN], fun k _ hk => heap_setCell_other (w.drewN d) ⟨R, i, none⟩ k v (fun e => hk (by simp [e]))⟩
set_option maxHeartbeats 2000000 in
theorem l3Num_any (R : Nat) (a : Option Addr) (n cap : Nat) (zs : List Int) (st : Option Nat) (w : World) (hn : zs.length = n) (hs : n ≤ 4000000) (hr : Rd w a zs) (hb : Byt zs) (h : RS w R a n cap st) :
    Calls Try.prog 37 #[.pointer (some ⟨R, 0, none⟩)] w fun e w' => e = .returned (.int .i64 ((rdN zs st).1 : Int)) ∧ RS w' R a n cap (rdN zs st).2 ∧ w.grownBy w' (some R) := by
  obtain ⟨p, hB, hp⟩ := h
  have c0 := hB.cell 0
  have c1 := hB.cell 1
  have c2 := hB.cell 2
  have f1 := hB.frozen 1
  have f2 := hB.frozen 2
  simp at c0 c1 c2
  have hG := fun W (h : Rd W a zs) => specGetNum_any a n cap zs (p : Int) W hn hs h hb
  obtain ⟨x, hx⟩ : ∃ x, (gn zs (p : Int)).1 = x := ⟨_, rfl⟩
  obtain ⟨nx, hnx⟩ : ∃ x, (gn zs (p : Int)).2.1 = x := ⟨_, rfl⟩
  obtain ⟨ok, hok⟩ : ∃ x, (gn zs (p : Int)).2.2 = x := ⟨_, rfl⟩
  have hgn : gn zs (p : Int) = (x, nx, ok) := by rw [← hx, ← hnx, ← hok]
  rw [hgn] at hG
  have HG : ∀ W : World, W.heap = w.heap → Calls Try.prog 61 #[.slice a n cap, .int .i64 (p : Int)] W fun e w' => e = .returned (.tuple #[.int .i64 (x : Int), .int .i64 (nx : Int), .bool ok]) ∧ w' = W := fun W hW => hG W (by
    rcases hr with h | ⟨b, off, rfl, hc⟩
    · exact .inl h
    · refine .inr ⟨b, off, rfl, fun i hi => ?_⟩
      have := hc i hi
      simpa [World.cell?, hW] using this)
  have hHB : Hid (Blk w R 65 #[.slice a n cap, .int .i64 (p : Int), .bool st.isNone]) := hB
  have HP : Hid _ := hp
  have hgn' : Hid _ := hgn
  clear hG hB hp hgn hx hnx hok hr
  cases st with
  | none =>
    simp only [Option.isNone_none] at c2
    have hz : Hid (rdN zs none = (0, none)) := rfl
    go_enter Try.func37, Try.ntmps37
    go_wp2
    go_quiet ((go_at_call 61; refine Calls.quiet_of_same (HG _ rfl)))
    go_wp2
    go_ret
    refine ⟨rfl, ⟨p, ?_, fun q hq => by cases hq⟩, gr_two w R 2 _ _⟩
    exact (Blk.set (W := w.drewN _) (show Blk (w.drewN _) R _ _ from hHB.out) 2 (.bool true))
  | some q =>
    obtain rfl := HP.out q rfl
    simp only [Option.isNone_some] at c2
    cases ok with
    | false =>
      have hz : Hid (rdN zs (some p) = (0, none)) := rdN_bad (by rw [hgn'.out])
      go_enter Try.func37, Try.ntmps37
      go_wp2
      go_quiet ((go_at_call 61; refine Calls.quiet_of_same (HG _ rfl)))
      go_wp2
      go_ret
      rw [hz.out]
      refine ⟨rfl, ⟨p, ?_, fun q hq => by cases hq⟩, gr_two w R 2 _ _⟩
      exact (Blk.set (W := w.drewN _) (show Blk (w.drewN _) R _ _ from hHB.out) 2 (.bool true))
    | true =>
      have hz : Hid (rdN zs (some p) = (x, some nx)) := rdN_some hgn'.out
      go_enter Try.func37, Try.ntmps37
      go_wp2
      go_quiet ((go_at_call 61; refine Calls.quiet_of_same (HG _ rfl)))
      go_wp2
      go_ret
      rw [hz.out]
      refine ⟨rfl, ⟨nx, ?_, fun q hq => by cases hq; rfl⟩, gr_two w R 1 _ _⟩
      exact (Blk.set (W := w.drewN _) (show Blk (w.drewN _) R _ _ from hHB.out) 1 (.int .i64 (nx : Int)))
set_option maxHeartbeats 2000000 in
theorem l3Text_any (R : Nat) (a : Option Addr) (n cap : Nat) (zs : List Int) (st : Option Nat) (w : World) (hn : zs.length = n) (hs : n ≤ 4000000) (hcap : n ≤ cap) (hr : Rd w a zs) (hb : Byt zs) (h : RS w R a n cap st) :
    Calls Try.prog 38 #[.pointer (some ⟨R, 0, none⟩)] w fun e w' => e = .returned (.string (rdT zs st).1) ∧ RS w' R a n cap (rdT zs st).2 ∧ w.grownBy w' (some R) := by
  obtain ⟨p, hB, hp⟩ := h
  have c0 := hB.cell 0
  have c1 := hB.cell 1
  have c2 := hB.cell 2
  have f1 := hB.frozen 1
  have f2 := hB.frozen 2
  simp at c0 c1 c2
  have hG := fun W (h : Rd W a zs) => specGetText_any a n cap zs (p : Int) W hn hs hcap h hb
  obtain ⟨x, hx⟩ : ∃ x, (gtOf zs (gn zs (p : Int))).1 = x := ⟨_, rfl⟩
  obtain ⟨nx, hnx⟩ : ∃ x, (gtOf zs (gn zs (p : Int))).2.1 = x := ⟨_, rfl⟩
  obtain ⟨ok, hok⟩ : ∃ x, (gtOf zs (gn zs (p : Int))).2.2 = x := ⟨_, rfl⟩
  have hgn : gtOf zs (gn zs (p : Int)) = (x, nx, ok) := by rw [← hx, ← hnx, ← hok]
  rw [hgn] at hG
  have HG : ∀ W : World, W.heap = w.heap → Calls Try.prog 62 #[.slice a n cap, .int .i64 (p : Int)] W fun e w' => e = .returned (.tuple #[.string x, .int .i64 (nx : Int), .bool ok]) ∧ w' = W := fun W hW => hG W (by
    rcases hr with h | ⟨b, off, rfl, hc⟩
    · exact .inl h
    · refine .inr ⟨b, off, rfl, fun i hi => ?_⟩
      have := hc i hi
      simpa [World.cell?, hW] using this)
  have hHB : Hid (Blk w R 65 #[.slice a n cap, .int .i64 (p : Int), .bool st.isNone]) := hB
  have HP : Hid _ := hp
  have hgn' : Hid _ := hgn
  clear hG hB hp hgn hx hnx hok hr
  cases st with
  | none =>
    simp only [Option.isNone_none] at c2
    have hz : Hid (rdT zs none = (ByteArray.empty, none)) := rfl
    go_enter Try.func38, Try.ntmps38
    go_wp2
    go_quiet ((go_at_call 62; refine Calls.quiet_of_same (HG _ rfl)))
    go_wp2
    go_ret
    refine ⟨rfl, ⟨p, ?_, fun q hq => by cases hq⟩, gr_two w R 2 _ _⟩
    exact (Blk.set (W := w.drewN _) (show Blk (w.drewN _) R _ _ from hHB.out) 2 (.bool true))
  | some q =>
    obtain rfl := HP.out q rfl
    simp only [Option.isNone_some] at c2
    cases ok with
    | false =>
      have hz : Hid (rdT zs (some p) = (ByteArray.empty, none)) := rdT_bad (by rw [hgn'.out])
      go_enter Try.func38, Try.ntmps38
      go_wp2
      go_quiet ((go_at_call 62; refine Calls.quiet_of_same (HG _ rfl)))
      go_wp2
      go_ret
      rw [hz.out]
      refine ⟨rfl, ⟨p, ?_, fun q hq => by cases hq⟩, gr_two w R 2 _ _⟩
      exact (Blk.set (W := w.drewN _) (show Blk (w.drewN _) R _ _ from hHB.out) 2 (.bool true))
    | true =>
      have hz : Hid (rdT zs (some p) = (x, some nx)) := rdT_some hgn'.out
      go_enter Try.func38, Try.ntmps38
      go_wp2
      go_quiet ((go_at_call 62; refine Calls.quiet_of_same (HG _ rfl)))
      go_wp2
      go_ret
      rw [hz.out]
      refine ⟨rfl, ⟨nx, ?_, fun q hq => by cases hq; rfl⟩, gr_two w R 1 _ _⟩
      exact (Blk.set (W := w.drewN _) (show Blk (w.drewN _) R _ _ from hHB.out) 1 (.int .i64 (nx : Int)))
end Go.Proofs.Ytmkcadnpleijdaa

