/-
  Joined: CodeI, ChEi, ChEn.
-/
import Derived.Test.YtnhbhpbmnlojlaaGreatDoorJ16W
namespace Go.Proofs.YtnhbhpbmnlojlaaGreatDoor
section
open Go.RowKit
/-- A code as an error. -/
def errV (c : Int) : Value := if c = 0 then .nilIface else .iface 194 (.int .i64 c)
theorem errV_zero : errV 0 = .nilIface := rfl
theorem errV_some {c : Int} (h : c ≠ 0) : errV c = .iface 194 (.int .i64 c) := if_neg h
theorem EtCell.keep {w w' : World} (h : EtCell w) (hb : Below w.heap.size w w') : EtCell w' := by
  have hlt : 0 < w.heap.size := by
    rcases Nat.eq_zero_or_pos w.heap.size with h0 | h1
    · have h' : w.cell? ⟨0, 0, none⟩ = _ := h
      simp [World.cell?, h0] at h'
    · exact h1
  exact (hb.cell (p := ⟨0, 0, none⟩) hlt).trans h
set_option maxRecDepth 100000 in
set_option maxHeartbeats 1000000 in
theorem codeOfI (c : Int) (w : World) (hg : EtCell w) :
    Calls Tryz.prog 139 #[errV c] w fun e w' => e = .returned (.int .i64 c) ∧ Below w.heap.size w w' := by
  have B0 : Below w.heap.size w (w.alloc (.cells #[.int .i64 0] 194)) := (Below.refl _ w).alloc (Nat.le_refl _) _
  by_cases h0 : c = 0
  · subst h0
    rw [errV_zero]
    go_enter Tryz.func139, Tryz.ntmps139
    go_wp2_with fail
    (with_reducible refine (as_nil _ _).mono ?_)
    rintro e w1 ⟨rfl, hw⟩
    obtain rfl := hw.symm
    go_wp2
    go_ret
    exact ⟨rfl, B0⟩
  · rw [errV_some h0]
    have z0 := Blk.new w 194 #[.int .i64 0]
    have t0 : (w.alloc (.cells #[.int .i64 0] 194)).cell? ⟨w.heap.size, 0, none⟩ = some (.int .i64 0) := z0.cell 0
    have f0 := z0.frozen 0
    have hA := as_hit c ⟨w.heap.size, 0, none⟩ (.int .i64 0) _ (hg.keep B0) t0 f0
    go_enter Tryz.func139, Tryz.ntmps139
    go_wp2_with fail
    (with_reducible refine hA.mono ?_)
    rintro e w1 ⟨rfl, hw⟩
    obtain ⟨W, hW⟩ : ∃ W, ((((w.alloc (.cells #[.int .i64 0] 194)).alloc (.cells #[.pointer (some ⟨w.heap.size, 0, none⟩)] 196)).alloc (.cells #[.pointer (some ⟨1, 196, none⟩), .pointer (some ⟨(w.alloc (.cells #[.int .i64 0] 194)).heap.size, 0, none⟩), .int .u64 150] 213)).alloc (.cells #[.pointer (some ⟨1, 196, none⟩), .pointer (some ⟨(w.alloc (.cells #[.int .i64 0] 194)).heap.size, 0, none⟩), .int .u64 150] 213)).alloc (.cells #[.int .i64 c] 194) = W := ⟨_, rfl⟩
    rw [hW] at hw
    have BW : Below w.heap.size w W := by
      rw [← hW]
      exact (((B0.alloc B0.size _).alloc (by simp; omega) _).alloc (by simp; omega) _).alloc (by simp; omega) _
    have zW : Blk W w.heap.size 194 #[.int .i64 0] := by
      rw [← hW]
      exact (((z0.alloc _).alloc _).alloc _).alloc _
    have zF := zW.set 0 (.int .i64 c)
    have r0 := zF.cell 0
    simp at r0
    have hgr := gr_setC W w.heap.size 0 (.int .i64 c)
    have hend : Hid (Below w.heap.size w (W.setCell ⟨w.heap.size, 0, none⟩ (.int .i64 c))) := BW.grown hgr BW.size (fun j hj => by simp at hj; omega)
    subst hw
    clear hW hA zW zF hgr BW z0 t0 f0 B0
    go_wp2
    go_ret
    exact ⟨rfl, hend.out⟩
end

section
open Go.RowKit
set_option maxHeartbeats 1600000 in
theorem hasCl (a : Option Addr) (n cap : Nat) (x : Int) (w : World) (_hn : n ≤ 1048576) :
    Calls Tryz.prog 176 #[.slice a n cap, .int .i64 x] w fun e w' => e = .returned (.bool (decide (0 ≤ x) && decide (x < (n : Int)))) ∧ w' = w := by
  go_enter Tryz.func176, Tryz.ntmps176
  by_cases h1 : 0 ≤ x
  · by_cases h2 : x < (n : Int)
    · go_wp2
      go_ret
      exact ⟨by simp [h1, h2], rfl⟩
    · go_wp2
      go_ret
      exact ⟨by simp [h2], rfl⟩
  · go_wp2
    go_ret
    exact ⟨by simp; omega, rfl⟩
/-- What blockToChange refuses. -/
def btcC (fs : List FkR) (x : Int) : Int := if x < 0 ∨ (fs.length : Int) ≤ x then 1 else if ((fs[x.toNat]?).map FkR.bad).getD false then 2 else 0
theorem btcC_in {fs : List FkR} {k : Nat} {f : FkR} (h : fs[k]? = some f) : btcC fs (k : Int) = if f.bad then 2 else 0 := by
  have hl := (List.getElem?_eq_some_iff.1 h).1
  unfold btcC
  rw [if_neg (by omega)]
  simp [h]
set_option maxRecDepth 100000 in
set_option maxHeartbeats 4000000 in
theorem btcI (F G n : Nat) (fs : List FkR) (x : Int) (w0 w : World) (hn : n ≤ 1048576) (h : FO w0 w F G n fs) :
    Calls Tryz.prog 164 #[.pointer (some ⟨F, 0, none⟩), .int .i64 x] w fun e w' => e = .returned (.tuple #[if btcC fs x = 0 then .pointer (some ⟨G, x.toNat * 18, none⟩) else .pointer none, errV (btcC fs x)]) ∧ w' = w := by
  have x0 := h.f.cell 0
  simp at x0
  have hl : fs.length = n := h.g.len
  by_cases hx : 0 ≤ x ∧ x < (n : Int)
  · obtain ⟨k, rfl⟩ : ∃ k : Nat, x = (k : Int) := ⟨x.toNat, by omega⟩
    have hkn : k < n := by omega
    have hki : (k : Int) < (n : Int) := by omega
    have hkk : ¬ (k : Int) < 0 := by omega
    obtain ⟨f, hf⟩ : ∃ f, fs[k]? = some f := ⟨_, List.getElem?_eq_getElem (by omega)⟩
    have c17 : w.cell? ⟨G, k * 18 + 17, none⟩ = some (.bool f.bad) := by
      rw [h.cell hf (by omega)]
      show (pgE.xv f.ps ++ [Value.int .i64 f.wear, Value.bool f.bad])[17]? = _
      rw [List.getElem?_append_right (by rw [xv16]; omega), xv16]
      rfl
    rw [btcC_in hf]
    obtain ⟨bad, hb⟩ : ∃ bad, f.bad = bad := ⟨_, rfl⟩
    rw [hb] at c17 ⊢
    have hcall := hasCl (some ⟨G, 0, none⟩) n n (k : Int) w hn
    rw [show (decide (0 ≤ (k : Int)) && decide ((k : Int) < (n : Int))) = true by simp; omega] at hcall
    clear h hf hb hl hx
    cases bad with
    | true =>
      go_enter Tryz.func164, Tryz.ntmps164
      go_wp2_with fail
      refine hcall.mono ?_
      rintro e w1 ⟨rfl, hw⟩
      obtain rfl := hw.symm
      go_wp2
      refine bodyPost_ret (v := .tuple #[.pointer none, .iface 194 (.int .i64 2)]) (by simp [results, Tryz.f164, go_sem]) rfl ?_
      exact ⟨by simp [errV], rfl⟩
    | false =>
      go_enter Tryz.func164, Tryz.ntmps164
      go_wp2_with fail
      refine hcall.mono ?_
      rintro e w1 ⟨rfl, hw⟩
      obtain rfl := hw.symm
      go_wp2
      refine bodyPost_ret (v := .tuple #[.pointer (some ⟨G, k * 18, none⟩), .nilIface]) (by simp [results, Tryz.f164, go_sem]) rfl ?_
      exact ⟨by simp [errV], rfl⟩
  · have hc : btcC fs x = 1 := by unfold btcC; rw [if_pos (by omega)]
    rw [hc]
    have hcall := hasCl (some ⟨G, 0, none⟩) n n x w hn
    rw [show (decide (0 ≤ x) && decide (x < (n : Int))) = false by rw [← Bool.not_eq_true]; intro h'; simp at h'; exact hx h'] at hcall
    clear h hc hl hx
    go_enter Tryz.func164, Tryz.ntmps164
    go_wp2_with fail
    refine hcall.mono ?_
    rintro e w1 ⟨rfl, hw⟩
    obtain rfl := hw.symm
    go_wp2
    refine bodyPost_ret (v := .tuple #[.pointer none, .iface 194 (.int .i64 1)]) (by simp [results, Tryz.f164, go_sem]) rfl ?_
    exact ⟨by simp [errV], rfl⟩
/-- Pages into a block, from a place on. -/
def FkR.pgs (f : FkR) (j : Nat) : List PgR → FkR
  | [] => f
  | q :: qs => (f.pg j q).pgs (j + 1) qs
theorem set_same {α : Type} {l : List α} {k : Nat} {f : α} (h : l[k]? = some f) : l.set k f = l := by
  refine List.ext_getElem? fun i => ?_
  rw [List.getElem?_set]
  by_cases he : k = i
  · subst he
    rw [if_pos rfl, if_pos (List.getElem?_eq_some_iff.1 h).1, h]
  · rw [if_neg he]
theorem FO.put {w0 : World} {F G n k : Nat} : ∀ (qs : List PgR) (j : Nat) (wr : World) (fs : List FkR) (f : FkR), FO w0 wr F G n fs → fs[k]? = some f → j + qs.length ≤ 8 → FO w0 (wr.setCells G (k * 18 + j * 2) (pgE.xv qs)) F G n (fs.set k (f.pgs j qs))
  | [], j, wr, fs, f, h, hk, _ => by rw [show fs.set k (f.pgs j []) = fs from set_same hk]; exact h
  | q :: qs, j, wr, fs, f, h, hk, hj => by
    have h1 := h.page (p := q) hk (j := j) (by simp at hj; omega) rfl
    have h2 := FO.put qs (j + 1) _ _ _ h1 (get_set hk) (by simp at hj; omega)
    rw [List.set_set, show k * 18 + (j + 1) * 2 = k * 18 + j * 2 + 1 + 1 by omega] at h2
    exact h2
theorem btc_zero {fs : List FkR} {x : Int} (h : btcC fs x = 0) : ∃ (k : Nat) (f : FkR), x = (k : Int) ∧ fs[k]? = some f := by
  unfold btcC at h
  split at h
  · omega
  · obtain ⟨k, rfl⟩ : ∃ k : Nat, x = (k : Int) := ⟨x.toNat, by omega⟩
    exact ⟨k, _, rfl, List.getElem?_eq_getElem (by omega)⟩
end

section
open Go.RowKit
/-- What is done to a flash's row alone. -/
def FOA (w0 w : World) (F G n : Nat) (fs : List FkR) (e : Ending) (w' : World) : Prop := e = .returned (.tuple #[]) ∧ FO w0 w' F G n fs ∧ Sv [G] w w'
end
end Go.Proofs.YtnhbhpbmnlojlaaGreatDoor
