/-
  Joined: DvI, DvE, DvP.
-/
import Derived.Test.YtpejfkgbfdkdnaaJ16B
namespace Go.Proofs.Ytpejfkgbfdkdnaa
section
open Go.RowKit
/-- One cell of its box was stored. -/
theorem sv_one (w : World) (X i : Nat) (v : Value) : Sv [X] w (w.setCell ⟨X, i, none⟩ v) := Sv.gr (gr_setC w X i v) (fun g hg => by simp at hg; simp [hg])
end

section
open Go.RowKit
def pgU : PgR := ⟨true, none, 0, []⟩
def pgsT (j : Nat) : List PgR := (List.range 8).map fun i => if i < j then pgU else pgZ
theorem pgsT_len (j : Nat) : (pgsT j).length = 8 := by simp [pgsT]
theorem pgsT_at {j i : Nat} (h : i < 8) : (pgsT j)[i]? = some (if i < j then pgU else pgZ) := by simp [pgsT, h]
theorem pgsT_succ {j : Nat} (_h : j < 8) : (pgsT j).set j pgU = pgsT (j + 1) := by
  refine List.ext_getElem? fun i => ?_
  rw [List.getElem?_set]
  by_cases hi : i < 8
  · rw [pgsT_at hi, pgsT_at hi, pgsT_len]
    by_cases e : j = i
    · subst e; simp [hi]
    · rw [if_neg e]
      by_cases h2 : i < j
      · rw [if_pos h2, if_pos (by omega)]
      · rw [if_neg h2, if_neg (by omega)]
  · have h1 : (pgsT (j + 1))[i]? = none := List.getElem?_eq_none (by rw [pgsT_len]; omega)
    have h2 : (pgsT j)[i]? = none := List.getElem?_eq_none (by rw [pgsT_len]; omega)
    rw [h1, h2, if_neg (by omega)]
end

section
open Go.RowKit
/-- What DevOk asks. -/
noncomputable def devB (ds : List BkD) (ops : Int) (fs : List FtD) : Bool := chipOkB ds && (decide (0 ≤ ops) && decide (ops ≤ 100000)) && faultsB fs
set_option maxRecDepth 100000 in
set_option maxHeartbeats 4000000 in
theorem devOkI (a : Option Addr) (n cap : Nat) (bs : List BkR) (ops : Int) (fa : Option Addr) (m fc : Nat) (fs : List FtD) (down : Bool) (w : World) (ht : CR w a n bs) (hf : FR w fa m fs) :
    Calls Try.prog 34 #[.agg #[.slice a n cap, .int .i64 ops, .slice fa m fc, .bool down]] w fun e w' => e = .returned (.bool (devB (bs.map BkR.D) ops fs)) ∧ Below w.heap.size w w' := by
  have B0 : Below w.heap.size w (w.alloc (.cells #[.slice a n cap, .int .i64 ops, .slice fa m fc, .bool down] 29)) := (Below.refl _ w).alloc (Nat.le_refl _) _
  have z0 := Blk.new w 29 #[.slice a n cap, .int .i64 ops, .slice fa m fc, .bool down]
  have hcall := chipOkI a n cap bs (w.alloc (.cells #[.slice a n cap, .int .i64 ops, .slice fa m fc, .bool down] 29)) (ht.keep B0)
  unfold devB
  have hc2 := fun W : World => opsOkI ops W
  have hc3 := fun (W : World) (h : FR W fa m fs) => faultsOkI fa m fc fs W h
  generalize chipOkB (bs.map BkR.D) = p at hcall ⊢
  generalize (decide (0 ≤ ops) && decide (ops ≤ 100000)) = q at hc2 ⊢
  generalize faultsB fs = r at hc3 ⊢
  have HF : Hid _ := hf.keep B0
  have HB : Hid _ := B0
  clear ht hf B0
  go_enter Try.func34, Try.ntmps34
  go_wp2_with fail
  refine hcall.mono ?_
  rintro e w1 ⟨rfl, hb1⟩
  clear hcall
  have z1 := z0.keep hb1
  have B1 := HB.out.trans (hb1.mono HB.out.size)
  cases p
  · go_wp2
    go_ret
    exact ⟨rfl, B1⟩
  · have y1 := z1.cell 1
    have y2 := z1.cell 2
    simp at y1 y2
    have hc2 := hc2 w1
    have hc3 := hc3 w1 (HF.out.keep hb1)
    clear z0 z1 hb1
    go_wp2_with fail
    refine hc2.mono ?_
    rintro e w2 ⟨rfl, hw⟩
    obtain rfl := hw.symm
    clear hc2
    cases q
    · go_wp2
      go_ret
      exact ⟨rfl, B1⟩
    · go_wp2_with fail
      refine hc3.mono ?_
      rintro e w2 ⟨rfl, hb2⟩
      clear hc3 y1 y2
      go_wp2
      go_ret
      exact ⟨by simp, B1.trans (hb2.mono B1.size)⟩
end
end Go.Proofs.Ytpejfkgbfdkdnaa
