/-
  Joined: DvP, LogN.
-/
import Derived.Test.YtcocjffjhbpoeaaJ31X
import Derived.Test.YtcocjffjhbpoeaaJ33X
import Derived.Deep.MidRow
import Derived.Deep.WholeRow
namespace Go.Proofs.Ytcocjffjhbpoeaa
section
open Go.RowKit
/-- What DevOk asks. -/
noncomputable def devB (ds : List BkD) (ops : Int) (fs : List FtD) : Bool := chipOkB ds && (decide (0 ≤ ops) && decide (ops ≤ 100000)) && faultsB fs
set_option maxRecDepth 100000 in
set_option maxHeartbeats 4000000 in
theorem devOkI (a : Option Addr) (n cap : Nat) (bs : List BkR) (ops : Int) (fa : Option Addr) (m fc : Nat) (fs : List FtD) (down : Bool) (w : World) (ht : CR w a n bs) (hf : FR w fa m fs) :
    Calls Try.prog 44 #[.agg #[.slice a n cap, .int .i64 ops, .slice fa m fc, .bool down]] w fun e w' => e = .returned (.bool (devB (bs.map BkR.D) ops fs)) ∧ Below w.heap.size w w' := by
  have B0 : Below w.heap.size w (w.alloc (.cells #[.slice a n cap, .int .i64 ops, .slice fa m fc, .bool down] 37)) := (Below.refl _ w).alloc (Nat.le_refl _) _
  have z0 := Blk.new w 37 #[.slice a n cap, .int .i64 ops, .slice fa m fc, .bool down]
  have hcall := chipOkI a n cap bs (w.alloc (.cells #[.slice a n cap, .int .i64 ops, .slice fa m fc, .bool down] 37)) (ht.keep B0)
  unfold devB
  have hc2 := fun W : World => opsOkI ops W
  have hc3 := fun (W : World) (h : FR W fa m fs) => faultsOkI fa m fc fs W h
  generalize chipOkB (bs.map BkR.D) = p at hcall ⊢
  generalize (decide (0 ≤ ops) && decide (ops ≤ 100000)) = q at hc2 ⊢
  generalize faultsB fs = r at hc3 ⊢
  have HF : Hid _ := hf.keep B0
  have HB : Hid _ := B0
  clear ht hf B0
  go_enter Try.func44, Try.ntmps44
  go_wp2_with fail
  refine hcall.mono ?_
  rintro e w1 ⟨rfl, hb1⟩
  clear hcall
  have z1 := z0.keep hb1
  have B1 := HB.out.trans (hb1.mono HB.out.size)
  cases p
  · go_wp2
    go_ret
    exact ⟨rfl, B1⟩
  · have y1 := z1.cell 1
    have y2 := z1.cell 2
    simp at y1 y2
    have hc2 := hc2 w1
    have hc3 := hc3 w1 (HF.out.keep hb1)
    clear z0 z1 hb1
    go_wp2_with fail
    refine hc2.mono ?_
    rintro e w2 ⟨rfl, hw⟩
    obtain rfl := hw.symm
    clear hc2
    cases q
    · go_wp2
      go_ret
      exact ⟨rfl, B1⟩
    · go_wp2_with fail
      refine hc3.mono ?_
      rintro e w2 ⟨rfl, hb2⟩
      clear hc3 y1 y2
      go_wp2
      go_ret
      exact ⟨by simp, B1.trans (hb2.mono B1.size)⟩
end

section
open Go.RowKit
theorem rcR_ok {zs : List Int} (h : rcOk zs = true) : recOk (rcR zs) = true := by
  have h1 : rcR zs = rcD (rcAh zs) := by unfold rcR; rw [if_pos h]
  rw [h1]
  unfold rcOk at h
  simp only [Bool.and_eq_true, decide_eq_true_eq] at h
  exact h.2.2.2
theorem rcR_seq {zs : List Int} (h : rcOk zs = true) : 0 ≤ (rcR zs).seq ∧ (rcR zs).seq ≤ 1000000 := by
  have := (recOk_iff _).1 (rcR_ok h)
  omega
/-- The next number behind this page's record. -/
def mostF (n : Int) (zs : List Int) : Int := if rcOk zs = true ∧ n ≤ (rcR zs).seq then (rcR zs).seq + 1 else n
/-- One more than the greatest number of a record among these bytes; 0: there is none. -/
def mostL (l : List (List Int)) : Int := l.foldl mostF 0
theorem mostL_snoc (l : List (List Int)) (z : List Int) : mostL (l ++ [z]) = mostF (mostL l) z := by simp [mostL]
theorem mostF_le (n s : Int) (z : List Int) : mostF n z ≤ s ↔ n ≤ s ∧ (rcOk z = true → (rcR z).seq < s) := by
  unfold mostF
  by_cases h : rcOk z = true
  · by_cases h2 : n ≤ (rcR z).seq
    · rw [if_pos ⟨h, h2⟩]
      exact ⟨fun h3 => ⟨by omega, fun _ => by omega⟩, fun h3 => by have := h3.2 h; omega⟩
    · rw [if_neg (fun h3 => h2 h3.2)]
      exact ⟨fun h3 => ⟨h3, fun _ => by omega⟩, fun h3 => h3.1⟩
  · rw [if_neg (fun h3 => h h3.1)]
    exact ⟨fun h3 => ⟨h3, fun h4 => absurd h4 h⟩, fun h3 => h3.1⟩
theorem fold_le (l : List (List Int)) (n s : Int) : l.foldl mostF n ≤ s ↔ n ≤ s ∧ ∀ z ∈ l, rcOk z = true → (rcR z).seq < s := by
  induction l generalizing n with
  | nil => simp
  | cons z l ih =>
    rw [List.foldl_cons, ih, mostF_le]
    constructor
    · rintro ⟨⟨h1, h2⟩, h3⟩
      refine ⟨h1, fun y hy => ?_⟩
      rcases List.mem_cons.1 hy with rfl | hy
      · exact h2
      · exact h3 y hy
    · rintro ⟨h1, h2⟩
      exact ⟨⟨h1, h2 z (List.mem_cons_self ..)⟩, fun y hy => h2 y (List.mem_cons_of_mem _ hy)⟩
theorem mostL_le (l : List (List Int)) (s : Int) : mostL l ≤ s ↔ 0 ≤ s ∧ ∀ z ∈ l, rcOk z = true → (rcR z).seq < s := fold_le l 0 s
/-- All pages' bytes. -/
def pgsL (ds : List BkD) : List (List Int) := ds.flatMap fun b => b.ps.map PgD.zs
theorem pgsL_snoc (ds : List BkD) (b : BkD) : pgsL (ds ++ [b]) = pgsL ds ++ b.ps.map PgD.zs := by simp [pgsL]
theorem mem_pgsL {ds : List BkD} {z : List Int} : z ∈ pgsL ds ↔ ∃ b ∈ ds, ∃ p ∈ b.ps, p.zs = z := by simp [pgsL]
theorem pgA_at {ds : List BkD} (hC : ChOk ds) {i j : Nat} {b : BkD} {p : PgD} (hi : ds[i]? = some b) (hj : b.ps[j]? = some p) (hj8 : j < 8) : pgA ds ((8 * i + j : Nat) : Int) = p.zs := by
  have hd : ((8 * i + j : Nat) : Int).tdiv 8 = (i : Int) := by
    show ((8 * i + j : Nat) : Int).tdiv ((8 : Nat) : Int) = _
    rw [← Int.ofNat_tdiv]
    omega
  have hm : ((8 * i + j : Nat) : Int).tmod 8 = (j : Int) := by
    show ((8 * i + j : Nat) : Int).tmod ((8 : Nat) : Int) = _
    rw [← Int.ofNat_tmod]
    omega
  unfold pgA readD
  rw [hd, hm, if_pos (by omega)]
  simp only [Int.toNat_natCast, hi, hj]
  have hp := ((hC.2.2 b (List.mem_of_getElem? hi)).2.2.2 j p hj).1
  unfold pgOk at hp
  simp only [Bool.and_eq_true, Bool.or_eq_true, decide_eq_true_eq] at hp
  cases hu : p.used
  · rw [hu] at hp
    have : p.zs.length = 0 := by simpa using hp.2
    have : p.zs = [] := List.length_eq_zero_iff.1 this
    rw [this]; rfl
  · rfl
theorem pgsL_addr {ds : List BkD} (hC : ChOk ds) (s : Int) : (∀ z ∈ pgsL ds, rcOk z = true → (rcR z).seq < s) ↔ ∀ k, k < 8 * ds.length → rcOk (pgA ds (k : Nat)) = true → (rcR (pgA ds (k : Nat))).seq < s := by
  constructor
  · intro h k hk
    have h1 : k / 8 < ds.length := by omega
    have hb : ds[k / 8]? = some ds[k / 8] := List.getElem?_eq_getElem h1
    have hbm := hC.2.2 _ (List.mem_of_getElem? hb)
    have hl := hbm.1
    have hp : ds[k / 8].ps[k % 8]? = some (ds[k / 8].ps[k % 8]'(by omega)) := List.getElem?_eq_getElem (by omega)
    have := pgA_at hC hb hp (by omega)
    rw [show 8 * (k / 8) + k % 8 = k by omega] at this
    rw [this]
    exact h _ (mem_pgsL.2 ⟨_, List.mem_of_getElem? hb, _, List.mem_of_getElem? hp, rfl⟩)
  · intro h z hz
    obtain ⟨b, hb, p, hp, rfl⟩ := mem_pgsL.1 hz
    obtain ⟨i, hi⟩ := List.getElem?_of_mem hb
    obtain ⟨j, hj⟩ := List.getElem?_of_mem hp
    have hl := (hC.2.2 b hb).1
    have h1 := (List.getElem?_eq_some_iff.1 hi).1
    have h2 := (List.getElem?_eq_some_iff.1 hj).1
    have := h (8 * i + j) (by omega)
    rw [pgA_at hC hi hj (by omega)] at this
    exact this
/-- Whether a log is right. -/
noncomputable def lgB (ds : List BkD) (ops : Int) (fs : List FtD) (seq : Int) : Bool := devB ds ops fs && (decide (0 ≤ seq) && decide (seq ≤ 1000000)) && decide (mostL (pgsL ds) ≤ seq)
/-- Each page's bytes have room. -/
def CapB (bs : List BkR) : Prop := ∀ r ∈ bs, ∀ p ∈ r.ps, p.zs.length ≤ p.cap
theorem NewBs.caps {w : World} {B : Nat} {v : Value} {ds : List BkD} {bs : List BkR} (h : NewBs w B v ds bs) : CapB bs := by
  intro r hr p hp
  have ho := (h.own.2 r hr).2 p hp
  exact ho.2
theorem devB_ch {ds : List BkD} {ops : Int} {fs : List FtD} (h : devB ds ops fs = true) : ChOk ds := by
  unfold devB at h
  simp only [Bool.and_eq_true] at h
  exact (chipOkB_iff ds).1 h.1.1
end
end Go.Proofs.Ytcocjffjhbpoeaa
