/-
  Joined: HeldZ, TbH.
-/
import Derived.Test.YtmkcadnpleijdaaJ20U
import Derived.Deep.RegionHeld
namespace Go.Proofs.Ytmkcadnpleijdaa
section
section
variable {P : Program} {ops : Array Oper} {Q : Exit → Act → World → Prop} {md : Region.Mode} {L : Nat}
/-- Behind all others the number L is carried out; then Q. -/
def ThenL (P : Program) (ops : Array Oper) (Q : Exit → Act → World → Prop) (L : Nat) : Exit → Act → World → Prop
  | .normal, a, w => wpOp P ops Q L (fun a' w' => Q .normal a' w') a w
  | e, a, w => Q e a w
/-- Each operation waits, where that binds, for earlier ones alone; each but the number L is waited for by another one, and none waits for L. -/
def lastOne (md : Region.Mode) (ops : Array Oper) (L : Nat) : Bool :=
  decide (L < ops.size) && ((List.range ops.size).all fun i => ((ops[i]?).map fun o => o.after.all fun e => !Region.binds md e || decide (e.on < i)).getD false) && (List.range ops.size).all fun i => i == L || ((List.range ops.size).any (fun j => ((ops[j]?).map fun o => o.after.any fun e => Region.binds md e && e.on == i).getD false) && ((ops[i]?).map fun o => o.after.all fun e => !(e.on == L)).getD false)
theorem last_waits (h : lastOne md ops L = true) {i : Nat} (hi : i < ops.size) (hne : i ≠ L) : (∃ (j : Nat) (o : Oper), ops[j]? = some o ∧ ∃ e ∈ o.after, Region.binds md e = true ∧ e.on = i) ∧ ∀ o, ops[i]? = some o → ∀ e ∈ o.after, e.on ≠ L := by
  unfold lastOne at h
  simp only [Bool.and_eq_true, List.all_eq_true, List.mem_range, Bool.or_eq_true, beq_iff_eq] at h
  have h1 := (h.2 i hi).resolve_left hne
  obtain ⟨h2, h3⟩ := h1
  refine ⟨?_, fun o ho e he => ?_⟩
  · simp only [List.any_eq_true, List.mem_range] at h2
    obtain ⟨j, _, h2⟩ := h2
    cases hL : ops[j]? with
    | none => rw [hL] at h2; simp at h2
    | some o =>
      rw [hL] at h2
      simp only [Option.map_some, Option.getD_some, Array.any_eq_true, Bool.and_eq_true, beq_iff_eq] at h2
      obtain ⟨x, hx, he⟩ := h2
      exact ⟨j, o, hL, _, Array.getElem_mem hx, he.1, he.2⟩
  · rw [ho] at h3
    simp only [Option.map_some, Option.getD_some, Array.all_eq_true_iff_forall_mem] at h3
    have := h3 e he
    simpa using this
/-- What is asked of an operation under 'ThenL' is asked of it under Q. -/
theorem wpOp_thenL {i : Nat} {K : Act → World → Prop} {a : Act} {w : World} (hl : LetsOut (ThenL P ops Q L) → LetsOut Q) (h : wpOp P ops (ThenL P ops Q L) i K a w) : wpOp P ops Q i K a w := by
  unfold wpOp at h ⊢
  split
  · rename_i h0; rw [h0] at h; exact h
  · rename_i o h0
    rw [h0] at h
    dsimp only at h
    split
    · rename_i hw
      rw [if_pos hw] at h
      refine h.imp (fun h1 => ?_) (fun h1 => ⟨h1.1, hl h1.2⟩)
      unfold Oper.wp at h1 ⊢
      generalize (execOp a.eval o).run P w = r at h1 ⊢
      cases r with
      | ok n w' =>
        cases n with
        | enter f args =>
          refine Calls.mono h1 fun e w2 he => ?_
          cases e with
          | returned v => exact he
          | panicked c => exact he
          | outgrown => exact hl he
        | value v => exact h1
        | skip => exact h1
        | defer d => exact h1
        | row r args => exact h1
        | _ => exact h1
      | halt x w' => cases x <;> exact h1
    · rename_i hw
      rw [if_neg hw] at h
      exact h
theorem last_lt (h : lastOne md ops L = true) : L < ops.size := by
  unfold lastOne at h
  simp only [Bool.and_eq_true, decide_eq_true_eq] at h
  exact h.1.1
theorem last_order (h : lastOne md ops L = true) {i : Nat} {o : Oper} (ho : ops[i]? = some o) : ∀ e ∈ o.after, Region.binds md e = true → e.on < i := by
  unfold lastOne at h
  simp only [Bool.and_eq_true, List.all_eq_true, List.mem_range] at h
  have hi : i < ops.size := (Array.getElem?_eq_some_iff.1 ho).1
  have h1 := h.1.2 i hi
  rw [ho] at h1
  simp only [Option.map_some, Option.getD_some, Array.all_eq_true_iff_forall_mem] at h1
  intro e he hb
  have h2 := h1 e he
  rw [hb] at h2
  simpa using h2
theorem getD_both {l : Array Bool} {i : Nat} (hi : i < l.size) : l.getD i true = l.getD i false := by simp [Array.getD, hi]
/-- Where nothing may come up all have come up. -/
theorem all_listed (h : lastOne md ops L = true) {listed : Array Bool} (hs : listed.size = ops.size) (hr : Region.ready md ops listed = []) : ∀ i, i < ops.size → listed.getD i true = true := by
  intro i
  induction i using Nat.strongRecOn with
  | ind i ih =>
    intro hi
    cases hl : listed.getD i true with
    | true => rfl
    | false =>
      have ho : ops[i]? = some ops[i] := Array.getElem?_eq_getElem hi
      have : i ∈ Region.ready md ops listed := mem_ready.2 ⟨hl, _, ho, fun e he hb => by
        have h1 := last_order h ho e he hb
        rw [← getD_both (by omega)]
        exact ih e.on h1 (by omega)⟩
      rw [hr] at this
      cases this
theorem set_getD_ne {l : Array Bool} {i j : Nat} {d : Bool} (h : i ≠ j) : (l.setIfInBounds i true).getD j d = l.getD j d := getD_set_ne d h
theorem set_getD_eq {l : Array Bool} {i : Nat} {d : Bool} (h : i < l.size) : (l.setIfInBounds i true).getD i d = true := by simp [Array.getD, h]
/-- Behind all others the last one comes up. -/
theorem last_comes (h : lastOne md ops L = true) {listed : Array Bool} (hs : listed.size = ops.size) (hL : listed.getD L true = false) (hr : Region.ready md ops (listed.setIfInBounds L true) = []) : ∀ i, i ∈ Region.ready md ops listed ↔ i = L := by
  have hall := all_listed h (listed := listed.setIfInBounds L true) (by simp [hs]) hr
  have hlt := last_lt h
  intro i
  constructor
  · intro hi
    obtain ⟨h1, o, ho, _⟩ := mem_ready.1 hi
    rcases Nat.decEq i L with hne | he
    · have := hall i (Array.getElem?_eq_some_iff.1 ho).1
      rw [set_getD_ne (fun e => hne e.symm), h1] at this
      cases this
    · exact he
  · rintro rfl
    refine mem_ready.2 ⟨hL, _, Array.getElem?_eq_getElem hlt, fun e he hb => ?_⟩
    have h1 := last_order h (Array.getElem?_eq_getElem hlt) e he hb
    have h2 := hall e.on (by omega)
    rw [set_getD_ne (by omega)] at h2
    rw [← getD_both (by omega)]
    exact h2
/-- What has come up has all that it waited for come up. -/
def shutAll (md : Region.Mode) (ops : Array Oper) (listed : Array Bool) : Prop := ∀ (j : Nat) (o : Oper), ops[j]? = some o → listed.getD j true = true → ∀ e ∈ o.after, Region.binds md e = true → listed.getD e.on false = true
theorem shutAll_set {listed : Array Bool} {i : Nat} (_ : listed.size = ops.size) (h : shutAll md ops listed) (hi : i ∈ Region.ready md ops listed) : shutAll md ops (listed.setIfInBounds i true) := fun j o ho hl e he hb => by
  rcases Nat.decEq j i with hne | rfl
  · rw [set_getD_ne (fun e => hne e.symm)] at hl
    exact getD_set_true (h j o ho hl e he hb)
  · obtain ⟨_, o', ho', hall⟩ := mem_ready.1 hi
    rw [ho] at ho'
    simp only [Option.some.injEq] at ho'
    subst ho'
    exact getD_set_true (hall e he hb)
/-- As long as another one has not come up L does not. -/
theorem last_not (h : lastOne md ops L = true) {listed : Array Bool} (hs : listed.size = ops.size) (hc : shutAll md ops listed) : ∀ (d x : Nat), ops.size - x = d → x < ops.size → x ≠ L → listed.getD x true = false → L ∉ Region.ready md ops listed := by
  intro d
  induction d using Nat.strongRecOn with
  | ind d ih =>
    intro x hd hx hxL hun hL
    obtain ⟨j, o, ho, e, he, hb, heq⟩ := (last_waits h hx hxL).1
    have hj := last_order h ho e he hb
    have hjs : j < ops.size := (Array.getElem?_eq_some_iff.1 ho).1
    rcases Nat.decEq j L with hne | rfl
    · have hjun : listed.getD j true = false := by
        cases hl : listed.getD j true with
        | false => rfl
        | true =>
          have h1 := hc j o ho hl e he hb
          rw [heq, ← getD_both (by omega), hun] at h1
          cases h1
      exact ih (ops.size - j) (by omega) j rfl hjs hne hjun hL
    · obtain ⟨_, oL, hoL, lall⟩ := mem_ready.1 hL
      rw [ho] at hoL
      simp only [Option.some.injEq] at hoL
      subst hoL
      have h1 := lall e he hb
      rw [heq, ← getD_both (by omega), hun] at h1
      cases h1
theorem wpAny_thenL (h : lastOne md ops L = true) : ∀ (fuel : Nat) (listed : Array Bool) (a : Act) (w : World), listed.size = ops.size → listed.getD L true = false → shutAll md ops listed →
    wpAny P md ops (ThenL P ops Q L) fuel (listed.setIfInBounds L true) a w → wpAny P md ops Q (fuel + 1) listed a w := by
  have hend : ∀ (fuel : Nat) (listed : Array Bool) (a : Act) (w : World), listed.size = ops.size → listed.getD L true = false → Region.ready md ops (listed.setIfInBounds L true) = [] → ThenL P ops Q L .normal a w → wpAny P md ops Q (fuel + 1) listed a w := by
    intro fuel listed a w hs hL hr hT
    have hc := last_comes h hs hL hr
    refine ⟨fun h0 => ?_, fun i hi => ?_⟩
    · have := (hc L).2 rfl
      rw [h0] at this
      cases this
    · obtain rfl := (hc i).1 hi
      exact wpOp_mono (fun a' w' hq => wpAny_done hr hq fuel) hT
  intro fuel
  induction fuel with
  | zero => intro listed a w hs hL _ H; exact hend 0 listed a w hs hL H.1 H.2
  | succ fuel ih =>
    intro listed a w hs hL hsh H
    rcases Classical.em (Region.ready md ops (listed.setIfInBounds L true) = []) with hr | hr
    · exact hend (fuel + 1) listed a w hs hL hr (H.1 hr)
    · obtain ⟨x, hx⟩ := List.exists_mem_of_ne_nil _ hr
      obtain ⟨x1, ox, hox, xall⟩ := mem_ready.1 hx
      have hxs : x < ops.size := (Array.getElem?_eq_some_iff.1 hox).1
      have hxL : x ≠ L := fun e => by
        subst e
        rw [set_getD_eq (by omega)] at x1
        cases x1
      have hun : listed.getD x true = false := by rw [set_getD_ne (fun e => hxL e.symm)] at x1; exact x1
      have hw := last_waits h hxs hxL
      have hxr : x ∈ Region.ready md ops listed := mem_ready.2 ⟨hun, ox, hox, fun e he hb => by
        have := xall e he hb
        rw [set_getD_ne (fun e2 => hw.2 ox hox e he e2.symm)] at this
        exact this⟩
      refine ⟨fun h0 => (by rw [h0] at hxr; cases hxr), fun i hi => ?_⟩
      have hiL : i ≠ L := fun e => by
        subst e
        exact last_not h hs hsh _ x rfl hxs hxL hun hi
      have h2 := wpOp_thenL (L := L) (fun hl => hl) (H.2 i (ready_mono hi hiL))
      refine wpOp_mono (fun a' w' hk => ih (listed.setIfInBounds i true) a' w' (by simp [hs]) (by rw [set_getD_ne hiL]; exact hL) (shutAll_set hs hsh hi) ?_) h2
      rw [Array.setIfInBounds_comm _ _ hiL]
      exact hk
/-- The last one. -/
theorem wpOp_last {o : Oper} {a : Act} {w : World} (ho : ops[L]? = some o) (h : ∀ K : Act → World → Prop, Shut (∀ a w, Q .normal a w → K a w) → if Region.wanted o (yielded ops a.tmps) = true then Oper.wp P o a w K Q else K (a.put o.dst undef) w) : ThenL P ops Q L .normal a w :=
  wpOp_step ho (fun K hK => h K hK)
end
end

section
open Go.RowKit
def tgA (zs : List Int) (st : Option Nat) := rdN zs st
def tgB (zs : List Int) (st : Option Nat) := rdT zs (tgA zs st).2
def tgC (zs : List Int) (st : Option Nat) := rdN zs (tgB zs st).2
def tgS (zs : List Int) (st : Option Nat) : Option Nat := if (tgC zs st).1 ≤ 1 then (tgC zs st).2 else none
def tgD (zs : List Int) (st : Option Nat) := rdN zs (tgS zs st)
def tgE (zs : List Int) (st : Option Nat) := rdN zs (tgD zs st).2
/-- The row that is read at a place. -/
def tgRow (zs : List Int) (st : Option Nat) : RwD := ⟨((tgA zs st).1 : Int), (tgB zs st).1, decide ((tgC zs st).1 = 1), ((tgD zs st).1 : Int), ((tgE zs st).1 : Int)⟩
/-- k rows read on. -/
def tgRs (zs : List Int) (st : Option Nat) : Nat → List RwD × Option Nat
  | 0 => ([], st)
  | k + 1 => ((tgRs zs st k).1 ++ [tgRow zs (tgRs zs st k).2], (tgE zs (tgRs zs st k).2).2)
theorem tgRs_len (zs : List Int) (st : Option Nat) (k : Nat) : (tgRs zs st k).1.length = k := by
  induction k with
  | zero => rfl
  | succ k ih => simp [tgRs, ih]
theorem tgE_none (zs : List Int) : (tgE zs none).2 = none := by simp [tgE, tgD, tgS, tgC, tgB, tgA, rdN, rdT]
theorem tgE_bad {zs : List Int} {st : Option Nat} (h : ¬ (tgC zs st).1 ≤ 1) : (tgE zs st).2 = none := by
  unfold tgE tgD tgS
  rw [if_neg h]
  rfl
theorem tgRs_none {zs : List Int} {st : Option Nat} {k m : Nat} (h : (tgRs zs st k).2 = none) (hm : k ≤ m) : (tgRs zs st m).2 = none := by
  obtain ⟨d, rfl⟩ := Nat.exists_eq_add_of_le hm
  induction d with
  | zero => exact h
  | succ d ih =>
    have := ih (by omega)
    show (tgE zs (tgRs zs st (k + d)).2).2 = none
    rw [this]
    exact tgE_none zs
theorem tgRs_nm (zs : List Int) (st : Option Nat) (k : Nat) : ∀ r ∈ (tgRs zs st k).1, r.name.size ≤ zs.length := by
  induction k with
  | zero => intro r hr; simp [tgRs] at hr
  | succ k ih =>
    intro r hr
    simp only [tgRs, List.mem_append, List.mem_singleton] at hr
    rcases hr with hr | rfl
    · exact ih r hr
    · exact rdT_size zs _
def tgM (zs : List Int) := rdN zs (some 0)
def tgN (zs : List Int) := rdN zs (tgM zs).2
def tgP (zs : List Int) := tgRs zs (tgN zs).2 (min (tgN zs).1 7)
/-- They are there whole, nothing follows, and are right. -/
def tgOk (zs : List Int) : Bool := decide ((tgP zs).2 = some zs.length) && tbB ((tgM zs).1 : Int) (tgP zs).1
theorem tgP_len (zs : List Int) : (tgP zs).1.length ≤ 7 := by unfold tgP; rw [tgRs_len]; omega
theorem tgOk_count {zs : List Int} (h : tbB ((tgM zs).1 : Int) (tgP zs).1 = true) : (tgN zs).1 = (tgP zs).1.length := by
  have h1 := (tbB_self h).1
  have h2 : (tgP zs).1.length = min (tgN zs).1 7 := by unfold tgP; rw [tgRs_len]
  omega
theorem KpT.tb {W W1 W' : World} {ts : List TypeId} (h : KpT W W1 ts) (k : KpT W1 W' ts) : KpT W W' ts := fun B cur t fr hB ht => by
  have e := h B cur t fr hB ht
  rw [k B cur t fr (e.trans hB) ht, e]
theorem KpT.refl (W : World) (ts : List TypeId) : KpT W W ts := fun _ _ _ _ _ _ => rfl
theorem KpT.setN {W W1 : World} {ts : List TypeId} {X : Nat} (h : KpT W W1 ts) (hX : W.heap.size ≤ X) (j : Nat) (v : Value) : KpT W (W1.setCell ⟨X, j, none⟩ v) ts := fun B cur t fr hB ht => by
  have hl := (Array.getElem?_eq_some_iff.1 hB).1
  rw [heap_setCell_other W1 ⟨X, j, none⟩ B v (show B ≠ X by omega)]
  exact h B cur t fr hB ht
theorem KpT.sub {W W1 : World} {ts us : List TypeId} (h : KpT W W1 ts) (hs : ∀ t ∈ us, t ∈ ts) : KpT W W1 us := fun B cur t fr hB ht => h B cur t fr hB (hs t ht)
theorem RI.kpw {W W' : World} {H : Nat} {a : Option Addr} {n cap : Nat} {st : Option Nat} (h : RI W H a n cap st) (g : But W W' (some (H + 1)) (some (H + 2)) none) : KpT W W' [26, 35, 54, 55] := by
  obtain ⟨p, _, b1, b2, _⟩ := h
  exact KpT.but g b1 b2 (by decide) (by decide)
/-- What is known while a row is read: the reader's variables, the boxes of its two functions. -/
structure RY (w0 Wb W : World) (H K : Nat) (a : Option Addr) (n cap : Nat) (st : Option Nat) : Prop where
  rd : RI W H a n cap st
  k0 : Blk W K 54 #[(.func (.func 55) #[] #[.pointer (some ⟨H + 2, 0, none⟩), .pointer (some ⟨H, 0, none⟩), .pointer (some ⟨H + 1, 0, none⟩)])]
  k1 : Blk W (K + 1) 55 #[(.func (.func 57) #[] #[.pointer (some ⟨H + 2, 0, none⟩), .pointer (some ⟨H, 0, none⟩), .pointer (some ⟨H + 1, 0, none⟩)])]
  below : Below w0.heap.size w0 W
  hH : w0.heap.size ≤ H
  kp : KpT Wb W [26, 35]
  sz : Wb.heap.size ≤ W.heap.size
theorem RY.but {w0 Wb W W' : World} {H K : Nat} {a : Option Addr} {n cap : Nat} {st st' : Option Nat} (h : RY w0 Wb W H K a n cap st) (r : RI W' H a n cap st') (g : But W W' (some (H + 1)) (some (H + 2)) none) : RY w0 Wb W' H K a n cap st' := by
  have k := h.rd.kpw g
  have := h.hH
  exact ⟨r, h.k0.kp k (by decide), h.k1.kp k (by decide), below_but h.below g (Nat.le_refl _) (by omega) (by omega), h.hH, h.kp.tb (k.sub (by decide)), Nat.le_trans h.sz g.size⟩
theorem RY.keep {w0 Wb W W' : World} {H K : Nat} {a : Option Addr} {n cap : Nat} {st : Option Nat} (h : RY w0 Wb W H K a n cap st) (hb : Below W.heap.size W W') : RY w0 Wb W' H K a n cap st :=
  ⟨h.rd.keep hb, h.k0.keep hb, h.k1.keep hb, h.below.trans (hb.mono h.below.size), h.hH, h.kp.tb (KpT.below hb _), Nat.le_trans h.sz hb.size⟩
theorem RY.set {w0 Wb W : World} {H K X : Nat} {a : Option Addr} {n cap : Nat} {st : Option Nat} {xs : Array Value} (h : RY w0 Wb W H K a n cap st) (hx : Blk W X 35 xs) (hX : Wb.heap.size ≤ X) (h0 : w0.heap.size ≤ Wb.heap.size) (j : Nat) (v : Value) : RY w0 Wb (W.setCell ⟨X, j, none⟩ v) H K a n cap st := by
  have k : KpT W (W.setCell ⟨X, j, none⟩ v) [22, 3, 4, 54, 55] := KpT.grown (gr_setC W X j v) hx (by decide)
  exact ⟨h.rd.kp k (by decide) (by decide) (by decide), h.k0.kp k (by decide), h.k1.kp k (by decide), h.below.setCell (p := ⟨X, j, none⟩) (Nat.le_trans h0 hX) v, h.hH, h.kp.setN hX j v, by rw [size_setC]; exact h.sz⟩
theorem RY.nums {w0 Wb W : World} {H K : Nat} {a : Option Addr} {n cap : Nat} {st : Option Nat} (h : RY w0 Wb W H K a n cap st) : W.cell? ⟨K, 0, none⟩ = some (.func (.func 55) #[] #[.pointer (some ⟨H + 2, 0, none⟩), .pointer (some ⟨H, 0, none⟩), .pointer (some ⟨H + 1, 0, none⟩)]) ∧ W.cell? ⟨K + 1, 0, none⟩ = some (.func (.func 57) #[] #[.pointer (some ⟨H + 2, 0, none⟩), .pointer (some ⟨H, 0, none⟩), .pointer (some ⟨H + 1, 0, none⟩)]) := ⟨h.k0.cell 0, h.k1.cell 0⟩
theorem Blk.fiv {W : World} {X : Nat} {t : TypeId} {v0 v1 v2 v3 v4 : Value} (h : Blk W X t #[v0, v1, v2, v3, v4]) : W.cell? ⟨X, 0, none⟩ = some v0 ∧ W.cell? ⟨X, 1, none⟩ = some v1 ∧ W.cell? ⟨X, 2, none⟩ = some v2 ∧ W.cell? ⟨X, 3, none⟩ = some v3 ∧ W.cell? ⟨X, 4, none⟩ = some v4 := ⟨h.cell 0, h.cell 1, h.cell 2, h.cell 3, h.cell 4⟩
/-- What the program's reader of rows tells of a row: as tgRow, where what it says of Ro is 1 or 0. -/
def tiD (zs : List Int) (st : Option Nat) := rdN zs (tgC zs st).2
def tiE (zs : List Int) (st : Option Nat) := rdN zs (tiD zs st).2
def tiRow (zs : List Int) (st : Option Nat) : RwD := ⟨((tgA zs st).1 : Int), (tgB zs st).1, decide ((tgC zs st).1 = 1), ((tiD zs st).1 : Int), ((tiE zs st).1 : Int)⟩
theorem ti_tg {zs : List Int} {st : Option Nat} (h : (tgC zs st).1 ≤ 1) : tiRow zs st = tgRow zs st ∧ (tiE zs st).2 = (tgE zs st).2 := by
  have : tgS zs st = (tgC zs st).2 := if_pos h
  unfold tiRow tgRow tiE tgE tiD tgD
  rw [this]
  exact ⟨rfl, rfl⟩
set_option maxRecDepth 100000 in
set_option maxHeartbeats 8000000 in
theorem readRowI (w0 : World) (H K : Nat) (a : Option Addr) (n cap : Nat) (zs : List Int) (st : Option Nat) (w : World) (hn : zs.length = n) (hs : n ≤ 1048576) (hcap : n ≤ cap) (hr : Rd w0 a zs) (hb : Byt zs) (h0 : w0.heap.size ≤ w.heap.size) (hY : RY w0 w w H K a n cap st) :
    Calls Try.prog 60 #[.pointer (some ⟨K, 0, none⟩), .pointer (some ⟨K + 1, 0, none⟩)] w fun e w' => e = .returned (.tuple #[.agg #[.int .i64 (tiRow zs st).id, .string (tiRow zs st).name, .bool (tiRow zs st).ro, .int .i64 (tiRow zs st).lim, .int .i64 (tiRow zs st).mp], .bool (decide ((tgC zs st).1 ≤ 1))]) ∧ RY w0 w w' H K a n cap (tiE zs st).2 := by
  have CN : Hid _ := fun (W : World) (st : Option Nat) (h : RY w0 w W H K a n cap st) => num_any H a n cap zs st W hn (by omega) hcap (hr.keep h.below) hb h.rd
  have CT : Hid _ := fun (W : World) (st : Option Nat) (h : RY w0 w W H K a n cap st) => text_any H a n cap zs st W hn (by omega) hcap (hr.keep h.below) hb h.rd
  have HH0 : Hid (w0.heap.size ≤ w.heap.size) := h0
  obtain ⟨G, hG⟩ : ∃ G, w.heap.size = G := ⟨_, rfl⟩
  have bW : Below w.heap.size w ((w.alloc (.cells #[.int .i64 0, .string ⟨#[]⟩, .bool false, .int .i64 0, .int .i64 0] 35)).alloc (.cells #[.int .i64 0, .string ⟨#[]⟩, .bool false, .int .i64 0, .int .i64 0] 35)) := ((Below.refl _ w).alloc (Nat.le_refl _) _).alloc (by simp) _
  have R0 := hY.keep bW
  have y2 := (Blk.new w 35 #[.int .i64 0, .string ⟨#[]⟩, .bool false, .int .i64 0, .int .i64 0]).alloc (.cells #[.int .i64 0, .string ⟨#[]⟩, .bool false, .int .i64 0, .int .i64 0] 35)
  have y4 := Blk.new (w.alloc (.cells #[.int .i64 0, .string ⟨#[]⟩, .bool false, .int .i64 0, .int .i64 0] 35)) 35 #[.int .i64 0, .string ⟨#[]⟩, .bool false, .int .i64 0, .int .i64 0]
  simp only [World.size_alloc] at y4
  rw [hG] at y2 y4
  have HG0 : Hid (w.heap.size = G) := hG
  clear hn hr hb h0 hY bW
  obtain ⟨xA, hxA⟩ : ∃ x, (tgA zs st).1 = x := ⟨_, rfl⟩
  obtain ⟨sA, hsA⟩ : ∃ x, (tgA zs st).2 = x := ⟨_, rfl⟩
  obtain ⟨xB, hxB⟩ : ∃ x, (tgB zs st).1 = x := ⟨_, rfl⟩
  obtain ⟨sB, hsB⟩ : ∃ x, (tgB zs st).2 = x := ⟨_, rfl⟩
  obtain ⟨xC, hxC⟩ : ∃ x, (tgC zs st).1 = x := ⟨_, rfl⟩
  obtain ⟨sC, hsC⟩ : ∃ x, (tgC zs st).2 = x := ⟨_, rfl⟩
  obtain ⟨xD, hxD⟩ : ∃ x, (tiD zs st).1 = x := ⟨_, rfl⟩
  obtain ⟨sD, hsD⟩ : ∃ x, (tiD zs st).2 = x := ⟨_, rfl⟩
  obtain ⟨xE, hxE⟩ : ∃ x, (tiE zs st).1 = x := ⟨_, rfl⟩
  obtain ⟨sE, hsE⟩ : ∃ x, (tiE zs st).2 = x := ⟨_, rfl⟩
  have EA : Hid (rdN zs st = (xA, sA)) := by show _ = _; rw [← hxA, ← hsA]; rfl
  have EB : Hid (rdT zs sA = (xB, sB)) := by show _ = _; rw [← hxB, ← hsB, ← hsA]; rfl
  have EC : Hid (rdN zs sB = (xC, sC)) := by show _ = _; rw [← hxC, ← hsC, ← hsB]; rfl
  have ED : Hid (rdN zs sC = (xD, sD)) := by show _ = _; rw [← hxD, ← hsD, ← hsC]; rfl
  have EE : Hid (rdN zs sD = (xE, sE)) := by show _ = _; rw [← hxE, ← hsE, ← hsD]; rfl
  unfold tiRow
  rw [hxA, hxB, hxC, hxD, hxE, hsE]
  clear hxA hsA hxB hsB hxC hsC hxD hsD hxE hsE
  have hC1 := rdN_le zs sB
  rw [EC.out] at hC1
  dsimp only at hC1
  dsimp only
  obtain ⟨bC, hbC⟩ : ∃ b, decide (xC = 1) = b := ⟨_, rfl⟩
  have heC : ((xC : Int) == 1) = bC := by rw [← hbC, Bool.eq_iff_iff]; simp; omega
  have heF : ((xC : Int) == roN bC) = decide (xC ≤ 1) := by
    rw [← hbC]
    by_cases h1 : xC = 1
    · subst h1; rfl
    · rw [decide_eq_false h1]
      by_cases h2 : xC ≤ 1
      · obtain rfl : xC = 0 := by omega
        rfl
      · rw [decide_eq_false h2]
        have h3 : ((xC : Int) == 0) = false := by simp; omega
        exact h3
  rw [hbC]
  have HF : Hid (((xC : Int) == roN bC) = decide (xC ≤ 1)) := heF
  clear heF hbC
  go_enter Try.func60, Try.ntmps60
  go_upto_region 2 with fail
  obtain ⟨W0, hW0⟩ : ∃ W, (w.alloc (.cells #[.int .i64 0, .string ⟨#[]⟩, .bool false, .int .i64 0, .int .i64 0] 35)).alloc (.cells #[.int .i64 0, .string ⟨#[]⟩, .bool false, .int .i64 0, .int .i64 0] 35) = W := ⟨_, rfl⟩
  rw [hW0] at R0 y2 y4 ⊢
  clear hW0 hG
  have y2 : Blk W0 G 35 #[.int .i64 0, .string ⟨#[]⟩, .bool false, .int .i64 0, .int .i64 0] := y2
  have y4 : Blk W0 (G + 1) 35 #[.int .i64 0, .string ⟨#[]⟩, .bool false, .int .i64 0, .int .i64 0] := y4
  have hG0 := HG0.out
  have R := R0
  clear R0
  obtain ⟨n0, n1⟩ := R.nums
  have HR : Hid (RY w0 w W0 H K a n cap st ∧ Blk W0 G 35 #[.int .i64 0, .string ⟨#[]⟩, .bool false, .int .i64 0, .int .i64 0] ∧ Blk W0 (G + 1) 35 #[.int .i64 0, .string ⟨#[]⟩, .bool false, .int .i64 0, .int .i64 0]) := ⟨R, y2, y4⟩
  clear R y2 y4
  go_wp2_with fail
  obtain ⟨R, y2, y4⟩ := HR.out
  refine ((CN.out W0 st R)).mono ?_
  rw [EA.out]
  dsimp only
  rintro e V0 ⟨rfl, r, g⟩
  have kp := R.rd.kpw g
  have S := R.but r g
  have u2 : Blk V0 G 35 #[.int .i64 0, .string ⟨#[]⟩, .bool false, .int .i64 0, .int .i64 0] := y2.kp kp (by decide)
  have u4 : Blk V0 (G + 1) 35 #[.int .i64 0, .string ⟨#[]⟩, .bool false, .int .i64 0, .int .i64 0] := y4.kp kp (by decide)
  clear n0 n1 R y2 y4 r g kp HR
  have f := u4.frozen 0
  obtain ⟨c0, c1, c2, c3, c4⟩ := u4.fiv
  have R := S.set u4 (by omega) HH0.out 0 (.int .i64 (xA : Int))
  have y2 : Blk (V0.setCell ⟨G + 1, 0, none⟩ (.int .i64 (xA : Int))) G 35 #[.int .i64 0, .string ⟨#[]⟩, .bool false, .int .i64 0, .int .i64 0] := u2.other (B' := G + 1) (by omega) 0 (.int .i64 (xA : Int))
  have y4 : Blk (V0.setCell ⟨G + 1, 0, none⟩ (.int .i64 (xA : Int))) (G + 1) 35 #[.int .i64 (xA : Int), .string ⟨#[]⟩, .bool false, .int .i64 0, .int .i64 0] := u4.set 0 (.int .i64 (xA : Int))
  obtain ⟨n0, n1⟩ := R.nums
  have HR : Hid (RY w0 w (V0.setCell ⟨G + 1, 0, none⟩ (.int .i64 (xA : Int))) H K a n cap sA ∧ Blk (V0.setCell ⟨G + 1, 0, none⟩ (.int .i64 (xA : Int))) G 35 #[.int .i64 0, .string ⟨#[]⟩, .bool false, .int .i64 0, .int .i64 0] ∧ Blk (V0.setCell ⟨G + 1, 0, none⟩ (.int .i64 (xA : Int))) (G + 1) 35 #[.int .i64 (xA : Int), .string ⟨#[]⟩, .bool false, .int .i64 0, .int .i64 0]) := ⟨R, y2, y4⟩
  clear R y2 y4 S u2 u4
  go_wp2_with fail
  obtain ⟨W1, hW⟩ : ∃ W, V0.setCell ⟨G + 1, 0, none⟩ (.int .i64 (xA : Int)) = W := ⟨_, rfl⟩
  rw [hW] at HR n0 n1 ⊢
  clear hW f c0 c1 c2 c3 c4
  obtain ⟨R, y2, y4⟩ := HR.out
  refine ((CT.out W1 sA R)).mono ?_
  rw [EB.out]
  dsimp only
  rintro e V1 ⟨rfl, r, g⟩
  have kp := R.rd.kpw g
  have S := R.but r g
  have u2 : Blk V1 G 35 #[.int .i64 0, .string ⟨#[]⟩, .bool false, .int .i64 0, .int .i64 0] := y2.kp kp (by decide)
  have u4 : Blk V1 (G + 1) 35 #[.int .i64 (xA : Int), .string ⟨#[]⟩, .bool false, .int .i64 0, .int .i64 0] := y4.kp kp (by decide)
  clear n0 n1 R y2 y4 r g kp HR
  have f := u4.frozen 1
  obtain ⟨c0, c1, c2, c3, c4⟩ := u4.fiv
  have R := S.set u4 (by omega) HH0.out 1 (.string xB)
  have y2 : Blk (V1.setCell ⟨G + 1, 1, none⟩ (.string xB)) G 35 #[.int .i64 0, .string ⟨#[]⟩, .bool false, .int .i64 0, .int .i64 0] := u2.other (B' := G + 1) (by omega) 1 (.string xB)
  have y4 : Blk (V1.setCell ⟨G + 1, 1, none⟩ (.string xB)) (G + 1) 35 #[.int .i64 (xA : Int), .string xB, .bool false, .int .i64 0, .int .i64 0] := u4.set 1 (.string xB)
  obtain ⟨n0, n1⟩ := R.nums
  have HR : Hid (RY w0 w (V1.setCell ⟨G + 1, 1, none⟩ (.string xB)) H K a n cap sB ∧ Blk (V1.setCell ⟨G + 1, 1, none⟩ (.string xB)) G 35 #[.int .i64 0, .string ⟨#[]⟩, .bool false, .int .i64 0, .int .i64 0] ∧ Blk (V1.setCell ⟨G + 1, 1, none⟩ (.string xB)) (G + 1) 35 #[.int .i64 (xA : Int), .string xB, .bool false, .int .i64 0, .int .i64 0]) := ⟨R, y2, y4⟩
  clear R y2 y4 S u2 u4
  go_wp2_with fail
  obtain ⟨W2, hW⟩ : ∃ W, V1.setCell ⟨G + 1, 1, none⟩ (.string xB) = W := ⟨_, rfl⟩
  rw [hW] at HR n0 n1 ⊢
  clear hW f c0 c1 c2 c3 c4
  obtain ⟨R, y2, y4⟩ := HR.out
  refine ((CN.out W2 sB R)).mono ?_
  rw [EC.out]
  dsimp only
  rintro e V2 ⟨rfl, r, g⟩
  have kp := R.rd.kpw g
  have S := R.but r g
  have u2 : Blk V2 G 35 #[.int .i64 0, .string ⟨#[]⟩, .bool false, .int .i64 0, .int .i64 0] := y2.kp kp (by decide)
  have u4 : Blk V2 (G + 1) 35 #[.int .i64 (xA : Int), .string xB, .bool false, .int .i64 0, .int .i64 0] := y4.kp kp (by decide)
  clear n0 n1 R y2 y4 r g kp HR
  have f := u4.frozen 2
  obtain ⟨c0, c1, c2, c3, c4⟩ := u4.fiv
  have R := S.set u4 (by omega) HH0.out 2 (.bool bC)
  have y2 : Blk (V2.setCell ⟨G + 1, 2, none⟩ (.bool bC)) G 35 #[.int .i64 0, .string ⟨#[]⟩, .bool false, .int .i64 0, .int .i64 0] := u2.other (B' := G + 1) (by omega) 2 (.bool bC)
  have y4 : Blk (V2.setCell ⟨G + 1, 2, none⟩ (.bool bC)) (G + 1) 35 #[.int .i64 (xA : Int), .string xB, .bool bC, .int .i64 0, .int .i64 0] := u4.set 2 (.bool bC)
  obtain ⟨n0, n1⟩ := R.nums
  have HR : Hid (RY w0 w (V2.setCell ⟨G + 1, 2, none⟩ (.bool bC)) H K a n cap sC ∧ Blk (V2.setCell ⟨G + 1, 2, none⟩ (.bool bC)) G 35 #[.int .i64 0, .string ⟨#[]⟩, .bool false, .int .i64 0, .int .i64 0] ∧ Blk (V2.setCell ⟨G + 1, 2, none⟩ (.bool bC)) (G + 1) 35 #[.int .i64 (xA : Int), .string xB, .bool bC, .int .i64 0, .int .i64 0]) := ⟨R, y2, y4⟩
  clear R y2 y4 S u2 u4
  go_wp2_with fail
  obtain ⟨W3, hW⟩ : ∃ W, V2.setCell ⟨G + 1, 2, none⟩ (.bool bC) = W := ⟨_, rfl⟩
  rw [hW] at HR n0 n1 ⊢
  clear hW f c0 c1 c2 c3 c4
  obtain ⟨R, y2, y4⟩ := HR.out
  refine ((CN.out W3 sC R)).mono ?_
  rw [ED.out]
  dsimp only
  rintro e V3 ⟨rfl, r, g⟩
  have kp := R.rd.kpw g
  have S := R.but r g
  have u2 : Blk V3 G 35 #[.int .i64 0, .string ⟨#[]⟩, .bool false, .int .i64 0, .int .i64 0] := y2.kp kp (by decide)
  have u4 : Blk V3 (G + 1) 35 #[.int .i64 (xA : Int), .string xB, .bool bC, .int .i64 0, .int .i64 0] := y4.kp kp (by decide)
  clear n0 n1 R y2 y4 r g kp HR
  have f := u4.frozen 3
  obtain ⟨c0, c1, c2, c3, c4⟩ := u4.fiv
  have R := S.set u4 (by omega) HH0.out 3 (.int .i64 (xD : Int))
  have y2 : Blk (V3.setCell ⟨G + 1, 3, none⟩ (.int .i64 (xD : Int))) G 35 #[.int .i64 0, .string ⟨#[]⟩, .bool false, .int .i64 0, .int .i64 0] := u2.other (B' := G + 1) (by omega) 3 (.int .i64 (xD : Int))
  have y4 : Blk (V3.setCell ⟨G + 1, 3, none⟩ (.int .i64 (xD : Int))) (G + 1) 35 #[.int .i64 (xA : Int), .string xB, .bool bC, .int .i64 (xD : Int), .int .i64 0] := u4.set 3 (.int .i64 (xD : Int))
  obtain ⟨n0, n1⟩ := R.nums
  have HR : Hid (RY w0 w (V3.setCell ⟨G + 1, 3, none⟩ (.int .i64 (xD : Int))) H K a n cap sD ∧ Blk (V3.setCell ⟨G + 1, 3, none⟩ (.int .i64 (xD : Int))) G 35 #[.int .i64 0, .string ⟨#[]⟩, .bool false, .int .i64 0, .int .i64 0] ∧ Blk (V3.setCell ⟨G + 1, 3, none⟩ (.int .i64 (xD : Int))) (G + 1) 35 #[.int .i64 (xA : Int), .string xB, .bool bC, .int .i64 (xD : Int), .int .i64 0]) := ⟨R, y2, y4⟩
  clear R y2 y4 S u2 u4
  go_wp2_with fail
  obtain ⟨W4, hW⟩ : ∃ W, V3.setCell ⟨G + 1, 3, none⟩ (.int .i64 (xD : Int)) = W := ⟨_, rfl⟩
  rw [hW] at HR n0 n1 ⊢
  clear hW f c0 c1 c2 c3 c4
  obtain ⟨R, y2, y4⟩ := HR.out
  refine ((CN.out W4 sD R)).mono ?_
  rw [EE.out]
  dsimp only
  rintro e V4 ⟨rfl, r, g⟩
  have kp := R.rd.kpw g
  have S := R.but r g
  have u2 : Blk V4 G 35 #[.int .i64 0, .string ⟨#[]⟩, .bool false, .int .i64 0, .int .i64 0] := y2.kp kp (by decide)
  have u4 : Blk V4 (G + 1) 35 #[.int .i64 (xA : Int), .string xB, .bool bC, .int .i64 (xD : Int), .int .i64 0] := y4.kp kp (by decide)
  clear n0 n1 R y2 y4 r g kp HR
  have f := u4.frozen 4
  obtain ⟨c0, c1, c2, c3, c4⟩ := u4.fiv
  have R := S.set u4 (by omega) HH0.out 4 (.int .i64 (xE : Int))
  have y2 : Blk (V4.setCell ⟨G + 1, 4, none⟩ (.int .i64 (xE : Int))) G 35 #[.int .i64 0, .string ⟨#[]⟩, .bool false, .int .i64 0, .int .i64 0] := u2.other (B' := G + 1) (by omega) 4 (.int .i64 (xE : Int))
  have y4 : Blk (V4.setCell ⟨G + 1, 4, none⟩ (.int .i64 (xE : Int))) (G + 1) 35 #[.int .i64 (xA : Int), .string xB, .bool bC, .int .i64 (xD : Int), .int .i64 (xE : Int)] := u4.set 4 (.int .i64 (xE : Int))
  obtain ⟨n0, n1⟩ := R.nums
  have HR : Hid (RY w0 w (V4.setCell ⟨G + 1, 4, none⟩ (.int .i64 (xE : Int))) H K a n cap sE ∧ Blk (V4.setCell ⟨G + 1, 4, none⟩ (.int .i64 (xE : Int))) G 35 #[.int .i64 0, .string ⟨#[]⟩, .bool false, .int .i64 0, .int .i64 0] ∧ Blk (V4.setCell ⟨G + 1, 4, none⟩ (.int .i64 (xE : Int))) (G + 1) 35 #[.int .i64 (xA : Int), .string xB, .bool bC, .int .i64 (xD : Int), .int .i64 (xE : Int)]) := ⟨R, y2, y4⟩
  clear R y2 y4 S u2 u4
  go_upto_region 8 with fail
  obtain ⟨W5, hW⟩ : ∃ W, V4.setCell ⟨G + 1, 4, none⟩ (.int .i64 (xE : Int)) = W := ⟨_, rfl⟩
  rw [hW] at HR n0 n1 ⊢
  clear hW f c0 c1 c2 c3 c4
  obtain ⟨R, y2, y4⟩ := HR.out
  have y4d := y4.drew
  have y2d := y2.drew
  obtain ⟨c0, c1, c2, c3, c4⟩ := y4d.fiv
  obtain ⟨d0, d1, d2, d3, d4⟩ := y2d.fiv
  have f0 := y2d.frozen 0
  have f1 := y2d.frozen 1
  have f2 := y2d.frozen 2
  have f3 := y2d.frozen 3
  have f4 := y2d.frozen 4
  have cG := fun W : World => flagI bC W
  have heF := HF.out
  have ce1 : (W5.setCell ⟨G, 0, none⟩ (.int .i64 (xA : Int))).drew.cell? ⟨G, 1, none⟩ = some (.string ⟨#[]⟩) := (y2.set 0 (.int .i64 (xA : Int))).cell 1
  have fe1 : (W5.setCell ⟨G, 0, none⟩ (.int .i64 (xA : Int))).drew.frozen? ⟨G, 1, none⟩ = false := (y2.set 0 (.int .i64 (xA : Int))).frozen 1
  have ce2 : ((W5.setCell ⟨G, 0, none⟩ (.int .i64 (xA : Int))).setCell ⟨G, 1, none⟩ (.string xB)).drew.cell? ⟨G, 2, none⟩ = some (.bool false) := ((y2.set 0 (.int .i64 (xA : Int))).set 1 (.string xB)).cell 2
  have fe2 : ((W5.setCell ⟨G, 0, none⟩ (.int .i64 (xA : Int))).setCell ⟨G, 1, none⟩ (.string xB)).drew.frozen? ⟨G, 2, none⟩ = false := ((y2.set 0 (.int .i64 (xA : Int))).set 1 (.string xB)).frozen 2
  have ce3 : (((W5.setCell ⟨G, 0, none⟩ (.int .i64 (xA : Int))).setCell ⟨G, 1, none⟩ (.string xB)).setCell ⟨G, 2, none⟩ (.bool bC)).drew.cell? ⟨G, 3, none⟩ = some (.int .i64 0) := (((y2.set 0 (.int .i64 (xA : Int))).set 1 (.string xB)).set 2 (.bool bC)).cell 3
  have fe3 : (((W5.setCell ⟨G, 0, none⟩ (.int .i64 (xA : Int))).setCell ⟨G, 1, none⟩ (.string xB)).setCell ⟨G, 2, none⟩ (.bool bC)).drew.frozen? ⟨G, 3, none⟩ = false := (((y2.set 0 (.int .i64 (xA : Int))).set 1 (.string xB)).set 2 (.bool bC)).frozen 3
  have ce4 : ((((W5.setCell ⟨G, 0, none⟩ (.int .i64 (xA : Int))).setCell ⟨G, 1, none⟩ (.string xB)).setCell ⟨G, 2, none⟩ (.bool bC)).setCell ⟨G, 3, none⟩ (.int .i64 (xD : Int))).drew.cell? ⟨G, 4, none⟩ = some (.int .i64 0) := ((((y2.set 0 (.int .i64 (xA : Int))).set 1 (.string xB)).set 2 (.bool bC)).set 3 (.int .i64 (xD : Int))).cell 4
  have fe4 : ((((W5.setCell ⟨G, 0, none⟩ (.int .i64 (xA : Int))).setCell ⟨G, 1, none⟩ (.string xB)).setCell ⟨G, 2, none⟩ (.bool bC)).setCell ⟨G, 3, none⟩ (.int .i64 (xD : Int))).drew.frozen? ⟨G, 4, none⟩ = false := ((((y2.set 0 (.int .i64 (xA : Int))).set 1 (.string xB)).set 2 (.bool bC)).set 3 (.int .i64 (xD : Int))).frozen 4
  clear y2 y2d n0 n1 R y4 HF hC1
  go_region_with ((go_at_call 30; (with_reducible refine (cG _).mono ?_); rintro e w8 ⟨rfl, hw8⟩; obtain rfl := hw8.symm))
  all_goals (clear c0 c1 c2 c3 c4 d0 d1 d2 d3 d4 y4d cG)
  all_goals go_wp2
  all_goals (
    obtain ⟨R, y2, y4⟩ := HR.out
    have zf : Blk (((((W5.setCell ⟨G, 0, none⟩ (.int .i64 (xA : Int))).setCell ⟨G, 1, none⟩ (.string xB)).setCell ⟨G, 2, none⟩ (.bool bC)).setCell ⟨G, 3, none⟩ (.int .i64 (xD : Int))).setCell ⟨G, 4, none⟩ (.int .i64 (xE : Int))).drew G 35 #[.int .i64 (xA : Int), .string xB, .bool bC, .int .i64 (xD : Int), .int .i64 (xE : Int)] := ((((y2.set 0 _).set 1 _).set 2 _).set 3 _).set 4 _
    have RF := ((((R.keep (Below.refl W5.heap.size W5).drew).set y2.drew (by omega) HH0.out 0 (.int .i64 (xA : Int))).set (y2.drew.set 0 _) (by omega) HH0.out 1 (.string xB)).set ((y2.drew.set 0 _).set 1 _) (by omega) HH0.out 2 (.bool bC)).set (((y2.drew.set 0 _).set 1 _).set 2 _) (by omega) HH0.out 3 (.int .i64 (xD : Int)) |>.set ((((y2.drew.set 0 _).set 1 _).set 2 _).set 3 _) (by omega) HH0.out 4 (.int .i64 (xE : Int))
    obtain ⟨dd0, dd1, dd2, dd3, dd4⟩ := zf.fiv
    refine bodyPost_ret (v := .tuple #[.agg #[.int .i64 (xA : Int), .string xB, .bool bC, .int .i64 (xD : Int), .int .i64 (xE : Int)], .bool (decide (xC ≤ 1))]) (by simp [results, Try.f60, go_sem, dd0, dd1, dd2, dd3, dd4]) rfl ?_
    exact ⟨rfl, RF⟩)
end
end Go.Proofs.Ytmkcadnpleijdaa
