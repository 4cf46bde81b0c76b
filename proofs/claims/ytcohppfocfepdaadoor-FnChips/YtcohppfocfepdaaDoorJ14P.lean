/-
  Joined: HeldZ, ChFl.
-/
import Derived.Test.YtcohppfocfepdaaDoorJ13P
import Derived.Deep.RegionHeld
namespace Go.Proofs.YtcohppfocfepdaaDoor
section
section
variable {P : Program} {ops : Array Oper} {Q : Exit → Act → World → Prop} {md : Region.Mode} {L : Nat}
/-- Behind all others the number L is carried out; then Q. -/
def ThenL (P : Program) (ops : Array Oper) (Q : Exit → Act → World → Prop) (L : Nat) : Exit → Act → World → Prop
  | .normal, a, w => wpOp P ops Q L (fun a' w' => Q .normal a' w') a w
  | e, a, w => Q e a w
/-- Each operation waits, where that binds, for earlier ones alone; each but the number L is waited for by another one, and none waits for L. -/
def lastOne (md : Region.Mode) (ops : Array Oper) (L : Nat) : Bool :=
  decide (L < ops.size) && ((List.range ops.size).all fun i => ((ops[i]?).map fun o => o.after.all fun e => !Region.binds md e || decide (e.on < i)).getD false) && (List.range ops.size).all fun i => i == L || ((List.range ops.size).any (fun j => ((ops[j]?).map fun o => o.after.any fun e => Region.binds md e && e.on == i).getD false) && ((ops[i]?).map fun o => o.after.all fun e => !(e.on == L)).getD false)
theorem last_waits (h : lastOne md ops L = true) {i : Nat} (hi : i < ops.size) (hne : i ≠ L) : (∃ (j : Nat) (o : Oper), ops[j]? = some o ∧ ∃ e ∈ o.after, Region.binds md e = true ∧ e.on = i) ∧ ∀ o, ops[i]? = some o → ∀ e ∈ o.after, e.on ≠ L := by
  unfold lastOne at h
  simp only [Bool.and_eq_true, List.all_eq_true, List.mem_range, Bool.or_eq_true, beq_iff_eq] at h
  have h1 := (h.2 i hi).resolve_left hne
  obtain ⟨h2, h3⟩ := h1
  refine ⟨?_, fun o ho e he => ?_⟩
  · simp only [List.any_eq_true, List.mem_range] at h2
    obtain ⟨j, _, h2⟩ := h2
    cases hL : ops[j]? with
    | none => rw [hL] at h2; simp at h2
    | some o =>
      rw [hL] at h2
      simp only [Option.map_some, Option.getD_some, Array.any_eq_true, Bool.and_eq_true, beq_iff_eq] at h2
      obtain ⟨x, hx, he⟩ := h2
      exact ⟨j, o, hL, _, Array.getElem_mem hx, he.1, he.2⟩
  · rw [ho] at h3
    simp only [Option.map_some, Option.getD_some, Array.all_eq_true_iff_forall_mem] at h3
    have := h3 e he
    simpa using this
/-- What is asked of an operation under 'ThenL' is asked of it under Q. -/
theorem wpOp_thenL {i : Nat} {K : Act → World → Prop} {a : Act} {w : World} (hl : LetsOut (ThenL P ops Q L) → LetsOut Q) (h : wpOp P ops (ThenL P ops Q L) i K a w) : wpOp P ops Q i K a w := by
  unfold wpOp at h ⊢
  split
  · rename_i h0; rw [h0] at h; exact h
  · rename_i o h0
    rw [h0] at h
    dsimp only at h
    split
    · rename_i hw
      rw [if_pos hw] at h
      refine h.imp (fun h1 => ?_) (fun h1 => ⟨h1.1, hl h1.2⟩)
      unfold Oper.wp at h1 ⊢
      generalize (execOp a.eval o).run P w = r at h1 ⊢
      cases r with
      | ok n w' =>
        cases n with
        | enter f args =>
          refine Calls.mono h1 fun e w2 he => ?_
          cases e with
          | returned v => exact he
          | panicked c => exact he
          | outgrown => exact hl he
        | value v => exact h1
        | skip => exact h1
        | defer d => exact h1
        | row r args => exact h1
        | _ => exact h1
      | halt x w' => cases x <;> exact h1
    · rename_i hw
      rw [if_neg hw] at h
      exact h
theorem last_lt (h : lastOne md ops L = true) : L < ops.size := by
  unfold lastOne at h
  simp only [Bool.and_eq_true, decide_eq_true_eq] at h
  exact h.1.1
theorem last_order (h : lastOne md ops L = true) {i : Nat} {o : Oper} (ho : ops[i]? = some o) : ∀ e ∈ o.after, Region.binds md e = true → e.on < i := by
  unfold lastOne at h
  simp only [Bool.and_eq_true, List.all_eq_true, List.mem_range] at h
  have hi : i < ops.size := (Array.getElem?_eq_some_iff.1 ho).1
  have h1 := h.1.2 i hi
  rw [ho] at h1
  simp only [Option.map_some, Option.getD_some, Array.all_eq_true_iff_forall_mem] at h1
  intro e he hb
  have h2 := h1 e he
  rw [hb] at h2
  simpa using h2
theorem getD_both {l : Array Bool} {i : Nat} (hi : i < l.size) : l.getD i true = l.getD i false := by simp [Array.getD, hi]
/-- Where nothing may come up all have come up. -/
theorem all_listed (h : lastOne md ops L = true) {listed : Array Bool} (hs : listed.size = ops.size) (hr : Region.ready md ops listed = []) : ∀ i, i < ops.size → listed.getD i true = true := by
  intro i
  induction i using Nat.strongRecOn with
  | ind i ih =>
    intro hi
    cases hl : listed.getD i true with
    | true => rfl
    | false =>
      have ho : ops[i]? = some ops[i] := Array.getElem?_eq_getElem hi
      have : i ∈ Region.ready md ops listed := mem_ready.2 ⟨hl, _, ho, fun e he hb => by
        have h1 := last_order h ho e he hb
        rw [← getD_both (by omega)]
        exact ih e.on h1 (by omega)⟩
      rw [hr] at this
      cases this
theorem set_getD_ne {l : Array Bool} {i j : Nat} {d : Bool} (h : i ≠ j) : (l.setIfInBounds i true).getD j d = l.getD j d := getD_set_ne d h
theorem set_getD_eq {l : Array Bool} {i : Nat} {d : Bool} (h : i < l.size) : (l.setIfInBounds i true).getD i d = true := by simp [Array.getD, h]
/-- Behind all others the last one comes up. -/
theorem last_comes (h : lastOne md ops L = true) {listed : Array Bool} (hs : listed.size = ops.size) (hL : listed.getD L true = false) (hr : Region.ready md ops (listed.setIfInBounds L true) = []) : ∀ i, i ∈ Region.ready md ops listed ↔ i = L := by
  have hall := all_listed h (listed := listed.setIfInBounds L true) (by simp [hs]) hr
  have hlt := last_lt h
  intro i
  constructor
  · intro hi
    obtain ⟨h1, o, ho, _⟩ := mem_ready.1 hi
    rcases Nat.decEq i L with hne | he
    · have := hall i (Array.getElem?_eq_some_iff.1 ho).1
      rw [set_getD_ne (fun e => hne e.symm), h1] at this
      cases this
    · exact he
  · rintro rfl
    refine mem_ready.2 ⟨hL, _, Array.getElem?_eq_getElem hlt, fun e he hb => ?_⟩
    have h1 := last_order h (Array.getElem?_eq_getElem hlt) e he hb
    have h2 := hall e.on (by omega)
    rw [set_getD_ne (by omega)] at h2
    rw [← getD_both (by omega)]
    exact h2
/-- What has come up has all that it waited for come up. -/
def shutAll (md : Region.Mode) (ops : Array Oper) (listed : Array Bool) : Prop := ∀ (j : Nat) (o : Oper), ops[j]? = some o → listed.getD j true = true → ∀ e ∈ o.after, Region.binds md e = true → listed.getD e.on false = true
theorem shutAll_set {listed : Array Bool} {i : Nat} (_ : listed.size = ops.size) (h : shutAll md ops listed) (hi : i ∈ Region.ready md ops listed) : shutAll md ops (listed.setIfInBounds i true) := fun j o ho hl e he hb => by
  rcases Nat.decEq j i with hne | rfl
  · rw [set_getD_ne (fun e => hne e.symm)] at hl
    exact getD_set_true (h j o ho hl e he hb)
  · obtain ⟨_, o', ho', hall⟩ := mem_ready.1 hi
    rw [ho] at ho'
    simp only [Option.some.injEq] at ho'
    subst ho'
    exact getD_set_true (hall e he hb)
/-- As long as another one has not come up L does not. -/
theorem last_not (h : lastOne md ops L = true) {listed : Array Bool} (hs : listed.size = ops.size) (hc : shutAll md ops listed) : ∀ (d x : Nat), ops.size - x = d → x < ops.size → x ≠ L → listed.getD x true = false → L ∉ Region.ready md ops listed := by
  intro d
  induction d using Nat.strongRecOn with
  | ind d ih =>
    intro x hd hx hxL hun hL
    obtain ⟨j, o, ho, e, he, hb, heq⟩ := (last_waits h hx hxL).1
    have hj := last_order h ho e he hb
    have hjs : j < ops.size := (Array.getElem?_eq_some_iff.1 ho).1
    rcases Nat.decEq j L with hne | rfl
    · have hjun : listed.getD j true = false := by
        cases hl : listed.getD j true with
        | false => rfl
        | true =>
          have h1 := hc j o ho hl e he hb
          rw [heq, ← getD_both (by omega), hun] at h1
          cases h1
      exact ih (ops.size - j) (by omega) j rfl hjs hne hjun hL
    · obtain ⟨_, oL, hoL, lall⟩ := mem_ready.1 hL
      rw [ho] at hoL
      simp only [Option.some.injEq] at hoL
      subst hoL
      have h1 := lall e he hb
      rw [heq, ← getD_both (by omega), hun] at h1
      cases h1
theorem wpAny_thenL (h : lastOne md ops L = true) : ∀ (fuel : Nat) (listed : Array Bool) (a : Act) (w : World), listed.size = ops.size → listed.getD L true = false → shutAll md ops listed →
    wpAny P md ops (ThenL P ops Q L) fuel (listed.setIfInBounds L true) a w → wpAny P md ops Q (fuel + 1) listed a w := by
  have hend : ∀ (fuel : Nat) (listed : Array Bool) (a : Act) (w : World), listed.size = ops.size → listed.getD L true = false → Region.ready md ops (listed.setIfInBounds L true) = [] → ThenL P ops Q L .normal a w → wpAny P md ops Q (fuel + 1) listed a w := by
    intro fuel listed a w hs hL hr hT
    have hc := last_comes h hs hL hr
    refine ⟨fun h0 => ?_, fun i hi => ?_⟩
    · have := (hc L).2 rfl
      rw [h0] at this
      cases this
    · obtain rfl := (hc i).1 hi
      exact wpOp_mono (fun a' w' hq => wpAny_done hr hq fuel) hT
  intro fuel
  induction fuel with
  | zero => intro listed a w hs hL _ H; exact hend 0 listed a w hs hL H.1 H.2
  | succ fuel ih =>
    intro listed a w hs hL hsh H
    rcases Classical.em (Region.ready md ops (listed.setIfInBounds L true) = []) with hr | hr
    · exact hend (fuel + 1) listed a w hs hL hr (H.1 hr)
    · obtain ⟨x, hx⟩ := List.exists_mem_of_ne_nil _ hr
      obtain ⟨x1, ox, hox, xall⟩ := mem_ready.1 hx
      have hxs : x < ops.size := (Array.getElem?_eq_some_iff.1 hox).1
      have hxL : x ≠ L := fun e => by
        subst e
        rw [set_getD_eq (by omega)] at x1
        cases x1
      have hun : listed.getD x true = false := by rw [set_getD_ne (fun e => hxL e.symm)] at x1; exact x1
      have hw := last_waits h hxs hxL
      have hxr : x ∈ Region.ready md ops listed := mem_ready.2 ⟨hun, ox, hox, fun e he hb => by
        have := xall e he hb
        rw [set_getD_ne (fun e2 => hw.2 ox hox e he e2.symm)] at this
        exact this⟩
      refine ⟨fun h0 => (by rw [h0] at hxr; cases hxr), fun i hi => ?_⟩
      have hiL : i ≠ L := fun e => by
        subst e
        exact last_not h hs hsh _ x rfl hxs hxL hun hi
      have h2 := wpOp_thenL (L := L) (fun hl => hl) (H.2 i (ready_mono hi hiL))
      refine wpOp_mono (fun a' w' hk => ih (listed.setIfInBounds i true) a' w' (by simp [hs]) (by rw [set_getD_ne hiL]; exact hL) (shutAll_set hs hsh hi) ?_) h2
      rw [Array.setIfInBounds_comm _ _ hiL]
      exact hk
/-- The beginning: S is shown of the world behind the draw; the last one waits. -/
theorem wp_region_last (S : World → Prop) (L : Nat) {id : Nat} {a : Act} {w : World} (hL : lastOne .any ops L = true) (hm : P.follows .mixedOrders = true) (hS : S w.drew) (n : Nat) (hn : ops.size = n + 1)
    (h : S w.drew → wpAnyH P .any ops (ThenL P ops Q L) S n ((Array.replicate ops.size false).setIfInBounds L true) a w.drew) : (Code.region id ops true).wp P Q a w := by
  refine wp_region_any hm ?_
  have hlt := last_lt hL
  have := wpAny_thenL (Q := Q) (P := P) hL n (Array.replicate ops.size false) a w.drew (by simp) (by simp [Array.getD, hlt]) (fun j o ho hl => by have := (Array.getElem?_eq_some_iff.1 ho).1; simp [Array.getD, this] at hl) (wpAny_of_held _ _ _ _ (h hS))
  rw [← hn] at this
  exact this
/-- The last one. -/
theorem wpOp_last {o : Oper} {a : Act} {w : World} (ho : ops[L]? = some o) (h : ∀ K : Act → World → Prop, Shut (∀ a w, Q .normal a w → K a w) → if Region.wanted o (yielded ops a.tmps) = true then Oper.wp P o a w K Q else K (a.put o.dst undef) w) : ThenL P ops Q L .normal a w :=
  wpOp_step ho (fun K hK => h K hK)
end
end

section
open Go.RowKit
def FkR.wearTo (f : FkR) (x : Int) : FkR := ⟨f.ps, x, f.bad, f.h8⟩
def FkR.badTo (f : FkR) (x : Bool) : FkR := ⟨f.ps, f.wear, x, f.h8⟩
def FkR.pg (f : FkR) (j : Nat) (p : PgR) : FkR := ⟨f.ps.set j p, f.wear, f.bad, by rw [List.length_set]; exact f.h8⟩
theorem xv16 (f : FkR) : (pgE.xv f.ps).length = 16 := by rw [pgE.xv_length, f.h8]; rfl
theorem en_wear (f : FkR) (x : Int) : fkE.en (f.wearTo x) = (fkE.en f).set 16 (.int .i64 x) := by
  show pgE.xv f.ps ++ [Value.int .i64 x, Value.bool f.bad] = (pgE.xv f.ps ++ [Value.int .i64 f.wear, Value.bool f.bad]).set 16 (.int .i64 x)
  rw [List.set_append_right _ _ (by rw [xv16]; omega), xv16]
  rfl
theorem en_bad (f : FkR) (x : Bool) : fkE.en (f.badTo x) = (fkE.en f).set 17 (.bool x) := by
  show pgE.xv f.ps ++ [Value.int .i64 f.wear, Value.bool x] = (pgE.xv f.ps ++ [Value.int .i64 f.wear, Value.bool f.bad]).set 17 (.bool x)
  rw [List.set_append_right _ _ (by rw [xv16]; omega), xv16]
  rfl
theorem en_pg {f : FkR} {j j2 : Nat} {p q : PgR} {x : Value} (hj : f.ps[j]? = some q) (h2 : j2 < 2) (he : pgE.en p = (pgE.en q).set j2 x) : fkE.en (f.pg j p) = (fkE.en f).set (j * 2 + j2) x := by
  have h8 : j < 8 := by have := (List.getElem?_eq_some_iff.1 hj).1; rw [f.h8] at this; exact this
  show pgE.xv (f.ps.set j p) ++ [Value.int .i64 f.wear, Value.bool f.bad] = (pgE.xv f.ps ++ [Value.int .i64 f.wear, Value.bool f.bad]).set (j * 2 + j2) x
  rw [List.set_append_left _ _ (by rw [xv16]; omega)]
  rw [← pgE.xv_set f.ps j j2 q p x hj h2 he]
  rfl
theorem FkR.ext' {f g : FkR} (h1 : f.ps = g.ps) (h2 : f.wear = g.wear) (h3 : f.bad = g.bad) : f = g := by
  cases f; cases g; simp at h1 h2 h3; subst h1; subst h2; subst h3; rfl
/-- A flash of the call's own: its box F, its row G. -/
structure FO (w0 wr : World) (F G n : Nat) (fs : List FkR) : Prop where
  bel : Below w0.heap.size w0 wr
  f : Blk wr F 86 #[.slice (some ⟨G, 0, none⟩) n n]
  g : OwnE fkE 89 wr (.slice (some ⟨G, 0, none⟩) n n) n fs
  fn : w0.heap.size ≤ F
  gn : w0.heap.size ≤ G
  ne : F ≠ G
theorem FO.keep {w0 wr w' : World} {F G n : Nat} {fs : List FkR} (h : FO w0 wr F G n fs) (hb : Below wr.heap.size wr w') : FO w0 w' F G n fs := ⟨h.bel.trans (hb.mono h.bel.size), h.f.keep hb, h.g.keep hb, h.fn, h.gn, h.ne⟩
theorem FO.cell {w0 wr : World} {F G n k j : Nat} {fs : List FkR} {f : FkR} (h : FO w0 wr F G n fs) (hk : fs[k]? = some f) (hj : j < 18) : wr.cell? ⟨G, k * 18 + j, none⟩ = (fkE.en f)[j]? := h.g.cell k j f hk hj
theorem FO.is {w0 wr : World} {F G n k j : Nat} {fs : List FkR} {f : FkR} (h : FO w0 wr F G n fs) (hk : fs[k]? = some f) (hj : j < 18) : ∃ x, wr.cell? ⟨G, k * 18 + j, none⟩ = .some x := ⟨_, (h.cell hk hj).trans (List.getElem?_eq_getElem (by rw [fkE.len]; exact hj))⟩
theorem FO.one {w0 wr : World} {F G n k j : Nat} {fs : List FkR} {f f' : FkR} {x : Value} (h : FO w0 wr F G n fs) (hk : fs[k]? = some f) (hj : j < 18) (he : fkE.en f' = (fkE.en f).set j x) : FO w0 (wr.setCell ⟨G, k * 18 + j, none⟩ x) F G n (fs.set k f') :=
  ⟨h.bel.setCell (p := ⟨G, k * 18 + j, none⟩) h.gn _, (Below.heap_setCell _ _ _ _ h.ne).trans h.f, h.g.set k j f f' x hk hj he, h.fn, h.gn, h.ne⟩
theorem get_set {α : Type} {l : List α} {k : Nat} {f g : α} (h : l[k]? = some f) : (l.set k g)[k]? = some g := by
  rw [List.getElem?_set_self (List.getElem?_eq_some_iff.1 h).1]
/-- A page into a block. -/
theorem FO.page {w0 wr : World} {F G n k j n1 : Nat} {fs : List FkR} {f : FkR} {p : PgR} (h : FO w0 wr F G n fs) (hk : fs[k]? = some f) (hj : j < 8) (hn : p.zs.length = n1) : FO w0 ((wr.setCell ⟨G, k * 18 + j * 2, none⟩ (.bool p.used)).setCell ⟨G, k * 18 + j * 2 + 1, none⟩ (.slice p.a n1 p.cap)) F G n (fs.set k (f.pg j p)) := by
  subst hn
  obtain ⟨q, hq⟩ : ∃ q, f.ps[j]? = .some q := ⟨_, List.getElem?_eq_getElem (by rw [f.h8]; exact hj)⟩
  have h1 := h.one (j := j * 2 + 0) (x := .bool p.used) (f' := f.pg j ⟨p.used, q.a, q.cap, q.zs⟩) hk (by omega) (en_pg hq (by omega) rfl)
  have h2 := h1.one (j := j * 2 + 1) (x := .slice p.a p.zs.length p.cap) (f' := (f.pg j ⟨p.used, q.a, q.cap, q.zs⟩).pg j p) (get_set hk) (by omega) (en_pg (get_set hq) (by omega) rfl)
  rw [List.set_set, Nat.add_zero] at h2
  rw [show (f.pg j ⟨p.used, q.a, q.cap, q.zs⟩).pg j p = f.pg j p from FkR.ext' (by simp [FkR.pg]) rfl rfl] at h2
  exact h2
theorem FO.used {w0 wr : World} {F G n k j : Nat} {fs : List FkR} {f : FkR} {u : Bool} (h : FO w0 wr F G n fs) (hk : fs[k]? = some f) (hj : j < 8) : ∃ gs g, FO w0 (wr.setCell ⟨G, k * 18 + j * 2, none⟩ (.bool u)) F G n gs ∧ gs[k]? = Option.some g := by
  obtain ⟨q, hq⟩ : ∃ q, f.ps[j]? = .some q := ⟨_, List.getElem?_eq_getElem (by rw [f.h8]; exact hj)⟩
  exact ⟨_, _, h.one (j := j * 2 + 0) (x := .bool u) (f' := f.pg j ⟨u, q.a, q.cap, q.zs⟩) hk (by omega) (en_pg hq (by omega) rfl), get_set hk⟩
/-- A flash was answered. -/
def FlA (w : World) (fs : List FkR) (e : Ending) (w' : World) : Prop := ∃ F G, e = .returned (.pointer (some ⟨F, 0, none⟩)) ∧ FO w w' F G fs.length fs
/-- The flash of a chip. -/
def FlOf (bs : List BkR) (fs : List FkR) : Prop := fs.length = bs.length ∧ ∀ (i : Nat) (r : BkR), bs[i]? = some r → ∃ f : FkR, fs[i]? = some f ∧ f.ps = r.ps ∧ f.wear = r.wear ∧ f.bad = r.bad
set_option maxRecDepth 100000 in
set_option maxHeartbeats 8000000 in
theorem flashOfI (a : Option Addr) (n cap : Nat) (bs : List BkR) (fs : List FkR) (w : World) (ht : CR w a n bs) (hf : FlOf bs fs) :
    Calls Tryd.prog 41 #[.agg #[.slice a n cap]] w (FlA w fs) := by
  have hnn := ht.n
  obtain ⟨i0, hi, hz0, hz1, hz2⟩ := info_parts Tryd.infoCells
  have hm : n ≤ maxLen := by unfold maxLen; omega
  have hby : i0.bytes * n ≤ 281474976710656 := by rw [hz2]; omega
  have B0 : Below w.heap.size w (w.alloc (.cells #[.slice a n cap] 26)) := (Below.refl _ w).alloc (Nat.le_refl _) _
  have z0 := Blk.new w 26 #[.slice a n cap]
  have hws : (w.alloc (.cells #[.slice a n cap] 26)).heap.size = w.heap.size + 1 := by simp
  obtain ⟨H, hH⟩ : ∃ H, w.heap.size = H := ⟨_, rfl⟩
  rw [hH] at z0 hws
  go_enter Tryd.func41, Tryd.ntmps41
  go_upto_region 1 with fail
  obtain ⟨W0, hW0⟩ : ∃ W, w.alloc (.cells #[.slice a n cap] 26) = W := ⟨_, rfl⟩
  rw [hW0] at B0 z0 hws ⊢
  clear hW0
  have y0 := z0.cell 0
  simp at y0
  have HH : Hid (w.heap.size = H) := hH
  have HW : Hid (W0.heap.size = H + 1) := hws
  have HT : Hid (CR W0 a n bs) := ht.keep B0
  have HF : Hid (FlOf bs fs) := hf
  have HLN : Hid (bs.length = n) := ht.len
  have HB0 : Hid (Below H w W0) := by rw [← hH]; exact B0
  have HZ0 : Hid (Blk W0 H 26 #[.slice a n cap]) := z0
  clear ht hf B0 z0 hH hws
  go_upto_region 2 with (at_make; refine wpList_make_full _ rfl (.tmp 10) (.tmp 10) 84 rfl 0 89 i0 _ 18 Tryd.underlying84 hi hz0 hz1 .i64 .i64 _ _ n rfl rfl rfl rfl hby hm (Nat.zero_le _) ?_; intro w2 hown hgrow)
  have B2 : Below W0.heap.size W0 w2 := (Below.refl _ _).grown hgrow (Nat.le_refl _) (by simp)
  have fo0 : FO W0 (w2.alloc (.cells #[.slice (some ⟨W0.heap.size, 0, none⟩) n n] 86)) w2.heap.size W0.heap.size n (List.replicate n fkZ) := by
    have h1 : OwnE fkE 89 w2 (.slice (some ⟨W0.heap.size, 0, none⟩) n n) n (List.replicate n fkZ) := made_row fkE fkZ (.agg #[.bool false, .slice none 0 0, .bool false, .slice none 0 0, .bool false, .slice none 0 0, .bool false, .slice none 0 0, .bool false, .slice none 0 0, .bool false, .slice none 0 0, .bool false, .slice none 0 0, .bool false, .slice none 0 0, .int .i64 0, .bool false]) rfl hown
    have h2 := h1.lt (g := W0.heap.size) rfl
    exact ⟨B2.alloc B2.size _, Blk.new w2 _ _, h1.keep ((Below.refl _ w2).alloc (Nat.le_refl _) _), B2.size, Nat.le_refl _, by omega⟩
  obtain ⟨G, hG⟩ : ∃ G, W0.heap.size = G := ⟨_, rfl⟩
  obtain ⟨F, hFF⟩ : ∃ F, w2.heap.size = F := ⟨_, rfl⟩
  rw [hG, hFF] at fo0
  rw [hG]
  obtain ⟨W1, hW1⟩ : ∃ W, w2.alloc (.cells #[.slice (some ⟨G, 0, none⟩) n n] 86) = W := ⟨_, rfl⟩
  rw [hW1] at fo0
  try rw [hFF]
  try rw [hW1]
  have HG : Hid (W0.heap.size = G) := hG
  have y1 := (Blk.keep HZ0.out fo0.bel).cell 0
  simp at y1
  clear hown hgrow B2 hW1 hi hz0 hz1 hz2 hby hm y0 hG hFF
  go_upto_region 3 with fail
  clear y1
  go_loopw [17] (fun i wr => ∃ (k : Nat) (gs : List FkR), k ≤ n ∧ i = .int .i64 k ∧ Hid (FO W0 wr F G n gs) ∧ Hid (∀ j, j < k → gs[j]? = fs[j]?)) (fun i _ => n - (intOf i).toNat)
  case atStart => exact ⟨0, _, by omega, rfl, fo0, fun j hj => absurd hj (by omega)⟩
  case round =>
    obtain ⟨k, gs, hk, rfl, hfo, hgs⟩ := hrel
    clear fo0
    by_cases hkn : k < n
    · have hki : (k : Int) < (n : Int) := by omega
      obtain ⟨b, off, r, rfl, hlt, hrk, x3, hrp, htp⟩ := (HT.out.keep hfo.out.bel).some hkn
      obtain ⟨c0, c1, c2⟩ := x3
      obtain ⟨fk, hfk, hfp, hfw, hfb⟩ := HF.out.2 k r hrk
      have HRP0 : Hid (RdPs W0 r.a r.ps) := by
        obtain ⟨_, _, r', _, _, h1, _, h2, _⟩ := HT.out.some hkn
        rw [hrk] at h1
        cases h1
        exact h2
      obtain ⟨ra, rc, rp, wear, bad⟩ := r
      dsimp only at c0 c1 c2 hrp htp hfp hfw hfb HRP0
      have hr8 : rp.length = 8 := by rw [← hfp]; exact fk.h8
      rw [hr8] at c0
      obtain ⟨f, hgk⟩ : ∃ f, gs[k]? = some f := ⟨_, List.getElem?_eq_getElem (by rw [hfo.out.g.len]; exact hkn)⟩
      have HFK : Hid (fs[k]? = some fk ∧ fk.ps = rp ∧ fk.wear = wear ∧ fk.bad = bad) := ⟨hfk, hfp, hfw, hfb⟩
      have bE : Below wr.heap.size wr (wr.alloc (.cells #[.slice ra 8 rc, .int .i64 wear, .bool bad] 34)) := (Below.refl _ wr).alloc (Nat.le_refl _) _
      have zE := Blk.new wr 34 #[.slice ra 8 rc, .int .i64 wear, .bool bad]
      have fo8 := hfo.out.keep bE
      have hrp8 := hrp.keep bE
      go_upto_region 5 with fail
      obtain ⟨W8, hW8⟩ : ∃ W, wr.alloc (.cells #[.slice ra 8 rc, .int .i64 wear, .bool bad] 34) = W := ⟨_, rfl⟩
      rw [hW8] at zE fo8 hrp8 bE ⊢
      clear hW8 c0 c1 c2 hrp hrk hfk hfp hfw hfb hlt
      obtain ⟨E, hE⟩ : ∃ E, wr.heap.size = E := ⟨_, rfl⟩
      rw [hE] at zE ⊢
      have hEG : E ≠ G := by have := hfo.out.g.lt (g := G) rfl; omega
      have fo9 : FO W0 W8.drew F G n gs := fo8.keep (Below.refl _ _).drew
      have zE9 : Blk W8.drew E 34 #[.slice ra 8 rc, .int .i64 wear, .bool bad] := Blk.keep zE (Below.refl _ _).drew
      have fa := fo9.one (j := 16) (x := .int .i64 wear) hgk (by omega) (en_wear f wear)
      have fb := fa.one (j := 17) (x := .bool bad) (get_set hgk) (by omega) (en_bad (f.wearTo wear) bad)
      rw [List.set_set] at fb
      have zEa : Blk (W8.drew.setCell ⟨G, k * 18 + 16, none⟩ (.int .i64 wear)) E 34 #[.slice ra 8 rc, .int .i64 wear, .bool bad] := (Below.heap_setCell _ _ _ _ hEG).trans zE9
      have zEb : Blk ((W8.drew.setCell ⟨G, k * 18 + 16, none⟩ (.int .i64 wear)).setCell ⟨G, k * 18 + 17, none⟩ (.bool bad)) E 34 #[.slice ra 8 rc, .int .i64 wear, .bool bad] := (Below.heap_setCell _ _ _ _ hEG).trans zEa
      obtain ⟨v16, p16⟩ := fo9.is hgk (j := 16) (by omega)
      have f16 := fo9.g.frozen (k * 18 + 16)
      obtain ⟨v17, p17⟩ := fa.is (get_set hgk) (j := 17) (by omega)
      have f17 := fa.g.frozen (k * 18 + 17)
      have x0 := fo9.f.cell 0
      have x1 := zE9.cell 1
      have x2 := zE9.cell 2
      have xa0 := fa.f.cell 0
      have xa1 := zEa.cell 1
      have xa2 := zEa.cell 2
      have HXA : Hid _ := And.intro xa0 (And.intro xa1 xa2)
      simp at x0 x1 x2
      have HFB : Hid _ := fb
      have HGK : Hid (gs[k]? = some f) := hgk
      have HZEB : Hid _ := zEb
      clear hfo fo8 bE zE fo9 zE9 fa fb zEa zEb hrp8 hE xa0 xa1 xa2 hgk
      have hkk : ¬ (k : Int) < 0 := by omega
      have p17' : ((W8.setCell ⟨G, k * 18 + 16, none⟩ (.int .i64 wear)).drew).cell? ⟨G, k * 18 + 17, none⟩ = some v17 := p17
      have f17' : ((W8.setCell ⟨G, k * 18 + 16, none⟩ (.int .i64 wear)).drew).frozen? ⟨G, k * 18 + 17, none⟩ = false := f17
      refine wp_region_noPanic ?_
      refine wp_region_last (fun W : World => W.cell? ⟨F, 0, none⟩ = some (.slice (some ⟨G, 0, none⟩) n n) ∧ W.cell? ⟨E, 1, none⟩ = some (.int .i64 wear) ∧ W.cell? ⟨E, 2, none⟩ = some (.bool bad)) 19 (by kernel_rfl) (by kernel_rfl) (by go_keep) 19 (by kernel_rfl) (fun hS => ?_)
      refine wpAnyH_take (i := 0) (v := ?gv1) rfl (by kernel_rfl) (by kernel_rfl) (by kernel_rfl) (fun _ _ _ h => h) (Or.inl ⟨by kernel_rfl, ?gy1⟩) (by assumption) ?gr1
      case gy1 => (intro w' hSw; (try dsimp only at hSw); go_simp; (try with_reducible rfl))
      try simp only [Act.put, List.setIfInBounds_toArray, List.set_cons_zero, List.set_cons_succ, List.getElem_toArray, List.getElem_cons_zero]
      refine wpAnyH_take (i := 1) (v := ?gv2) rfl (by kernel_rfl) (by kernel_rfl) (by kernel_rfl) (fun _ _ _ h => h) (Or.inl ⟨by kernel_rfl, ?gy2⟩) (by assumption) ?gr2
      case gy2 => (intro w' hSw; (try dsimp only at hSw); go_simp; (try with_reducible rfl))
      try simp only [Act.put, List.setIfInBounds_toArray, List.set_cons_zero, List.set_cons_succ, List.getElem_toArray, List.getElem_cons_succ, List.getElem_cons_zero]
      refine wpAnyH_take (i := 2) (v := ?gv3) rfl (by kernel_rfl) (by kernel_rfl) (by kernel_rfl) (fun _ _ _ h => h) (Or.inl ⟨by kernel_rfl, ?gy3⟩) (by assumption) ?gr3
      case gy3 => (intro w' hSw; (try dsimp only at hSw); go_simp; (try with_reducible rfl))
      try simp only [Act.put, List.setIfInBounds_toArray, List.set_cons_zero, List.set_cons_succ, List.getElem_toArray, List.getElem_cons_succ, List.getElem_cons_zero]
      refine wpAnyH_take (i := 3) (v := ?gv4) rfl (by kernel_rfl) (by kernel_rfl) (by kernel_rfl) (fun _ _ _ h => h) (Or.inl ⟨by kernel_rfl, ?gy4⟩) (by assumption) ?gr4
      case gy4 => (intro w' hSw; (try dsimp only at hSw); go_simp; (try with_reducible rfl))
      try simp only [Act.put, List.setIfInBounds_toArray, List.set_cons_zero, List.set_cons_succ, List.getElem_toArray, List.getElem_cons_succ, List.getElem_cons_zero]
      refine wpAnyH_take (i := 4) (v := ?gv5) rfl (by kernel_rfl) (by kernel_rfl) (by kernel_rfl) (fun _ _ _ h => h) (Or.inl ⟨by kernel_rfl, ?gy5⟩) (by assumption) ?gr5
      case gy5 => (intro w' hSw; (try dsimp only at hSw); go_simp; (try with_reducible rfl))
      try simp only [Act.put, List.setIfInBounds_toArray, List.set_cons_zero, List.set_cons_succ, List.getElem_toArray, List.getElem_cons_succ, List.getElem_cons_zero]
      refine wpAnyH_take (i := 5) (v := ?gv6) rfl (by kernel_rfl) (by kernel_rfl) (by kernel_rfl) (fun _ _ _ h => h) (Or.inl ⟨by kernel_rfl, ?gy6⟩) (by assumption) ?gr6
      case gy6 => (intro w' hSw; (try dsimp only at hSw); go_simp; (try with_reducible rfl))
      try simp only [Act.put, List.setIfInBounds_toArray, List.set_cons_zero, List.set_cons_succ, List.getElem_toArray, List.getElem_cons_succ, List.getElem_cons_zero]
      refine wpAnyH_take (i := 6) (v := ?gv7) rfl (by kernel_rfl) (by kernel_rfl) (by kernel_rfl) (fun _ _ _ h => h) (Or.inl ⟨by kernel_rfl, ?gy7⟩) (by assumption) ?gr7
      case gy7 => (intro w' hSw; (try dsimp only at hSw); go_simp; (try with_reducible rfl))
      try simp only [Act.put, List.setIfInBounds_toArray, List.set_cons_zero, List.set_cons_succ, List.getElem_toArray, List.getElem_cons_succ, List.getElem_cons_zero]
      refine wpAnyH_take (i := 7) (v := ?gv8) rfl (by kernel_rfl) (by kernel_rfl) (by kernel_rfl) (fun _ _ _ h => h) (Or.inl ⟨by kernel_rfl, ?gy8⟩) (by assumption) ?gr8
      case gy8 => (intro w' hSw; (try dsimp only at hSw); go_simp; (try with_reducible rfl))
      try simp only [Act.put, List.setIfInBounds_toArray, List.set_cons_zero, List.set_cons_succ, List.getElem_toArray, List.getElem_cons_succ, List.getElem_cons_zero]
      refine wpAnyH_take (i := 8) (v := ?gv9) rfl (by kernel_rfl) (by kernel_rfl) (by kernel_rfl) (fun _ _ _ h => h) (Or.inl ⟨by kernel_rfl, ?gy9⟩) (by assumption) ?gr9
      case gy9 => (intro w' hSw; (try dsimp only at hSw); go_simp; (try with_reducible rfl))
      try simp only [Act.put, List.setIfInBounds_toArray, List.set_cons_zero, List.set_cons_succ, List.getElem_toArray, List.getElem_cons_succ, List.getElem_cons_zero]
      refine wpAnyH_take (i := 9) (v := ?gv10) rfl (by kernel_rfl) (by kernel_rfl) (by kernel_rfl) (fun _ _ _ h => h) (Or.inl ⟨by kernel_rfl, ?gy10⟩) (by assumption) ?gr10
      case gy10 => (intro w' hSw; (try dsimp only at hSw); go_simp; (try with_reducible rfl))
      try simp only [Act.put, List.setIfInBounds_toArray, List.set_cons_zero, List.set_cons_succ, List.getElem_toArray, List.getElem_cons_succ, List.getElem_cons_zero]
      refine wpAnyH_take (i := 10) (v := ?gv11) rfl (by kernel_rfl) (by kernel_rfl) (by kernel_rfl) (fun _ _ _ h => h) (Or.inl ⟨by kernel_rfl, ?gy11⟩) (by assumption) ?gr11
      case gy11 => (intro w' hSw; (try dsimp only at hSw); go_simp; (try with_reducible rfl))
      try simp only [Act.put, List.setIfInBounds_toArray, List.set_cons_zero, List.set_cons_succ, List.getElem_toArray, List.getElem_cons_succ, List.getElem_cons_zero]
      refine wpAnyH_take (i := 11) (v := ?gv12) rfl (by kernel_rfl) (by kernel_rfl) (by kernel_rfl) (fun _ _ _ h => h) (Or.inl ⟨by kernel_rfl, ?gy12⟩) (by assumption) ?gr12
      case gy12 => (intro w' hSw; (try dsimp only at hSw); go_simp; (try with_reducible rfl))
      try simp only [Act.put, List.setIfInBounds_toArray, List.set_cons_zero, List.set_cons_succ, List.getElem_toArray, List.getElem_cons_succ, List.getElem_cons_zero]
      refine wpAnyH_take (i := 12) (v := ?gv13) rfl (by kernel_rfl) (by kernel_rfl) (by kernel_rfl) (fun _ _ _ h => h) (Or.inl ⟨by kernel_rfl, ?gy13⟩) (by assumption) ?gr13
      case gy13 => (intro w' hSw; (try dsimp only at hSw); go_simp; (try with_reducible rfl))
      try simp only [Act.put, List.setIfInBounds_toArray, List.set_cons_zero, List.set_cons_succ, List.getElem_toArray, List.getElem_cons_succ, List.getElem_cons_zero]
      refine wpAnyH_take (i := 13) (v := ?gv14) rfl (by kernel_rfl) (by kernel_rfl) (by kernel_rfl) (fun _ _ _ h => h) (Or.inl ⟨by kernel_rfl, ?gy14⟩) (by assumption) ?gr14
      case gy14 => (intro w' hSw; (try dsimp only at hSw); go_simp; (try with_reducible rfl))
      try simp only [Act.put, List.setIfInBounds_toArray, List.set_cons_zero, List.set_cons_succ, List.getElem_toArray, List.getElem_cons_succ, List.getElem_cons_zero]
      refine wpAnyH_take (i := 14) (v := ?gv15) rfl (by kernel_rfl) (by kernel_rfl) (by kernel_rfl) (fun _ _ _ h => h) (Or.inl ⟨by kernel_rfl, ?gy15⟩) (by assumption) ?gr15
      case gy15 => (intro w' hSw; (try dsimp only at hSw); go_simp; (try with_reducible rfl))
      try simp only [Act.put, List.setIfInBounds_toArray, List.set_cons_zero, List.set_cons_succ, List.getElem_toArray, List.getElem_cons_succ, List.getElem_cons_zero]
      refine wpAnyH_take (i := 15) (v := ?gv16) rfl (by kernel_rfl) (by kernel_rfl) (by kernel_rfl) (fun _ _ _ h => h) (Or.inl ⟨by kernel_rfl, ?gy16⟩) (by assumption) ?gr16
      case gy16 => (intro w' hSw; (try dsimp only at hSw); go_simp; (try with_reducible rfl))
      try simp only [Act.put, List.setIfInBounds_toArray, List.set_cons_zero, List.set_cons_succ, List.getElem_toArray, List.getElem_cons_succ, List.getElem_cons_zero]
      refine wpAnyH_ready (rs := [16]) (by kernel_rfl) (by simp) ?_
      refine AllReadyH.cons rfl (fun K hK => ?_) AllReadyH.nil
      go_simp
      clear hS
      try dsimp only
      refine Shut.out hK _ _ (⟨HXA.out.1, HXA.out.2.1, HXA.out.2.2⟩) (fun hS => ?_)
      try simp only [Act.put, List.setIfInBounds_toArray, List.set_cons_zero, List.set_cons_succ, List.getElem_toArray, List.getElem_cons_succ, List.getElem_cons_zero]
      refine wpAnyH_take (i := 17) (v := ?gv17) rfl (by kernel_rfl) (by kernel_rfl) (by kernel_rfl) (fun _ _ _ h => h) (Or.inl ⟨by kernel_rfl, ?gy17⟩) (by assumption) ?gr17
      case gy17 => (intro w' hSw; (try dsimp only at hSw); go_simp; (try with_reducible rfl))
      try simp only [Act.put, List.setIfInBounds_toArray, List.set_cons_zero, List.set_cons_succ, List.getElem_toArray, List.getElem_cons_succ, List.getElem_cons_zero]
      refine wpAnyH_take (i := 18) (v := ?gv18) rfl (by kernel_rfl) (by kernel_rfl) (by kernel_rfl) (fun _ _ _ h => h) (Or.inl ⟨by kernel_rfl, ?gy18⟩) (by assumption) ?gr18
      case gy18 => (intro w' hSw; (try dsimp only at hSw); go_simp; (try with_reducible rfl))
      try simp only [Act.put, List.setIfInBounds_toArray, List.set_cons_zero, List.set_cons_succ, List.getElem_toArray, List.getElem_cons_succ, List.getElem_cons_zero]
      refine wpAnyH_done (by kernel_rfl) ?_ _
      refine wpOp_last rfl (fun K hK => ?_)
      clear hS
      go_simp
      refine Shut.out hK _ _ (NoPanic.normal ?_)
      have hfb : FO W0 ((W8.setCell ⟨G, k * 18 + 16, none⟩ (.int .i64 wear)).setCell ⟨G, k * 18 + 17, none⟩ (.bool bad)).drew F G n (gs.set k ((f.wearTo wear).badTo bad)) := HFB.out
      have hze : Blk ((W8.setCell ⟨G, k * 18 + 16, none⟩ (.int .i64 wear)).setCell ⟨G, k * 18 + 17, none⟩ (.bool bad)).drew E 34 #[.slice ra 8 rc, .int .i64 wear, .bool bad] := HZEB.out
      obtain ⟨W9, hW9⟩ : ∃ W, ((W8.setCell ⟨G, k * 18 + 16, none⟩ (.int .i64 wear)).setCell ⟨G, k * 18 + 17, none⟩ (.bool bad)).drew = W := ⟨_, rfl⟩
      rw [hW9] at hfb hze
      have e0 := hze.cell 0
      simp at e0
      have HGS9 : Hid (∀ i, i < k → (gs.set k ((f.wearTo wear).badTo bad))[i]? = fs[i]?) := fun i hi => by rw [List.getElem?_set_ne (by omega)]; exact hgs.out i hi
      have HG9 : Hid (∃ g, (gs.set k ((f.wearTo wear).badTo bad))[k]? = some g ∧ g.wear = wear ∧ g.bad = bad ∧ ∀ i, i < 0 → g.ps[i]? = rp[i]?) := ⟨_, get_set HGK.out, rfl, rfl, fun i hi => absurd hi (by omega)⟩
      have HF9 : Hid (FO W0 W9 F G n (gs.set k ((f.wearTo wear).badTo bad))) := hfb
      try rw [hW9]
      clear hW9 hfb hze x0 x1 x2 p16 f16 p17 f17 p17' f17' HFB HZEB HXA hgs
      go_upto_region 7 with fail
      clear e0
      go_loopw [43] (fun i wr => ∃ (j : Nat) (gs : List FkR), j ≤ 8 ∧ i = .int .i64 j ∧ Hid (FO W0 wr F G n gs) ∧ Hid (∀ i, i < k → gs[i]? = fs[i]?) ∧ Hid (∃ g, gs[k]? = some g ∧ g.wear = wear ∧ g.bad = bad ∧ ∀ i, i < j → g.ps[i]? = rp[i]?)) (fun i _ => 8 - (intOf i).toNat)
      case atStart => exact ⟨0, _, by omega, rfl, HF9, HGS9, HG9⟩
      case round =>
        obtain ⟨j, hs, hj, rfl, hfo, hgs, hgk⟩ := hrel
        clear HF9 HGS9 HG9
        by_cases hj8 : j < 8
        · have hji : (j : Int) < 8 := by omega
          obtain ⟨p, hpj⟩ : ∃ p, rp[j]? = some p := ⟨_, List.getElem?_eq_getElem (by rw [hr8]; exact hj8)⟩
          obtain ⟨pb, poff, rfl, hplt, hpc⟩ := RdPs.lt (RdPs.keep HRP0.out hfo.out.bel) (by intro h; rw [h] at hpj; simp at hpj)
          obtain ⟨⟨c0, c1⟩, _⟩ := hpc j p hpj
          obtain ⟨g, hg1, hg2, hg3, hg4⟩ := hgk.out
          have HGN : Hid (∃ g', (hs.set k (g.pg j p))[k]? = some g' ∧ g'.wear = wear ∧ g'.bad = bad ∧ ∀ i, i < j + 1 → g'.ps[i]? = rp[i]?) := ⟨_, get_set hg1, hg2, hg3, fun i hi => by
            show (g.ps.set j p)[i]? = _
            by_cases he : i = j
            · subst he
              rw [List.getElem?_set_self (by rw [g.h8]; exact hj8), hpj]
            · rw [List.getElem?_set_ne (by omega)]
              exact hg4 i (by omega)⟩
          have HSN : Hid (∀ i, i < k → (hs.set k (g.pg j p))[i]? = fs[i]?) := fun i hi => by rw [List.getElem?_set_ne (by omega)]; exact hgs.out i hi
          obtain ⟨u, pa, pc, pz⟩ := p
          dsimp only at c0 c1
          obtain ⟨n1, hn1⟩ : ∃ n1, pz.length = n1 := ⟨_, rfl⟩
          rw [hn1] at c1
          have bQ : Below wr.heap.size wr (wr.alloc (.cells #[.bool u, .slice pa n1 pc] 55)) := (Below.refl _ wr).alloc (Nat.le_refl _) _
          have zQ := Blk.new wr 55 #[.bool u, .slice pa n1 pc]
          have fo8 := hfo.out.keep bQ
          clear hgk hgs hfo hg2 hg3 hg4 hpc hplt hpj
          go_upto_region 9 with fail
          obtain ⟨W7, hW7⟩ : ∃ W, wr.alloc (.cells #[.bool u, .slice pa n1 pc] 55) = W := ⟨_, rfl⟩
          rw [hW7] at zQ fo8 bQ ⊢
          obtain ⟨Q, hQ⟩ : ∃ Q, wr.heap.size = Q := ⟨_, rfl⟩
          rw [hQ] at zQ ⊢
          clear hW7 c0 c1 bQ hQ
          have fo9 : FO W0 W7.drew F G n hs := fo8.keep (Below.refl _ _).drew
          have zQ9 : Blk W7.drew Q 55 #[.bool u, .slice pa n1 pc] := Blk.keep zQ (Below.refl _ _).drew
          have x0 := fo9.f.cell 0
          have q0 := zQ9.cell 0
          have q1 := zQ9.cell 1
          simp at x0 q0 q1
          obtain ⟨v0, p0⟩ := fo9.is hg1 (j := j * 2) (by omega)
          obtain ⟨v1, p1⟩ := fo9.is hg1 (j := j * 2 + 1) (by omega)
          have r0 : W7.drew.cell? ⟨G, k * 18 + j * 2, none⟩ = some v0 := p0
          have r1 : W7.drew.cell? ⟨G, k * 18 + j * 2 + 1, none⟩ = some v1 := p1
          have f0 := fo9.g.frozen (k * 18 + j * 2)
          obtain ⟨gs1, g1, foU, hgU⟩ := fo9.used (u := u) hg1 hj8
          obtain ⟨v2, p2⟩ := foU.is hgU (j := j * 2 + 1) (by omega)
          have r2 : ((W7.setCell ⟨G, k * 18 + j * 2, none⟩ (.bool u)).drew).cell? ⟨G, k * 18 + j * 2 + 1, none⟩ = some v2 := p2
          have f2 : ((W7.setCell ⟨G, k * 18 + j * 2, none⟩ (.bool u)).drew).frozen? ⟨G, k * 18 + j * 2 + 1, none⟩ = false := foU.g.frozen (k * 18 + j * 2 + 1)
          have HFN : Hid _ := fo9.page (p := ⟨u, pa, pc, pz⟩) hg1 hj8 hn1
          clear p0 p1 p2 foU hgU fo9 fo8 zQ zQ9 hg1 hn1
          have hjj : ¬ (j : Int) < 0 := by omega
          refine wp_region_noPanic ?_
          refine wp_region_last (fun W : World => W.cell? ⟨F, 0, none⟩ = some (.slice (some ⟨G, 0, none⟩) n n) ∧ W.cell? ⟨Q, 0, none⟩ = some (.bool u) ∧ W.cell? ⟨Q, 1, none⟩ = some (.slice pa n1 pc)) 10 (by kernel_rfl) (by kernel_rfl) (by go_keep) 10 (by kernel_rfl) (fun hS => ?_)
          refine wpAnyH_take (i := 0) (v := ?gv19) rfl (by kernel_rfl) (by kernel_rfl) (by kernel_rfl) (fun _ _ _ h => h) (Or.inl ⟨by kernel_rfl, ?gy19⟩) (by assumption) ?gr19
          case gy19 => (intro w' hSw; (try dsimp only at hSw); go_simp; (try with_reducible rfl))
          try simp only [Act.put, List.setIfInBounds_toArray, List.set_cons_zero, List.set_cons_succ, List.getElem_toArray, List.getElem_cons_zero]
          refine wpAnyH_take (i := 1) (v := ?gv20) rfl (by kernel_rfl) (by kernel_rfl) (by kernel_rfl) (fun _ _ _ h => h) (Or.inl ⟨by kernel_rfl, ?gy20⟩) (by assumption) ?gr20
          case gy20 => (intro w' hSw; (try dsimp only at hSw); go_simp; (try with_reducible rfl))
          try simp only [Act.put, List.setIfInBounds_toArray, List.set_cons_zero, List.set_cons_succ, List.getElem_toArray, List.getElem_cons_succ, List.getElem_cons_zero]
          refine wpAnyH_take (i := 2) (v := ?gv21) rfl (by kernel_rfl) (by kernel_rfl) (by kernel_rfl) (fun _ _ _ h => h) (Or.inl ⟨by kernel_rfl, ?gy21⟩) (by assumption) ?gr21
          case gy21 => (intro w' hSw; (try dsimp only at hSw); go_simp; (try with_reducible rfl))
          try simp only [Act.put, List.setIfInBounds_toArray, List.set_cons_zero, List.set_cons_succ, List.getElem_toArray, List.getElem_cons_succ, List.getElem_cons_zero]
          refine wpAnyH_take (i := 3) (v := ?gv22) rfl (by kernel_rfl) (by kernel_rfl) (by kernel_rfl) (fun _ _ _ h => h) (Or.inl ⟨by kernel_rfl, ?gy22⟩) (by assumption) ?gr22
          case gy22 => (intro w' hSw; (try dsimp only at hSw); go_simp; (try with_reducible rfl))
          try simp only [Act.put, List.setIfInBounds_toArray, List.set_cons_zero, List.set_cons_succ, List.getElem_toArray, List.getElem_cons_succ, List.getElem_cons_zero]
          refine wpAnyH_take (i := 4) (v := ?gv23) rfl (by kernel_rfl) (by kernel_rfl) (by kernel_rfl) (fun _ _ _ h => h) (Or.inl ⟨by kernel_rfl, ?gy23⟩) (by assumption) ?gr23
          case gy23 => (intro w' hSw; (try dsimp only at hSw); go_simp; (try with_reducible rfl))
          try simp only [Act.put, List.setIfInBounds_toArray, List.set_cons_zero, List.set_cons_succ, List.getElem_toArray, List.getElem_cons_succ, List.getElem_cons_zero]
          refine wpAnyH_take (i := 5) (v := ?gv24) rfl (by kernel_rfl) (by kernel_rfl) (by kernel_rfl) (fun _ _ _ h => h) (Or.inl ⟨by kernel_rfl, ?gy24⟩) (by assumption) ?gr24
          case gy24 => (intro w' hSw; (try dsimp only at hSw); go_simp; (try with_reducible rfl))
          try simp only [Act.put, List.setIfInBounds_toArray, List.set_cons_zero, List.set_cons_succ, List.getElem_toArray, List.getElem_cons_succ, List.getElem_cons_zero]
          refine wpAnyH_take (i := 6) (v := ?gv25) rfl (by kernel_rfl) (by kernel_rfl) (by kernel_rfl) (fun _ _ _ h => h) (Or.inl ⟨by kernel_rfl, ?gy25⟩) (by assumption) ?gr25
          case gy25 => (intro w' hSw; (try dsimp only at hSw); go_simp; (try with_reducible rfl))
          try simp only [Act.put, List.setIfInBounds_toArray, List.set_cons_zero, List.set_cons_succ, List.getElem_toArray, List.getElem_cons_succ, List.getElem_cons_zero]
          refine wpAnyH_take (i := 7) (v := ?gv26) rfl (by kernel_rfl) (by kernel_rfl) (by kernel_rfl) (fun _ _ _ h => h) (Or.inl ⟨by kernel_rfl, ?gy26⟩) (by assumption) ?gr26
          case gy26 => (intro w' hSw; (try dsimp only at hSw); go_simp; (try with_reducible rfl))
          try simp only [Act.put, List.setIfInBounds_toArray, List.set_cons_zero, List.set_cons_succ, List.getElem_toArray, List.getElem_cons_succ, List.getElem_cons_zero]
          refine wpAnyH_take (i := 8) (v := ?gv27) rfl (by kernel_rfl) (by kernel_rfl) (by kernel_rfl) (fun _ _ _ h => h) (Or.inl ⟨by kernel_rfl, ?gy27⟩) (by assumption) ?gr27
          case gy27 => (intro w' hSw; (try dsimp only at hSw); go_simp; (try with_reducible rfl))
          try simp only [Act.put, List.setIfInBounds_toArray, List.set_cons_zero, List.set_cons_succ, List.getElem_toArray, List.getElem_cons_succ, List.getElem_cons_zero]
          refine wpAnyH_take (i := 9) (v := ?gv28) rfl (by kernel_rfl) (by kernel_rfl) (by kernel_rfl) (fun _ _ _ h => h) (Or.inl ⟨by kernel_rfl, ?gy28⟩) (by assumption) ?gr28
          case gy28 => (intro w' hSw; (try dsimp only at hSw); go_simp; (try with_reducible rfl))
          try simp only [Act.put, List.setIfInBounds_toArray, List.set_cons_zero, List.set_cons_succ, List.getElem_toArray, List.getElem_cons_succ, List.getElem_cons_zero]
          refine wpAnyH_done (by kernel_rfl) ?_ _
          refine wpOp_last rfl (fun K hK => ?_)
          clear hS
          go_simp
          refine Shut.out hK _ _ (NoPanic.normal ?_)
          have hfn : FO W0 ((W7.setCell ⟨G, k * 18 + j * 2, none⟩ (.bool u)).setCell ⟨G, k * 18 + j * 2 + 1, none⟩ (.slice pa n1 pc)).drew F G n (hs.set k (g.pg j ⟨u, pa, pc, pz⟩)) := HFN.out
          have HFN2 : Hid _ := hfn
          clear hfn x0 q0 q1 r0 r1 r2 f0 f2
          go_wp2
          go_roundw
          case rel => exact ⟨j + 1, _, by omega, by go_num, HFN2, HSN, HGN⟩
          case measure => simp [intOf]; omega
        · have hji : ¬ (j : Int) < 8 := by omega
          have HEND : Hid (∀ i, i < k + 1 → hs[i]? = fs[i]?) := fun i hi => by
            by_cases he : i = k
            · subst he
              obtain ⟨g, h1, h2, h3, h4⟩ := hgk.out
              obtain ⟨h5, h6, h7, h9⟩ := HFK.out
              rw [h1, h5, FkR.ext' (f := g) (g := fk) (List.ext_getElem? fun i => by
                have h10 := g.h8
                by_cases hi8 : i < j
                · rw [h4 i hi8, h6]
                · rw [List.getElem?_eq_none (by omega), List.getElem?_eq_none (by rw [fk.h8]; omega)]) (by rw [h2, h7]) (by rw [h3, h9])]
            · exact hgs.out i (by omega)
          go_wp2
          go_roundw
          case rel => exact ⟨k + 1, hs, by omega, by go_num, hfo, HEND⟩
          case measure => simp [intOf]; omega
    · have hki : ¬ (k : Int) < (n : Int) := by omega
      obtain rfl : k = n := by omega
      go_wp2
      go_ret
      have hl : gs.length = k := hfo.out.g.len
      have hf := HF.out.1
      have hln := HLN.out
      have e : gs = fs := List.ext_getElem? fun i => by
        by_cases h : i < k
        · exact hgs.out i h
        · rw [List.getElem?_eq_none (by omega), List.getElem?_eq_none (by omega)]
      have hG := HG.out
      have hW := HW.out
      have hH := HH.out
      have hb := HB0.out
      have h := hfo.out
      refine ⟨F, G, rfl, ?_⟩
      rw [show fs.length = k by omega, ← e]
      have h1 := h.fn
      have h2 := h.gn
      exact ⟨by rw [hH]; exact hb.trans (h.bel.mono (by omega)), h.f, h.g, by omega, by omega, h.ne⟩
end
end Go.Proofs.YtcohppfocfepdaaDoor
