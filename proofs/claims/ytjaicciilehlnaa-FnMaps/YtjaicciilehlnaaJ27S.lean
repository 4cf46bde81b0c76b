/-
  Joined: MpE, MpD.
-/
import Derived.Test.YtjaicciilehlnaaJ22S
import Derived.Test.YtjaicciilehlnaaJ25S
import Derived.ArgAppend
namespace Go.Proofs.Ytjaicciilehlnaa
section
open Go.RowKit
/-- A place's bytes. -/
def plB (p : PlD) : List Int := encs [p.ino, p.adr]
theorem plB_eq (p : PlD) : plB p = enc p.ino ++ enc p.adr := by simp [plB, encs]
theorem plB_fun : plB = fun p => enc p.ino ++ enc p.adr := funext plB_eq
theorem rdPs_enc (ys rest : List Int) (ps : List PlD) (h : ∀ e ∈ ps, (0 ≤ e.ino ∧ e.ino ≤ 1000000) ∧ 0 ≤ e.adr ∧ e.adr ≤ 1000000) (k : Nat) (hk : k ≤ ps.length) :
    rdPs (ys ++ ps.flatMap plB ++ rest) (some ys.length) k = (ps.take k, some (ys ++ (ps.take k).flatMap plB).length) := by
  induction k with
  | zero => simp [rdPs]
  | succ k ih =>
    have hlt : k < ps.length := by omega
    have he := h ps[k] (List.getElem_mem hlt)
    have e1 : ys ++ ps.flatMap plB ++ rest = (ys ++ (ps.take k).flatMap plB) ++ enc ps[k].ino ++ (enc ps[k].adr ++ ((ps.drop (k + 1)).flatMap plB ++ rest)) := by
      have e0 : ps.flatMap plB = (ps.take k).flatMap plB ++ (plB ps[k] ++ (ps.drop (k + 1)).flatMap plB) := by
        conv => lhs; rw [← List.take_append_drop k ps, List.drop_eq_getElem_cons hlt, List.flatMap_append, List.flatMap_cons]
      rw [e0, plB_eq]
      simp only [List.append_assoc]
    have e2 : ys ++ ps.flatMap plB ++ rest = (ys ++ (ps.take k).flatMap plB ++ enc ps[k].ino) ++ enc ps[k].adr ++ ((ps.drop (k + 1)).flatMap plB ++ rest) := by rw [e1]; simp
    have t1 := rdN_enc (ys ++ (ps.take k).flatMap plB) (enc ps[k].adr ++ ((ps.drop (k + 1)).flatMap plB ++ rest)) ps[k].ino
    rw [← e1] at t1
    have t2 := rdN_enc (ys ++ (ps.take k).flatMap plB ++ enc ps[k].ino) ((ps.drop (k + 1)).flatMap plB ++ rest) ps[k].adr
    rw [← e2] at t2
    rw [rdPs, ih (by omega)]
    dsimp only
    rw [t1]
    dsimp only
    rw [t2]
    dsimp only
    rw [clamp_self he.1.1 he.1.2, clamp_self he.2.1 he.2.2, fm_take plB ps k hlt]
    have e3 : ps.take (k + 1) = ps.take k ++ [ps[k]] := List.take_succ_eq_append_getElem hlt
    simp [plB_eq]
    exact e3.symm
theorem rdPs_form {zs : List Int} (hb : Byt zs) {p : Nat} (k : Nat) : ∀ {q : Nat}, (rdPs zs (some p) k).2 = some q → zs.drop p = (rdPs zs (some p) k).1.flatMap plB ++ zs.drop q := by
  induction k with
  | zero => intro q h; simp [rdPs] at h ⊢; rw [h]
  | succ k ih =>
    intro q h
    rw [rdPs] at h ⊢
    dsimp only at h ⊢
    cases h1 : (rdPs zs (some p) k).2 with
    | none => rw [h1] at h; simp [rdN] at h
    | some m =>
      have i1 := ih h1
      rw [h1] at h
      cases h2 : (rdN zs (some m)).2 with
      | none => rw [h2] at h; simp [rdN] at h
      | some m2 =>
        have i2 := rdN_form hb h2
        rw [h2] at h
        have i3 := rdN_form hb h
        rw [i1, i2, i3]
        simp [plB_eq]
theorem mpB_iff {nx : Int} {ps : List PlD} (h : mpB nx ps = true) : ps.length ≤ 30 ∧ 2 ≤ nx ∧ nx ≤ 1000 ∧ (∀ p ∈ ps, 1 ≤ p.ino ∧ p.ino < nx ∧ 0 ≤ p.adr ∧ p.adr ≤ 191) ∧ ascN (inosP ps) = true := by
  rw [mpB_asc] at h
  simp only [Bool.and_eq_true, decide_eq_true_eq, List.all_eq_true] at h
  refine ⟨h.1.1, h.1.2.1, h.1.2.2, fun p hp => ?_, h.2.2⟩
  have := h.2.1 p hp
  unfold plOk at this
  simp only [Bool.and_eq_true, decide_eq_true_eq] at this
  omega
theorem m_enc {nx : Int} {ps : List PlD} (h : mpB nx ps = true) : mOk (mpEnc nx ps) = true ∧ mN (mpEnc nx ps) = nx ∧ mQ (mpEnc nx ps) = ps := by
  obtain ⟨h1, h2, h3, h4, _⟩ := mpB_iff h
  have hE : mpEnc nx ps = enc nx ++ enc (ps.length : Int) ++ ps.flatMap plB := by unfold mpEnc; simp only [encs, List.flatMap_cons, List.flatMap_nil, List.append_nil]; rw [plB_fun]
  have t1 : m1 (mpEnc nx ps) = (clamp nx, some (enc nx).length) := by
    have := rdN_enc [] (enc (ps.length : Int) ++ ps.flatMap plB) nx
    unfold m1
    rw [hE]
    simpa [List.append_assoc] using this
  have t2 : m2 (mpEnc nx ps) = (clamp (ps.length : Int), some (enc nx ++ enc (ps.length : Int)).length) := by
    have := rdN_enc (enc nx) (ps.flatMap plB) (ps.length : Int)
    unfold m2
    rw [t1, hE]
    exact this
  have t3 : mP (mpEnc nx ps) = (ps, some (mpEnc nx ps).length) := by
    have := rdPs_enc (enc nx ++ enc (ps.length : Int)) [] ps (fun p hp => by have := h4 p hp; omega) ps.length (Nat.le_refl _)
    rw [List.append_nil, ← hE, List.take_length, ← hE] at this
    unfold mP
    rw [t2]
    dsimp only
    rw [clamp_nat (by omega), show min ps.length 31 = ps.length by omega]
    exact this
  have hok : mOk (mpEnc nx ps) = true := by
    unfold mOk
    rw [t3, t1]
    dsimp only
    rw [clamp_self (by omega) (by omega), h]
    simp
  refine ⟨hok, ?_, ?_⟩
  · unfold mN
    rw [if_pos hok, t1]
    exact clamp_self (by omega) (by omega)
  · unfold mQ
    rw [if_pos hok, t3]
theorem m_form {zs : List Int} (hb : Byt zs) (h : mOk zs = true) : mpB (mN zs) (mQ zs) = true ∧ mpPut (mN zs) (mQ zs) = zs := by
  have h0 := h
  unfold mOk at h0
  simp only [Bool.and_eq_true, decide_eq_true_eq] at h0
  obtain ⟨h1, h2⟩ := h0
  have hc := mOk_count h2
  have hl := mpB_len h2
  unfold mN mQ
  rw [if_pos h, if_pos h]
  refine ⟨h2, ?_⟩
  unfold mpPut
  rw [if_pos h2]
  unfold mP at h1
  cases hB : (m2 zs).2 with
  | none =>
    rw [hB] at h1
    have := rdPs_none (zs := zs) (st := none) (k := 0) (m := min (m2 zs).1 31) rfl (Nat.zero_le _)
    rw [this] at h1
    simp at h1
  | some q =>
    cases hA : (m1 zs).2 with
    | none => unfold m2 at hB; rw [hA] at hB; simp [rdN] at hB
    | some p =>
      have f1 := rdN_form hb (p := 0) (q := p) hA
      have hB' : (rdN zs (some p)).2 = some q := by unfold m2 at hB; rw [hA] at hB; exact hB
      have f2 := rdN_form hb hB'
      rw [hB] at h1
      have f3 := rdPs_form hb _ h1
      rw [List.drop_length, List.append_nil] at f3
      have hP : (rdPs zs (some q) (min (m2 zs).1 31)).1 = (mP zs).1 := by unfold mP; rw [hB]
      rw [hP] at f3
      have hN2 : (rdN zs (some p)).1 = (m2 zs).1 := by unfold m2; rw [hA]
      rw [hN2, hc] at f2
      rw [List.drop_zero] at f1
      unfold mpEnc
      conv => rhs; rw [f1, f2, f3]
      simp only [encs, List.flatMap_cons, List.flatMap_nil, List.append_nil, List.append_assoc]
      rw [plB_fun]
      rfl
theorem asc_lt {xs : List Int} (h : ascN xs = true) (d : Nat) : ∀ i, i + d + 1 < xs.length → xs.getD i 0 < xs.getD (i + d + 1) 0 := by
  have hs : ∀ i, i + 1 < xs.length → xs.getD i 0 < xs.getD (i + 1) 0 := fun i hi => by
    unfold ascN at h
    rw [List.all_eq_true] at h
    have := h (i + 1) (by simp; omega)
    simp only [Bool.or_eq_true, decide_eq_true_eq] at this
    rcases this with h0 | h0
    · omega
    · rw [Nat.add_sub_cancel] at h0; exact h0
  induction d with
  | zero => intro i hi; exact hs i (by omega)
  | succ d ih =>
    intro i hi
    have h1 := ih i (by omega)
    have h2 := hs (i + d + 1) (by omega)
    rw [show i + (d + 1) + 1 = i + d + 1 + 1 by omega]
    omega
theorem adr_at {nx : Int} {ps : List PlD} {k : Nat} {r : PlD} (h : mpB nx ps = true) (hk : ps[k]? = some r) : adrOf ps r.ino = r.adr := by
  obtain ⟨_, _, _, _, ha⟩ := mpB_iff h
  refine adrOf_hit hk rfl fun j b hj hb => ?_
  have hkl := (List.getElem?_eq_some_iff.1 hk).1
  have := asc_lt ha (k - j - 1) j (by rw [inosP_length]; omega)
  rw [show j + (k - j - 1) + 1 = k by omega, inosP_at hb, inosP_at hk] at this
  omega
theorem adr_far {nx : Int} {ps : List PlD} (h : mpB nx ps = true) : adrOf ps 1001 = -1 := by
  obtain ⟨_, _, h3, h4, _⟩ := mpB_iff h
  refine adrOf_no fun j b hb => ?_
  have := h4 b (List.mem_of_getElem? hb)
  omega
theorem mpPut_byt (nx : Int) (ps : List PlD) : Byt (mpPut nx ps) := by
  unfold mpPut
  split
  · unfold mpEnc
    intro z hz
    rcases List.mem_append.1 hz with h | h
    · unfold encs at h
      obtain ⟨x, _, hx⟩ := List.mem_flatMap.1 h
      exact enc_byt' x z hx
    · obtain ⟨p, _, hp⟩ := List.mem_flatMap.1 h
      unfold encs at hp
      obtain ⟨x, _, hx⟩ := List.mem_flatMap.1 hp
      exact enc_byt' x z hx
  · intro z hz
    simp at hz
end

section
open Go.RowKit
/-- What is known of a map while it is drawn: its box, the answer's cell, its places (all blocks behind the base). -/
structure XM (w W : World) (gc n cap : Nat) (a : Option Addr) (zs : List Int) (X : Nat) (nx : Int) (v : Value) (ps : List PlD) : Prop where
  src : Src W gc n cap a zs
  gr : w.grownBy W (some gc)
  res : Blk W w.heap.size 26 #[.int .i64 0, .slice none 0 0]
  box : Blk W X 26 #[.int .i64 nx, v]
  own : W.ownsRow (w.heap.size + 1) 36 2 v ps.length (plE.xv ps)
  hX : w.heap.size < X
  hgc : gc < w.heap.size
theorem XM.step {w W W' : World} {gc n cap : Nat} {a : Option Addr} {zs : List Int} {X : Nat} {nx : Int} {v : Value} {ps : List PlD} (h : XM w W gc n cap a zs X nx v ps) (hs : Src W' gc n cap a zs) (hg : W.grownBy W' (some gc)) : XM w W' gc n cap a zs X nx v ps :=
  ⟨hs, h.gr.trans hg, h.res.kept hg (by have := h.hgc; omega), h.box.kept hg (by have := h.hgc; have := h.hX; omega), row_kept h.own hg (fun g hv e => by have := (row_at h.own hv).1; have := h.hgc; simp at e; omega), h.hX, h.hgc⟩
theorem XM.alloc {w W : World} {gc n cap : Nat} {a : Option Addr} {zs : List Int} {X : Nat} {nx : Int} {v : Value} {ps : List PlD} (h : XM w W gc n cap a zs X nx v ps) (o : Obj) : XM w (W.alloc o) gc n cap a zs X nx v ps :=
  ⟨h.src.alloc o, h.gr.trans (World.grownBy_alloc W o _), h.res.alloc o, h.box.alloc o, World.ownsRow.alloc h.own o, h.hX, h.hgc⟩
/-- What stays but for nothing stays but for one. -/
theorem grM_any {W W' : World} (h : W.grownBy W' none) (g : Nat) : W.grownBy W' (some g) := ⟨h.os, h.tape, h.output, h.size, fun k hk _ => h.block k hk (by simp)⟩
theorem XM.drew {w W : World} {gc n cap : Nat} {a : Option Addr} {zs : List Int} {X : Nat} {nx : Int} {v : Value} {ps : List PlD} (h : XM w W gc n cap a zs X nx v ps) : XM w W.drew gc n cap a zs X nx v ps :=
  ⟨h.src.keep (Below.refl _ _).drew, ⟨h.gr.os, h.gr.tape, h.gr.output, h.gr.size, h.gr.block⟩, h.res, h.box, h.own, h.hX, h.hgc⟩
theorem XM.next {w W : World} {gc n cap : Nat} {a : Option Addr} {zs : List Int} {X : Nat} {nx : Int} {v : Value} {ps : List PlD} (h : XM w W gc n cap a zs X nx v ps) (k : Int) : XM w (W.setCell ⟨X, 0, none⟩ (.int .i64 k)) gc n cap a zs X k v ps := by
  have hg := gr_setC W X 0 (.int .i64 k)
  have h1 := h.hX
  have h2 := h.hgc
  exact ⟨h.src.other hg (by omega), gr_mono h.gr (.inr (by omega)) hg, h.res.kept hg (by omega), h.box.set 0 _, row_kp h.own (KpT.grown (ts := [36]) hg h.box (by decide)) (by decide), h1, h2⟩
/-- One place more. -/
theorem XM.app {w W W' : World} {gc n cap : Nat} {a : Option Addr} {zs : List Int} {X : Nat} {nx : Int} {v v' : Value} {ps : List PlD} {p : PlD} (h : XM w W gc n cap a zs X nx v ps) (hg : W.grownBy W' v.ownBlock) (ho : W'.ownsRow (w.heap.size + 1) 36 2 v' (ps.length + 1) (plE.xv (ps ++ [p]))) : XM w (W'.setCell ⟨X, 1, none⟩ v') gc n cap a zs X nx v' (ps ++ [p]) ∧ Blk W' X 26 #[.int .i64 nx, v] := by
  have h1 := h.hX
  have h2 := h.hgc
  have hne : ∀ g, v.ownBlock = some g → g ≠ gc ∧ w.heap.size < g := fun g hv => by have := (row_at h.own hv).1; omega
  have s1 : Src W' gc n cap a zs := by
    cases hv : v.ownBlock with
    | none => rw [hv] at hg; exact h.src.keep ((Below.refl _ _).grown hg (Nat.le_refl _) (by simp))
    | some g => rw [hv] at hg; exact h.src.other hg (by have := hne g hv; omega)
  have g1 : w.grownBy W' (some gc) := by
    cases hv : v.ownBlock with
    | none => rw [hv] at hg; exact h.gr.trans (grM_any hg gc)
    | some g => rw [hv] at hg; exact gr_mono h.gr (.inr (by have := hne g hv; omega)) hg
  have r1 : Blk W' w.heap.size 26 #[.int .i64 0, .slice none 0 0] := (hg.block _ h.res.lt (fun e => by have := hne _ e.symm; omega)).trans h.res
  have kT : KpT W W' [26] := KpT.row hg h.own (by decide)
  have b1 := h.box.kp kT (by decide)
  have hs := gr_setC W' X 1 v'
  exact ⟨⟨s1.other hs (by omega), gr_mono g1 (.inr (by omega)) hs, r1.kept hs (by omega), b1.set 1 _, row_kp (by rw [List.length_append]; exact ho) (KpT.grown (ts := [36]) hs b1 (by decide)) (by decide), h1, h2⟩, b1⟩
/-- Places that are right for numbers below k, ascending. -/
structure PlG (k : Nat) (ps : List PlD) : Prop where
  each : ∀ p ∈ ps, 1 ≤ p.ino ∧ p.ino < (k : Int) ∧ 0 ≤ p.adr ∧ p.adr ≤ 191
  asc : ascN (inosP ps) = true
theorem plG_nil (k : Nat) : PlG k [] := ⟨fun p hp => by simp at hp, rfl⟩
theorem PlG.skip {k : Nat} {ps : List PlD} (h : PlG k ps) : PlG (k + 1) ps := ⟨fun p hp => by have := h.each p hp; omega, h.asc⟩
theorem PlG.put {k : Nat} {ps : List PlD} {q : Int} (h : PlG k ps) (hk : 1 ≤ k) (hq : 0 ≤ q ∧ q ≤ 191) : PlG (k + 1) (ps ++ [⟨(k : Int), q⟩]) := by
  refine ⟨fun p hp => ?_, ?_⟩
  · rcases List.mem_append.1 hp with h1 | h1
    · have := h.each p h1; omega
    · simp at h1; subst h1; dsimp only; omega
  · have ha := h.asc
    unfold ascN at ha ⊢
    rw [List.all_eq_true] at ha ⊢
    intro i hi
    rw [inosP_length, List.length_append, List.length_singleton] at hi
    simp only [List.mem_range] at hi
    have e : inosP (ps ++ [⟨(k : Int), q⟩]) = inosP ps ++ [(k : Int)] := by simp [inosP]
    rw [e]
    by_cases h1 : i < ps.length
    · have h2 := ha i (by rw [inosP_length]; simpa using h1)
      have g1 : (inosP ps ++ [(k : Int)]).getD i 0 = (inosP ps).getD i 0 := by simp [List.getD_eq_getElem?_getD, List.getElem?_append_left (show i < (inosP ps).length by rw [inosP_length]; exact h1)]
      have g2 : (inosP ps ++ [(k : Int)]).getD (i - 1) 0 = (inosP ps).getD (i - 1) 0 := by simp [List.getD_eq_getElem?_getD, List.getElem?_append_left (show i - 1 < (inosP ps).length by rw [inosP_length]; omega)]
      rw [g1, g2]
      exact h2
    · obtain rfl : i = ps.length := by omega
      by_cases h0 : ps.length = 0
      · simp [h0]
      · have g1 : (inosP ps ++ [(k : Int)]).getD ps.length 0 = (k : Int) := by rw [← inosP_length ps]; simp
        have g2 : (inosP ps ++ [(k : Int)]).getD (ps.length - 1) 0 = (ps[ps.length - 1]'(by omega)).ino := by
          have hm : ps.length - 1 < (inosP ps).length := by rw [inosP_length]; omega
          rw [List.getD_eq_getElem?_getD, List.getElem?_append_left hm, List.getElem?_eq_getElem hm]
          simp [inosP]
        rw [g1, g2]
        have := h.each _ (List.getElem_mem (show ps.length - 1 < ps.length by omega))
        simp only [Bool.or_eq_true, decide_eq_true_eq]
        omega
theorem PlG.ok {ps : List PlD} (h : PlG 12 ps) (hl : ps.length ≤ 30) : mpB 12 ps = true := by
  rw [mpB_asc, h.asc]
  simp only [Bool.and_eq_true, decide_eq_true_eq, List.all_eq_true, and_true]
  refine ⟨⟨hl, by omega, by omega⟩, fun p hp => ?_⟩
  have := h.each p hp
  unfold plOk
  simp only [Bool.and_eq_true, decide_eq_true_eq]
  omega
theorem d5_in (k : Nat) (h : k < 5) : 0 ≤ ([0, 5, 127, 128, 191] : List Int).getD k 0 ∧ ([0, 5, 127, 128, 191] : List Int).getD k 0 ≤ 191 := by
  rcases (show k = 0 ∨ k = 1 ∨ k = 2 ∨ k = 3 ∨ k = 4 by omega) with rfl | rfl | rfl | rfl | rfl <;> simp
theorem row_less {e : TypeId} {B B' s n : Nat} {w : World} {v : Value} {xs : List Value} (h : w.ownsRow B e s v n xs) (hB : B' ≤ B) : w.ownsRow B' e s v n xs := by
  refine ⟨h.1, ?_⟩
  rcases h.2 with h1 | ⟨g, c, cur, e1, h2, rest⟩
  · exact .inl h1
  · exact .inr ⟨g, c, cur, e1, Nat.le_trans hB h2, rest⟩
/-- A map was drawn, right or not: a few places, in memory of its own. -/
def Q14 (w : World) (gc n cap : Nat) (a : Option Addr) (zs : List Int) (e : Ending) (w' : World) : Prop := ∃ (nx : Int) (v : Value) (ps : List PlD), e = .returned (.agg #[.int .i64 nx, v]) ∧ ps.length ≤ 13 ∧ w'.ownsRow (w.heap.size + 1) 36 2 v ps.length (plE.xv ps) ∧ Src w' gc n cap a zs ∧ w.grownBy w' (some gc)
/-- A map was drawn: right, in memory of its own. -/
def R14 (w : World) (gc n cap : Nat) (a : Option Addr) (zs : List Int) (e : Ending) (w' : World) : Prop := ∃ (nx : Int) (v : Value) (ps : List PlD), e = .returned (.agg #[.int .i64 nx, v]) ∧ ps.length ≤ 12 ∧ w'.ownsRow (w.heap.size + 1) 36 2 v ps.length (plE.xv ps) ∧ (nx = 12 ∧ mpB nx ps = true) ∧ Src w' gc n cap a zs ∧ w.grownBy w' (some gc)
theorem XM.fin {w W : World} {gc n cap : Nat} {a : Option Addr} {zs : List Int} {X : Nat} {nx : Int} {v : Value} {ps : List PlD} (h : XM w W gc n cap a zs X nx v ps) (hm : ps.length ≤ 13) : Q14 w gc n cap a zs (.returned (.agg #[.int .i64 nx, v])) ((W.setCell ⟨w.heap.size, 0, none⟩ (.int .i64 nx)).setCell ⟨w.heap.size, 1, none⟩ v) := by
  have gf := set2_gr W w.heap.size (.int .i64 nx) v
  have h2 := h.hgc
  exact ⟨nx, v, ps, rfl, hm, rowM_set2 h.own h.res _ _, h.src.other gf (by omega), gr_mono h.gr (.inr (Nat.le_refl _)) gf⟩
theorem XM.finR {w W : World} {gc n cap : Nat} {a : Option Addr} {zs : List Int} {X : Nat} {v : Value} {ps : List PlD} (h : XM w W gc n cap a zs X 12 v ps) (hm : ps.length ≤ 12) (hp : PlG 12 ps) : R14 w gc n cap a zs (.returned (.agg #[.int .i64 12, v])) ((W.setCell ⟨w.heap.size, 0, none⟩ (.int .i64 12)).setCell ⟨w.heap.size, 1, none⟩ v) := by
  have gf := set2_gr W w.heap.size (.int .i64 12) v
  have h2 := h.hgc
  exact ⟨12, v, ps, rfl, hm, rowM_set2 h.own h.res _ _, ⟨rfl, hp.ok (by omega)⟩, h.src.other gf (by omega), gr_mono h.gr (.inr (Nat.le_refl _)) gf⟩
/-! draws -/
set_option maxRecDepth 100000 in
set_option maxHeartbeats 4000000 in
theorem l14DrawS (gc n cap : Nat) (a : Option Addr) (zs : List Int) (w : World) (h : Src w gc n cap a zs) :
    Calls Try.prog 32 #[.pointer (some ⟨gc, 0, none⟩)] w (R14 w gc n cap a zs) := by
  have hgc := h.cur.lt
  have x0 : XM w ((w.alloc (.cells #[.int .i64 0, .slice none 0 0] 26)).alloc (.cells #[.int .i64 12, .slice none 0 0] 26)) gc n cap a zs (w.heap.size + 1) 12 (.slice none 0 0) [] :=
    ⟨(h.alloc _).alloc _, (World.grownBy_alloc w _ _).trans (World.grownBy_alloc _ _ _), (Blk.new w _ _).alloc _, Blk.newAt (by simp), ⟨rfl, .inl ⟨rfl, rfl⟩⟩, by omega, hgc⟩
  obtain ⟨ie, hie, ze0, ze1, ze2⟩ := info_parts Try.infoPlace
  obtain ⟨P, hP⟩ : ∃ P, R14 w gc n cap a zs = P := ⟨_, rfl⟩
  have HP : Hid _ := hP
  rw [hP]
  clear hP h
  go_enter Try.func32, Try.ntmps32
  go_wp2
  obtain ⟨X, hX⟩ : ∃ X, w.heap.size + 1 = X := ⟨_, rfl⟩
  rw [hX] at x0 ⊢
  obtain ⟨W0, hW0⟩ : ∃ W, (w.alloc (.cells #[.int .i64 0, .slice none 0 0] 26)).alloc (.cells #[.int .i64 12, .slice none 0 0] 26) = W := ⟨_, rfl⟩
  rw [hW0] at x0 ⊢
  clear hW0
  have HX : Hid (w.heap.size + 1 = X) := hX
  clear hX
  go_loopw [4] (fun i wr => ∃ (k : Nat) (v : Value) (ps : List PlD), 1 ≤ k ∧ k ≤ 12 ∧ i = .int .i64 k ∧ ps.length + 1 ≤ k ∧ Hid (PlG k ps) ∧ XM w wr gc n cap a zs X 12 v ps) (fun i _ => 12 - (intOf i).toNat)
  case atStart => exact ⟨1, .slice none 0 0, [], by omega, by omega, rfl, by simp, plG_nil 1, x0⟩
  case round =>
    obtain ⟨k, v, ps, hk1, hk, rfl, hl, hpg, xk⟩ := hrel
    clear x0
    by_cases hkn : k < 12
    · have hki : (k : Int) < 12 := by omega
      go_wp2_with fail
      refine (once_step gc n cap a zs 2 wr xk.src (by omega) (by omega)).mono ?_
      rintro e u1 ⟨Bo, rfl, s1, g1⟩
      have d1 := xk.step s1 g1
      clear xk s1 g1
      cases Bo with
      | false =>
        go_wp2
        go_roundw
        all_goals first
          | (case rel => exact ⟨k + 1, v, ps, by omega, by omega, by go_num, by omega, hpg.out.skip, d1⟩)
          | (case rel => (repeat apply Exists.intro); exact ⟨⟨k + 1, v, ps, by omega, by omega, by go_num, by omega, hpg.out.skip, d1⟩, rfl⟩)
          | (case measure => simp [intOf]; omega)
      | true =>
        have x1 := d1.box.cell 1
        have dS := (d1.alloc (.cells #[.int .i64 0, .int .i64 5, .int .i64 127, .int .i64 128, .int .i64 191] 3)).drew
        have xS := dS.box.cell 1
        simp at x1 xS
        have hcI := int_step gc n cap a zs u1.heap.size 5 [0, 5, 127, 128, 191] _ dS.src rfl (by omega) (by omega) (by have := d1.src.cur.lt; omega) (fun j hj => ints_cells u1 [0, 5, 127, 128, 191] 3 j hj)
        go_upto_region 6 with fail
        go_region_law (first
          | (go_simp; go_at_call 34; (with_reducible refine hcI.mono ?_); rintro e u3 ⟨k5, rfl, hk5, s5, g5'⟩; have d3 := dS.step s5 g5'; obtain ⟨iq, hiq⟩ : ∃ z, ([0, 5, 127, 128, 191] : List Int).getD k5 0 = z := ⟨_, rfl⟩; rw [hiq]; have hpn : Hid (PlG (k + 1) (ps ++ [⟨(k : Int), iq⟩])) := (by rw [← hiq]; exact hpg.out.put hk1 (d5_in k5 hk5)); clear hiq; have x5 := d3.box.cell 1; have x6 := (d3.box.alloc (.cells #[.int .i64 (k : Int), .int .i64 iq] 36)).cell 1; (simp at x5 x6); have hrow := World.ownsRow.alloc d3.own (.cells #[.int .i64 (k : Int), .int .i64 iq] 36); have hbw : w.heap.size + 1 ≤ (u3.alloc (.cells #[.int .i64 (k : Int), .int .i64 iq] 36)).heap.size := (by simp; have := d3.gr.size; omega); dsimp only)
          | (refine step_append_lies (u3.alloc (.cells #[.int .i64 (k : Int), .int .i64 iq] 36)) rfl (.tmp 13) (.tmp 19) 24 rfl (w.heap.size + 1) 36 ie _ 2 16 Try.underlying24 hie ze0 ze1 ze2 rfl (by omega) v ps.length (plE.xv ps) rfl hrow ⟨u3.heap.size, 0, none⟩ 1 1 [.int .i64 (k : Int), .int .i64 iq] rfl rfl (pair_news u3 (.int .i64 (k : Int), .int .i64 iq) _) (by intro u hu; simp at hu; rcases hu with rfl | rfl <;> rfl) (by omega) (by unfold maxLen; omega) (by omega) hbw (u3.heap.size + 1) (by simp) ?_; intro g5 c5 u5 ho5 hg5 hat5 hlt5; obtain ⟨d6, y5⟩ := (d3.alloc (.cells #[.int .i64 (k : Int), .int .i64 iq] 36)).app (v' := .slice (some ⟨g5, 0, none⟩) (ps.length + 1) c5) (p := ⟨(k : Int), iq⟩) hg5 (by rw [plE_snoc]; exact ho5); have y5' := y5.cell 1; have f5 := y5.frozen 1; (simp at y5'))
          | fail)
        all_goals (clear d1 dS d3 x1 xS hcI hrow hbw)
        all_goals go_wp2
        all_goals go_roundw
        all_goals first
          | (case rel => exact ⟨k + 1, _, _, by omega, by omega, by go_num, by rw [List.length_append, List.length_singleton]; omega, hpn, d6⟩)
          | (case rel => (repeat apply Exists.intro); exact ⟨⟨k + 1, _, _, by omega, by omega, by go_num, by rw [List.length_append, List.length_singleton]; omega, hpn, d6⟩, rfl⟩)
          | (case measure => simp [intOf]; omega)
    · have hki : ¬ (k : Int) < 12 := by omega
      have hl12 : ps.length ≤ 12 := by omega
      obtain ⟨va, vc, rfl, _⟩ := rowM_form xk.own
      obtain ⟨q0, q1⟩ := xk.box.duo
      obtain ⟨r0, r1⟩ := xk.res.duo
      have f0 := xk.res.frozen 0
      have f1 := xk.res.frozen 1
      obtain rfl : k = 12 := by omega
      have FF : Hid _ := xk.finR hl12 hpg.out
      have zf := (xk.res.set 0 (.int .i64 12)).set 1 (.slice va ps.length vc)
      have dd0 := zf.cell 0
      have dd1 := zf.cell 1
      simp at dd0 dd1
      clear xk zf hl
      go_wp2
      refine bodyPost_ret (v := .agg #[.int .i64 12, .slice va ps.length vc]) (by simp [results, Try.f32, go_sem, dd0, dd1]) rfl ?_
      rw [← HP.out]
      exact FF.out
set_option maxRecDepth 100000 in
set_option maxHeartbeats 8000000 in
theorem l14AnyS (gc n cap : Nat) (a : Option Addr) (zs : List Int) (w : World) (h : Src w gc n cap a zs) :
    Calls Try.prog 30 #[.pointer (some ⟨gc, 0, none⟩)] w (Q14 w gc n cap a zs) := by
  have hgc := h.cur.lt
  have h0 := h.alloc (.cells #[.int .i64 0, .slice none 0 0] 26)
  have res0 : Blk (w.alloc (.cells #[.int .i64 0, .slice none 0 0] 26)) w.heap.size 26 #[.int .i64 0, .slice none 0 0] := Blk.new w _ _
  have G0 : w.grownBy (w.alloc (.cells #[.int .i64 0, .slice none 0 0] 26)) (some gc) := World.grownBy_alloc w _ _
  obtain ⟨ie, hie, ze0, ze1, ze2⟩ := info_parts Try.infoPlace
  obtain ⟨P, hP⟩ : ∃ P, Q14 w gc n cap a zs = P := ⟨_, rfl⟩
  have HP : Hid _ := hP
  rw [hP]
  clear hP
  go_enter Try.func30, Try.ntmps30
  go_wp2_with fail
  obtain ⟨W0, hW0⟩ : ∃ W, w.alloc (.cells #[.int .i64 0, .slice none 0 0] 26) = W := ⟨_, rfl⟩
  rw [hW0] at h0 res0 G0 ⊢
  have hs0 : W0.heap.size = w.heap.size + 1 := by rw [← hW0]; simp
  clear hW0
  refine (l14DrawS gc n cap a zs W0 h0).mono ?_
  rintro e w1 ⟨nx, v, ps, rfl, hl, ho, ⟨hnx, _⟩, s1, g1⟩
  clear hnx
  have res1 : Blk w1 w.heap.size 26 _ := res0.kept g1 (by omega)
  have G1 := G0.trans g1
  have hsz1 := g1.size
  have xr0 : XM w (w1.alloc (.cells #[.int .i64 nx, v] 26)) gc n cap a zs w1.heap.size nx v ps :=
    ⟨s1.alloc _, G1.trans (World.grownBy_alloc _ _ _), res1.alloc _, Blk.new w1 _ _, World.ownsRow.alloc (row_less ho (by omega)) _, by omega, hgc⟩
  clear res0 G0 g1 h0 res1 G1 s1 ho
  obtain ⟨va, vc, rfl, _⟩ := rowM_form xr0.own
  go_wp2_with fail
  obtain ⟨W1, hW1⟩ : ∃ W, w1.alloc (.cells #[.int .i64 nx, .slice va ps.length vc] 26) = W := ⟨_, rfl⟩
  rw [hW1] at xr0 ⊢
  obtain ⟨X, hX⟩ : ∃ X, w1.heap.size = X := ⟨_, rfl⟩
  rw [hX] at xr0 ⊢
  clear hW1 hX
  refine (below_step gc n cap a zs 8 W1 xr0.src (by omega) (by omega)).mono ?_
  rintro e w2 ⟨x, rfl, hx, s2, g2⟩
  have xr := xr0.step s2 g2
  clear xr0 s2 g2 hsz1
  by_cases h0 : x = 0
  · subst h0
    have hcl : ∀ j, j < 4 → (w2.alloc (.cells #[.int .i64 1, .int .i64 2, .int .i64 1000, .int .i64 1001] 3)).cell? ⟨w2.heap.size, j, none⟩ = some (.int .i64 (([1, 2, 1000, 1001] : List Int).getD j 0)) := fun j hj => ints_cells w2 [1, 2, 1000, 1001] 3 j hj
    have HCL : Hid _ := hcl
    clear hcl
    have hgl := xr.gr.size
    have XRH : Hid (XM w w2 gc n cap a zs X nx (.slice va ps.length vc) ps) := xr
    clear xr
    go_wp2_with fail
    refine (int_step gc n cap a zs w2.heap.size 4 [1, 2, 1000, 1001] _ (XRH.out.alloc _).src rfl (by omega) (by omega) (by omega) HCL.out).mono ?_
    rintro e w3 ⟨k, rfl, hk, s3, g3⟩
    generalize ([1, 2, 1000, 1001] : List Int).getD k 0 = q
    have x3 := (XRH.out.alloc _).step s3 g3
    have fb0 := x3.box.frozen 0
    have cb0 := x3.box.cell 0
    simp at cb0
    have xf := x3.next q
    clear s3 g3 HCL x3
    obtain ⟨q0, q1⟩ := (show Blk _ X 26 #[.int .i64 q, .slice va ps.length vc] from xf.box).duo
    obtain ⟨r0, r1⟩ := xf.res.duo
    have f0 := xf.res.frozen 0
    have f1 := xf.res.frozen 1
    have FF : Hid _ := xf.fin (by omega)
    have zf := (xf.res.set 0 (.int .i64 q)).set 1 (.slice va ps.length vc)
    have dd0 := zf.cell 0
    have dd1 := zf.cell 1
    simp at dd0 dd1
    clear xf zf
    go_wp2
    refine bodyPost_ret (v := .agg #[.int .i64 q, .slice va ps.length vc]) (by simp [results, Try.f30, go_sem, dd0, dd1]) rfl ?_
    rw [← HP.out]
    exact FF.out

  by_cases h1 : x = 1
  · subst h1
    rw [show ((1 : Nat) : Int) = 1 from rfl]
    have dS := (xr.alloc (.cells #[.int .i64 0, .int .i64 1, .int .i64 11, .int .i64 12] 3)).drew
    have dI := (xr.alloc (.cells #[.int .i64 (-1), .int .i64 0, .int .i64 192] 3)).drew
    have dSI := ((xr.alloc (.cells #[.int .i64 0, .int .i64 1, .int .i64 11, .int .i64 12] 3)).alloc (.cells #[.int .i64 (-1), .int .i64 0, .int .i64 192] 3)).drew
    have dIS := ((xr.alloc (.cells #[.int .i64 (-1), .int .i64 0, .int .i64 192] 3)).alloc (.cells #[.int .i64 0, .int .i64 1, .int .i64 11, .int .i64 12] 3)).drew
    have x0 := xr.box.cell 1
    have xS := dS.box.cell 1
    have xI := dI.box.cell 1
    have xSI := dSI.box.cell 1
    have xIS := dIS.box.cell 1
    simp at x0 xS xI xSI xIS
    have cA0 : ∀ j, j < 4 → (w2.alloc (.cells #[.int .i64 0, .int .i64 1, .int .i64 11, .int .i64 12] 3)).cell? ⟨w2.heap.size, j, none⟩ = some (.int .i64 (([0, 1, 11, 12] : List Int).getD j 0)) := fun j hj => ints_cells w2 [0, 1, 11, 12] 3 j hj
    have cA1 : ∀ j, j < 4 → ((w2.alloc (.cells #[.int .i64 (-1), .int .i64 0, .int .i64 192] 3)).alloc (.cells #[.int .i64 0, .int .i64 1, .int .i64 11, .int .i64 12] 3)).cell? ⟨w2.heap.size + 1, j, none⟩ = some (.int .i64 (([0, 1, 11, 12] : List Int).getD j 0)) := fun j hj => by have := ints_cells (w2.alloc (.cells #[.int .i64 (-1), .int .i64 0, .int .i64 192] 3)) [0, 1, 11, 12] 3 j hj; rw [World.size_alloc] at this; exact this
    have cA2 : ∀ j, j < 4 → ((w2.alloc (.cells #[.int .i64 0, .int .i64 1, .int .i64 11, .int .i64 12] 3)).alloc (.cells #[.int .i64 (-1), .int .i64 0, .int .i64 192] 3)).cell? ⟨w2.heap.size, j, none⟩ = some (.int .i64 (([0, 1, 11, 12] : List Int).getD j 0)) := fun j hj => Lib.cell?_alloc_some _ (cA0 j hj)
    have cB0 : ∀ j, j < 3 → (w2.alloc (.cells #[.int .i64 (-1), .int .i64 0, .int .i64 192] 3)).cell? ⟨w2.heap.size, j, none⟩ = some (.int .i64 (([-1, 0, 192] : List Int).getD j 0)) := fun j hj => ints_cells w2 [-1, 0, 192] 3 j hj
    have cB1 : ∀ j, j < 3 → ((w2.alloc (.cells #[.int .i64 0, .int .i64 1, .int .i64 11, .int .i64 12] 3)).alloc (.cells #[.int .i64 (-1), .int .i64 0, .int .i64 192] 3)).cell? ⟨w2.heap.size + 1, j, none⟩ = some (.int .i64 (([-1, 0, 192] : List Int).getD j 0)) := fun j hj => by have := ints_cells (w2.alloc (.cells #[.int .i64 0, .int .i64 1, .int .i64 11, .int .i64 12] 3)) [-1, 0, 192] 3 j hj; rw [World.size_alloc] at this; exact this
    have cB2 : ∀ j, j < 3 → ((w2.alloc (.cells #[.int .i64 (-1), .int .i64 0, .int .i64 192] 3)).alloc (.cells #[.int .i64 0, .int .i64 1, .int .i64 11, .int .i64 12] 3)).cell? ⟨w2.heap.size, j, none⟩ = some (.int .i64 (([-1, 0, 192] : List Int).getD j 0)) := fun j hj => Lib.cell?_alloc_some _ (cB0 j hj)
    have hgl := xr.src.cur.lt
    have hS1 := int_step gc n cap a zs w2.heap.size 4 [0, 1, 11, 12] _ dS.src rfl (by omega) (by omega) (by omega) cA0
    have hS2 := int_step gc n cap a zs w2.heap.size 4 [0, 1, 11, 12] _ dSI.src rfl (by omega) (by omega) (by omega) cA2
    have hS3 := int_step gc n cap a zs (w2.heap.size + 1) 4 [0, 1, 11, 12] _ dIS.src rfl (by omega) (by omega) (by omega) cA1
    have HC : Hid _ := And.intro cB1 cB2
    clear cA0 cA1 cA2 cB0 cB1 cB2
    go_upto_region 6 with fail
    go_region_law (first
      | (go_simp; go_at_call 34; (first | ((with_reducible refine hS1.mono ?_); rintro e u2 ⟨k4, rfl, hk4, s4, g4⟩; have d2 := dS.step s4 g4; have dK := d2.alloc (.cells #[.int .i64 (-1), .int .i64 0, .int .i64 192] 3); have hcI := int_step gc n cap a zs u2.heap.size 3 [-1, 0, 192] _ dK.src rfl (by omega) (by omega) (by have := d2.src.cur.lt; omega) (fun j hj => ints_cells u2 [-1, 0, 192] 3 j hj)) | ((with_reducible refine hS2.mono ?_); rintro e u2 ⟨k4, rfl, hk4, s4, g4⟩; have d2 := dSI.step s4 g4; have dK := d2; have hcI := int_step gc n cap a zs (w2.heap.size + 1) 3 [-1, 0, 192] _ dK.src rfl (by omega) (by omega) (by omega) (fun j hj => g4.cell (HC.out.1 j hj) (by simp; omega))) | ((with_reducible refine hS3.mono ?_); rintro e u2 ⟨k4, rfl, hk4, s4, g4⟩; have d2 := dIS.step s4 g4; have dK := d2; have hcI := int_step gc n cap a zs w2.heap.size 3 [-1, 0, 192] _ dK.src rfl (by omega) (by omega) (by omega) (fun j hj => g4.cell (HC.out.2 j hj) (by simp; omega))) | fail); obtain ⟨zq, hzq⟩ : ∃ z, ([0, 1, 11, 12] : List Int).getD k4 0 = z := ⟨_, rfl⟩; rw [hzq]; clear hzq; have x2 := d2.box.cell 1; have x3 := (d2.box.alloc (.cells #[.int .i64 (-1), .int .i64 0, .int .i64 192] 3)).cell 1; (simp at x2 x3); dsimp only)
      | (go_simp; go_at_call 34; (with_reducible refine hcI.mono ?_); rintro e u3 ⟨k5, rfl, hk5, s5, g5'⟩; have d3 := dK.step s5 g5'; obtain ⟨iq, hiq⟩ : ∃ z, ([-1, 0, 192] : List Int).getD k5 0 = z := ⟨_, rfl⟩; rw [hiq]; clear hiq; have x5 := d3.box.cell 1; have x6 := (d3.box.alloc (.cells #[.int .i64 zq, .int .i64 iq] 36)).cell 1; (simp at x5 x6); have hrow := World.ownsRow.alloc d3.own (.cells #[.int .i64 zq, .int .i64 iq] 36); have hbw : w.heap.size + 1 ≤ (u3.alloc (.cells #[.int .i64 zq, .int .i64 iq] 36)).heap.size := (by simp; have := d3.gr.size; omega); dsimp only)
      | (refine step_append_lies (u3.alloc (.cells #[.int .i64 zq, .int .i64 iq] 36)) rfl (.tmp 17) (.tmp 25) 24 rfl (w.heap.size + 1) 36 ie _ 2 16 Try.underlying24 hie ze0 ze1 ze2 rfl (by omega) (.slice va ps.length vc) ps.length (plE.xv ps) rfl hrow ⟨u3.heap.size, 0, none⟩ 1 1 [.int .i64 zq, .int .i64 iq] rfl rfl (pair_news u3 (.int .i64 zq, .int .i64 iq) _) (by intro u hu; simp at hu; rcases hu with rfl | rfl <;> rfl) (by omega) (by unfold maxLen; omega) (by omega) hbw (u3.heap.size + 1) (by simp) ?_; intro g5 c5 u5 ho5 hg5 hat5 hlt5; obtain ⟨d6, y5⟩ := (d3.alloc (.cells #[.int .i64 zq, .int .i64 iq] 36)).app (v' := .slice (some ⟨g5, 0, none⟩) (ps.length + 1) c5) (p := ⟨zq, iq⟩) hg5 (by rw [plE_snoc]; exact ho5); have y5' := y5.cell 1; have f5 := y5.frozen 1; (simp at y5'))
      | fail)
    all_goals
      clear d3 dK d2 dS dI dSI dIS hrow hbw x0 xS xI xSI xIS x2 x3 x5 x6 hS1 hS2 hS3 HC hcI xr
      have xf := d6
      clear d6 y5
      go_upto_region 7 with fail
      obtain ⟨W6, hW6⟩ : ∃ W, u5.setCell ⟨X, 1, none⟩ (.slice (some ⟨g5, 0, none⟩) (ps.length + 1) c5) = W := ⟨_, rfl⟩
      rw [hW6] at xf ⊢
      clear hW6 y5' f5
      obtain ⟨q0, q1⟩ := (show Blk _ X 26 #[.int .i64 nx, .slice (some ⟨g5, 0, none⟩) (ps.length + 1) c5] from xf.box).duo
      obtain ⟨r0, r1⟩ := xf.res.duo
      have f0 := xf.res.frozen 0
      have f1 := xf.res.frozen 1
      have FF : Hid _ := xf.fin (by rw [List.length_append, List.length_singleton]; omega)
      have zf := (xf.res.set 0 (.int .i64 nx)).set 1 (.slice (some ⟨g5, 0, none⟩) (ps.length + 1) c5)
      have dd0 := zf.cell 0
      have dd1 := zf.cell 1
      simp at dd0 dd1
      clear xf zf
      go_wp2
      refine bodyPost_ret (v := .agg #[.int .i64 nx, .slice (some ⟨g5, 0, none⟩) (ps.length + 1) c5]) (by simp [results, Try.f30, go_sem, dd0, dd1]) rfl ?_
      rw [← HP.out]
      exact FF.out

  have hx0 : ((x : Int) == 0) = false := by simpa using h0
  have hx1 : ((x : Int) == 1) = false := by simp; omega
  have xf := xr
  clear xr
  obtain ⟨q0, q1⟩ := (show Blk _ X 26 #[.int .i64 nx, .slice va ps.length vc] from xf.box).duo
  obtain ⟨r0, r1⟩ := xf.res.duo
  have f0 := xf.res.frozen 0
  have f1 := xf.res.frozen 1
  have FF : Hid _ := xf.fin (by omega)
  have zf := (xf.res.set 0 (.int .i64 nx)).set 1 (.slice va ps.length vc)
  have dd0 := zf.cell 0
  have dd1 := zf.cell 1
  simp at dd0 dd1
  clear xf zf
  go_wp2
  refine bodyPost_ret (v := .agg #[.int .i64 nx, .slice va ps.length vc]) (by simp [results, Try.f30, go_sem, dd0, dd1]) rfl ?_
  rw [← HP.out]
  exact FF.out
/-- A drawn map, in memory of its own. -/
def DrawnM (w : World) (e : Ending) (w' : World) : Prop := ∃ (nx : Int) (a : Option Addr) (c : Nat) (ps : List PlD), e = .returned (.agg #[.int .i64 nx, .slice a ps.length c]) ∧ ps.length ≤ 13 ∧ w'.ownsRow w.heap.size 36 2 (.slice a ps.length c) ps.length (plE.xv ps) ∧ Below w.heap.size w w'
set_option maxRecDepth 100000 in
set_option maxHeartbeats 2000000 in
theorem drawPutMap_any (a : Option Addr) (n cap : Nat) (zs : List Int) (w : World) (hn : zs.length = n) (hs : n ≤ 1048576) (hr : Rd w a zs) (hb : Byt zs) :
    Calls Try.prog 9 #[.slice a n cap] w (DrawnM w) := by
  have b0 : Below w.heap.size w (w.alloc (.cells #[.int .i64 0, .slice none 0 0] 26)) := (Below.refl _ w).alloc (Nat.le_refl _) _
  have z0 := Blk.new w 26 #[.int .i64 0, .slice none 0 0]
  have hsz : (w.alloc (.cells #[.int .i64 0, .slice none 0 0] 26)).heap.size = w.heap.size + 1 := by simp
  have HSZ : Hid _ := hsz
  have HB0 : Hid _ := b0
  obtain ⟨P, hP⟩ : ∃ P, DrawnM w = P := ⟨_, rfl⟩
  have HP : Hid _ := hP
  rw [hP]
  clear hsz hP
  go_enter Try.func9, Try.ntmps9
  go_wp2_with fail
  refine (new_step a n cap zs _ hn hs (hr.keep b0) hb).mono ?_
  rintro e w1 ⟨rfl, s1, b1⟩
  have zr := z0.keep b1
  have B1 := HB0.out.trans (b1.mono HB0.out.size)
  rw [HSZ.out] at s1 ⊢
  have hsz1 := b1.size
  rw [HSZ.out] at hsz1
  clear z0 b0 b1 hr hb hn
  go_wp2_with fail
  (with_reducible refine (l14AnyS _ n cap a zs w1 s1).mono ?_)
  rintro e w2 ⟨nx, v, ps, rfl, hl, ho, s2, g2⟩
  have zr2 : Blk w2 w.heap.size 26 #[.int .i64 0, .slice none 0 0] := Blk.kept zr g2 (by omega)
  have B2 : Below w.heap.size w w2 := B1.grown g2 B1.size (fun m hm => by simp at hm; omega)
  obtain ⟨va, vc, rfl, _⟩ := rowM_form ho
  obtain ⟨r0, r1⟩ := zr2.duo
  have f0 := zr2.frozen 0
  have f1 := zr2.frozen 1
  have zf := (zr2.set 0 (.int .i64 nx)).set 1 (.slice va ps.length vc)
  have gf := set2_gr w2 w.heap.size (.int .i64 nx) (.slice va ps.length vc)
  have dd0 := zf.cell 0
  have dd1 := zf.cell 1
  simp at dd0 dd1
  have HO : Hid _ := rowM_set2 (row_less ho (show w.heap.size ≤ _ by omega)) zr2 (.int .i64 nx) (.slice va ps.length vc)
  have HBF : Hid _ := B2.grown gf B2.size (fun k hk => by simp at hk; omega)
  clear zr zr2 B1 B2 s1 s2 g2 zf gf ho
  go_wp2
  refine bodyPost_ret (v := .agg #[.int .i64 nx, .slice va ps.length vc]) (by simp [results, Try.f9, go_sem, dd0, dd1]) rfl ?_
  rw [← HP.out]
  exact ⟨nx, va, vc, ps, rfl, hl, HO.out, HBF.out⟩
end
end Go.Proofs.Ytjaicciilehlnaa
