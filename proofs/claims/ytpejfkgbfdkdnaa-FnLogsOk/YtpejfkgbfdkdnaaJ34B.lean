/-
  Joined: RecF, LdN, DvFl.
-/
import Derived.Test.YtpejfkgbfdkdnaaJ33B
namespace Go.Proofs.Ytpejfkgbfdkdnaa
section
open Go.RowKit
theorem rcAh_sum (Y : List Int) : rcAh (summedOf Y) = Y := by
  unfold rcAh
  rw [summedOf_len, show Y.length + 4 - 4 = Y.length by omega]
  unfold summedOf
  exact List.take_left
theorem sumB_sum (Y : List Int) : sumB (summedOf Y) = true := by
  have h := rcAh_sum Y
  unfold rcAh at h
  unfold sumB
  rw [h, decide_eq_true rfl]
theorem rc_read (k s : Int) (S : ByteArray) (hS : S.size ≤ 1000000) (rest : List Int) :
    rcA (enc k ++ enc s ++ encT S ++ rest) = (clamp k, some (enc k).length) ∧ rcB (enc k ++ enc s ++ encT S ++ rest) = (clamp s, some (enc k ++ enc s).length) ∧ rcC (enc k ++ enc s ++ encT S ++ rest) = (S, some (enc k ++ enc s ++ encT S).length) := by
  have h1 : rcA (enc k ++ enc s ++ encT S ++ rest) = (clamp k, some (enc k).length) := by
    have := rdN_enc [] (enc s ++ encT S ++ rest) k
    simpa [rcA, List.append_assoc] using this
  have h2 : rcB (enc k ++ enc s ++ encT S ++ rest) = (clamp s, some (enc k ++ enc s).length) := by
    have := rdN_enc (enc k) (encT S ++ rest) s
    unfold rcB
    rw [h1]
    simpa [List.append_assoc] using this
  refine ⟨h1, h2, ?_⟩
  have := rdT_enc (enc k ++ enc s) rest S hS
  unfold rcC
  rw [h2]
  simpa [List.append_assoc] using this
theorem rc_enc (D : RecD) (h : recOk D = true) (hb : Byt D.body) : rcOk (summedOf (recEnc D)) = true ∧ rcR (summedOf (recEnc D)) = D := by
  obtain ⟨h1, h2, h3, h4, h5⟩ := (recOk_iff D).1 h
  have hS : (str D.body).size ≤ 1000000 := by rw [str_size]; omega
  obtain ⟨e1, e2, e3⟩ := rc_read D.kind D.seq (str D.body) hS []
  rw [List.append_nil, ← recEnc_eq] at e1 e2 e3
  have hD : rcD (recEnc D) = D := by
    unfold rcD
    rw [e1, e2, e3]
    obtain ⟨kind, seq, body⟩ := D
    dsimp only at *
    rw [strZ_str _ hb, clamp_self (by omega) (by omega), clamp_self (by omega) (by omega)]
  have hok : rcOk (summedOf (recEnc D)) = true := by
    unfold rcOk
    rw [rcAh_sum, sumB_sum, hD, h, e3, summedOf_len, decide_eq_true (by omega)]
    simp
  refine ⟨hok, ?_⟩
  unfold rcR
  rw [if_pos hok, rcAh_sum, hD]
theorem rc_parts {zs : List Int} (h : rcOk zs = true) : 4 ≤ zs.length ∧ summedOf (rcAh zs) = zs ∧ (rcC (rcAh zs)).2 = some (rcAh zs).length ∧ recOk (rcD (rcAh zs)) = true := by
  unfold rcOk at h
  simp only [Bool.and_eq_true, decide_eq_true_eq] at h
  refine ⟨h.1, ?_, h.2.2.1, h.2.2.2⟩
  have := h.2.1
  unfold sumB at this
  exact of_decide_eq_true this
theorem rc_whole {ms : List Int} (hb : Byt ms) (h : (rcC ms).2 = some ms.length) : recEnc (rcD ms) = ms := by
  unfold rcC at h
  cases hB : (rcB ms).2 with
  | none => rw [hB] at h; simp [rdT] at h
  | some q =>
    cases hA : (rcA ms).2 with
    | none => unfold rcB at hB; rw [hA] at hB; simp [rdN] at hB
    | some p =>
      have f1 := rdN_form hb (p := 0) (q := p) hA
      have hB' : (rdN ms (some p)).2 = some q := by unfold rcB at hB; rw [hA] at hB; exact hB
      have f2 := rdN_form hb hB'
      rw [hB] at h
      have f3 := rdT_form hb h
      rw [List.drop_length, List.append_nil] at f3
      rw [recEnc_eq]
      unfold rcD rcB rcC
      dsimp only
      rw [hB, hA, str_strZ]
      rw [List.drop_zero] at f1
      conv => rhs; rw [f1, f2, f3]
      rw [List.append_assoc]
      rfl
theorem rc_cut (D : RecD) (h : recOk D = true) (k : Nat) (hk : k < (summedOf (recEnc D)).length) : rcOk ((summedOf (recEnc D)).take k) = false := by
  cases hc : rcOk ((summedOf (recEnc D)).take k) with
  | false => rfl
  | true =>
    exfalso
    obtain ⟨g1, g2, g3, g4⟩ := rc_parts hc
    rw [summedOf_len] at hk
    rw [List.length_take, summedOf_len] at g1
    have hms : rcAh ((summedOf (recEnc D)).take k) = (recEnc D).take (k - 4) := by
      unfold rcAh
      rw [List.length_take, summedOf_len, List.take_take, show min (min k ((recEnc D).length + 4) - 4) k = k - 4 by omega]
      unfold summedOf
      rw [List.take_append_of_le_length (by omega)]
    rw [hms] at g3 g4
    have hw := rc_whole ((recEnc_byt D).take (k - 4)) g3
    have hbd := ((recOk_iff _).1 g4).2.2.2.2
    generalize rcD ((recEnc D).take (k - 4)) = D' at *
    have hS : (str D.body).size ≤ 1000000 := by rw [str_size]; have := ((recOk_iff D).1 h).2.2.2.2; omega
    have hS' : (str D'.body).size ≤ 1000000 := by rw [str_size]; omega
    obtain ⟨_, _, e3⟩ := rc_read D.kind D.seq (str D.body) hS []
    obtain ⟨_, _, e4⟩ := rc_read D'.kind D'.seq (str D'.body) hS' ((recEnc D).drop (k - 4))
    rw [List.append_nil, ← recEnc_eq] at e3
    rw [← recEnc_eq, hw, List.take_append_drop, e3] at e4
    have := congrArg Prod.snd e4
    simp only [Option.some.injEq, List.length_take] at this
    omega
end

section
open Go.RowKit
/-- The number is above that of each record of a page. -/
def SeqB (ds : List BkD) (seq : Int) : Prop := (0 ≤ seq ∧ seq ≤ 1000000) ∧ ∀ b ∈ ds, ∀ p ∈ b.ps, rcOk p.zs = true → (rcR p.zs).seq < seq
theorem SeqB.more {ds : List BkD} {s t : Int} (h : SeqB ds s) (hs : s ≤ t) (ht : t ≤ 1000000) : SeqB ds t :=
  ⟨⟨by have := h.1.1; omega, ht⟩, fun b hb p hp hr => by have := h.2 b hb p hp hr; omega⟩
theorem seqB_set {ds : List BkD} {k : Nat} {b : BkD} {s : Int} (h : SeqB ds s) (hb : ∀ p ∈ b.ps, rcOk p.zs = true → (rcR p.zs).seq < s) : SeqB (ds.set k b) s :=
  ⟨h.1, fun d hd => by
    rcases List.mem_or_eq_of_mem_set hd with h1 | h1
    · exact h.2 d h1
    · subst h1; exact hb⟩
theorem seqB_prog {ds : List BkD} {s : Int} (h : SeqB ds s) (k : Nat) {zs : List Int} (hz : rcOk zs = true → (rcR zs).seq < s) : SeqB (progAt ds k zs) s := by
  unfold progAt
  split
  · rename_i b hb
    refine seqB_set h fun p hp => ?_
    rcases List.mem_or_eq_of_mem_set hp with h1 | h1
    · exact h.2 b (List.mem_of_getElem? hb) p h1
    · subst h1; exact hz
  · exact h
theorem seqB_bad {ds : List BkD} {s : Int} (h : SeqB ds s) (k : Nat) : SeqB (badD ds k) s := by
  unfold badD
  split
  · rename_i b hb
    exact seqB_set h (h.2 b (List.mem_of_getElem? hb))
  · exact h
theorem seqB_new (x : Int) : SeqB (newD x) 0 := by
  refine ⟨by omega, fun b hb p hp => ?_⟩
  unfold newD at hb
  split at hb
  · have h1 := List.eq_of_mem_replicate hb
    subst h1
    have h2 := List.eq_of_mem_replicate hp
    subst h2
    intro h3
    exact absurd h3 (by decide)
  · simp at hb
theorem SeqB.lgB {ds : List BkD} {ops : Int} {fs : List FtD} {s : Int} (h : SeqB ds s) (hd : devB ds ops fs = true) : lgB ds ops fs s = true := by
  unfold Go.Proofs.Ytpejfkgbfdkdnaa.lgB
  have h1 : mostL (pgsL ds) ≤ s := (mostL_le _ _).2 ⟨h.1.1, fun z hz hr => by
    obtain ⟨b, hb, p, hp, rfl⟩ := mem_pgsL.1 hz
    exact h.2 b hb p hp hr⟩
  rw [hd]
  simp [h.1.1, h.1.2, h1]
/-- A beginning of a record that is a record is that record. -/
theorem seq_cut {kind seq : Int} {body : List Int} (hr : recOk ⟨kind, seq, body⟩ = true) (hb : Byt body) (j : Nat) (h : rcOk ((summedOf (recEnc ⟨kind, seq, body⟩)).take j) = true) : (rcR ((summedOf (recEnc ⟨kind, seq, body⟩)).take j)).seq = seq := by
  by_cases hj : j < (summedOf (recEnc ⟨kind, seq, body⟩)).length
  · rw [rc_cut _ hr j hj] at h
    exact absurd h (by decide)
  · rw [List.take_of_length_le (by omega), (rc_enc _ hr hb).2]
/-- One try: what it leaves. -/
theorem seqB_stN {fs : List FtD} {k : Nat} {Z : List Int} {S : LgS} {seq : Int} (hZ : ∀ j, rcOk (Z.take j) = true → (rcR (Z.take j)).seq < seq + 1) (h : SeqB S.ds seq) (hs : seq + 1 ≤ 1000000) :
    SeqB (stN fs k Z S).ds (seq + 1) ∧ (stO fs k Z S = 2 → SeqB (stN fs k Z S).ds seq) ∧ (stO fs k Z S ≠ 0 → (stN fs k Z S).down = false → SeqB (stN fs k Z S).ds seq) := by
  have h1 : SeqB S.ds (seq + 1) := h.more (by omega) hs
  have hZ0 : rcOk Z = true → (rcR Z).seq < seq + 1 := by
    have := hZ Z.length
    rw [List.take_length] at this
    exact this
  unfold stN stO outDs outDown outCode
  by_cases hc : stC fs k Z.length S = 0
  · simp only [hc, if_true]
    cases faD S.ops fs with
    | none => exact ⟨seqB_prog h1 _ hZ0, fun h2 => absurd h2 (by decide), fun h2 => absurd rfl h2⟩
    | some f =>
      dsimp only
      by_cases hf : f.kd = 1
      · simp only [hf, if_true]
        exact ⟨seqB_bad h1 _, fun _ => seqB_bad h _, fun _ _ => seqB_bad h _⟩
      · simp only [if_neg hf]
        exact ⟨seqB_prog h1 _ (hZ _), fun h2 => absurd h2 (by decide), fun _ h2 => absurd h2 (by decide)⟩
  · simp only [if_neg hc]
    exact ⟨h1, fun _ => h, fun _ _ => h⟩
theorem seqB_wrA {fs : List FtD} {Z : List Int} {spare seq : Int} (hZ : ∀ j, rcOk (Z.take j) = true → (rcR (Z.take j)).seq < seq + 1) (hs : seq + 1 ≤ 1000000) : ∀ (f : Nat) (S : LgS), SeqB S.ds seq → SeqB (wrA fs Z spare f S).S.ds ((wrA fs Z spare f S).sq seq) := by
  intro f
  induction f with
  | zero => intro S h; exact h
  | succ f ih =>
    intro S h
    have h3 := fun k => seqB_stN (fs := fs) (k := k) (S := S) hZ h hs
    unfold wrA
    split
    · exact h
    · split
      · exact (h3 _).1
      · split
        · rename_i h5
          exact ih _ ((h3 _).2.1 h5)
        · rename_i h4 h5
          unfold WrA.sq
          dsimp only
          split
          · exact (h3 _).1
          · rename_i h6
            exact (h3 _).2.2 h4 (by simpa using h6)
theorem seqB_wrOut {ds : List BkD} {ops : Int} {fs : List FtD} {down : Bool} {seq kind : Int} {body : List Int} {spare : Int} (hb : Byt body) (h : SeqB ds seq) : SeqB (wrOut ds ops fs down seq kind body spare).S.ds ((wrOut ds ops fs down seq kind body spare).sq seq) := by
  unfold wrOut
  split
  · exact h
  · rename_i h1
    split
    · exact h
    · have h2 : recOk ⟨kind, seq, body⟩ = true := by
        cases hr : recOk ⟨kind, seq, body⟩ with
        | true => rfl
        | false => exact absurd (.inl hr) h1
      have h3 : seq ≠ 1000000 := fun e => h1 (.inr (.inr e))
      exact seqB_wrA (fun j hj => by rw [seq_cut h2 hb j hj]; omega) (by have := h.1.2; omega) _ _ h
theorem ops_wrA {fs : List FtD} {Z : List Int} {spare : Int} : ∀ (f : Nat) (S : LgS), (wrA fs Z spare f S).S.ops ≤ S.ops + (f : Int) := by
  intro f
  induction f with
  | zero => intro S; show S.ops ≤ S.ops + 0; omega
  | succ f ih =>
    intro S
    have h1 : ∀ k, (stN fs k Z S).ops ≤ S.ops + 1 := fun k => by
      show outOps _ S.ops ≤ _
      unfold outOps
      split <;> omega
    unfold wrA
    split
    · show S.ops ≤ _; omega
    · split
      · have := h1 (openD S.ds spare).toNat
        show (stN fs (openD S.ds spare).toNat Z S).ops ≤ _
        omega
      · split
        · have := h1 (openD S.ds spare).toNat
          have := ih (stN fs (openD S.ds spare).toNat Z S)
          omega
        · have := h1 (openD S.ds spare).toNat
          show (stN fs (openD S.ds spare).toNat Z S).ops ≤ _
          omega
/-- What a draw of t rounds leaves: few operations, a small number. -/
def SeqO (t : Nat) (ds : List BkD) (ops seq : Int) : Prop := SeqB ds seq ∧ seq ≤ t ∧ ops ≤ 26 * t
theorem seqO_wrOut {t : Nat} {ds : List BkD} {ops : Int} {fs : List FtD} {down : Bool} {seq kind : Int} {body : List Int} {spare : Int} (hb : Byt body) (hd : ds.length ≤ 24) (h : SeqO t ds ops seq) : SeqO (t + 1) (wrOut ds ops fs down seq kind body spare).S.ds (wrOut ds ops fs down seq kind body spare).S.ops ((wrOut ds ops fs down seq kind body spare).sq seq) := by
  obtain ⟨h1, h2, h3⟩ := h
  refine ⟨seqB_wrOut hb h1, ?_, ?_⟩
  · unfold WrA.sq
    split <;> omega
  · unfold wrOut
    split
    · show ops ≤ _; omega
    · split
      · show ops ≤ _; omega
      · have := ops_wrA (fs := fs) (Z := summedOf (recEnc ⟨kind, seq, body⟩)) (spare := spare) (ds.length + 1) ⟨ds, ops, false⟩
        dsimp only at this
        omega
theorem SeqO.le {t u : Nat} {ds : List BkD} {ops seq : Int} (h : SeqO t ds ops seq) (hu : t ≤ u) : SeqO u ds ops seq := ⟨h.1, by have := h.2.1; omega, by have := h.2.2; omega⟩
end

section
open Go.RowKit
/-- Faults that are right, before a time. -/
structure FtG (t : Nat) (fs : List FtD) : Prop where
  each : ∀ p ∈ fs, 0 ≤ p.tm ∧ p.tm < (t : Int) ∧ 1 ≤ p.kd ∧ p.kd ≤ 2 ∧ 0 ≤ p.kp ∧ p.kp ≤ 400
  asc : ∀ (k : Nat) (r r' : FtD), fs[k]? = some r → fs[k + 1]? = some r' → r.tm < r'.tm
theorem ftG_nil : FtG 0 [] := ⟨fun p hp => by simp at hp, fun k r r' h => by simp at h⟩
theorem FtG.put {t x : Nat} {fs : List FtD} {kd kp : Int} (h : FtG t fs) (hk : 1 ≤ kd ∧ kd ≤ 2) (hp : 0 ≤ kp ∧ kp ≤ 400) : FtG (t + x + 1) (fs ++ [⟨((t + x : Nat) : Int), kd, kp⟩]) := by
  refine ⟨fun p hp' => ?_, fun k r r' h1 h2 => ?_⟩
  · rcases List.mem_append.1 hp' with h1 | h1
    · have := h.each p h1; omega
    · simp at h1; subst h1; dsimp only; omega
  · by_cases hl : k + 1 < fs.length
    · rw [List.getElem?_append_left hl] at h2
      rw [List.getElem?_append_left (by omega)] at h1
      exact h.asc k r r' h1 h2
    · by_cases he : k + 1 = fs.length
      · rw [List.getElem?_append_right (by omega)] at h2
        rw [List.getElem?_append_left (by omega)] at h1
        rw [he, Nat.sub_self] at h2
        simp at h2
        subst h2
        have := h.each r (List.mem_of_getElem? h1)
        dsimp only
        omega
      · have : (fs ++ [(⟨((t + x : Nat) : Int), kd, kp⟩ : FtD)]).length ≤ k + 1 := by simp; omega
        rw [List.getElem?_eq_none this] at h2
        simp at h2
theorem FtG.ok {t : Nat} {fs : List FtD} (h : FtG t fs) (ht : t ≤ 100001) (hl : fs.length ≤ 20) : faultsB fs = true := by
  unfold faultsB
  simp only [Bool.and_eq_true, decide_eq_true_eq, List.all_eq_true, List.mem_range]
  refine ⟨fun i hi => ?_, hl⟩
  obtain ⟨r, hr⟩ : ∃ r, fs[i]? = some r := ⟨_, List.getElem?_eq_getElem hi⟩
  rw [ftAt_at hr]
  have h1 := h.each r (List.mem_of_getElem? hr)
  have h2 : ftOk r = true := by unfold ftOk; simp only [Bool.and_eq_true, decide_eq_true_eq]; omega
  rw [h2]
  by_cases h0 : i = 0
  · simp [h0]
  · obtain ⟨m, rfl⟩ : ∃ m, i = m + 1 := ⟨i - 1, by omega⟩
    obtain ⟨q, hq⟩ : ∃ r, fs[m]? = some r := ⟨_, List.getElem?_eq_getElem (by omega)⟩
    have h3 := h.asc m q r hq hr
    have h4 : fs.getD (m + 1 - 1) ftZ = q := by simp [List.getD_eq_getElem?_getD, hq]
    rw [h4]
    simp [h3]
theorem ftE_snoc (fs : List FtD) (p : FtD) : ftE.xv (fs ++ [p]) = ftE.xv fs ++ [.int .i64 p.tm, .int .i64 p.kd, .int .i64 p.kp] := by rw [El.xv_append]; rfl
theorem gr_non {W W' : World} (h : W.grownBy W' none) (g : Nat) : W.grownBy W' (some g) := ⟨h.os, h.tape, h.output, h.size, fun k hk _ => h.block k hk (by simp)⟩
/-- What is known while faults are drawn. -/
structure XF (w W : World) (gc n cap : Nat) (a : Option Addr) (zs : List Int) (v : Value) (fs : List FtD) : Prop where
  src : Src W gc n cap a zs
  gr : w.grownBy W (some gc)
  own : W.ownsRow w.heap.size 93 3 v fs.length (ftE.xv fs)
  hgc : gc < w.heap.size
theorem XF.step {w W W' : World} {gc n cap : Nat} {a : Option Addr} {zs : List Int} {v : Value} {fs : List FtD} (h : XF w W gc n cap a zs v fs) (hs : Src W' gc n cap a zs) (hg : W.grownBy W' (some gc)) : XF w W' gc n cap a zs v fs :=
  ⟨hs, h.gr.trans hg, row_kept h.own hg (fun g hv e => by have := (row_at h.own hv).1; have := h.hgc; simp at e; omega), h.hgc⟩
theorem XF.alloc {w W : World} {gc n cap : Nat} {a : Option Addr} {zs : List Int} {v : Value} {fs : List FtD} (h : XF w W gc n cap a zs v fs) (o : Obj) : XF w (W.alloc o) gc n cap a zs v fs :=
  ⟨h.src.alloc o, h.gr.trans (World.grownBy_alloc W o _), World.ownsRow.alloc h.own o, h.hgc⟩
/-- One fault more. -/
theorem XF.app {w W W' : World} {gc n cap : Nat} {a : Option Addr} {zs : List Int} {v v' : Value} {fs : List FtD} {p : FtD} (h : XF w W gc n cap a zs v fs) (hg : W.grownBy W' v.ownBlock) (ho : W'.ownsRow w.heap.size 93 3 v' (fs.length + 1) (ftE.xv (fs ++ [p]))) : XF w W' gc n cap a zs v' (fs ++ [p]) := by
  have h2 := h.hgc
  have hne : ∀ g, v.ownBlock = some g → g ≠ gc ∧ w.heap.size ≤ g := fun g hv => by have := (row_at h.own hv).1; omega
  have s1 : Src W' gc n cap a zs := by
    cases hv : v.ownBlock with
    | none => rw [hv] at hg; exact h.src.keep ((Below.refl _ _).grown hg (Nat.le_refl _) (by simp))
    | some g => rw [hv] at hg; exact h.src.other hg (by have := hne g hv; omega)
  have g1 : w.grownBy W' (some gc) := by
    cases hv : v.ownBlock with
    | none => rw [hv] at hg; exact h.gr.trans (gr_non hg gc)
    | some g => rw [hv] at hg; exact gr_mono h.gr (.inr (hne g hv).2) hg
  exact ⟨s1, g1, by rw [List.length_append]; exact ho, h2⟩
/-- Faults were drawn, in memory of their own. -/
def FaDr (w : World) (gc n cap : Nat) (a : Option Addr) (zs : List Int) (e : Ending) (w' : World) : Prop := ∃ (v : Value) (fs : List FtD), e = .returned v ∧ fs.length ≤ 3 ∧ faultsB fs = true ∧ w'.ownsRow w.heap.size 93 3 v fs.length (ftE.xv fs) ∧ Src w' gc n cap a zs ∧ w.grownBy w' (some gc)
theorem f5_in (k : Nat) (h : k < 5) : 0 ≤ ([0, 1, 5, 8, 400] : List Int).getD k 0 ∧ ([0, 1, 5, 8, 400] : List Int).getD k 0 ≤ 400 := by
  rcases (show k = 0 ∨ k = 1 ∨ k = 2 ∨ k = 3 ∨ k = 4 by omega) with rfl | rfl | rfl | rfl | rfl <;> simp
set_option maxRecDepth 100000 in
set_option maxHeartbeats 4000000 in
theorem l11FaultListS (gc n cap : Nat) (a : Option Addr) (zs : List Int) (w : World) (h : Src w gc n cap a zs) :
    Calls Try.prog 41 #[.pointer (some ⟨gc, 0, none⟩)] w (FaDr w gc n cap a zs) := by
  have hgc := h.cur.lt
  have x0 : XF w (w.alloc (.cells #[] 93)) gc n cap a zs (.slice (some ⟨w.heap.size, 0, none⟩) 0 0) [] :=
    ⟨h.alloc _, World.grownBy_alloc w _ _, empty_row w w.heap.size 93 3 (Nat.le_refl _), hgc⟩
  obtain ⟨ie, hie, ze0, ze1, ze2⟩ := info_parts Try.infoFault
  obtain ⟨P, hP⟩ : ∃ P, FaDr w gc n cap a zs = P := ⟨_, rfl⟩
  have HP : Hid _ := hP
  rw [hP]
  clear hP h
  go_enter Try.func41, Try.ntmps41
  go_wp2_with fail
  obtain ⟨W0, hW0⟩ : ∃ W, w.alloc (.cells #[] 93) = W := ⟨_, rfl⟩
  rw [hW0] at x0 ⊢
  clear hW0
  refine (below_step gc n cap a zs 4 W0 x0.src (by omega) (by omega)).mono ?_
  rintro e w1 ⟨x, rfl, hx, s1, g1⟩
  have d1 := x0.step s1 g1
  clear x0 s1 g1
  go_wp2
  go_loopw [3, 4, 5] (fun o t i wr => ∃ (k q : Nat) (v : Value) (fs : List FtD), o = v ∧ t = .int .i64 q ∧ i = .int .i64 k ∧ fs.length + k ≤ 3 ∧ q ≤ 12 * fs.length ∧ Hid (FtG q fs) ∧ XF w wr gc n cap a zs v fs) (fun _ _ i _ => (intOf i).toNat)
  case atStart => exact ⟨x, 0, _, [], rfl, rfl, rfl, by simp; omega, by simp, ftG_nil, d1⟩
  case round =>
    obtain ⟨k, q, v, fs, hov, rfl, rfl, hl, hq, hfg, xk⟩ := hrel
    have hov2 := hov.symm
    subst hov2
    clear d1
    by_cases hk0 : 0 < k
    · have hki : (0 : Int) < (k : Int) := by omega
      have hkd : decide (0 < k) = true := by simp; omega
      go_wp2_with fail
      refine (below_step gc n cap a zs 12 wr xk.src (by omega) (by omega)).mono ?_
      rintro e w2 ⟨y, rfl, hy, s2, g2⟩
      have d2 := xk.step s2 g2
      obtain ⟨T, hT⟩ : ∃ T, q + y = T := ⟨_, rfl⟩
      have HT : Hid (q + y = T) := hT
      have hwa : IntKind.i64.wrap ((q : Int) + (y : Int)) = (T : Int) := by rw [IntKind.wrap_i64]; omega
      clear hT
      clear xk s2 g2
      go_wp2_with fail
      refine (below_step gc n cap a zs 2 w2 d2.src (by omega) (by omega)).mono ?_
      rintro e w3 ⟨z, rfl, hz, s3, g3⟩
      have d3 := d2.step s3 g3
      have hwz : IntKind.i64.wrap (1 + (z : Int)) = 1 + (z : Int) := by rw [IntKind.wrap_i64]; omega
      have dS := d3.alloc (.cells #[.int .i64 0, .int .i64 1, .int .i64 5, .int .i64 8, .int .i64 400] 3)
      have hcI := int_step gc n cap a zs w3.heap.size 5 [0, 1, 5, 8, 400] _ dS.src rfl (by omega) (by omega) (by have := d3.src.cur.lt; omega) (fun j hj => ints_cells w3 [0, 1, 5, 8, 400] 3 j hj)
      clear d2 s3 g3
      go_wp2_with fail
      (with_reducible refine hcI.mono ?_)
      rintro e u4 ⟨k5, rfl, hk5, s5, g5'⟩
      have d4 := dS.step s5 g5'
      have hkp := f5_in k5 hk5
      obtain ⟨iq, hiq⟩ : ∃ z, ([0, 1, 5, 8, 400] : List Int).getD k5 0 = z := ⟨_, rfl⟩
      rw [hiq] at hkp ⊢
      have hpn : Hid (FtG (T + 1) (fs ++ [⟨(T : Int), 1 + (z : Int), iq⟩])) := by rw [← HT.out]; exact hfg.out.put (by omega) hkp
      have hrow := World.ownsRow.alloc d4.own (.cells #[.int .i64 (T : Int), .int .i64 (1 + (z : Int)), .int .i64 iq] 93)
      have hbw : w.heap.size ≤ (u4.alloc (.cells #[.int .i64 (T : Int), .int .i64 (1 + (z : Int)), .int .i64 iq] 93)).heap.size := by simp; have := d4.gr.size; omega
      clear hiq hcI d3 dS s5 g5' hfg
      go_wp2_with (at_builtin; refine wpList_append_lies (u4.alloc (.cells #[.int .i64 (T : Int), .int .i64 (1 + (z : Int)), .int .i64 iq] 93)) rfl (.tmp 17) (.tmp 26) 27 rfl w.heap.size 93 ie _ 3 24 Try.underlying27 hie ze0 ze1 ze2 rfl (by omega) v fs.length (ftE.xv fs) rfl hrow ⟨u4.heap.size, 0, none⟩ 1 1 [.int .i64 (T : Int), .int .i64 (1 + (z : Int)), .int .i64 iq] rfl rfl (three_news u4 _ _ _ _) (by intro u hu; simp at hu; rcases hu with rfl | rfl | rfl <;> rfl) (by omega) (by unfold maxLen; omega) (by omega) hbw (u4.heap.size + 1) (by simp) ?_; intro g5 c5 u5 ho5 hg5 hat5 hlt5; have d6 := (d4.alloc (.cells #[.int .i64 (T : Int), .int .i64 (1 + (z : Int)), .int .i64 iq] 93)).app (v' := .slice (some ⟨g5, 0, none⟩) (fs.length + 1) c5) (p := ⟨(T : Int), 1 + (z : Int), iq⟩) hg5 (by rw [ftE_snoc]; exact ho5); clear hrow hbw hwa hwz)
      have hT := HT.out
      have hwt : IntKind.i64.wrap ((T : Int) + 1) = ((T + 1 : Nat) : Int) := by rw [IntKind.wrap_i64]; omega
      obtain ⟨m, hm⟩ : ∃ m, k = m + 1 := ⟨k - 1, by omega⟩
      subst hm
      have hwk : IntKind.i64.wrap (((m + 1 : Nat) : Int) - 1) = (m : Int) := by rw [IntKind.wrap_i64]; omega
      clear hT
      go_wp2
      go_roundw
      case rel => exact ⟨m, T + 1, _, _, rfl, by have := HT.out; rw [show wrap64 ((T : Int) + 1) = ((T + 1 : Nat) : Int) by unfold wrap64; omega], by congr 1; omega, by rw [List.length_append, List.length_singleton]; omega, by have := HT.out; rw [List.length_append, List.length_singleton]; omega, hpn, d6⟩
      case measure => simp [intOf]
    · have hki : ¬ (0 : Int) < (k : Int) := by omega
      have hkd : decide (0 < k) = false := by simp; omega
      have hok : faultsB fs = true := hfg.out.ok (by omega) (by omega)
      go_wp2
      rw [← HP.out]
      exact ⟨_, _, rfl, by omega, hok, xk.own, xk.src, xk.gr⟩
end
end Go.Proofs.Ytpejfkgbfdkdnaa
