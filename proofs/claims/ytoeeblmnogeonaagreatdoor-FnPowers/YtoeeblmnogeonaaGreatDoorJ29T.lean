/-
  Joined: RecF, LdN, LogO, TmM.
-/
import Derived.Test.YtoeeblmnogeonaaGreatDoorJ28T
namespace Go.Proofs.YtoeeblmnogeonaaGreatDoor
section
open Go.RowKit
theorem rcAh_sum (Y : List Int) : rcAh (summedOf Y) = Y := by
  unfold rcAh
  rw [summedOf_len, show Y.length + 4 - 4 = Y.length by omega]
  unfold summedOf
  exact List.take_left
theorem sumB_sum (Y : List Int) : sumB (summedOf Y) = true := by
  have h := rcAh_sum Y
  unfold rcAh at h
  unfold sumB
  rw [h, decide_eq_true rfl]
theorem rc_read (k s : Int) (S : ByteArray) (hS : S.size ≤ 1000000) (rest : List Int) :
    rcA (enc k ++ enc s ++ encT S ++ rest) = (clamp k, some (enc k).length) ∧ rcB (enc k ++ enc s ++ encT S ++ rest) = (clamp s, some (enc k ++ enc s).length) ∧ rcC (enc k ++ enc s ++ encT S ++ rest) = (S, some (enc k ++ enc s ++ encT S).length) := by
  have h1 : rcA (enc k ++ enc s ++ encT S ++ rest) = (clamp k, some (enc k).length) := by
    have := rdN_enc [] (enc s ++ encT S ++ rest) k
    simpa [rcA, List.append_assoc] using this
  have h2 : rcB (enc k ++ enc s ++ encT S ++ rest) = (clamp s, some (enc k ++ enc s).length) := by
    have := rdN_enc (enc k) (encT S ++ rest) s
    unfold rcB
    rw [h1]
    simpa [List.append_assoc] using this
  refine ⟨h1, h2, ?_⟩
  have := rdT_enc (enc k ++ enc s) rest S hS
  unfold rcC
  rw [h2]
  simpa [List.append_assoc] using this
theorem rc_enc (D : RecD) (h : recOk D = true) (hb : Byt D.body) : rcOk (summedOf (recEnc D)) = true ∧ rcR (summedOf (recEnc D)) = D := by
  obtain ⟨h1, h2, h3, h4, h5⟩ := (recOk_iff D).1 h
  have hS : (str D.body).size ≤ 1000000 := by rw [str_size]; omega
  obtain ⟨e1, e2, e3⟩ := rc_read D.kind D.seq (str D.body) hS []
  rw [List.append_nil, ← recEnc_eq] at e1 e2 e3
  have hD : rcD (recEnc D) = D := by
    unfold rcD
    rw [e1, e2, e3]
    obtain ⟨kind, seq, body⟩ := D
    dsimp only at *
    rw [strZ_str _ hb, clamp_self (by omega) (by omega), clamp_self (by omega) (by omega)]
  have hok : rcOk (summedOf (recEnc D)) = true := by
    unfold rcOk
    rw [rcAh_sum, sumB_sum, hD, h, e3, summedOf_len, decide_eq_true (by omega)]
    simp
  refine ⟨hok, ?_⟩
  unfold rcR
  rw [if_pos hok, rcAh_sum, hD]
theorem rc_parts {zs : List Int} (h : rcOk zs = true) : 4 ≤ zs.length ∧ summedOf (rcAh zs) = zs ∧ (rcC (rcAh zs)).2 = some (rcAh zs).length ∧ recOk (rcD (rcAh zs)) = true := by
  unfold rcOk at h
  simp only [Bool.and_eq_true, decide_eq_true_eq] at h
  refine ⟨h.1, ?_, h.2.2.1, h.2.2.2⟩
  have := h.2.1
  unfold sumB at this
  exact of_decide_eq_true this
theorem rc_whole {ms : List Int} (hb : Byt ms) (h : (rcC ms).2 = some ms.length) : recEnc (rcD ms) = ms := by
  unfold rcC at h
  cases hB : (rcB ms).2 with
  | none => rw [hB] at h; simp [rdT] at h
  | some q =>
    cases hA : (rcA ms).2 with
    | none => unfold rcB at hB; rw [hA] at hB; simp [rdN] at hB
    | some p =>
      have f1 := rdN_form hb (p := 0) (q := p) hA
      have hB' : (rdN ms (some p)).2 = some q := by unfold rcB at hB; rw [hA] at hB; exact hB
      have f2 := rdN_form hb hB'
      rw [hB] at h
      have f3 := rdT_form hb h
      rw [List.drop_length, List.append_nil] at f3
      rw [recEnc_eq]
      unfold rcD rcB rcC
      dsimp only
      rw [hB, hA, str_strZ]
      rw [List.drop_zero] at f1
      conv => rhs; rw [f1, f2, f3]
      rw [List.append_assoc]
      rfl
theorem rc_cut (D : RecD) (h : recOk D = true) (k : Nat) (hk : k < (summedOf (recEnc D)).length) : rcOk ((summedOf (recEnc D)).take k) = false := by
  cases hc : rcOk ((summedOf (recEnc D)).take k) with
  | false => rfl
  | true =>
    exfalso
    obtain ⟨g1, g2, g3, g4⟩ := rc_parts hc
    rw [summedOf_len] at hk
    rw [List.length_take, summedOf_len] at g1
    have hms : rcAh ((summedOf (recEnc D)).take k) = (recEnc D).take (k - 4) := by
      unfold rcAh
      rw [List.length_take, summedOf_len, List.take_take, show min (min k ((recEnc D).length + 4) - 4) k = k - 4 by omega]
      unfold summedOf
      rw [List.take_append_of_le_length (by omega)]
    rw [hms] at g3 g4
    have hw := rc_whole ((recEnc_byt D).take (k - 4)) g3
    have hbd := ((recOk_iff _).1 g4).2.2.2.2
    generalize rcD ((recEnc D).take (k - 4)) = D' at *
    have hS : (str D.body).size ≤ 1000000 := by rw [str_size]; have := ((recOk_iff D).1 h).2.2.2.2; omega
    have hS' : (str D'.body).size ≤ 1000000 := by rw [str_size]; omega
    obtain ⟨_, _, e3⟩ := rc_read D.kind D.seq (str D.body) hS []
    obtain ⟨_, _, e4⟩ := rc_read D'.kind D'.seq (str D'.body) hS' ((recEnc D).drop (k - 4))
    rw [List.append_nil, ← recEnc_eq] at e3
    rw [← recEnc_eq, hw, List.take_append_drop, e3] at e4
    have := congrArg Prod.snd e4
    simp only [Option.some.injEq, List.length_take] at this
    omega
end

section
open Go.RowKit
/-- The number is above that of each record of a page. -/
def SeqB (ds : List BkD) (seq : Int) : Prop := (0 ≤ seq ∧ seq ≤ 1000000) ∧ ∀ b ∈ ds, ∀ p ∈ b.ps, rcOk p.zs = true → (rcR p.zs).seq < seq
theorem SeqB.more {ds : List BkD} {s t : Int} (h : SeqB ds s) (hs : s ≤ t) (ht : t ≤ 1000000) : SeqB ds t :=
  ⟨⟨by have := h.1.1; omega, ht⟩, fun b hb p hp hr => by have := h.2 b hb p hp hr; omega⟩
theorem seqB_set {ds : List BkD} {k : Nat} {b : BkD} {s : Int} (h : SeqB ds s) (hb : ∀ p ∈ b.ps, rcOk p.zs = true → (rcR p.zs).seq < s) : SeqB (ds.set k b) s :=
  ⟨h.1, fun d hd => by
    rcases List.mem_or_eq_of_mem_set hd with h1 | h1
    · exact h.2 d h1
    · subst h1; exact hb⟩
theorem seqB_prog {ds : List BkD} {s : Int} (h : SeqB ds s) (k : Nat) {zs : List Int} (hz : rcOk zs = true → (rcR zs).seq < s) : SeqB (progAt ds k zs) s := by
  unfold progAt
  split
  · rename_i b hb
    refine seqB_set h fun p hp => ?_
    rcases List.mem_or_eq_of_mem_set hp with h1 | h1
    · exact h.2 b (List.mem_of_getElem? hb) p h1
    · subst h1; exact hz
  · exact h
theorem seqB_bad {ds : List BkD} {s : Int} (h : SeqB ds s) (k : Nat) : SeqB (badD ds k) s := by
  unfold badD
  split
  · rename_i b hb
    exact seqB_set h (h.2 b (List.mem_of_getElem? hb))
  · exact h
theorem seqB_new (x : Int) : SeqB (newD x) 0 := by
  refine ⟨by omega, fun b hb p hp => ?_⟩
  unfold newD at hb
  split at hb
  · have h1 := List.eq_of_mem_replicate hb
    subst h1
    have h2 := List.eq_of_mem_replicate hp
    subst h2
    intro h3
    exact absurd h3 (by decide)
  · simp at hb
theorem SeqB.lgB {ds : List BkD} {ops : Int} {fs : List FtD} {s : Int} (h : SeqB ds s) (hd : devB ds ops fs = true) : lgB ds ops fs s = true := by
  unfold Go.Proofs.YtoeeblmnogeonaaGreatDoor.lgB
  have h1 : mostL (pgsL ds) ≤ s := (mostL_le _ _).2 ⟨h.1.1, fun z hz hr => by
    obtain ⟨b, hb, p, hp, rfl⟩ := mem_pgsL.1 hz
    exact h.2 b hb p hp hr⟩
  rw [hd]
  simp [h.1.1, h.1.2, h1]
/-- A beginning of a record that is a record is that record. -/
theorem seq_cut {kind seq : Int} {body : List Int} (hr : recOk ⟨kind, seq, body⟩ = true) (hb : Byt body) (j : Nat) (h : rcOk ((summedOf (recEnc ⟨kind, seq, body⟩)).take j) = true) : (rcR ((summedOf (recEnc ⟨kind, seq, body⟩)).take j)).seq = seq := by
  by_cases hj : j < (summedOf (recEnc ⟨kind, seq, body⟩)).length
  · rw [rc_cut _ hr j hj] at h
    exact absurd h (by decide)
  · rw [List.take_of_length_le (by omega), (rc_enc _ hr hb).2]
/-- One try: what it leaves. -/
theorem seqB_stN {fs : List FtD} {k : Nat} {Z : List Int} {S : LgS} {seq : Int} (hZ : ∀ j, rcOk (Z.take j) = true → (rcR (Z.take j)).seq < seq + 1) (h : SeqB S.ds seq) (hs : seq + 1 ≤ 1000000) :
    SeqB (stN fs k Z S).ds (seq + 1) ∧ (stO fs k Z S = 2 → SeqB (stN fs k Z S).ds seq) ∧ (stO fs k Z S ≠ 0 → (stN fs k Z S).down = false → SeqB (stN fs k Z S).ds seq) := by
  have h1 : SeqB S.ds (seq + 1) := h.more (by omega) hs
  have hZ0 : rcOk Z = true → (rcR Z).seq < seq + 1 := by
    have := hZ Z.length
    rw [List.take_length] at this
    exact this
  unfold stN stO outDs outDown outCode
  by_cases hc : stC fs k Z.length S = 0
  · simp only [hc, if_true]
    cases faD S.ops fs with
    | none => exact ⟨seqB_prog h1 _ hZ0, fun h2 => absurd h2 (by decide), fun h2 => absurd rfl h2⟩
    | some f =>
      dsimp only
      by_cases hf : f.kd = 1
      · simp only [hf, if_true]
        exact ⟨seqB_bad h1 _, fun _ => seqB_bad h _, fun _ _ => seqB_bad h _⟩
      · simp only [if_neg hf]
        exact ⟨seqB_prog h1 _ (hZ _), fun h2 => absurd h2 (by decide), fun _ h2 => absurd h2 (by decide)⟩
  · simp only [if_neg hc]
    exact ⟨h1, fun _ => h, fun _ _ => h⟩
theorem seqB_wrA {fs : List FtD} {Z : List Int} {spare seq : Int} (hZ : ∀ j, rcOk (Z.take j) = true → (rcR (Z.take j)).seq < seq + 1) (hs : seq + 1 ≤ 1000000) : ∀ (f : Nat) (S : LgS), SeqB S.ds seq → SeqB (wrA fs Z spare f S).S.ds ((wrA fs Z spare f S).sq seq) := by
  intro f
  induction f with
  | zero => intro S h; exact h
  | succ f ih =>
    intro S h
    have h3 := fun k => seqB_stN (fs := fs) (k := k) (S := S) hZ h hs
    unfold wrA
    split
    · exact h
    · split
      · exact (h3 _).1
      · split
        · rename_i h5
          exact ih _ ((h3 _).2.1 h5)
        · rename_i h4 h5
          unfold WrA.sq
          dsimp only
          split
          · exact (h3 _).1
          · rename_i h6
            exact (h3 _).2.2 h4 (by simpa using h6)
theorem seqB_wrOut {ds : List BkD} {ops : Int} {fs : List FtD} {down : Bool} {seq kind : Int} {body : List Int} {spare : Int} (hb : Byt body) (h : SeqB ds seq) : SeqB (wrOut ds ops fs down seq kind body spare).S.ds ((wrOut ds ops fs down seq kind body spare).sq seq) := by
  unfold wrOut
  split
  · exact h
  · rename_i h1
    split
    · exact h
    · have h2 : recOk ⟨kind, seq, body⟩ = true := by
        cases hr : recOk ⟨kind, seq, body⟩ with
        | true => rfl
        | false => exact absurd (.inl hr) h1
      have h3 : seq ≠ 1000000 := fun e => h1 (.inr (.inr e))
      exact seqB_wrA (fun j hj => by rw [seq_cut h2 hb j hj]; omega) (by have := h.1.2; omega) _ _ h
theorem ops_wrA {fs : List FtD} {Z : List Int} {spare : Int} : ∀ (f : Nat) (S : LgS), (wrA fs Z spare f S).S.ops ≤ S.ops + (f : Int) := by
  intro f
  induction f with
  | zero => intro S; show S.ops ≤ S.ops + 0; omega
  | succ f ih =>
    intro S
    have h1 : ∀ k, (stN fs k Z S).ops ≤ S.ops + 1 := fun k => by
      show outOps _ S.ops ≤ _
      unfold outOps
      split <;> omega
    unfold wrA
    split
    · show S.ops ≤ _; omega
    · split
      · have := h1 (openD S.ds spare).toNat
        show (stN fs (openD S.ds spare).toNat Z S).ops ≤ _
        omega
      · split
        · have := h1 (openD S.ds spare).toNat
          have := ih (stN fs (openD S.ds spare).toNat Z S)
          omega
        · have := h1 (openD S.ds spare).toNat
          show (stN fs (openD S.ds spare).toNat Z S).ops ≤ _
          omega
/-- What a draw of t rounds leaves: few operations, a small number. -/
def SeqO (t : Nat) (ds : List BkD) (ops seq : Int) : Prop := SeqB ds seq ∧ seq ≤ t ∧ ops ≤ 26 * t
theorem seqO_wrOut {t : Nat} {ds : List BkD} {ops : Int} {fs : List FtD} {down : Bool} {seq kind : Int} {body : List Int} {spare : Int} (hb : Byt body) (hd : ds.length ≤ 24) (h : SeqO t ds ops seq) : SeqO (t + 1) (wrOut ds ops fs down seq kind body spare).S.ds (wrOut ds ops fs down seq kind body spare).S.ops ((wrOut ds ops fs down seq kind body spare).sq seq) := by
  obtain ⟨h1, h2, h3⟩ := h
  refine ⟨seqB_wrOut hb h1, ?_, ?_⟩
  · unfold WrA.sq
    split <;> omega
  · unfold wrOut
    split
    · show ops ≤ _; omega
    · split
      · show ops ≤ _; omega
      · have := ops_wrA (fs := fs) (Z := summedOf (recEnc ⟨kind, seq, body⟩)) (spare := spare) (ds.length + 1) ⟨ds, ops, false⟩
        dsimp only at this
        omega
theorem SeqO.le {t u : Nat} {ds : List BkD} {ops seq : Int} (h : SeqO t ds ops seq) (hu : t ≤ u) : SeqO u ds ops seq := ⟨h.1, by have := h.2.1; omega, by have := h.2.2; omega⟩
end

section
open Go.RowKit
theorem Blk.logO {W : World} {H : Nat} {t : TypeId} {v0 v1 v2 v3 v4 : Value} (h : Blk W H t #[v0, v1, v2, v3, v4]) : W.cell? ⟨H, 0, none⟩ = some v0 ∧ W.cell? ⟨H, 1, none⟩ = some v1 ∧ W.cell? ⟨H, 2, none⟩ = some v2 ∧ W.cell? ⟨H, 3, none⟩ = some v3 ∧ W.cell? ⟨H, 4, none⟩ = some v4 := ⟨h.cell 0, h.cell 1, h.cell 2, h.cell 3, h.cell 4⟩
theorem lgB_yes {ds : List BkD} {ops : Int} {fs : List FtD} {seq : Int} (hd : devB ds ops fs = true) (h0 : 0 ≤ seq) (h1 : seq ≤ 1000000) (h : ∀ k, k < 8 * ds.length → rcOk (pgA ds (k : Nat)) = true → (rcR (pgA ds (k : Nat))).seq < seq) : lgB ds ops fs seq = true := by
  have := (mostL_le (pgsL ds) seq).2 ⟨h0, (pgsL_addr (devB_ch hd) seq).2 h⟩
  unfold lgB
  simp [hd, h0, h1, this]
theorem lgB_no {ds : List BkD} {ops : Int} {fs : List FtD} {seq : Int} (hd : devB ds ops fs = true) (k : Nat) (hk : k < 8 * ds.length) (ho : rcOk (pgA ds (k : Nat)) = true) (h : seq ≤ (rcR (pgA ds (k : Nat))).seq) : lgB ds ops fs seq = false := by
  have hm : ¬ mostL (pgsL ds) ≤ seq := fun hm => by have := (pgsL_addr (devB_ch hd) seq).1 ((mostL_le (pgsL ds) seq).1 hm).2 k hk ho; omega
  unfold lgB
  rw [decide_eq_false hm, Bool.and_false]
theorem lgB_seq {ds : List BkD} {ops : Int} {fs : List FtD} {seq : Int} (h : ¬ (0 ≤ seq ∧ seq ≤ 1000000)) : lgB ds ops fs seq = false := by
  have : (decide (0 ≤ seq) && decide (seq ≤ 1000000)) = false := by
    rw [← Bool.not_eq_true]; intro h2; simp at h2; exact h h2
  unfold lgB
  rw [this, Bool.and_false, Bool.false_and]
theorem lgB_dev {ds : List BkD} {ops : Int} {fs : List FtD} {seq : Int} (h : devB ds ops fs = false) : lgB ds ops fs seq = false := by
  unfold lgB
  rw [h]; rfl
set_option maxHeartbeats 1600000 in
theorem addrAtO (x y : Int) (w : World) (hx : 0 ≤ x ∧ x ≤ 1000000) (hy : 0 ≤ y ∧ y ≤ 1000000) :
    Calls Tryz.prog 82 #[.int .i64 x, .int .i64 y] w fun e w' => e = .returned (.int .i64 (x * 8 + y)) ∧ w' = w := by
  obtain ⟨h1, h2⟩ := hx
  obtain ⟨h3, h4⟩ := hy
  go_enter Tryz.func82, Tryz.ntmps82
  go_wp2
  go_ret
  exact ⟨rfl, rfl⟩
set_option maxRecDepth 100000 in
set_option maxHeartbeats 8000000 in
theorem logOkI (a : Option Addr) (n cap : Nat) (bs : List BkR) (ops : Int) (fa : Option Addr) (m fc : Nat) (fs : List FtD) (down : Bool) (seq : Int) (w : World) (ht : CR w a n bs) (hf : FR w fa m fs) (hby : BytC (bs.map BkR.D)) :
    Calls Tryz.prog 34 #[.agg #[.slice a n cap, .int .i64 ops, .slice fa m fc, .bool down, .int .i64 seq]] w fun e w' => e = .returned (.bool (lgB (bs.map BkR.D) ops fs seq)) ∧ Below w.heap.size w w' := by
  have B0 : Below w.heap.size w (w.alloc (.cells #[.slice a n cap, .int .i64 ops, .slice fa m fc, .bool down, .int .i64 seq] 55)) := (Below.refl _ w).alloc (Nat.le_refl _) _
  have z0 := Blk.new w 55 #[.slice a n cap, .int .i64 ops, .slice fa m fc, .bool down, .int .i64 seq]
  obtain ⟨W0, hW0⟩ : ∃ W, (w.alloc (.cells #[.slice a n cap, .int .i64 ops, .slice fa m fc, .bool down, .int .i64 seq] 55)) = W := ⟨_, rfl⟩
  rw [hW0] at B0 z0
  have c1 := devOkI a n cap bs ops fa m fc fs down W0 (ht.keep B0) (hf.keep B0)
  have c2 := fun (W : World) (h : Below W0.heap.size W0 W) (x : Int) => recAtI a n cap bs x W ((ht.keep B0).keep h) hby
  have hln : (bs.map BkR.D).length = n := by simp [ht.len]
  have hyes := fun hd h0 h1 h => lgB_yes (ds := bs.map BkR.D) (ops := ops) (fs := fs) (seq := seq) hd h0 h1 h
  have hno := fun hd k hk ho h => lgB_no (ds := bs.map BkR.D) (ops := ops) (fs := fs) (seq := seq) hd k hk ho h
  have hsq := fun h => lgB_seq (ds := bs.map BkR.D) (ops := ops) (fs := fs) (seq := seq) h
  have hdv := fun h => lgB_dev (ds := bs.map BkR.D) (ops := ops) (fs := fs) (seq := seq) h
  have hch := fun h => (devB_ch (ds := bs.map BkR.D) (ops := ops) (fs := fs) h).2.1
  rw [hln] at hyes hno hch
  generalize lgB (bs.map BkR.D) ops fs seq = R at hyes hno hsq hdv ⊢
  generalize devB (bs.map BkR.D) ops fs = d at c1 hyes hno hdv hch
  have HB : Hid _ := B0
  have C2 : Hid _ := c2
  obtain ⟨H, hH⟩ : ∃ H, w.heap.size = H := ⟨_, rfl⟩
  rw [hH] at z0
  have Z0 : Hid (Blk W0 H 55 #[.slice a n cap, .int .i64 ops, .slice fa m fc, .bool down, .int .i64 seq]) := z0
  obtain ⟨q0, q1, q2, q3, q4⟩ := z0.log
  clear ht hf hby B0 c2 z0 hln
  go_enter Tryz.func34, Tryz.ntmps34
  go_wp2_with fail
  try rw [hW0]
  try rw [hH]
  refine c1.mono ?_
  rintro e w1 ⟨rfl, b1⟩
  clear c1 q0 q1 q2 q3 q4 hW0
  have Z1 : Hid (Blk w1 H 55 #[.slice a n cap, .int .i64 ops, .slice fa m fc, .bool down, .int .i64 seq]) := Z0.out.keep b1
  obtain ⟨q0, q1, q2, q3, q4⟩ := Z1.out.log
  have B1 := HB.out.trans (b1.mono HB.out.size)
  cases d
  · have hR : Hid (R = false) := hdv rfl
    clear hyes hno hsq hdv hch
    go_wp2
    go_ret
    rw [hR.out, ← hH]
    exact ⟨rfl, B1⟩
  have hn24 := hch rfl
  by_cases hs0 : seq < 0
  · have hR : Hid (R = false) := hsq (by omega)
    clear hyes hno hsq hdv hch
    go_wp2
    go_ret
    rw [hR.out, ← hH]
    exact ⟨rfl, B1⟩
  by_cases hs1 : seq > 1000000
  · have hR : Hid (R = false) := hsq (by omega)
    clear hyes hno hsq hdv hch
    go_wp2
    go_ret
    rw [hR.out, ← hH]
    exact ⟨rfl, B1⟩
  have HY : Hid ((∀ k, k < 8 * n → rcOk (pgA (bs.map BkR.D) (k : Nat)) = true → (rcR (pgA (bs.map BkR.D) (k : Nat))).seq < seq) → R = true) := fun h => hyes rfl (by omega) (by omega) h
  have HN : Hid (∀ k, k < 8 * n → rcOk (pgA (bs.map BkR.D) (k : Nat)) = true → seq ≤ (rcR (pgA (bs.map BkR.D) (k : Nat))).seq → R = false) := fun k hk ho h => hno rfl k hk ho h
  clear hyes hno hsq hdv hch
  have hca := addrAtO (n : Int) 0 w1 (by omega) (by omega)
  go_wp2_with fail
  refine hca.mono ?_
  rintro e w2 ⟨rfl, hw⟩
  obtain rfl := hw.symm
  obtain ⟨N, hN⟩ : ∃ N : Nat, 8 * n = N := ⟨_, rfl⟩
  have hNN : (n : Int) * 8 + 0 = (N : Int) := by omega
  have hN2 : N ≤ 192 := by omega
  rw [hNN]
  rw [hN] at HY HN
  clear hca hNN hN hn24 q0 q1 q2 q3 q4
  go_wp2
  go_loopw [26] (fun i wr => ∃ (k : Nat), k ≤ N ∧ i = .int .i64 k ∧ Hid (∀ j, j < k → rcOk (pgA (bs.map BkR.D) (j : Nat)) = true → (rcR (pgA (bs.map BkR.D) (j : Nat))).seq < seq) ∧ Hid (Below w1.heap.size w1 wr)) (fun i _ => N - (intOf i).toNat)
  case atStart => exact ⟨0, Nat.zero_le _, rfl, fun j hj => by omega, Below.refl _ _⟩
  case round =>
    obtain ⟨k, hk, rfl, hall, hB⟩ := hrel
    have Zr := Z1.out.keep hB.out
    obtain ⟨q0, q1, q2, q3, q4⟩ := Zr.log
    by_cases hkn : k < N
    · have hki : (k : Int) < (N : Int) := by omega
      have hcall := C2.out wr (b1.trans (hB.out.mono b1.size)) (k : Int) (by omega)
      have hno : Hid (rcOk (pgA (bs.map BkR.D) (k : Nat)) = true → seq ≤ (rcR (pgA (bs.map BkR.D) (k : Nat))).seq → R = false) := fun ho h => HN.out k hkn ho h
      have hyes : Hid ((rcOk (pgA (bs.map BkR.D) (k : Nat)) = true → (rcR (pgA (bs.map BkR.D) (k : Nat))).seq < seq) → ∀ j, j < k + 1 → rcOk (pgA (bs.map BkR.D) (j : Nat)) = true → (rcR (pgA (bs.map BkR.D) (j : Nat))).seq < seq) := by
        intro h j hj
        rcases (show j < k ∨ j = k by omega) with hj | rfl
        · exact hall.out j hj
        · exact h
      generalize rcR (pgA (bs.map BkR.D) (k : Nat)) = D at hcall hno hyes
      generalize rcOk (pgA (bs.map BkR.D) (k : Nat)) = ok at hcall hno hyes
      obtain ⟨kind, sq, body⟩ := D
      unfold RcA recC at hcall
      dsimp only at hcall hno hyes
      obtain ⟨nb, hnb⟩ : ∃ m, body.length = m := ⟨_, rfl⟩
      rw [hnb] at hcall
      clear hall hnb
      go_wp2_with fail
      refine hcall.mono ?_
      rintro e w3 ⟨⟨a1, c1, rfl, _, _⟩, hb1⟩
      have b2 : Below w3.heap.size w3 (w3.alloc (.cells #[.int .i64 kind, .int .i64 sq, .slice a1 nb c1] 61)) := (Below.refl _ w3).alloc (Nat.le_refl _) _
      have v1 := (Blk.new w3 61 #[.int .i64 kind, .int .i64 sq, .slice a1 nb c1]).cell 1
      have v4 := ((Zr.keep hb1).keep b2).log.2.2.2.2
      simp at v1
      have hB' : Hid (Below w1.heap.size w1 (w3.alloc (.cells #[.int .i64 kind, .int .i64 sq, .slice a1 nb c1] 61))) := (hB.out.trans (hb1.mono hB.out.size)).trans (b2.mono (hB.out.trans (hb1.mono hB.out.size)).size)
      clear hcall hb1 b2 hB Zr q0 q1 q2 q3 q4
      cases ok
      · have hall2 : Hid _ := hyes.out (fun h => by simp at h)
        clear hyes hno
        go_wp2
        go_roundw
        case rel => exact ⟨k + 1, by omega, by go_num, hall2, hB'⟩
        case measure => simp [intOf]; omega
      · by_cases hge : sq < seq
        · have hall2 : Hid _ := hyes.out (fun _ => hge)
          have hge2 : ¬ (sq ≥ seq) := by omega
          clear hyes hno
          go_wp2
          go_roundw
          case rel => exact ⟨k + 1, by omega, by go_num, hall2, hB'⟩
          case measure => simp [intOf]; omega
        · have hR : Hid (R = false) := hno.out rfl (by omega)
          have hge2 : sq ≥ seq := by omega
          clear hyes hno
          go_wp2
          go_ret
          rw [hR.out, ← hH]
          exact ⟨rfl, B1.trans (hB'.out.mono B1.size)⟩
    · have hki : ¬ (k : Int) < (N : Int) := by omega
      have hR : Hid (R = true) := HY.out (fun j hj => hall.out j (by omega))
      clear HY HN hall
      go_wp2
      go_ret
      rw [hR.out, ← hH]
      exact ⟨rfl, B1.trans (hB.out.mono B1.size)⟩
end

section
open Go.RowKit
theorem faults_one {t k p : Int} (h1 : 0 ≤ t ∧ t ≤ 100000) (h2 : 1 ≤ k ∧ k ≤ 2) (h3 : 0 ≤ p ∧ p ≤ 400) : faultsB [⟨t, k, p⟩] = true := by
  unfold faultsB ftAt ftOk
  simp [h1.1, h1.2, h2.1, h2.2, h3.1, h3.2]
theorem faD_one (t k p : Int) : faD t [⟨t, k, p⟩] = some ⟨t, k, p⟩ := by simp [faD]
/-- A page that was written is read there. -/
theorem pgA_prog {ds : List BkD} {k : Nat} {b : BkD} {zs : List Int} (hC : ChOk (progAt ds k zs)) (hk : ds[k]? = some b) (hn : nextP b.ps < 8) (hl : b.ps.length = 8) : pgA (progAt ds k zs) ((8 * k + nextP b.ps : Nat) : Int) = zs := by
  have hp : progAt ds k zs = ds.set k ⟨b.ps.set (nextP b.ps) ⟨true, zs⟩, b.wear, b.bad⟩ := by unfold progAt; rw [hk]
  have hkl : k < ds.length := (List.getElem?_eq_some_iff.1 hk).1
  rw [hp] at hC ⊢
  exact pgA_at hC (i := k) (j := nextP b.ps) (b := ⟨b.ps.set (nextP b.ps) ⟨true, zs⟩, b.wear, b.bad⟩) (p := ⟨true, zs⟩) (by simp [hkl]) (List.getElem?_set_self (by omega)) hn
/-- The record that was torn. -/
theorem torn_out {ds : List BkD} {ops seq keep : Int} {fs0 : List FtD} {body : List Int} {Z : List Int} {t : Nat} (hd : devB ds ops fs0 = true) (hs : SeqO t ds ops seq) (ht : t ≤ 3000) (hb : Byt body) (hl : body.length ≤ 9) (hk : 0 ≤ keep ∧ keep ≤ 400) (hZ : summedOf (recEnc ⟨2, seq, body⟩) = Z) :
    recOk ⟨2, seq, body⟩ = true ∧ 4 ≤ Z.length ∧ devB ds ops [⟨ops, 2, keep⟩] = true ∧
    (openD ds 0 < 0 → wrOut ds ops [⟨ops, 2, keep⟩] false seq 2 body 0 = ⟨⟨ds, ops, false⟩, false, -1, 9⟩) ∧
    (0 ≤ openD ds 0 → ∃ (k : Nat) (R : WrA), openD ds 0 = (k : Int) ∧ k < ds.length ∧ 0 ≤ nextD ds (k : Int) ∧ nextD ds (k : Int) < 8 ∧ wrOut ds ops [⟨ops, 2, keep⟩] false seq 2 body 0 = R ∧ R.code = 10 ∧ R.adr = -1 ∧ R.S.down = true ∧ lgB R.S.ds R.S.ops [⟨ops, 2, keep⟩] (R.sq seq) = true ∧ devB R.S.ds R.S.ops [⟨ops, 2, keep⟩] = true ∧ atOk R.S.ds ((k : Int) * 8 + nextD ds (k : Int)) 2 = decide ((Z.length : Int) ≤ keep)) := by
  obtain ⟨hC, hops, hF⟩ := devB_parts.1 hd
  obtain ⟨hS, hsq, hop⟩ := hs
  have hr : recOk ⟨2, seq, body⟩ = true := (recOk_iff _).2 ⟨by show (1 : Int) ≤ 2; omega, by show (2 : Int) ≤ 4; omega, hS.1.1, hS.1.2, by show body.length ≤ 380; omega⟩
  have hZl : Z.length = (recEnc ⟨2, seq, body⟩).length + 4 := by rw [← hZ, summedOf_len]
  have hZm : Z.length ≤ 400 := by rw [← hZ]; exact rec_len hr
  have hd2 : devB ds ops [⟨ops, 2, keep⟩] = true := devB_parts.2 ⟨hC, hops, faults_one hops (by omega) hk⟩
  have h3 : seq ≠ 1000000 := by omega
  refine ⟨hr, by omega, hd2, ?_, ?_⟩
  · intro ho
    rw [wrOut_go hr hd2 h3, wrA_neg ho]
  · intro ho
    obtain ⟨k, b, e, hkb, hbad, hn⟩ := openD_hit hC ho
    have hI : LgI [⟨ops, 2, keep⟩] ⟨ds, ops, false⟩ := ⟨hd2, rfl⟩
    have hb8 : b.ps.length = 8 := (hC.2.2 b (List.mem_of_getElem? hkb)).1
    have hst : stC [⟨ops, 2, keep⟩] k Z.length ⟨ds, ops, false⟩ = 0 := by
      rw [stC_eq hI hkb hbad hn hZm, if_neg (by dsimp only; omega)]
    have ho10 : stO [⟨ops, 2, keep⟩] k Z ⟨ds, ops, false⟩ = 10 := by
      unfold stO outCode
      rw [hst]
      simp [faD_one]
    have hND : nextD ds (k : Int) = (nextP b.ps : Nat) := by
      unfold nextD
      rw [if_pos (by omega), Int.toNat_natCast, hkb]
    have hkl : k < ds.length := (List.getElem?_eq_some_iff.1 hkb).1
    have hR : wrOut ds ops [⟨ops, 2, keep⟩] false seq 2 body 0 = ⟨stN [⟨ops, 2, keep⟩] k Z ⟨ds, ops, false⟩, (stN [⟨ops, 2, keep⟩] k Z ⟨ds, ops, false⟩).down, -1, 10⟩ := by
      rw [wrOut_go hr hd2 h3, hZ, wrA_off e ho10]
    have hdn : (stN [⟨ops, 2, keep⟩] k Z ⟨ds, ops, false⟩).down = true := by
      unfold stN outDown
      dsimp only
      rw [hst]
      simp [faD_one]
    have hds : (stN [⟨ops, 2, keep⟩] k Z ⟨ds, ops, false⟩).ds = progAt ds k (Z.take keep.toNat) := by
      unfold stN outDs
      dsimp only
      rw [hst]
      simp [faD_one]
    have hkeep := wrOut_keep (down := false) (seq := seq) (kind := 2) (body := body) (spare := 0) hd2
    have hsb := seqB_wrOut (ops := ops) (fs := [⟨ops, 2, keep⟩]) (down := false) (kind := 2) (spare := 0) hb hS
    refine ⟨k, _, e, hkl, by rw [hND]; omega, by rw [hND]; omega, hR, rfl, rfl, hdn, ?_, ?_, ?_⟩
    · rw [hR] at hsb hkeep
      exact hsb.lgB hkeep.1
    · rw [hR] at hkeep
      exact hkeep.1
    · rw [hR] at hkeep
      have hC2 := (devB_parts.1 hkeep.1).1
      dsimp only at hC2 ⊢
      rw [hds] at hC2 ⊢
      have hadr : (k : Int) * 8 + nextD ds (k : Int) = ((8 * k + nextP b.ps : Nat) : Int) := by rw [hND]; omega
      rw [hadr]
      unfold atOk
      rw [pgA_prog hC2 hkb hn hb8]
      by_cases hq : (Z.length : Int) ≤ keep
      · rw [List.take_of_length_le (by omega), ← hZ, (rc_enc _ hr hb).1, (rc_enc _ hr hb).2, hZ]
        simp [hq]
      · have := rc_cut ⟨2, seq, body⟩ hr keep.toNat (by rw [hZ]; omega)
        rw [hZ] at this
        rw [this]
        simp [hq]
end
end Go.Proofs.YtoeeblmnogeonaaGreatDoor
