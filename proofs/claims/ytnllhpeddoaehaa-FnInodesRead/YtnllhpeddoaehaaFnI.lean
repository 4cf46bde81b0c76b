/-
  What the laws on inodes need: a drawn inode.
-/
import Derived.Test.YtnllhpeddoaehaaAny3
import Derived.Test.YtnllhpeddoaehaaGetG
import Derived.Test.YtnllhpeddoaehaaEntOfI
import Derived.Test.YtnllhpeddoaehaaSameI
namespace Go.Proofs.Ytnllhpeddoaehaa
open Go.RowKit

set_option maxHeartbeats 400000 in
theorem big_any (a : Option Addr) (n cap : Nat) (w : World) : Calls Try.prog 13 #[.slice a n cap] w fun e w' => e = .returned (.bool (decide ((1048576 : Int) < (n : Int)))) ∧ w' = w := by
  go_enter Try.func13, Try.ntmps13
  go_wp2
  go_ret
  exact ⟨rfl, rfl⟩
theorem less_trans : ∀ {x y z : List UInt8}, Op.bytesLess x y = true → Op.bytesLess y z = true → Op.bytesLess x z = true
  | _, _, [], _, h2 => by simp [Op.bytesLess] at h2
  | [], _, _ :: _, _, _ => rfl
  | a :: x, [], c :: z, h1, _ => by simp [Op.bytesLess] at h1
  | a :: x, b :: y, c :: z, h1, h2 => by
    simp only [Op.bytesLess, Bool.or_eq_true, Bool.and_eq_true, decide_eq_true_eq, beq_iff_eq] at h1 h2 ⊢
    rcases h1 with h1 | ⟨rfl, h1⟩
    · rcases h2 with h2 | ⟨rfl, h2⟩
      · exact .inl (UInt8.lt_trans h1 h2)
      · exact .inl h1
    · rcases h2 with h2 | ⟨rfl, h2⟩
      · exact .inl h2
      · exact .inr ⟨rfl, less_trans h1 h2⟩
theorem less_irrefl (x : List UInt8) : Op.bytesLess x x = false := by
  induction x with
  | nil => rfl
  | cons a x ih => simp [Op.bytesLess, ih]
theorem ents_asc {es : List (ByteArray × Int)} (h : entsOk es = true) (j : Nat) : ∀ i, i < j → j < es.length → Op.bytesLess (es.getD i entD).1.toList (es.getD j entD).1.toList = true := by
  unfold entsOk at h
  simp only [Bool.and_eq_true, List.all_eq_true, List.mem_range] at h
  induction j with
  | zero => intro i hi; omega
  | succ j ih =>
    intro i hi hj
    have h1 := h.1 (j + 1) hj
    unfold entAt at h1
    simp only [Bool.and_eq_true, Bool.or_eq_true, decide_eq_true_eq, Nat.add_sub_cancel] at h1
    have h2 : Op.bytesLess (es.getD j entD).1.toList (es.getD (j + 1) entD).1.toList = true := by
      rcases h1.2 with h0 | h2
      · omega
      · exact h2
    rcases (show i < j ∨ i = j by omega) with h3 | rfl
    · exact less_trans (ih i h3 (by omega)) h2
    · exact h2
theorem entOf_none {nm : ByteArray} : ∀ {es : List (ByteArray × Int)}, (∀ q ∈ es, q.1 ≠ nm) → entOf nm es = 0
  | [], _ => rfl
  | q :: es, h => by
    rw [entOf, if_neg (h q List.mem_cons_self)]
    exact entOf_none (fun p hp => h p (List.mem_cons_of_mem _ hp))
theorem entOf_self {es : List (ByteArray × Int)} (h : entsOk es = true) (k : Nat) (hk : k < es.length) : entOf es[k].1 es = es[k].2 := by
  have hgo : ∀ i, i ≤ k → entOf es[k].1 (es.drop (k - i)) = es[k].2 := by
    intro i
    induction i with
    | zero => intro _; rw [Nat.sub_zero, entOf_drop _ _ _ hk, if_pos rfl]
    | succ i ih =>
      intro hi
      rw [entOf_drop _ _ (k - (i + 1)) (by omega), if_neg, show k - (i + 1) + 1 = k - i by omega]
      · exact ih (by omega)
      · intro e
        have := ents_asc h k (k - (i + 1)) (by omega) hk
        have e1 : es.getD (k - (i + 1)) entD = es[k - (i + 1)] := by simp [show k - (i + 1) < es.length by omega]
        have e2 : es.getD k entD = es[k] := by simp [hk]
        rw [e1, e2, e, less_irrefl] at this
        simp at this
  have := hgo k (Nat.le_refl _)
  rwa [Nat.sub_self, List.drop_zero] at this
theorem LB.rd {W : World} {B : Nat} {D : InoD} {a1 a2 a3 : Option Addr} {c1 c2 c3 : Nat} (h : LB W B D (.slice a1 D.data.length c1) (.slice a2 D.ents.length c2) (.slice a3 D.attrs.length c3)) : InoRd W D a1 a2 a3 := by
  have hG : InoG W 0 W.heap.size D (.slice a1 D.data.length c1) (.slice a2 D.ents.length c2) (.slice a3 D.attrs.length c3) := by
    refine ⟨OwnV.rowB (B := B) h.d, h.byt, row_zero h.e, row_zero h.t, fun g hg => ⟨Nat.zero_le _, ?_⟩⟩
    rcases hg with hg | hg | hg
    · exact (World.ownsRow.lt h.d g hg).2
    · exact (World.ownsRow.lt h.e g hg).2
    · exact (World.ownsRow.lt h.t g hg).2
  obtain ⟨b1, d1, b2, d2, b3, d3, e1, e2, e3, hr⟩ := hG.form
  simp at e1 e2 e3
  rw [e1.1, e2.1, e3.1]
  exact hr
theorem DrA.small {D : InoD} (h : DrA D) : InoSmall D :=
  ⟨by have := h.data; omega, by have := h.nE; omega, by have := h.nA; omega, fun q hq => by have := (h.ents q hq).1; omega, fun q hq => by have := h.attrs q hq; omega⟩
theorem below_t {w X U : World} (h : Below w.heap.size w X) (k : Below X.heap.size X U) : Below w.heap.size w U := h.trans (k.mono h.size)
theorem inoG_read {w : World} {B T : Nat} {D : InoD} {a1 a2 a3 : Option Addr} {c1 c2 c3 : Nat} (h : InoG w B T D (.slice a1 D.data.length c1) (.slice a2 D.ents.length c2) (.slice a3 D.attrs.length c3)) : InoRd w D a1 a2 a3 := by
  obtain ⟨b1, d1, b2, d2, b3, d3, e1, e2, e3, hr⟩ := h.form
  simp at e1 e2 e3
  rw [e1.1, e2.1, e3.1]
  exact hr
theorem Own.cap' {w : World} {g n c : Nat} {zs : List Int} (h : Own w g n c zs) : n ≤ c := by
  rcases h.2 with ⟨h', _⟩ | ⟨g', c', cur, h', _, _, h5, _⟩
  · simp at h'
  · simp at h'
    omega
theorem Own.rd' {w : World} {g n c : Nat} {zs : List Int} (h : Own w g n c zs) : Rd w (some ⟨g, 0, none⟩) zs := by
  obtain ⟨b, d, e, hr⟩ := (OwnV.rowB (B := 0) h).form
  simp at e
  rw [e.1]
  exact hr
theorem encGo_byt' (f m : Nat) (h : m < 128 ^ (f + 1)) : Byt (encGo f m) := by
  induction f generalizing m with
  | zero =>
    intro z hz
    simp [encGo] at hz
    simp at h
    omega
  | succ f ih =>
    intro z hz
    by_cases hm : 128 ≤ m
    · rw [encGo_more hm] at hz
      rcases List.mem_cons.1 hz with rfl | hz
      · omega
      · exact ih (m / 128) (by rw [Nat.pow_succ] at h; omega) z hz
    · rw [encGo_last hm] at hz
      simp at hz
      omega
theorem enc_byt' (x : Int) : Byt (enc x) := encGo_byt' 3 _ (by have := clamp_le x; omega)
theorem byt_app {a b : List Int} (ha : Byt a) (hb : Byt b) : Byt (a ++ b) := by
  intro z hz
  rcases List.mem_append.1 hz with hz | hz
  · exact ha z hz
  · exact hb z hz
theorem byt_flat {α : Type} {f : α → List Int} (h : ∀ x, Byt (f x)) : ∀ l : List α, Byt (l.flatMap f)
  | [] => fun z hz => by simp at hz
  | x :: l => by rw [List.flatMap_cons]; exact byt_app (h x) (byt_flat h l)
theorem encT_byt (s : ByteArray) : Byt (encT s) := byt_app (enc_byt' _) (strZ_byt' s)
theorem entE_byt (e : ByteArray × Int) : Byt (entE e) := by unfold entE; exact byt_app (encT_byt e.1) (enc_byt' e.2)
theorem attE_byt (e : ByteArray × ByteArray) : Byt (attE e) := by unfold attE; exact byt_app (encT_byt e.1) (encT_byt e.2)
theorem encs_byt (xs : List Int) : Byt (encs xs) := by unfold encs; exact byt_flat enc_byt' _
theorem encTs_byt (xs : List ByteArray) : Byt (encTs xs) := by unfold encTs; exact byt_flat encT_byt _
theorem inoEnc_byt (D : InoD) : Byt (inoEnc D) := by
  unfold inoEnc encH
  exact byt_app (byt_app (byt_app (byt_app (byt_app (encs_byt _) (encTs_byt _)) (encs_byt _)) (byt_flat entE_byt _)) (encs_byt _)) (byt_flat attE_byt _)
theorem sameOf_self (D : InoD) : sameOf D D = true := by simp [sameOf]
/-- What DrawPutInode and DrawInodeOk draw. -/
def DrawnI (w : World) (e : Ending) (w' : World) : Prop :=
  ∃ (D : InoD) (a1 : Option Addr) (c1 : Nat) (a2 : Option Addr) (c2 : Nat) (a3 : Option Addr) (c3 : Nat), e = .returned (.agg #[.int .i64 D.ino, .int .i64 D.kind, .int .i64 D.links, .slice a1 D.data.length c1, .slice a2 D.ents.length c2, .slice a3 D.attrs.length c3]) ∧ InoRd w' D a1 a2 a3 ∧ DrA D ∧ Below w.heap.size w w'

set_option maxRecDepth 100000 in
set_option maxHeartbeats 2000000 in
theorem drawPutInode_any (a : Option Addr) (n cap : Nat) (zs : List Int) (w : World) (hn : zs.length = n) (hs : n ≤ 1048576) (hr : Rd w a zs) (hb : Byt zs) :
    Calls Try.prog 14 #[.slice a n cap] w fun e w' => DrawnI w e w' := by
  have b0 : Below w.heap.size w (w.alloc (.cells #[.int .i64 0, .int .i64 0, .int .i64 0, .slice none 0 0, .slice none 0 0, .slice none 0 0] 27)) := (Below.refl _ w).alloc (Nat.le_refl _) _
  have z0 := Blk.new w 27 #[.int .i64 0, .int .i64 0, .int .i64 0, .slice none 0 0, .slice none 0 0, .slice none 0 0]
  have hsz : (w.alloc (.cells #[.int .i64 0, .int .i64 0, .int .i64 0, .slice none 0 0, .slice none 0 0, .slice none 0 0] 27)).heap.size = w.heap.size + 1 := by simp
  have HSZ : Hid _ := hsz
  have HB0 : Hid _ := b0
  clear hsz
  go_enter Try.func14, Try.ntmps14
  go_wp2_with fail
  refine (new_step a n cap zs _ hn hs (hr.keep b0) hb).mono ?_
  rintro e w1 ⟨rfl, s1, b1⟩
  have zr := z0.keep b1
  have B1 := HB0.out.trans (b1.mono HB0.out.size)
  rw [HSZ.out] at s1 ⊢
  clear z0 b0 b1 hr hb hn
  go_wp2_with fail
  (with_reducible refine (l3Any_any _ n cap a zs w1 s1).mono ?_)
  rintro e w2 ⟨D, v1, v2, v3, rfl, lb, hD, s2, g2⟩
  obtain ⟨a1, c1, rfl⟩ := val_shape lb.d
  obtain ⟨a2, c2, rfl⟩ := val_shape lb.e
  obtain ⟨a3, c3, rfl⟩ := val_shape lb.t
  have zr2 := zr.kept g2 (by omega)
  have B2 : Below w.heap.size w w2 := B1.grown g2 B1.size (fun m hm => by simp at hm; omega)
  obtain ⟨r0, r1, r2, r3, r4, r5⟩ := zr2.six
  have f0 := zr2.frozen 0
  have f1 := zr2.frozen 1
  have f2 := zr2.frozen 2
  have f3 := zr2.frozen 3
  have f4 := zr2.frozen 4
  have f5 := zr2.frozen 5
  have HZ : Hid _ := zr2
  clear zr zr2 B1 s1 s2 g2
  go_wp2
  have zk : Blk w2 w.heap.size 27 #[.int .i64 0, .int .i64 0, .int .i64 0, .slice none 0 0, .slice none 0 0, .slice none 0 0] := HZ.out
  have zf := (((((zk.set 0 (.int .i64 D.ino)).set 1 (.int .i64 D.kind)).set 2 (.int .i64 D.links)).set 3 (.slice a1 D.data.length c1)).set 4 (.slice a2 D.ents.length c2)).set 5 (.slice a3 D.attrs.length c3)
  have dd0 := zf.cell 0
  have dd1 := zf.cell 1
  have dd2 := zf.cell 2
  have dd3 := zf.cell 3
  have dd4 := zf.cell 4
  have dd5 := zf.cell 5
  simp at dd0 dd1 dd2 dd3 dd4 dd5
  refine bodyPost_ret (v := .agg #[.int .i64 D.ino, .int .i64 D.kind, .int .i64 D.links, .slice a1 D.data.length c1, .slice a2 D.ents.length c2, .slice a3 D.attrs.length c3]) (by simp [results, Try.f14, go_sem, dd0, dd1, dd2, dd3, dd4, dd5]) rfl ?_
  have g := gr_more (gr_more (gr_more (gr_more (gr_more (gr_setC w2 w.heap.size 0 (.int .i64 D.ino)) 1 (.int .i64 D.kind)) 2 (.int .i64 D.links)) 3 (.slice a1 D.data.length c1)) 4 (.slice a2 D.ents.length c2)) 5 (.slice a3 D.attrs.length c3)
  have k := KpT.grown (ts := [5, 35, 77]) g zk (by decide)
  have lb' : LB _ w1.heap.size D (.slice a1 D.data.length c1) (.slice a2 D.ents.length c2) (.slice a3 D.attrs.length c3) := ⟨row_kp lb.d k (by decide), lb.byt, row_kp lb.e k (by decide), row_kp lb.t k (by decide)⟩
  exact ⟨D, a1, c1, a2, c2, a3, c3, rfl, lb'.rd, hD, B2.grown g B2.size (fun m hm => by simp at hm; omega)⟩
end Go.Proofs.Ytnllhpeddoaehaa
