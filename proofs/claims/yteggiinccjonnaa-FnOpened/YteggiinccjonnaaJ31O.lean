/-
  Joined: Draws, DrAn, DrAy.
-/
import Derived.Test.YteggiinccjonnaaJ29O
import Derived.Deep.DrawnRows
namespace Go.Proofs.Yteggiinccjonnaa
section
open Go.RowKit
set_option maxHeartbeats 400000 in
theorem big_any (a : Option Addr) (n cap : Nat) (w : World) : Calls Try.prog 5 #[.slice a n cap] w fun e w' => e = .returned (.bool (decide ((1048576 : Int) < (n : Int)))) ∧ w' = w := by
  go_enter Try.func5, Try.ntmps5
  go_wp2
  go_ret
  exact ⟨rfl, rfl⟩
theorem Own.cap {w : World} {g n c : Nat} {zs : List Int} (h : Own w g n c zs) : n ≤ c := by
  rcases h.2 with ⟨h', _⟩ | ⟨g', cap', cur, h', _, _, hc, _⟩
  · simp at h'
  · simp only [Value.slice.injEq, Option.some.injEq, Addr.mk.injEq, and_true, true_and] at h'
    omega
theorem Byt.append {a b : List Int} (ha : Byt a) (hb : Byt b) : Byt (a ++ b) := by
  intro z hz
  rcases List.mem_append.1 hz with h | h
  · exact ha z h
  · exact hb z h
theorem Rd.take {w : World} {a : Option Addr} {zs : List Int} (h : Rd w a zs) (q : Nat) : Rd w a (zs.take q) := by
  rcases h with h | ⟨b, off, e, hc⟩
  · exact .inl (by rw [h]; simp)
  · refine .inr ⟨b, off, e, fun j hj => ?_⟩
    rw [List.length_take] at hj
    rw [hc j (by omega)]
    have hq : j < q := by omega
    simp [List.getD_eq_getElem?_getD, hq]
end

section
open Go.RowKit
/-- One page of a block is another. -/
theorem NewBs.pg {W W2 : World} {B g n c k m P : Nat} {ds : List BkD} {bs : List BkR} {b : BkR} {p q : PgR} (h : NewBs W B (.slice (some ⟨g, 0, none⟩) n c) ds bs) (hn : bs.length = n) (hb : bs[k]? = some b) (hba : b.a = some ⟨P, 0, none⟩) (hp : b.ps[m]? = some p)
    (s3 : OwnE pgE 74 W2 (.slice (some ⟨P, 0, none⟩) b.ps.length b.cap) b.ps.length (b.ps.set m q)) (hset : ∀ j, j ≠ P → j < W.heap.size → W2.heap[j]? = W.heap[j]?) (hqo : q.own W2) (hqf : ∀ j ∈ pgK.fp q, j ∈ pgK.fp p ∨ W.heap.size ≤ j) (hqd : (pgK.fp q).Nodup) :
    NewBs W2 B (.slice (some ⟨g, 0, none⟩) n c) (ds.set k ⟨(b.ps.map PgR.D).set m q.D, b.wear, b.bad⟩) (bs.set k ⟨b.a, b.cap, b.ps.set m q, b.wear, b.bad⟩) := by
  have hr := h.row
  have hgl : g < W.heap.size := h.own.lt g (fpBs_row rfl)
  have hbm : b ∈ bs := List.mem_of_getElem? hb
  have hOP : OwnPs W b.v b.ps := h.own.2 b hbm
  have hbv : b.v = .slice (some ⟨P, 0, none⟩) b.ps.length b.cap := by unfold BkR.v; rw [hba]
  have hnd : (fpPs b.v b.ps).Nodup := flat_nodup' (f := bkK.fp) h.inn.nd hbm
  have hPf : P ∈ fpPs b.v b.ps := fpPs_row (by rw [hbv]; rfl)
  have hPn : P ∉ pgK.fps b.ps := fun hf => (List.nodup_append.1 hnd).2.2 P (by rw [hbv]; simp [Value.ownBlock]) P hf rfl
  have hPl : P < W.heap.size := hOP.lt P hPf
  have hPg : g ≠ P := fun e => hr.1 (List.mem_flatMap.2 ⟨b, hbm, by rw [e]; exact hPf⟩)
  have hI : Inn pgK W 0 (b.ps.map PgR.D) b.ps := ⟨rfl, hOP.2, fun _ _ => Nat.zero_le _, (List.nodup_append.1 hnd).2.1⟩
  have hI2 := hI.put (w' := W2) (S := W.heap.size) (q := q) hp (fun j hj => hI.lt j hj) (Nat.zero_le _) hqo hqf hqd
    (fun j hj _ => hset j (fun e => by subst e; exact hPn hj) (hI.lt j hj))
  have hbv2 : BkR.v ⟨b.a, b.cap, b.ps.set m q, b.wear, b.bad⟩ = .slice (some ⟨P, 0, none⟩) b.ps.length b.cap := by unfold BkR.v; rw [hba, List.length_set]
  have hfb : ∀ j ∈ bkK.fp (⟨b.a, b.cap, b.ps.set m q, b.wear, b.bad⟩ : BkR), j ∈ bkK.fp b ∨ W.heap.size ≤ j := fun j hj => by
    have hj' : j ∈ fpPs (.slice (some ⟨P, 0, none⟩) b.ps.length b.cap) (b.ps.set m q) := by rw [← hbv2]; exact hj
    rcases List.mem_append.1 hj' with h1 | h1
    · have : j = P := by simpa [Value.ownBlock] using h1
      subst this
      exact .inl hPf
    · obtain ⟨y, hy, hyf⟩ := List.mem_flatMap.1 h1
      rcases mem_set hy with rfl | ⟨i, _, hyi⟩
      · rcases hqf j hyf with h2 | h2
        · exact .inl (List.mem_append_right _ (List.mem_flatMap.2 ⟨p, List.mem_of_getElem? hp, h2⟩))
        · exact .inr h2
      · exact .inl (List.mem_append_right _ (List.mem_flatMap.2 ⟨y, List.mem_of_getElem? hyi, hyf⟩))
  have hP2 : P ∉ pgK.fps (b.ps.set m q) := fun hf => by
    obtain ⟨y, hy, hyf⟩ := List.mem_flatMap.1 hf
    rcases mem_set hy with rfl | ⟨i, _, hyi⟩
    · rcases hqf P hyf with h2 | h2
      · exact hPn (List.mem_flatMap.2 ⟨p, List.mem_of_getElem? hp, h2⟩)
      · omega
    · exact hPn (List.mem_flatMap.2 ⟨y, List.mem_of_getElem? hyi, hyf⟩)
  have hB0 : B ≤ W.heap.size := Nat.le_trans hr.2 (by omega)
  have hin := h.inn.put (w' := W2) (S := W.heap.size) (q := (⟨b.a, b.cap, b.ps.set m q, b.wear, b.bad⟩ : BkR)) hb (fun j hj => h.inn.lt j hj) hB0
    (by
      show OwnPs W2 (BkR.v ⟨b.a, b.cap, b.ps.set m q, b.wear, b.bad⟩) (b.ps.set m q)
      rw [hbv2]
      exact ⟨by rw [List.length_set]; exact s3, hI2.own⟩)
    hfb
    (by
      show (fpPs (BkR.v ⟨b.a, b.cap, b.ps.set m q, b.wear, b.bad⟩) (b.ps.set m q)).Nodup
      rw [hbv2]
      refine List.nodup_append.2 ⟨by simp [Value.ownBlock], hI2.nd, fun a ha c hc e => ?_⟩
      subst e
      have : a = P := by simpa [Value.ownBlock] using ha
      subst this
      exact hP2 hc)
    (fun j hj hnj => hset j (fun e => by subst e; exact hnj hPf) (h.inn.lt j hj))
  have hD : bkK.D (⟨b.a, b.cap, b.ps.set m q, b.wear, b.bad⟩ : BkR) = ⟨(b.ps.map PgR.D).set m q.D, b.wear, b.bad⟩ := by
    show BkD.mk ((b.ps.set m q).map PgR.D) b.wear b.bad = _
    rw [List.map_set]
  rw [hD] at hin
  refine hin.newBs ?_ (Nat.le_refl _) (fun j hj => ?_)
  · rw [List.length_set, hn]
    have h1 : OwnE bkE 39 W2 (.slice (some ⟨g, 0, none⟩) n c) n bs := by
      have := h.own.1
      rw [hn] at this
      exact this.block fun j hj => by
        simp [Value.ownBlock] at hj
        subst hj
        exact hset _ hPg hgl
    have h2 := bkE.xv_set bs k 0 b ⟨b.a, b.cap, b.ps.set m q, b.wear, b.bad⟩ (.slice b.a b.ps.length b.cap) hb (by decide) (by
      show [Value.slice b.a (b.ps.set m q).length b.cap, Value.int .i64 b.wear, Value.bool b.bad] = _
      rw [List.length_set]
      rfl)
    rw [set_same (bkE.xv_at bs k 0 b hb (by decide))] at h2
    unfold OwnE at h1 ⊢
    rw [← h2]
    exact h1
  · simp [Value.ownBlock] at hj
    subst hj
    refine ⟨hr.2, fun hf => ?_⟩
    obtain ⟨x, hx, hxf⟩ := List.mem_flatMap.1 hf
    rcases mem_set hx with rfl | ⟨j, _, hxj⟩
    · rcases hfb g hxf with h1 | h1
      · exact hr.1 (List.mem_flatMap.2 ⟨b, hbm, h1⟩)
      · omega
    · exact hr.1 (List.mem_flatMap.2 ⟨x, List.mem_of_getElem? hxj, hxf⟩)
/-- A chip that can be read as long as the blocks from B on are what they were. -/
def ACR (B : Nat) (w : World) (a : Option Addr) (n : Nat) (qs : List BkR) : Prop := ∀ W : World, (∀ k, B ≤ k → k < w.heap.size → W.heap[k]? = w.heap[k]?) → CR W a n qs
theorem ACR.cr {B n : Nat} {w : World} {a : Option Addr} {qs : List BkR} (h : ACR B w a n qs) : CR w a n qs := h w fun _ _ _ => rfl
theorem ACR.less {B B' n : Nat} {w : World} {a : Option Addr} {qs : List BkR} (h : ACR B w a n qs) (hB : B' ≤ B) : ACR B' w a n qs := fun W hW => h W fun k h1 h2 => hW k (Nat.le_trans hB h1) h2
theorem ACR.far {B n X i : Nat} {w : World} {a : Option Addr} {qs : List BkR} (h : ACR B w a n qs) (hX : X < B) (v : Value) : ACR B (w.setCell ⟨X, i, none⟩ v) a n qs := fun W hW => h W fun k h1 h2 => (hW k h1 (by rw [size_setC]; exact h2)).trans (Below.heap_setCell _ _ _ _ (by show k ≠ X; omega))
theorem ACR.svs {B n : Nat} {F : List Nat} {w w' : World} {a : Option Addr} {qs : List BkR} (h : ACR B w a n qs) (k : Sv F w w') (hF : ∀ g ∈ F, g < B) : ACR B w' a n qs := fun W hW => h W fun i h1 h2 => (hW i h1 (Nat.lt_of_lt_of_le h2 k.size)).trans (k.block i h2 (fun hf => by have := hF i hf; omega))
theorem NewBs.acr {w : World} {B n c : Nat} {a : Option Addr} {ds : List BkD} {qs : List BkR} (h : NewBs w B (.slice a n c) ds qs) (hn : qs.length = n) (ht : totB ds ≤ 1048576) : ACR B w a n qs := fun W hW => ⟨hn, by rw [h.D]; exact ht, by
  have h1 : OwnBs W (.slice a n c) qs := h.own.block fun j hj => hW j (h.new j hj) (h.own.lt j hj)
  have := h1.rd
  exact this⟩
theorem totB_take (i : Nat) (ds : List BkD) : totB (ds.take i) ≤ totB ds := by
  have : totB ds = totB (ds.take i) + totB (ds.drop i) := by rw [← totB_append, List.take_append_drop]
  omega
/-- Its first blocks. -/
theorem ACR.take {w : World} {B n : Nat} {a : Option Addr} {qs : List BkR} (h : ACR B w a n qs) (m : Nat) (hm : m ≤ n) : ACR B w a m (qs.take m) := fun W hW => by
  have h1 := h W hW
  refine ⟨by rw [List.length_take, h1.len]; omega, by rw [List.map_take]; exact Nat.le_trans (totB_take _ _) h1.tot, ?_⟩
  rcases h1.rd with h0 | ⟨b, off, rfl, hc⟩
  · exact .inl (by rw [h0]; simp)
  · exact .inr ⟨b, off, rfl, fun i r hi => hc i r (by rw [List.getElem?_take] at hi; split at hi <;> simp_all)⟩
/-- A block's pages but the first. -/
theorem NewBs.cut {w : World} {B g n c k P cp : Nat} {ds : List BkD} {qs : List BkR} {b : BkR} (h : NewBs w B (.slice (some ⟨g, 0, none⟩) n c) ds qs) (hn : qs.length = n) (hb : qs[k]? = some b) (hba : b.a = some ⟨P, 0, none⟩) (ht : totB ds ≤ 1048576) :
    ACR B (w.setCell ⟨g, k * 3, none⟩ (.slice (some ⟨P, 2, none⟩) (b.ps.drop 1).length cp)) (some ⟨g, 0, none⟩) n (qs.set k ⟨some ⟨P, 2, none⟩, cp, b.ps.drop 1, b.wear, b.bad⟩) := fun W hW => by
  have hr := h.row
  have hbm : b ∈ qs := List.mem_of_getElem? hb
  have hset : ∀ j, j ≠ g → (w.setCell ⟨g, k * 3, none⟩ (.slice (some ⟨P, 2, none⟩) (b.ps.drop 1).length cp)).heap[j]? = w.heap[j]? := fun j hj => Below.heap_setCell _ _ _ _ hj
  have hown : OwnE bkE 39 w (.slice (some ⟨g, 0, none⟩) n c) n qs := by have := h.own.1; rw [hn] at this; exact this
  have s := hown.set k 0 b ⟨some ⟨P, 2, none⟩, cp, b.ps.drop 1, b.wear, b.bad⟩ (.slice (some ⟨P, 2, none⟩) (b.ps.drop 1).length cp) hb (by decide) rfl
  have hgl : g < w.heap.size := h.own.lt g (fpBs_row rfl)
  have s2 := s.block (w' := W) fun j hj => by
    simp [Value.ownBlock] at hj
    subst hj
    exact hW _ hr.2 (by rw [size_setC]; exact hgl)
  have hrd : ∀ r ∈ qs, RdPs W r.a r.ps := fun r hrm => by
    have h1 := h.own.2 r hrm
    have h2 : OwnPs W r.v r.ps := h1.block fun j hj => by
      have hjl := h1.lt j hj
      have hjf : j ∈ bkK.fps qs := List.mem_flatMap.2 ⟨r, hrm, hj⟩
      have hjB : B ≤ j := h.new j (fpBs_bk hrm hj)
      rw [hW j hjB (by rw [size_setC]; exact hjl)]
      exact hset j (fun e => by subst e; exact hr.1 hjf)
    exact OwnPs.rd (n := r.ps.length) (c := r.cap) h2
  obtain ⟨a', c', e, hR⟩ := s2.rd (rd := fun r => RdPs W r.a r.ps) (fun r hr2 => by
    rcases mem_set hr2 with rfl | ⟨i, _, hi⟩
    · have h3 := hrd b hbm
      rw [hba] at h3
      rcases h3 with h0 | ⟨b', off, h4, hc⟩
      · exact .inl (by show b.ps.drop 1 = []; rw [h0]; rfl)
      · simp only [Option.some.injEq, Addr.mk.injEq] at h4
        obtain ⟨rfl, rfl, _⟩ := h4
        refine .inr ⟨_, 2, rfl, fun i r hi => ?_⟩
        have h5 := hc (1 + i) r (by rw [List.getElem?_drop] at hi; exact hi)
        refine ⟨fun j hj => ?_, h5.2⟩
        have h6 := h5.1 j hj
        have e1 : 0 + (1 + i) * pgE.k + j = 2 + i * pgE.k + j := by show 0 + (1 + i) * 2 + j = 2 + i * 2 + j; omega
        rw [e1] at h6
        exact h6
    · exact hrd r (List.mem_of_getElem? hi))
  simp only [Value.slice.injEq] at e
  refine ⟨by rw [List.length_set]; exact hn, ?_, by rw [e.1]; exact hR⟩
  rw [List.map_set, h.D]
  refine Nat.le_trans (totB_set ds k b.D _ (by rw [← h.D, List.getElem?_map, hb]; rfl) ?_) ht
  show totP ((b.ps.drop 1).map PgR.D) ≤ totP (b.ps.map PgR.D)
  cases b.ps with
  | nil => simp
  | cons x l => rw [List.drop_one, List.tail_cons, List.map_cons, totP_cons]; omega
/-- A page is used. -/
theorem NewBs.used {W : World} {B g n c k m P : Nat} {ds : List BkD} {bs : List BkR} {b : BkR} {p : PgR} (h : NewBs W B (.slice (some ⟨g, 0, none⟩) n c) ds bs) (hn : bs.length = n) (hb : bs[k]? = some b) (hba : b.a = some ⟨P, 0, none⟩) (hp : b.ps[m]? = some p) :
    NewBs (W.setCell ⟨P, m * 2, none⟩ (.bool true)) B (.slice (some ⟨g, 0, none⟩) n c) (ds.set k ⟨(b.ps.map PgR.D).set m ⟨true, p.zs⟩, b.wear, b.bad⟩) (bs.set k ⟨b.a, b.cap, b.ps.set m ⟨true, p.a, p.cap, p.zs⟩, b.wear, b.bad⟩) := by
  have hbm : b ∈ bs := List.mem_of_getElem? hb
  have hOP : OwnPs W b.v b.ps := h.own.2 b hbm
  have hbv : b.v = .slice (some ⟨P, 0, none⟩) b.ps.length b.cap := by unfold BkR.v; rw [hba]
  have hrow : OwnE pgE 74 W (.slice (some ⟨P, 0, none⟩) b.ps.length b.cap) b.ps.length b.ps := by have := hOP.1; rw [hbv] at this; exact this
  have hnd : (fpPs b.v b.ps).Nodup := flat_nodup' (f := bkK.fp) h.inn.nd hbm
  have hPn : P ∉ pgK.fps b.ps := fun hf => (List.nodup_append.1 hnd).2.2 P (by rw [hbv]; simp [Value.ownBlock]) P hf rfl
  have hset : ∀ j, j ≠ P → (W.setCell ⟨P, m * 2, none⟩ (.bool true)).heap[j]? = W.heap[j]? := fun j hj => Below.heap_setCell _ _ _ _ hj
  have hpm := List.mem_of_getElem? hp
  refine h.pg (q := ⟨true, p.a, p.cap, p.zs⟩) hn hb hba hp (hrow.set m 0 p ⟨true, p.a, p.cap, p.zs⟩ (.bool true) hp (by decide) rfl) (fun j hj _ => hset j hj) ?_ (fun j hj => .inl hj) (by
    show ((Value.slice p.a p.zs.length p.cap).ownBlock.toList).Nodup
    cases (Value.slice p.a p.zs.length p.cap).ownBlock <;> simp)
  exact PgR.own.block (hOP.2 p hpm) fun j hj => hset j (fun e => by
    subst e
    exact hPn (List.mem_flatMap.2 ⟨p, hpm, by show j ∈ (Value.slice p.a p.zs.length p.cap).ownBlock.toList; rw [show (Value.slice p.a p.zs.length p.cap).ownBlock = some j from hj]; simp⟩))
/-- A page's bytes are others. -/
theorem NewBs.bytes {W W1 : World} {B g n c k m P nq qc : Nat} {qa : Option Addr} {zs : List Int} {ds : List BkD} {bs : List BkR} {b : BkR} {p : PgR} (h : NewBs W B (.slice (some ⟨g, 0, none⟩) n c) ds bs) (hn : bs.length = n) (hb : bs[k]? = some b) (hba : b.a = some ⟨P, 0, none⟩) (hp : b.ps[m]? = some p) (b1 : Below W.heap.size W W1) (hz : zs.length = nq)
    (hq : RowB W1 (.slice qa nq qc) nq zs) (hqc : nq ≤ qc) (hqn : ∀ j, (Value.slice qa nq qc).ownBlock = some j → W.heap.size ≤ j) :
    NewBs (W1.setCell ⟨P, m * 2 + 1, none⟩ (.slice qa nq qc)) B (.slice (some ⟨g, 0, none⟩) n c) (ds.set k ⟨(b.ps.map PgR.D).set m ⟨p.used, zs⟩, b.wear, b.bad⟩) (bs.set k ⟨b.a, b.cap, b.ps.set m ⟨p.used, qa, qc, zs⟩, b.wear, b.bad⟩) := by
  subst hz
  have hbm : b ∈ bs := List.mem_of_getElem? hb
  have hOP : OwnPs W b.v b.ps := h.own.2 b hbm
  have hbv : b.v = .slice (some ⟨P, 0, none⟩) b.ps.length b.cap := by unfold BkR.v; rw [hba]
  have hrow : OwnE pgE 74 W1 (.slice (some ⟨P, 0, none⟩) b.ps.length b.cap) b.ps.length b.ps := by have := hOP.1.keep b1; rw [hbv] at this; exact this
  have hPl : P < W.heap.size := hOP.lt P (fpPs_row (by rw [hbv]; rfl))
  have hset : ∀ j, j ≠ P → (W1.setCell ⟨P, m * 2 + 1, none⟩ (.slice qa zs.length qc)).heap[j]? = W1.heap[j]? := fun j hj => Below.heap_setCell _ _ _ _ hj
  refine h.pg (q := ⟨p.used, qa, qc, zs⟩) hn hb hba hp (hrow.set m 1 p ⟨p.used, qa, qc, zs⟩ (.slice qa zs.length qc) hp (by decide) rfl) (fun j hj hl => (hset j hj).trans (b1.block j hl)) ?_ (fun j hj => .inr (hqn j (by simpa [pgK, PgR.v] using hj))) (by
    show ((Value.slice qa zs.length qc).ownBlock.toList).Nodup
    cases (Value.slice qa zs.length qc).ownBlock <;> simp)
  exact ⟨RowB.block hq fun j hj => hset j (fun e => by subst e; have := hqn j hj; omega), hqc⟩
end

section
open Go.RowKit
theorem ok_tot2 {ds : List BkD} (h : ChOk ds) : totB ds ≤ 100000 := by
  have hb : ∀ b ∈ ds, totP b.ps ≤ 3208 := fun b hb => by
    have h1 := h.2.2 b hb
    have h2 := totP_bound b.ps (fun p hp => by
      obtain ⟨i, hi⟩ := List.mem_iff_getElem?.1 hp
      have := (h1.2.2.2 i p hi).1
      unfold pgOk at this
      simp at this
      exact this.1)
    rw [h1.1] at h2
    omega
  have h3 := totB_bound ds hb
  have h4 := h.2.1
  omega
theorem totB_setY : ∀ (ds : List BkD) (k : Nat) (b' : BkD), totB (ds.set k b') ≤ totB ds + 1 + totP b'.ps
  | [], _, _ => by simp [totB]
  | d :: ds, 0, b' => by rw [List.set_cons_zero, totB_cons, totB_cons]; omega
  | d :: ds, k + 1, b' => by
    have := totB_setY ds k b'
    rw [List.set_cons_succ, totB_cons, totB_cons]
    omega
theorem totP_setY : ∀ (ps : List PgD) (k : Nat) (q : PgD), totP (ps.set k q) ≤ totP ps + 1 + q.zs.length
  | [], _, _ => by simp [totP]
  | d :: ps, 0, q => by rw [List.set_cons_zero, totP_cons, totP_cons]; omega
  | d :: ps, k + 1, q => by
    have := totP_setY ps k q
    rw [List.set_cons_succ, totP_cons, totP_cons]
    omega
theorem totP_leB {ds : List BkD} {b : BkD} (h : b ∈ ds) : totP b.ps ≤ totB ds := by
  induction ds with
  | nil => simp at h
  | cons d ds ih =>
    rw [totB_cons]
    rcases List.mem_cons.1 h with rfl | h1
    · omega
    · have := ih h1
      omega
theorem ownE_cap {α : Type} {E : El α} {ty : TypeId} {w : World} {a : Option Addr} {n c m : Nat} {rs : List α} (h : OwnE E ty w (.slice a n c) m rs) : n ≤ c := by
  rcases h.2 with ⟨h1, h2⟩ | ⟨g', c', cur, h1, _, _, h2, _⟩
  · simp only [Value.slice.injEq] at h1; omega
  · simp only [Value.slice.injEq] at h1; omega
theorem rowB_one (w : World) (z : Int) : RowB (w.alloc (.cells #[.int .u8 z] 5)) (.slice (some ⟨w.heap.size, 0, none⟩) 1 1) 1 [z] :=
  ⟨rfl, .inr ⟨w.heap.size, 1, #[.int .u8 z], (0, 0), rfl, heap_alloc_new w _, by simp, fun i hi => by obtain rfl := (show i = 0 by omega); rfl, .inr rfl⟩⟩
theorem sv_at {F : List Nat} {X i : Nat} {v : Value} (w : World) (h : X ∈ F) : Sv F w (w.setCell ⟨X, i, none⟩ v) :=
  ⟨rfl, rfl, rfl, by rw [size_setC]; exact Nat.le_refl _, fun k _ hn => Below.heap_setCell _ _ _ _ (fun e => hn (e ▸ h))⟩
theorem totP_same : ∀ {ps : List PgD} {k : Nat} {p q : PgD}, ps[k]? = some p → q.zs.length ≤ p.zs.length → totP (ps.set k q) ≤ totP ps
  | [], _, _, _, h, _ => by simp at h
  | d :: ps, 0, p, q, h, hq => by simp at h; subst h; rw [List.set_cons_zero, totP_cons, totP_cons]; omega
  | d :: ps, k + 1, p, q, h, hq => by
    have := totP_same (ps := ps) (k := k) (p := p) (q := q) (by simpa using h) hq
    rw [List.set_cons_succ, totP_cons, totP_cons]
    omega
theorem pg_some {W : World} {B k : Nat} {v : Value} {ds : List BkD} {qs : List BkR} {b : BkR} (h : NewBs W B v ds qs) (hb : qs[k]? = some b) (h8 : 0 < b.ps.length) : ∃ P, b.a = some ⟨P, 0, none⟩ := by
  have h1 : OwnE pgE 74 W (.slice b.a b.ps.length b.cap) b.ps.length b.ps := (h.own.2 b (List.mem_of_getElem? hb)).1
  rcases h1.cases with ⟨_, h2, _⟩ | ⟨g, c, h0, _⟩
  · rw [h2] at h8
    simp at h8
  · simp only [Value.slice.injEq] at h0
    exact ⟨g, h0.1⟩
theorem pg_row {W : World} {B k P : Nat} {v : Value} {ds : List BkD} {qs : List BkR} {b : BkR} (h : NewBs W B v ds qs) (hb : qs[k]? = some b) (hP : b.a = some ⟨P, 0, none⟩) : OwnE pgE 74 W (.slice (some ⟨P, 0, none⟩) b.ps.length b.cap) b.ps.length b.ps := by
  have h1 : OwnE pgE 74 W (.slice b.a b.ps.length b.cap) b.ps.length b.ps := (h.own.2 b (List.mem_of_getElem? hb)).1
  rw [hP] at h1
  exact h1
end
end Go.Proofs.Yteggiinccjonnaa
