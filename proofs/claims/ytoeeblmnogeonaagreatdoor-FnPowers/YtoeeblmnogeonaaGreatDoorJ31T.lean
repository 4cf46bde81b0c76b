/-
  Joined: DrAn, LdY, LdF, LdH.
-/
import Derived.Test.YtoeeblmnogeonaaGreatDoorJ30T
namespace Go.Proofs.YtoeeblmnogeonaaGreatDoor
section
open Go.RowKit
/-- One page of a block is another. -/
theorem NewBs.pg {W W2 : World} {B g n c k m P : Nat} {ds : List BkD} {bs : List BkR} {b : BkR} {p q : PgR} (h : NewBs W B (.slice (some ⟨g, 0, none⟩) n c) ds bs) (hn : bs.length = n) (hb : bs[k]? = some b) (hba : b.a = some ⟨P, 0, none⟩) (hp : b.ps[m]? = some p)
    (s3 : OwnE pgE 92 W2 (.slice (some ⟨P, 0, none⟩) b.ps.length b.cap) b.ps.length (b.ps.set m q)) (hset : ∀ j, j ≠ P → j < W.heap.size → W2.heap[j]? = W.heap[j]?) (hqo : q.own W2) (hqf : ∀ j ∈ pgK.fp q, j ∈ pgK.fp p ∨ W.heap.size ≤ j) (hqd : (pgK.fp q).Nodup) :
    NewBs W2 B (.slice (some ⟨g, 0, none⟩) n c) (ds.set k ⟨(b.ps.map PgR.D).set m q.D, b.wear, b.bad⟩) (bs.set k ⟨b.a, b.cap, b.ps.set m q, b.wear, b.bad⟩) := by
  have hr := h.row
  have hgl : g < W.heap.size := h.own.lt g (fpBs_row rfl)
  have hbm : b ∈ bs := List.mem_of_getElem? hb
  have hOP : OwnPs W b.v b.ps := h.own.2 b hbm
  have hbv : b.v = .slice (some ⟨P, 0, none⟩) b.ps.length b.cap := by unfold BkR.v; rw [hba]
  have hnd : (fpPs b.v b.ps).Nodup := flat_nodup' (f := bkK.fp) h.inn.nd hbm
  have hPf : P ∈ fpPs b.v b.ps := fpPs_row (by rw [hbv]; rfl)
  have hPn : P ∉ pgK.fps b.ps := fun hf => (List.nodup_append.1 hnd).2.2 P (by rw [hbv]; simp [Value.ownBlock]) P hf rfl
  have hPl : P < W.heap.size := hOP.lt P hPf
  have hPg : g ≠ P := fun e => hr.1 (List.mem_flatMap.2 ⟨b, hbm, by rw [e]; exact hPf⟩)
  have hI : Inn pgK W 0 (b.ps.map PgR.D) b.ps := ⟨rfl, hOP.2, fun _ _ => Nat.zero_le _, (List.nodup_append.1 hnd).2.1⟩
  have hI2 := hI.put (w' := W2) (S := W.heap.size) (q := q) hp (fun j hj => hI.lt j hj) (Nat.zero_le _) hqo hqf hqd
    (fun j hj _ => hset j (fun e => by subst e; exact hPn hj) (hI.lt j hj))
  have hbv2 : BkR.v ⟨b.a, b.cap, b.ps.set m q, b.wear, b.bad⟩ = .slice (some ⟨P, 0, none⟩) b.ps.length b.cap := by unfold BkR.v; rw [hba, List.length_set]
  have hfb : ∀ j ∈ bkK.fp (⟨b.a, b.cap, b.ps.set m q, b.wear, b.bad⟩ : BkR), j ∈ bkK.fp b ∨ W.heap.size ≤ j := fun j hj => by
    have hj' : j ∈ fpPs (.slice (some ⟨P, 0, none⟩) b.ps.length b.cap) (b.ps.set m q) := by rw [← hbv2]; exact hj
    rcases List.mem_append.1 hj' with h1 | h1
    · have : j = P := by simpa [Value.ownBlock] using h1
      subst this
      exact .inl hPf
    · obtain ⟨y, hy, hyf⟩ := List.mem_flatMap.1 h1
      rcases mem_set hy with rfl | ⟨i, _, hyi⟩
      · rcases hqf j hyf with h2 | h2
        · exact .inl (List.mem_append_right _ (List.mem_flatMap.2 ⟨p, List.mem_of_getElem? hp, h2⟩))
        · exact .inr h2
      · exact .inl (List.mem_append_right _ (List.mem_flatMap.2 ⟨y, List.mem_of_getElem? hyi, hyf⟩))
  have hP2 : P ∉ pgK.fps (b.ps.set m q) := fun hf => by
    obtain ⟨y, hy, hyf⟩ := List.mem_flatMap.1 hf
    rcases mem_set hy with rfl | ⟨i, _, hyi⟩
    · rcases hqf P hyf with h2 | h2
      · exact hPn (List.mem_flatMap.2 ⟨p, List.mem_of_getElem? hp, h2⟩)
      · omega
    · exact hPn (List.mem_flatMap.2 ⟨y, List.mem_of_getElem? hyi, hyf⟩)
  have hB0 : B ≤ W.heap.size := Nat.le_trans hr.2 (by omega)
  have hin := h.inn.put (w' := W2) (S := W.heap.size) (q := (⟨b.a, b.cap, b.ps.set m q, b.wear, b.bad⟩ : BkR)) hb (fun j hj => h.inn.lt j hj) hB0
    (by
      show OwnPs W2 (BkR.v ⟨b.a, b.cap, b.ps.set m q, b.wear, b.bad⟩) (b.ps.set m q)
      rw [hbv2]
      exact ⟨by rw [List.length_set]; exact s3, hI2.own⟩)
    hfb
    (by
      show (fpPs (BkR.v ⟨b.a, b.cap, b.ps.set m q, b.wear, b.bad⟩) (b.ps.set m q)).Nodup
      rw [hbv2]
      refine List.nodup_append.2 ⟨by simp [Value.ownBlock], hI2.nd, fun a ha c hc e => ?_⟩
      subst e
      have : a = P := by simpa [Value.ownBlock] using ha
      subst this
      exact hP2 hc)
    (fun j hj hnj => hset j (fun e => by subst e; exact hnj hPf) (h.inn.lt j hj))
  have hD : bkK.D (⟨b.a, b.cap, b.ps.set m q, b.wear, b.bad⟩ : BkR) = ⟨(b.ps.map PgR.D).set m q.D, b.wear, b.bad⟩ := by
    show BkD.mk ((b.ps.set m q).map PgR.D) b.wear b.bad = _
    rw [List.map_set]
  rw [hD] at hin
  refine hin.newBs ?_ (Nat.le_refl _) (fun j hj => ?_)
  · rw [List.length_set, hn]
    have h1 : OwnE bkE 42 W2 (.slice (some ⟨g, 0, none⟩) n c) n bs := by
      have := h.own.1
      rw [hn] at this
      exact this.block fun j hj => by
        simp [Value.ownBlock] at hj
        subst hj
        exact hset _ hPg hgl
    have h2 := bkE.xv_set bs k 0 b ⟨b.a, b.cap, b.ps.set m q, b.wear, b.bad⟩ (.slice b.a b.ps.length b.cap) hb (by decide) (by
      show [Value.slice b.a (b.ps.set m q).length b.cap, Value.int .i64 b.wear, Value.bool b.bad] = _
      rw [List.length_set]
      rfl)
    rw [set_same (bkE.xv_at bs k 0 b hb (by decide))] at h2
    unfold OwnE at h1 ⊢
    rw [← h2]
    exact h1
  · simp [Value.ownBlock] at hj
    subst hj
    refine ⟨hr.2, fun hf => ?_⟩
    obtain ⟨x, hx, hxf⟩ := List.mem_flatMap.1 hf
    rcases mem_set hx with rfl | ⟨j, _, hxj⟩
    · rcases hfb g hxf with h1 | h1
      · exact hr.1 (List.mem_flatMap.2 ⟨b, hbm, h1⟩)
      · omega
    · exact hr.1 (List.mem_flatMap.2 ⟨x, List.mem_of_getElem? hxj, hxf⟩)
/-- A chip that can be read as long as the blocks from B on are what they were. -/
def ACR (B : Nat) (w : World) (a : Option Addr) (n : Nat) (qs : List BkR) : Prop := ∀ W : World, (∀ k, B ≤ k → k < w.heap.size → W.heap[k]? = w.heap[k]?) → CR W a n qs
theorem ACR.cr {B n : Nat} {w : World} {a : Option Addr} {qs : List BkR} (h : ACR B w a n qs) : CR w a n qs := h w fun _ _ _ => rfl
theorem ACR.less {B B' n : Nat} {w : World} {a : Option Addr} {qs : List BkR} (h : ACR B w a n qs) (hB : B' ≤ B) : ACR B' w a n qs := fun W hW => h W fun k h1 h2 => hW k (Nat.le_trans hB h1) h2
theorem ACR.far {B n X i : Nat} {w : World} {a : Option Addr} {qs : List BkR} (h : ACR B w a n qs) (hX : X < B) (v : Value) : ACR B (w.setCell ⟨X, i, none⟩ v) a n qs := fun W hW => h W fun k h1 h2 => (hW k h1 (by rw [size_setC]; exact h2)).trans (Below.heap_setCell _ _ _ _ (by show k ≠ X; omega))
theorem ACR.svs {B n : Nat} {F : List Nat} {w w' : World} {a : Option Addr} {qs : List BkR} (h : ACR B w a n qs) (k : Sv F w w') (hF : ∀ g ∈ F, g < B) : ACR B w' a n qs := fun W hW => h W fun i h1 h2 => (hW i h1 (Nat.lt_of_lt_of_le h2 k.size)).trans (k.block i h2 (fun hf => by have := hF i hf; omega))
theorem NewBs.acr {w : World} {B n c : Nat} {a : Option Addr} {ds : List BkD} {qs : List BkR} (h : NewBs w B (.slice a n c) ds qs) (hn : qs.length = n) (ht : totB ds ≤ 1048576) : ACR B w a n qs := fun W hW => ⟨hn, by rw [h.D]; exact ht, by
  have h1 : OwnBs W (.slice a n c) qs := h.own.block fun j hj => hW j (h.new j hj) (h.own.lt j hj)
  have := h1.rd
  exact this⟩
theorem totB_take (i : Nat) (ds : List BkD) : totB (ds.take i) ≤ totB ds := by
  have : totB ds = totB (ds.take i) + totB (ds.drop i) := by rw [← totB_append, List.take_append_drop]
  omega
/-- Its first blocks. -/
theorem ACR.take {w : World} {B n : Nat} {a : Option Addr} {qs : List BkR} (h : ACR B w a n qs) (m : Nat) (hm : m ≤ n) : ACR B w a m (qs.take m) := fun W hW => by
  have h1 := h W hW
  refine ⟨by rw [List.length_take, h1.len]; omega, by rw [List.map_take]; exact Nat.le_trans (totB_take _ _) h1.tot, ?_⟩
  rcases h1.rd with h0 | ⟨b, off, rfl, hc⟩
  · exact .inl (by rw [h0]; simp)
  · exact .inr ⟨b, off, rfl, fun i r hi => hc i r (by rw [List.getElem?_take] at hi; split at hi <;> simp_all)⟩
/-- A page is used. -/
theorem NewBs.used {W : World} {B g n c k m P : Nat} {ds : List BkD} {bs : List BkR} {b : BkR} {p : PgR} (h : NewBs W B (.slice (some ⟨g, 0, none⟩) n c) ds bs) (hn : bs.length = n) (hb : bs[k]? = some b) (hba : b.a = some ⟨P, 0, none⟩) (hp : b.ps[m]? = some p) :
    NewBs (W.setCell ⟨P, m * 2, none⟩ (.bool true)) B (.slice (some ⟨g, 0, none⟩) n c) (ds.set k ⟨(b.ps.map PgR.D).set m ⟨true, p.zs⟩, b.wear, b.bad⟩) (bs.set k ⟨b.a, b.cap, b.ps.set m ⟨true, p.a, p.cap, p.zs⟩, b.wear, b.bad⟩) := by
  have hbm : b ∈ bs := List.mem_of_getElem? hb
  have hOP : OwnPs W b.v b.ps := h.own.2 b hbm
  have hbv : b.v = .slice (some ⟨P, 0, none⟩) b.ps.length b.cap := by unfold BkR.v; rw [hba]
  have hrow : OwnE pgE 92 W (.slice (some ⟨P, 0, none⟩) b.ps.length b.cap) b.ps.length b.ps := by have := hOP.1; rw [hbv] at this; exact this
  have hnd : (fpPs b.v b.ps).Nodup := flat_nodup' (f := bkK.fp) h.inn.nd hbm
  have hPn : P ∉ pgK.fps b.ps := fun hf => (List.nodup_append.1 hnd).2.2 P (by rw [hbv]; simp [Value.ownBlock]) P hf rfl
  have hset : ∀ j, j ≠ P → (W.setCell ⟨P, m * 2, none⟩ (.bool true)).heap[j]? = W.heap[j]? := fun j hj => Below.heap_setCell _ _ _ _ hj
  have hpm := List.mem_of_getElem? hp
  refine h.pg (q := ⟨true, p.a, p.cap, p.zs⟩) hn hb hba hp (hrow.set m 0 p ⟨true, p.a, p.cap, p.zs⟩ (.bool true) hp (by decide) rfl) (fun j hj _ => hset j hj) ?_ (fun j hj => .inl hj) (by
    show ((Value.slice p.a p.zs.length p.cap).ownBlock.toList).Nodup
    cases (Value.slice p.a p.zs.length p.cap).ownBlock <;> simp)
  exact PgR.own.block (hOP.2 p hpm) fun j hj => hset j (fun e => by
    subst e
    exact hPn (List.mem_flatMap.2 ⟨p, hpm, by show j ∈ (Value.slice p.a p.zs.length p.cap).ownBlock.toList; rw [show (Value.slice p.a p.zs.length p.cap).ownBlock = some j from hj]; simp⟩))
/-- A page's bytes are others. -/
theorem NewBs.bytes {W W1 : World} {B g n c k m P nq qc : Nat} {qa : Option Addr} {zs : List Int} {ds : List BkD} {bs : List BkR} {b : BkR} {p : PgR} (h : NewBs W B (.slice (some ⟨g, 0, none⟩) n c) ds bs) (hn : bs.length = n) (hb : bs[k]? = some b) (hba : b.a = some ⟨P, 0, none⟩) (hp : b.ps[m]? = some p) (b1 : Below W.heap.size W W1) (hz : zs.length = nq)
    (hq : RowB W1 (.slice qa nq qc) nq zs) (hqc : nq ≤ qc) (hqn : ∀ j, (Value.slice qa nq qc).ownBlock = some j → W.heap.size ≤ j) :
    NewBs (W1.setCell ⟨P, m * 2 + 1, none⟩ (.slice qa nq qc)) B (.slice (some ⟨g, 0, none⟩) n c) (ds.set k ⟨(b.ps.map PgR.D).set m ⟨p.used, zs⟩, b.wear, b.bad⟩) (bs.set k ⟨b.a, b.cap, b.ps.set m ⟨p.used, qa, qc, zs⟩, b.wear, b.bad⟩) := by
  subst hz
  have hbm : b ∈ bs := List.mem_of_getElem? hb
  have hOP : OwnPs W b.v b.ps := h.own.2 b hbm
  have hbv : b.v = .slice (some ⟨P, 0, none⟩) b.ps.length b.cap := by unfold BkR.v; rw [hba]
  have hrow : OwnE pgE 92 W1 (.slice (some ⟨P, 0, none⟩) b.ps.length b.cap) b.ps.length b.ps := by have := hOP.1.keep b1; rw [hbv] at this; exact this
  have hPl : P < W.heap.size := hOP.lt P (fpPs_row (by rw [hbv]; rfl))
  have hset : ∀ j, j ≠ P → (W1.setCell ⟨P, m * 2 + 1, none⟩ (.slice qa zs.length qc)).heap[j]? = W1.heap[j]? := fun j hj => Below.heap_setCell _ _ _ _ hj
  refine h.pg (q := ⟨p.used, qa, qc, zs⟩) hn hb hba hp (hrow.set m 1 p ⟨p.used, qa, qc, zs⟩ (.slice qa zs.length qc) hp (by decide) rfl) (fun j hj hl => (hset j hj).trans (b1.block j hl)) ?_ (fun j hj => .inr (hqn j (by simpa [pgK, PgR.v] using hj))) (by
    show ((Value.slice qa zs.length qc).ownBlock.toList).Nodup
    cases (Value.slice qa zs.length qc).ownBlock <;> simp)
  exact ⟨RowB.block hq fun j hj => hset j (fun e => by subst e; have := hqn j hj; omega), hqc⟩
end

section
open Go.RowKit
/-- No more blocks than a chip has; each has pages, which hold bytes and have room for them. -/
def PgV (vn : Nat) (qs : List BkR) : Prop := vn ≤ 24 ∧ ∀ q ∈ qs, 0 < q.ps.length ∧ ∀ p ∈ q.ps, Byt p.zs ∧ p.zs.length ≤ p.cap
theorem PgV.byt {vn : Nat} {qs : List BkR} (h : PgV vn qs) : BytC (qs.map BkR.D) := fun d hd p hp => by
  obtain ⟨q, hq, rfl⟩ := List.mem_map.1 hd
  obtain ⟨r, hr, rfl⟩ := List.mem_map.1 hp
  exact ((h.2 q hq).2 r hr).1
theorem PgV.caps {vn : Nat} {qs : List BkR} (h : PgV vn qs) : CapB qs := fun q hq p hp => ((h.2 q hq).2 p hp).2
theorem PgV.of {vn : Nat} {qs : List BkR} {ds : List BkD} (hv : vn ≤ 24) (hD : qs.map BkR.D = ds) (hok : ChOk ds) (hb : BytC ds) (hc : CapB qs) : PgV vn qs := ⟨hv, fun q hq => by
  have hm : q.D ∈ ds := by rw [← hD]; exact List.mem_map_of_mem hq
  have h8 := (hok.2.2 _ hm).1
  simp [BkR.D] at h8
  exact ⟨by omega, fun p hp => ⟨hb _ hm p.D (List.mem_map_of_mem hp), hc q hq p hp⟩⟩⟩
end

section
open Go.RowKit
/-- Faults that stay, whatever is done below and behind. -/
def AFR (B : Nat) (w : World) (fa : Option Addr) (m : Nat) (fs : List FtD) : Prop := ∀ W : World, (∀ k, B ≤ k → k < w.heap.size → W.heap[k]? = w.heap[k]?) → FR W fa m fs
theorem AFR.less {B B' m : Nat} {w : World} {fa : Option Addr} {fs : List FtD} (h : AFR B w fa m fs) (hB : B' ≤ B) : AFR B' w fa m fs := fun W hW => h W fun k h1 h2 => hW k (Nat.le_trans hB h1) h2
theorem AFR.far {B m X i : Nat} {w : World} {fa : Option Addr} {fs : List FtD} (h : AFR B w fa m fs) (hX : X < B) (v : Value) : AFR B (w.setCell ⟨X, i, none⟩ v) fa m fs := fun W hW => h W fun k h1 h2 => (hW k h1 (by rw [size_setC]; exact h2)).trans (Below.heap_setCell _ _ _ _ (by show k ≠ X; omega))
theorem OwnFa.afr {B c m : Nat} {w : World} {fa : Option Addr} {fs : List FtD} (h : OwnFa w (.slice fa m c) m fs) (hn : ∀ g, (Value.slice fa m c).ownBlock = some g → B ≤ g) (hm : m ≤ 1048576) : AFR B w fa m fs := fun _ hW => OwnFa.fr (OwnE.block h fun g hg => hW g (hn g hg) (OwnE.lt h hg)) hm
/-- A device was drawn, right or not. -/
def Q11 (w : World) (gc n cap : Nat) (a : Option Addr) (zs : List Int) (e : Ending) (w' : World) : Prop := ∃ (va : Option Addr) (vn vc : Nat) (ops : Int) (fa : Option Addr) (m fc : Nat) (down : Bool) (qs : List BkR) (fs : List FtD), e = .returned (.agg #[.slice va vn vc, .int .i64 ops, .slice fa m fc, .bool down]) ∧ ACR w.heap.size w' va vn qs ∧ PgV vn qs ∧ AFR w.heap.size w' fa m fs ∧ m ≤ 21 ∧ Src w' gc n cap a zs ∧ Sv [gc] w w'
theorem q11_fin {w W : World} {gc n cap : Nat} {a : Option Addr} {zs : List Int} {va : Option Addr} {vn vc : Nat} {ops : Int} {fa : Option Addr} {m fc : Nat} {down : Bool} {qs : List BkR} {fs : List FtD} (hs : Src W gc n cap a zs) (sv : Sv [gc] w W) (hgc : gc < w.heap.size) (ha : ACR (w.heap.size + 1) W va vn qs) (hv : PgV vn qs) (hf : AFR (w.heap.size + 1) W fa m fs) (hm : m ≤ 21) (v0 v1 v2 v3 : Value) :
    Q11 w gc n cap a zs (.returned (.agg #[.slice va vn vc, .int .i64 ops, .slice fa m fc, .bool down])) ((((W.setCell ⟨w.heap.size, 0, none⟩ v0).setCell ⟨w.heap.size, 1, none⟩ v1).setCell ⟨w.heap.size, 2, none⟩ v2).setCell ⟨w.heap.size, 3, none⟩ v3) := by
  have h1 := hgc
  exact ⟨va, vn, vc, ops, fa, m, fc, down, qs, fs, rfl, ((((ha.far (by omega) _).far (by omega) _).far (by omega) _).far (by omega) _).less (by omega), hv, ((((hf.far (by omega) _).far (by omega) _).far (by omega) _).far (by omega) _).less (by omega), hm, (((hs.set h1).set h1).set h1).set h1, sv_new (sv_new (sv_new (sv_new sv (Nat.le_refl _)) (Nat.le_refl _)) (Nat.le_refl _)) (Nat.le_refl _)⟩
theorem XL.pgv {T : TypeId} {Zs xs : Array Value} {w W : World} {gc n cap : Nat} {a : Option Addr} {zs : List Int} {X : Nat} {D : DvD} {va : Option Addr} {vn vc : Nat} {fa : Option Addr} {m fc : Nat} {qs : List BkR} (h : XL w W gc n cap a zs X T Zs xs D va vn vc fa m fc qs) : PgV vn qs := .of h.vn.2.2 h.nd.bs.D (devB_parts.1 h.ok).1 h.bt h.nd.bs.caps
theorem XL.fin {xs : Array Value} {w W : World} {gc n cap : Nat} {a : Option Addr} {zs : List Int} {X : Nat} {D : DvD} {va : Option Addr} {vn vc : Nat} {fa : Option Addr} {m fc : Nat} {qs : List BkR} {ops : Int} {down : Bool} (h : XL w W gc n cap a zs X 29 #[.slice none 0 0, .int .i64 0, .slice none 0 0, .bool false] xs D va vn vc fa m fc qs) (v0 v1 v2 v3 : Value) : Q11 w gc n cap a zs (.returned (.agg #[.slice va vn vc, .int .i64 ops, .slice fa m fc, .bool down])) ((((W.setCell ⟨w.heap.size, 0, none⟩ v0).setCell ⟨w.heap.size, 1, none⟩ v1).setCell ⟨w.heap.size, 2, none⟩ v2).setCell ⟨w.heap.size, 3, none⟩ v3) :=
  have h2 := h.fr
  have h3 : m ≤ 20 := by
    have h4 := (devB_parts.1 h.ok).2.2
    unfold faultsB at h4
    simp at h4
    have := h2.len
    omega
  q11_fin h.src h.sv h.hgc (h.nd.bs.acr h.ql (devB_tot h.ok)) h.pgv (OwnFa.afr h.nd.fs (fun g hg => (h.nd.new g hg).1) (by omega)) (by omega) v0 v1 v2 v3
/-- The faults have one more. -/
structure XG (w W : World) (gc n cap : Nat) (a : Option Addr) (zs : List Int) (X : Nat) (xs : Array Value) (D : DvD) (va : Option Addr) (vn vc : Nat) (qs : List BkR) (g c m : Nat) (p : FtD) : Prop where
  src : Src W gc n cap a zs
  sv : Sv [gc] w W
  bs : NewBs W (w.heap.size + 1) (.slice va vn vc) D.ds qs
  ql : qs.length = vn
  ok : devB D.ds D.ops D.fs = true
  fs : OwnFa W (.slice (some ⟨g, 0, none⟩) m c) m (D.fs ++ [p])
  hg : w.heap.size + 1 ≤ g
  gX : g ≠ X
  res : Blk W w.heap.size 29 #[.slice none 0 0, .int .i64 0, .slice none 0 0, .bool false]
  hgc : gc < w.heap.size
  hX : w.heap.size < X
  x : Blk W X 29 xs
  xf : X ∉ fpBs (.slice va vn vc) qs
theorem XL.app {W' : World} {g c : Nat} {p : FtD} {xs : Array Value} {w W : World} {gc n cap : Nat} {a : Option Addr} {zs : List Int} {X : Nat} {D : DvD} {va : Option Addr} {vn vc : Nat} {fa : Option Addr} {m fc : Nat} {qs : List BkR} (h : XL w W gc n cap a zs X 29 #[.slice none 0 0, .int .i64 0, .slice none 0 0, .bool false] xs D va vn vc fa m fc qs) (hg : W.grownBy W' (Value.slice fa m fc).ownBlock) (ho : OwnFa W' (.slice (some ⟨g, 0, none⟩) (m + 1) c) (m + 1) (D.fs ++ [p])) (hgg : (Value.slice fa m fc).ownBlock = some g ∨ g = W.heap.size) : XG w W' gc n cap a zs X xs D va vn vc qs g c (m + 1) p := by
  have h1 := h.hX
  have h2 := h.hgc
  have h3 := h.sv.size
  have hxl := h.x.lt
  have hne : ∀ g, (Value.slice fa m fc).ownBlock = some g → w.heap.size < g := fun g hv => by have := (h.nd.new g hv).1; omega
  have hnx : ∀ g, (Value.slice fa m fc).ownBlock = some g → g ≠ X := fun g hv e => h.xf (by subst e; exact fpDv_fs hv)
  have s1 : Src W' gc n cap a zs := by
    cases hv : (Value.slice fa m fc).ownBlock with
    | none => rw [hv] at hg; exact h.src.keep ((Below.refl _ _).grown hg (Nat.le_refl _) (by simp))
    | some g => rw [hv] at hg; exact h.src.other hg (by have := hne g hv; omega)
  have kb : ∀ k, k < W.heap.size → (∀ g, (Value.slice fa m fc).ownBlock = some g → k ≠ g) → W'.heap[k]? = W.heap[k]? := fun k hk hkn => hg.block k hk (fun e => by first | exact hkn k e rfl | exact hkn k e.symm rfl)
  refine ⟨s1, ⟨hg.os.trans h.sv.os, hg.tape.trans h.sv.tape, hg.output.trans h.sv.output, Nat.le_trans h3 hg.size, fun b hb hf => (kb b (by omega) (fun g hv => by have := hne g hv; omega)).trans (h.sv.block b hb hf)⟩, ⟨h.nd.bs.D, h.nd.bs.own.block (fun j hj => kb j (h.nd.bs.own.lt j hj) (fun g hv e => by subst e; exact (h.nd.new j hv).2 hj)), h.nd.bs.new, h.nd.bs.nd⟩, h.ql, h.ok, ho, ?_, ?_, (kb _ h.res.lt (fun g hv => by have := hne g hv; omega)).trans h.res, h2, h1, (kb _ hxl (fun g hv e => hnx g hv e.symm)).trans h.x, fun hf => h.xf (fpDv_bs hf)⟩
  · rcases hgg with hv | rfl
    · have := hne g hv; omega
    · omega
  · rcases hgg with hv | rfl
    · exact hnx g hv
    · omega
theorem XG.setX {xs : Array Value} {w W : World} {gc n cap : Nat} {a : Option Addr} {zs : List Int} {X : Nat} {D : DvD} {va : Option Addr} {vn vc : Nat} {qs : List BkR} {g c m : Nat} {p : FtD} (h : XG w W gc n cap a zs X xs D va vn vc qs g c m p) (j : Nat) (v : Value) : XG w (W.setCell ⟨X, j, none⟩ v) gc n cap a zs X (xs.setIfInBounds j v) D va vn vc qs g c m p := by
  have h1 := h.hX
  have h2 := h.hgc
  have h3 := h.gX
  exact ⟨h.src.set (by omega), sv_new h.sv (by omega), ⟨h.bs.D, h.bs.own.block (fun k hk => Below.heap_setCell _ _ _ _ (fun e => h.xf (by have e2 : k = X := e; rw [← e2]; exact hk))), h.bs.new, h.bs.nd⟩, h.ql, h.ok, OwnE.block h.fs (fun k hk => Below.heap_setCell _ _ _ _ (by simp [Value.ownBlock] at hk; show k ≠ X; omega)), h.hg, h3, h.res.other (by omega) j v, h2, h1, h.x.set j v, h.xf⟩
theorem XG.fin {xs : Array Value} {w W : World} {gc n cap : Nat} {a : Option Addr} {zs : List Int} {X : Nat} {D : DvD} {va : Option Addr} {vn vc : Nat} {qs : List BkR} {g c m : Nat} {p : FtD} {ops : Int} {down : Bool} (h : XG w W gc n cap a zs X xs D va vn vc qs g c m p) (hm : m ≤ 21) (hv : PgV vn qs) (v0 v1 v2 v3 : Value) : Q11 w gc n cap a zs (.returned (.agg #[.slice va vn vc, .int .i64 ops, .slice (some ⟨g, 0, none⟩) m c, .bool down])) ((((W.setCell ⟨w.heap.size, 0, none⟩ v0).setCell ⟨w.heap.size, 1, none⟩ v1).setCell ⟨w.heap.size, 2, none⟩ v2).setCell ⟨w.heap.size, 3, none⟩ v3) :=
  q11_fin h.src h.sv h.hgc (h.bs.acr h.ql (devB_tot h.ok)) hv (OwnFa.afr h.fs (fun k hk => by simp [Value.ownBlock] at hk; have := h.hg; omega) (by omega)) hm v0 v1 v2 v3
theorem XL.alloc {xs : Array Value} {w W : World} {gc n cap : Nat} {a : Option Addr} {zs : List Int} {X : Nat} {D : DvD} {va : Option Addr} {vn vc : Nat} {fa : Option Addr} {m fc : Nat} {qs : List BkR} (h : XL w W gc n cap a zs X 29 #[.slice none 0 0, .int .i64 0, .slice none 0 0, .bool false] xs D va vn vc fa m fc qs) (o : Obj) : XL w (W.alloc o) gc n cap a zs X 29 #[.slice none 0 0, .int .i64 0, .slice none 0 0, .bool false] xs D va vn vc fa m fc qs := h.keep ((Below.refl _ W).alloc (Nat.le_refl _) o)
end

section
open Go.RowKit
theorem below_svs {H : Nat} {F : List Nat} {w0 w w' : World} (h : Below H w0 w) (k : Sv F w w') (hF : ∀ g ∈ F, H ≤ g) (hH : H ≤ w0.heap.size) : Below H w0 w' :=
  ⟨k.os.trans h.os, k.tape.trans h.tape, k.output.trans h.output, Nat.le_trans h.size k.size, fun i hi => (k.block i (by have := h.size; omega) (fun hf => by have := hF i hf; omega)).trans (h.block i hi)⟩
end
end Go.Proofs.YtoeeblmnogeonaaGreatDoor
