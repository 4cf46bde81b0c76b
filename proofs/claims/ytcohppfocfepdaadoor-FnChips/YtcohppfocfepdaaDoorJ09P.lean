/-
  Joined: ToCh, App10.
-/
import Derived.Test.YtcohppfocfepdaaDoorJ08P
import Derived.Test.YtcohppfocfepdaaDoorJ01P
import Derived.Deep.AppendSrc
namespace Go.Proofs.YtcohppfocfepdaaDoor
section
open Go.RowKit
theorem Tryd.infoPage : (Tryd.prog.info? 55).map (fun i => (i.zero, i.size, i.bytes)) = some (some (.agg #[.bool false, .slice none 0 0]), 2, 32) := by kernel_rfl
theorem Tryd.infoBlock : (Tryd.prog.info? 34).map (fun i => (i.zero, i.size, i.bytes)) = some (some (.agg #[.slice none 0 0, .int .i64 0, .bool false]), 3, 40) := by kernel_rfl
def pgZ : PgR := ⟨false, none, 0, []⟩
theorem made_row {α : Type} (E : El α) (z : α) (zv : Value) (hz : zv.cells.toList = E.en z) {w : World} {g n : Nat} {ty : TypeId} (h : w.ownsRow 0 ty E.k (.slice (some ⟨g, 0, none⟩) n n) n (madeCells zv.cells (n * E.k)).toList) : OwnE E ty w (.slice (some ⟨g, 0, none⟩) n n) n (List.replicate n z) := by
  unfold OwnE
  have hp := E.pos
  have e : (madeCells zv.cells (n * E.k)).toList = E.xv (List.replicate n z) := by
    apply List.ext_getElem?
    intro m
    have hzl : zv.cells.size = E.k := by rw [← Array.length_toList, hz, E.len]
    by_cases hm : m < n * E.k
    · have hd : m / E.k < n := Nat.div_lt_of_lt_mul (by rw [Nat.mul_comm]; exact hm)
      have h1 := E.xv_at (List.replicate n z) (m / E.k) (m % E.k) z (by rw [List.getElem?_replicate, if_pos hd]) (Nat.mod_lt _ hp)
      rw [show m / E.k * E.k + m % E.k = m by rw [Nat.mul_comm]; exact Nat.div_add_mod m E.k] at h1
      rw [h1, ← hz]
      have hlen : (madeCells zv.cells (n * E.k)).toList.length = n * E.k := by simp [madeCells]
      rw [List.getElem?_eq_getElem (by rw [hlen]; exact hm), List.getElem?_eq_getElem (by rw [Array.length_toList, hzl]; exact Nat.mod_lt _ hp)]
      simp [madeCells, hzl, Nat.mod_lt _ hp]
    · rw [List.getElem?_eq_none (by simp [madeCells]; omega), List.getElem?_eq_none (by rw [E.xv_length]; simp; omega)]
  rw [← e]
  exact h
theorem made_ownPs {w : World} {g n : Nat} (h : w.ownsRow 0 55 2 (.slice (some ⟨g, 0, none⟩) n n) n (madeCells (Value.agg #[.bool false, .slice none 0 0]).cells (n * 2)).toList) : OwnE pgE 55 w (.slice (some ⟨g, 0, none⟩) n n) n (List.replicate n pgZ) := made_row pgE pgZ (.agg #[.bool false, .slice none 0 0]) rfl h
/-- What is built up of a list's elements: D what each says, own that it is the call's own, fp the blocks of memory that it takes. -/
structure Kd (α δ : Type) where
  D : α → δ
  own : World → α → Prop
  fp : α → List Nat
  block : ∀ {w w' : World} {a : α}, own w a → (∀ g ∈ fp a, w'.heap[g]? = w.heap[g]?) → own w' a
  lt : ∀ {w : World} {a : α}, own w a → ∀ g ∈ fp a, g < w.heap.size
def Kd.fps {α δ : Type} (K : Kd α δ) (qs : List α) : List Nat := qs.flatMap K.fp
/-- Elements that are new from H on, none of their blocks of memory twice. -/
structure Inn {α δ : Type} (K : Kd α δ) (w : World) (H : Nat) (ds : List δ) (qs : List α) : Prop where
  D : qs.map K.D = ds
  own : ∀ q ∈ qs, K.own w q
  new : ∀ g ∈ K.fps qs, H ≤ g
  nd : (K.fps qs).Nodup
theorem Inn.nil {α δ : Type} (K : Kd α δ) (w : World) (H : Nat) : Inn K w H [] [] := ⟨rfl, fun q hq => by simp at hq, fun g hg => by simp [Kd.fps] at hg, by simp [Kd.fps]⟩
theorem Inn.lt {α δ : Type} {K : Kd α δ} {w : World} {H : Nat} {ds : List δ} {qs : List α} (h : Inn K w H ds qs) : ∀ g ∈ K.fps qs, g < w.heap.size := fun g hg => by
  obtain ⟨q, hq, h2⟩ := List.mem_flatMap.1 hg
  exact K.lt (h.own q hq) g h2
theorem Inn.block {α δ : Type} {K : Kd α δ} {w w' : World} {H : Nat} {ds : List δ} {qs : List α} (h : Inn K w H ds qs) (hb : ∀ g ∈ K.fps qs, w'.heap[g]? = w.heap[g]?) : Inn K w' H ds qs :=
  ⟨h.D, fun q hq => K.block (h.own q hq) fun g hg => hb g (List.mem_flatMap.2 ⟨q, hq, hg⟩), h.new, h.nd⟩
theorem Inn.keep {α δ : Type} {K : Kd α δ} {w w' : World} {H : Nat} {ds : List δ} {qs : List α} (h : Inn K w H ds qs) (hb : Below w.heap.size w w') : Inn K w' H ds qs := h.block fun g hg => hb.block g (h.lt g hg)
theorem Inn.kept {α δ : Type} {K : Kd α δ} {w w' : World} {H r : Nat} {ds : List δ} {qs : List α} (h : Inn K w H ds qs) (hg : w.grownBy w' (some r)) (hr : r ∉ K.fps qs) : Inn K w' H ds qs := h.block fun g hq => hg.block g (h.lt g hq) (fun e => by simp at e; subst e; exact hr hq)
theorem Inn.below {α δ : Type} {K : Kd α δ} {w : World} {H r : Nat} {ds : List δ} {qs : List α} (h : Inn K w H ds qs) (hr : r < H) : r ∉ K.fps qs := fun hg => by have := h.new r hg; omega
theorem Inn.snoc {α δ : Type} {K : Kd α δ} {w : World} {H S : Nat} {ds : List δ} {qs : List α} {q : α} (h : Inn K w H ds qs) (hS : ∀ g ∈ K.fps qs, g < S) (hq : K.own w q) (hn : ∀ g ∈ K.fp q, S ≤ g ∧ H ≤ g) (hd : (K.fp q).Nodup) : Inn K w H (ds ++ [K.D q]) (qs ++ [q]) := by
  refine ⟨by rw [List.map_append, h.D]; rfl, fun r hr => ?_, fun g hg => ?_, ?_⟩
  · rcases List.mem_append.1 hr with h1 | h1
    · exact h.own r h1
    · simp at h1; subst h1; exact hq
  · unfold Kd.fps at hg
    rw [List.flatMap_append] at hg
    rcases List.mem_append.1 hg with h1 | h1
    · exact h.new g h1
    · simp at h1; exact (hn g h1).2
  · unfold Kd.fps
    rw [List.flatMap_append, List.nodup_append]
    refine ⟨h.nd, by simpa using hd, fun a ha b hb e => ?_⟩
    simp at hb
    have h1 := hS a ha
    have h2 := (hn b hb).1
    omega
theorem Inn.wider {α δ : Type} {K : Kd α δ} {w : World} {H H' : Nat} {ds : List δ} {qs : List α} (h : Inn K w H ds qs) (hH : H' ≤ H) : Inn K w H' ds qs := ⟨h.D, h.own, fun g hg => Nat.le_trans hH (h.new g hg), h.nd⟩
def pgK : Kd PgR PgD := ⟨PgR.D, fun w p => p.own w, fun p => p.v.ownBlock.toList, fun h hb => PgR.own.block h fun g hg => hb g (by simp [hg]), fun h g hg => PgR.own.lt h (by simpa using hg)⟩
def bkK : Kd BkR BkD := ⟨BkR.D, fun w b => OwnPs w b.v b.ps, fun b => fpPs b.v b.ps, fun h hb => OwnPs.block h hb, fun h g hg => OwnPs.lt h g hg⟩
/-- New pages: what they say is told; all their blocks of memory are from B up, none twice. -/
structure NewPs (w : World) (B : Nat) (v : Value) (ds : List PgD) (ps : List PgR) : Prop where
  D : ps.map PgR.D = ds
  own : OwnPs w v ps
  new : ∀ g ∈ fpPs v ps, B ≤ g
  nd : (fpPs v ps).Nodup
structure NewBs (w : World) (B : Nat) (v : Value) (ds : List BkD) (bs : List BkR) : Prop where
  D : bs.map BkR.D = ds
  own : OwnBs w v bs
  new : ∀ g ∈ fpBs v bs, B ≤ g
  nd : (fpBs v bs).Nodup
theorem NewPs.keep {w w' : World} {B : Nat} {v : Value} {ds : List PgD} {ps : List PgR} (h : NewPs w B v ds ps) (hb : Below w.heap.size w w') : NewPs w' B v ds ps := ⟨h.D, h.own.keep hb, h.new, h.nd⟩
theorem NewBs.keep {w w' : World} {B : Nat} {v : Value} {ds : List BkD} {bs : List BkR} (h : NewBs w B v ds bs) (hb : Below w.heap.size w w') : NewBs w' B v ds bs := ⟨h.D, h.own.keep hb, h.new, h.nd⟩
theorem NewBs.svs {w w' : World} {B : Nat} {v : Value} {ds : List BkD} {bs : List BkR} {F : List Nat} (h : NewBs w B v ds bs) (k : Sv F w w') (hd : ∀ g ∈ fpBs v bs, g ∉ F) : NewBs w' B v ds bs := ⟨h.D, h.own.svs k hd, h.new, h.nd⟩
theorem NewPs.len {w : World} {B : Nat} {v : Value} {ds : List PgD} {ps : List PgR} (h : NewPs w B v ds ps) : ps.length = ds.length := by rw [← h.D]; simp
theorem NewBs.len {w : World} {B : Nat} {v : Value} {ds : List BkD} {ps : List BkR} (h : NewBs w B v ds ps) : ps.length = ds.length := by rw [← h.D]; simp
theorem NewPs.wider {w : World} {B B' : Nat} {v : Value} {ds : List PgD} {ps : List PgR} (h : NewPs w B v ds ps) (hB : B' ≤ B) : NewPs w B' v ds ps := ⟨h.D, h.own, fun g hg => Nat.le_trans hB (h.new g hg), h.nd⟩
theorem NewBs.wider {w : World} {B B' : Nat} {v : Value} {ds : List BkD} {ps : List BkR} (h : NewBs w B v ds ps) (hB : B' ≤ B) : NewBs w B' v ds ps := ⟨h.D, h.own, fun g hg => Nat.le_trans hB (h.new g hg), h.nd⟩
theorem Inn.newPs {w : World} {H B : Nat} {v : Value} {ds : List PgD} {ps : List PgR} (h : Inn pgK w H ds ps) (ho : OwnE pgE 55 w v ps.length ps) (hB : B ≤ H) (hv : ∀ g, v.ownBlock = some g → B ≤ g ∧ g ∉ pgK.fps ps) : NewPs w B v ds ps := by
  refine ⟨h.D, ⟨ho, h.own⟩, fun g hg => ?_, ?_⟩
  · rcases List.mem_append.1 hg with h1 | h1
    · exact (hv g (by simpa using h1)).1
    · exact Nat.le_trans hB (h.new g h1)
  · refine List.nodup_append.2 ⟨by cases v.ownBlock <;> simp, h.nd, fun a ha b hb e => ?_⟩
    subst e
    exact (hv a (by simpa using ha)).2 hb
theorem Inn.newBs {w : World} {H B : Nat} {v : Value} {ds : List BkD} {ps : List BkR} (h : Inn bkK w H ds ps) (ho : OwnE bkE 34 w v ps.length ps) (hB : B ≤ H) (hv : ∀ g, v.ownBlock = some g → B ≤ g ∧ g ∉ bkK.fps ps) : NewBs w B v ds ps := by
  refine ⟨h.D, ⟨ho, h.own⟩, fun g hg => ?_, ?_⟩
  · rcases List.mem_append.1 hg with h1 | h1
    · exact (hv g (by simpa using h1)).1
    · exact Nat.le_trans hB (h.new g h1)
  · refine List.nodup_append.2 ⟨by cases v.ownBlock <;> simp, h.nd, fun a ha b hb e => ?_⟩
    subst e
    exact (hv a (by simpa using ha)).2 hb
theorem Own.pg {w : World} {g n c : Nat} {zs : List Int} (u : Bool) (h : Own w g n c zs) : PgR.own w ⟨u, some ⟨g, 0, none⟩, c, zs⟩ := by
  have hl := h.len
  subst hl
  refine ⟨OwnV.rowB (B := 0) (Own.toV h (Nat.zero_le _)), ?_⟩
  show zs.length ≤ c
  rcases h.2 with ⟨h1, h2⟩ | ⟨g', c', cur, h1, _, _, h2, _⟩
  · simp at h1
  · simp only [Value.slice.injEq] at h1
    omega
theorem set_set_at {α : Type} (l : List α) (i : Nat) (x y : α) : (l.set i x).set i y = l.set i y := by simp
theorem NewPs.set_below {W : World} {B j i : Nat} {v u : Value} {ds : List PgD} {qs : List PgR} (h : NewPs W B v ds qs) (hj : j < B) : NewPs (W.setCell ⟨j, i, none⟩ u) B v ds qs := ⟨h.D, h.own.block fun g hg => Below.heap_setCell _ _ _ _ (by have := h.new g hg; show g ≠ j; omega), h.new, h.nd⟩
theorem NewBs.set_below {W : World} {B j i : Nat} {v u : Value} {ds : List BkD} {qs : List BkR} (h : NewBs W B v ds qs) (hj : j < B) : NewBs (W.setCell ⟨j, i, none⟩ u) B v ds qs := ⟨h.D, h.own.block fun g hg => Below.heap_setCell _ _ _ _ (by have := h.new g hg; show g ≠ j; omega), h.new, h.nd⟩
theorem NewBs.rd {w : World} {B n c : Nat} {a : Option Addr} {ds : List BkD} {bs : List BkR} (h : NewBs w B (.slice a n c) ds bs) : RdBs w a bs := h.own.rd
end

section
open Go.RowKit
/-- What was appended, and where it lies. -/
theorem run_appAny (W : World) (B : Nat) (t ty e : TypeId) (i : TypeInfo) (z : Value) (size bytes : Nat) (ht : Tryd.prog.underlying t = some (.slice e)) (hi : Tryd.prog.info? e = some i) (hz : i.zero = some z) (hsize : i.size = size) (hby : i.bytes = bytes) (hzs : z.cells.size = size) (hsz : 0 < size)
    (v : Value) (n : Nat) (xs : List Value) (hown : W.ownsRow B e size v n xs) (ao : Option Addr) (m c : Nat) (news : List Value) (hl : news.length = m * size) (hnews : m = 0 ∨ ∃ ad, ao = some ad ∧ ∀ j u, news[j]? = some u → W.cell? (ad.add j) = some u)
    (h1 : ∀ u ∈ news, u.oneCell' = true) (h63 : n + m ≤ 8000000) (hb64 : bytes ≤ 640) (hB : B ≤ W.heap.size) :
    ∃ v' W', (Builtin.append_ #[t, t] ty #[v, .slice ao m c]).run Tryd.prog W = .ok v' W' ∧ W'.ownsRow B e size v' (n + m) (xs ++ news) ∧ W.grownBy W' v.ownBlock ∧ (v'.ownBlock = v.ownBlock ∨ v'.ownBlock = some W.heap.size) := by
  cases ao with
  | some ad =>
    obtain ⟨v', w', hr, h2, h3, _, h5⟩ := run_append_own_at (P := Tryd.prog) W B t ty e i z size bytes ht hi hz hsize hby hzs hsz v n xs hown ad m c news hl (by
      rcases hnews with h0 | ⟨ad', h0, hn⟩
      · subst h0
        obtain rfl : news = [] := List.length_eq_zero_iff.1 (by simpa using hl)
        intro j u hj; simp at hj
      · simp at h0; subst h0; exact hn) h1 (by unfold maxLen; omega) (by have : (n + m) * bytes ≤ 8000000 * 640 := Nat.mul_le_mul (by omega) hb64; omega) hB
    exact ⟨v', w', hr, h2, h3, h5⟩
  | none =>
    have hm : m = 0 := by
      rcases hnews with h0 | ⟨ad', h0, _⟩
      · exact h0
      · simp at h0
    subst hm
    obtain rfl : news = [] := List.length_eq_zero_iff.1 (by simpa using hl)
    have hs : Go.Src Tryd.prog i.size t (.slice none 0 c) 0 [] W := Go.Src.ofNil W ht c
    refine ⟨v, W, ?_, by rw [Nat.add_zero, List.append_nil]; exact hown, World.grownBy.refl W _, .inl rfl⟩
    rcases hown.2 with ⟨rfl, rfl⟩ | ⟨g, cap, cur, rfl, _, _, hk, _⟩
    · simp [Builtin.append_, run_underlying ht, sizeOf, typeInfo, hi, hs.len, hs.cells]
    · have hr := run_append_room_src W t t ty e i ht hi g 0 n cap (.slice none 0 c) 0 [] hs (by omega) (fun j hj => by simp at hj) (fun j hj => by simp at hj)
      rw [hr]
      rfl
/-- At a step of a region that draws. -/
theorem step_appAny (W : World) {ops : Array Oper} {o : Oper} {a : Act} {K : Act → World → Prop} {Q : Exit → Act → World → Prop} {E : Prop} (hgd : o.guard = none) (s x : Operand) (t : TypeId)
    (ho : o.op = .call { callee := .builtin .append, args := #[s, x], argTypes := #[t, t] }) (v u : Value) (R : Value → World → Prop) (hs : a.eval s = v) (hx : a.eval x = u)
    (hr : ∀ ty, ∃ v' W', (Builtin.append_ #[t, t] ty #[v, u]).run Tryd.prog W = .ok v' W' ∧ R v' W')
    (h : ∀ v' W', R v' W' → K (a.put o.dst v') W') :
    if Region.wanted o (yielded ops a.tmps) = true then Oper.wp Tryd.prog o a W K Q else E := by
  have hw : Region.wanted o (yielded ops a.tmps) = true := by simp [Region.wanted, hgd]
  rw [if_pos hw]
  obtain ⟨v', W', h1, h2⟩ := hr o.type
  unfold Oper.wp execOp
  simp only [ho, resolve, invoke, builtin, Sem.run_bind, Sem.run_pure, Result.andThen_ok, List.map_toArray, List.map_cons, List.map_nil, hs, hx, h1]
  exact h v' W' h2
/-- Bytes onto bytes. -/
structure AppB (W : World) (v : Value) (n : Nat) (zs : List Int) (v' : Value) (W' : World) : Prop where
  own : OwnV 0 W' v' n zs
  gr : W.grownBy W' v.ownBlock
  at_ : v'.ownBlock = v.ownBlock ∨ v'.ownBlock = some W.heap.size
theorem app_bytes (W : World) (v : Value) (n : Nat) (xs : List Int) (ao : Option Addr) (m c : Nat) (zs : List Int) (hn : zs.length = m) (hs : n + m ≤ 8000000) (hown : OwnV 0 W v n xs) (hr : Rd W ao zs) (ty : TypeId) :
    ∃ v' W', (Builtin.append_ #[22, 22] ty #[v, .slice ao m c]).run Tryd.prog W = .ok v' W' ∧ AppB W v (n + m) (xs ++ zs) v' W' := by
  obtain ⟨i0, hi, hz0, hz1, hz2⟩ := info_parts Tryd.info5
  obtain ⟨v', W', h1, h2, h3, h4⟩ := run_appAny W 0 22 ty 5 i0 (.int .u8 0) 1 1 Tryd.underlying22 hi hz0 hz1 hz2 rfl (by omega) v n (xs.map (Value.int .u8)) hown ao m c (zs.map (Value.int .u8)) (by simp [hn]) (by
    rcases hr with rfl | ⟨b, off, rfl, hc⟩
    · left; simpa using hn.symm
    · refine .inr ⟨_, rfl, fun j u hj => ?_⟩
      simp only [List.getElem?_map] at hj
      by_cases hjm : j < zs.length
      · have := hc j hjm
        rw [show (⟨b, off, none⟩ : Addr).add j = ⟨b, off + j, none⟩ by simp [Addr.add], this]
        rw [List.getElem?_eq_getElem hjm] at hj
        simpa [List.getElem?_eq_getElem hjm] using hj
      · rw [List.getElem?_eq_none (by omega)] at hj
        simp at hj) (fun u hu => by obtain ⟨z, _, rfl⟩ := List.mem_map.1 hu; rfl) hs (by omega) (Nat.zero_le _)
  exact ⟨v', W', h1, ⟨by unfold OwnV; rw [List.map_append]; exact h2, h3, h4⟩⟩
theorem AppB.room {W W' : World} {v : Value} {a : Option Addr} {n m c : Nat} {zs : List Int} (h : AppB W v n zs (.slice a m c) W') : n ≤ c := by
  rcases h.own.2 with ⟨_, h2⟩ | ⟨g', c', cur, h1, _, _, h2, _⟩
  · omega
  · simp only [Value.slice.injEq] at h1
    omega
theorem AppB.below {W W' : World} {v v' : Value} {n : Nat} {zs : List Int} (h : AppB W v n zs v' W') (hv : v.ownBlock = none) : Below W.heap.size W W' := ⟨h.gr.os, h.gr.tape, h.gr.output, h.gr.size, fun k hk => h.gr.block k hk (by rw [hv]; simp)⟩
end
end Go.Proofs.YtcohppfocfepdaaDoor
