/-
  Joined: ToCh, SzW, SzCh.
-/
import Derived.Test.YtnhbhpbmnlojlaaGreatDoorJ06W
namespace Go.Proofs.YtnhbhpbmnlojlaaGreatDoor
section
open Go.RowKit
theorem Tryz.infoPage : (Tryz.prog.info? 94).map (fun i => (i.zero, i.size, i.bytes)) = some (some (.agg #[.bool false, .slice none 0 0]), 2, 32) := by kernel_rfl
theorem Tryz.infoBlock : (Tryz.prog.info? 82).map (fun i => (i.zero, i.size, i.bytes)) = some (some (.agg #[.slice none 0 0, .int .i64 0, .bool false]), 3, 40) := by kernel_rfl
def pgZ : PgR := ⟨false, none, 0, []⟩
def bkZ : BkR := ⟨none, 0, [], 0, false⟩
theorem made_row {α : Type} (E : El α) (z : α) (zv : Value) (hz : zv.cells.toList = E.en z) {w : World} {g n : Nat} {ty : TypeId} (h : w.ownsRow 0 ty E.k (.slice (some ⟨g, 0, none⟩) n n) n (madeCells zv.cells (n * E.k)).toList) : OwnE E ty w (.slice (some ⟨g, 0, none⟩) n n) n (List.replicate n z) := by
  unfold OwnE
  have hp := E.pos
  have e : (madeCells zv.cells (n * E.k)).toList = E.xv (List.replicate n z) := by
    apply List.ext_getElem?
    intro m
    have hzl : zv.cells.size = E.k := by rw [← Array.length_toList, hz, E.len]
    by_cases hm : m < n * E.k
    · have hd : m / E.k < n := Nat.div_lt_of_lt_mul (by rw [Nat.mul_comm]; exact hm)
      have h1 := E.xv_at (List.replicate n z) (m / E.k) (m % E.k) z (by rw [List.getElem?_replicate, if_pos hd]) (Nat.mod_lt _ hp)
      rw [show m / E.k * E.k + m % E.k = m by rw [Nat.mul_comm]; exact Nat.div_add_mod m E.k] at h1
      rw [h1, ← hz]
      have hlen : (madeCells zv.cells (n * E.k)).toList.length = n * E.k := by simp [madeCells]
      rw [List.getElem?_eq_getElem (by rw [hlen]; exact hm), List.getElem?_eq_getElem (by rw [Array.length_toList, hzl]; exact Nat.mod_lt _ hp)]
      simp [madeCells, hzl, Nat.mod_lt _ hp]
    · rw [List.getElem?_eq_none (by simp [madeCells]; omega), List.getElem?_eq_none (by rw [E.xv_length]; simp; omega)]
  rw [← e]
  exact h
theorem made_ownPs {w : World} {g n : Nat} (h : w.ownsRow 0 94 2 (.slice (some ⟨g, 0, none⟩) n n) n (madeCells (Value.agg #[.bool false, .slice none 0 0]).cells (n * 2)).toList) : OwnE pgE 94 w (.slice (some ⟨g, 0, none⟩) n n) n (List.replicate n pgZ) := made_row pgE pgZ (.agg #[.bool false, .slice none 0 0]) rfl h
theorem made_ownBs {w : World} {g n : Nat} (h : w.ownsRow 0 82 3 (.slice (some ⟨g, 0, none⟩) n n) n (madeCells (Value.agg #[.slice none 0 0, .int .i64 0, .bool false]).cells (n * 3)).toList) : OwnE bkE 82 w (.slice (some ⟨g, 0, none⟩) n n) n (List.replicate n bkZ) := made_row bkE bkZ (.agg #[.slice none 0 0, .int .i64 0, .bool false]) rfl h
/-- What is built up of a list's elements: D what each says, own that it is the call's own, fp the blocks of memory that it takes. -/
structure Kd (α δ : Type) where
  D : α → δ
  own : World → α → Prop
  fp : α → List Nat
  block : ∀ {w w' : World} {a : α}, own w a → (∀ g ∈ fp a, w'.heap[g]? = w.heap[g]?) → own w' a
  lt : ∀ {w : World} {a : α}, own w a → ∀ g ∈ fp a, g < w.heap.size
def Kd.fps {α δ : Type} (K : Kd α δ) (qs : List α) : List Nat := qs.flatMap K.fp
/-- Elements that are new from H on, none of their blocks of memory twice. -/
structure Inn {α δ : Type} (K : Kd α δ) (w : World) (H : Nat) (ds : List δ) (qs : List α) : Prop where
  D : qs.map K.D = ds
  own : ∀ q ∈ qs, K.own w q
  new : ∀ g ∈ K.fps qs, H ≤ g
  nd : (K.fps qs).Nodup
theorem Inn.nil {α δ : Type} (K : Kd α δ) (w : World) (H : Nat) : Inn K w H [] [] := ⟨rfl, fun q hq => by simp at hq, fun g hg => by simp [Kd.fps] at hg, by simp [Kd.fps]⟩
theorem Inn.lt {α δ : Type} {K : Kd α δ} {w : World} {H : Nat} {ds : List δ} {qs : List α} (h : Inn K w H ds qs) : ∀ g ∈ K.fps qs, g < w.heap.size := fun g hg => by
  obtain ⟨q, hq, h2⟩ := List.mem_flatMap.1 hg
  exact K.lt (h.own q hq) g h2
theorem Inn.block {α δ : Type} {K : Kd α δ} {w w' : World} {H : Nat} {ds : List δ} {qs : List α} (h : Inn K w H ds qs) (hb : ∀ g ∈ K.fps qs, w'.heap[g]? = w.heap[g]?) : Inn K w' H ds qs :=
  ⟨h.D, fun q hq => K.block (h.own q hq) fun g hg => hb g (List.mem_flatMap.2 ⟨q, hq, hg⟩), h.new, h.nd⟩
theorem Inn.keep {α δ : Type} {K : Kd α δ} {w w' : World} {H : Nat} {ds : List δ} {qs : List α} (h : Inn K w H ds qs) (hb : Below w.heap.size w w') : Inn K w' H ds qs := h.block fun g hg => hb.block g (h.lt g hg)
theorem Inn.kept {α δ : Type} {K : Kd α δ} {w w' : World} {H r : Nat} {ds : List δ} {qs : List α} (h : Inn K w H ds qs) (hg : w.grownBy w' (some r)) (hr : r ∉ K.fps qs) : Inn K w' H ds qs := h.block fun g hq => hg.block g (h.lt g hq) (fun e => by simp at e; subst e; exact hr hq)
theorem Inn.below {α δ : Type} {K : Kd α δ} {w : World} {H r : Nat} {ds : List δ} {qs : List α} (h : Inn K w H ds qs) (hr : r < H) : r ∉ K.fps qs := fun hg => by have := h.new r hg; omega
theorem Inn.snoc {α δ : Type} {K : Kd α δ} {w : World} {H S : Nat} {ds : List δ} {qs : List α} {q : α} (h : Inn K w H ds qs) (hS : ∀ g ∈ K.fps qs, g < S) (hq : K.own w q) (hn : ∀ g ∈ K.fp q, S ≤ g ∧ H ≤ g) (hd : (K.fp q).Nodup) : Inn K w H (ds ++ [K.D q]) (qs ++ [q]) := by
  refine ⟨by rw [List.map_append, h.D]; rfl, fun r hr => ?_, fun g hg => ?_, ?_⟩
  · rcases List.mem_append.1 hr with h1 | h1
    · exact h.own r h1
    · simp at h1; subst h1; exact hq
  · unfold Kd.fps at hg
    rw [List.flatMap_append] at hg
    rcases List.mem_append.1 hg with h1 | h1
    · exact h.new g h1
    · simp at h1; exact (hn g h1).2
  · unfold Kd.fps
    rw [List.flatMap_append, List.nodup_append]
    refine ⟨h.nd, by simpa using hd, fun a ha b hb e => ?_⟩
    simp at hb
    have h1 := hS a ha
    have h2 := (hn b hb).1
    omega
theorem Inn.wider {α δ : Type} {K : Kd α δ} {w : World} {H H' : Nat} {ds : List δ} {qs : List α} (h : Inn K w H ds qs) (hH : H' ≤ H) : Inn K w H' ds qs := ⟨h.D, h.own, fun g hg => Nat.le_trans hH (h.new g hg), h.nd⟩
def pgK : Kd PgR PgD := ⟨PgR.D, fun w p => p.own w, fun p => p.v.ownBlock.toList, fun h hb => PgR.own.block h fun g hg => hb g (by simp [hg]), fun h g hg => PgR.own.lt h (by simpa using hg)⟩
def bkK : Kd BkR BkD := ⟨BkR.D, fun w b => OwnPs w b.v b.ps, fun b => fpPs b.v b.ps, fun h hb => OwnPs.block h hb, fun h g hg => OwnPs.lt h g hg⟩
/-- New pages: what they say is told; all their blocks of memory are from B up, none twice. -/
structure NewPs (w : World) (B : Nat) (v : Value) (ds : List PgD) (ps : List PgR) : Prop where
  D : ps.map PgR.D = ds
  own : OwnPs w v ps
  new : ∀ g ∈ fpPs v ps, B ≤ g
  nd : (fpPs v ps).Nodup
structure NewBs (w : World) (B : Nat) (v : Value) (ds : List BkD) (bs : List BkR) : Prop where
  D : bs.map BkR.D = ds
  own : OwnBs w v bs
  new : ∀ g ∈ fpBs v bs, B ≤ g
  nd : (fpBs v bs).Nodup
theorem NewPs.keep {w w' : World} {B : Nat} {v : Value} {ds : List PgD} {ps : List PgR} (h : NewPs w B v ds ps) (hb : Below w.heap.size w w') : NewPs w' B v ds ps := ⟨h.D, h.own.keep hb, h.new, h.nd⟩
theorem NewBs.keep {w w' : World} {B : Nat} {v : Value} {ds : List BkD} {bs : List BkR} (h : NewBs w B v ds bs) (hb : Below w.heap.size w w') : NewBs w' B v ds bs := ⟨h.D, h.own.keep hb, h.new, h.nd⟩
theorem NewBs.svs {w w' : World} {B : Nat} {v : Value} {ds : List BkD} {bs : List BkR} {F : List Nat} (h : NewBs w B v ds bs) (k : Sv F w w') (hd : ∀ g ∈ fpBs v bs, g ∉ F) : NewBs w' B v ds bs := ⟨h.D, h.own.svs k hd, h.new, h.nd⟩
theorem NewPs.len {w : World} {B : Nat} {v : Value} {ds : List PgD} {ps : List PgR} (h : NewPs w B v ds ps) : ps.length = ds.length := by rw [← h.D]; simp
theorem NewBs.len {w : World} {B : Nat} {v : Value} {ds : List BkD} {ps : List BkR} (h : NewBs w B v ds ps) : ps.length = ds.length := by rw [← h.D]; simp
theorem NewPs.wider {w : World} {B B' : Nat} {v : Value} {ds : List PgD} {ps : List PgR} (h : NewPs w B v ds ps) (hB : B' ≤ B) : NewPs w B' v ds ps := ⟨h.D, h.own, fun g hg => Nat.le_trans hB (h.new g hg), h.nd⟩
theorem NewBs.wider {w : World} {B B' : Nat} {v : Value} {ds : List BkD} {ps : List BkR} (h : NewBs w B v ds ps) (hB : B' ≤ B) : NewBs w B' v ds ps := ⟨h.D, h.own, fun g hg => Nat.le_trans hB (h.new g hg), h.nd⟩
theorem Inn.newPs {w : World} {H B : Nat} {v : Value} {ds : List PgD} {ps : List PgR} (h : Inn pgK w H ds ps) (ho : OwnE pgE 94 w v ps.length ps) (hB : B ≤ H) (hv : ∀ g, v.ownBlock = some g → B ≤ g ∧ g ∉ pgK.fps ps) : NewPs w B v ds ps := by
  refine ⟨h.D, ⟨ho, h.own⟩, fun g hg => ?_, ?_⟩
  · rcases List.mem_append.1 hg with h1 | h1
    · exact (hv g (by simpa using h1)).1
    · exact Nat.le_trans hB (h.new g h1)
  · refine List.nodup_append.2 ⟨by cases v.ownBlock <;> simp, h.nd, fun a ha b hb e => ?_⟩
    subst e
    exact (hv a (by simpa using ha)).2 hb
theorem Inn.newBs {w : World} {H B : Nat} {v : Value} {ds : List BkD} {ps : List BkR} (h : Inn bkK w H ds ps) (ho : OwnE bkE 82 w v ps.length ps) (hB : B ≤ H) (hv : ∀ g, v.ownBlock = some g → B ≤ g ∧ g ∉ bkK.fps ps) : NewBs w B v ds ps := by
  refine ⟨h.D, ⟨ho, h.own⟩, fun g hg => ?_, ?_⟩
  · rcases List.mem_append.1 hg with h1 | h1
    · exact (hv g (by simpa using h1)).1
    · exact Nat.le_trans hB (h.new g h1)
  · refine List.nodup_append.2 ⟨by cases v.ownBlock <;> simp, h.nd, fun a ha b hb e => ?_⟩
    subst e
    exact (hv a (by simpa using ha)).2 hb
set_option maxHeartbeats 1600000 in
theorem toPage_any (u : Bool) (a : Option Addr) (n cap : Nat) (zs : List Int) (w : World) (hn : zs.length = n) (hs : n ≤ 1048576) (hr : Rd w a zs) :
    Calls Tryz.prog 171 #[.agg #[.bool u, .slice a n cap]] w fun e w' => ∃ g, e = .returned (.agg #[.bool u, .slice (some ⟨g, 0, none⟩) n n]) ∧ Own w' g n n zs ∧ w.heap.size ≤ g ∧ Below w.heap.size w w' := by
  have B0 : Below w.heap.size w (((w.alloc (.cells #[.bool u, .slice a n cap] 205)).alloc (.cells #[.bool false, .slice none 0 0] 94)).alloc (.cells #[.bool false, .slice none 0 0] 94)) := (((Below.refl _ w).alloc (Nat.le_refl _) _).alloc (by simp) _).alloc (by simp; omega) _
  obtain ⟨H, hH⟩ : ∃ H, w.heap.size = H := ⟨_, rfl⟩
  have z0 : Blk (((w.alloc (.cells #[.bool u, .slice a n cap] 205)).alloc (.cells #[.bool false, .slice none 0 0] 94)).alloc (.cells #[.bool false, .slice none 0 0] 94)) w.heap.size 205 #[.bool u, .slice a n cap] := ((Blk.new w 205 _).alloc _).alloc _
  have z1 := (Blk.new (w.alloc (.cells #[.bool u, .slice a n cap] 205)) 94 #[.bool false, .slice none 0 0]).alloc (.cells #[.bool false, .slice none 0 0] 94)
  have z2 := Blk.new ((w.alloc (.cells #[.bool u, .slice a n cap] 205)).alloc (.cells #[.bool false, .slice none 0 0] 94)) 94 #[.bool false, .slice none 0 0]
  have hs0 : (((w.alloc (.cells #[.bool u, .slice a n cap] 205)).alloc (.cells #[.bool false, .slice none 0 0] 94)).alloc (.cells #[.bool false, .slice none 0 0] 94)).heap.size = w.heap.size + 1 + 1 + 1 := by simp
  simp only [World.size_alloc] at z1 z2
  obtain ⟨W0, hW0⟩ : ∃ W, ((w.alloc (.cells #[.bool u, .slice a n cap] 205)).alloc (.cells #[.bool false, .slice none 0 0] 94)).alloc (.cells #[.bool false, .slice none 0 0] 94) = W := ⟨_, rfl⟩
  rw [hW0] at B0 z0 z1 z2 hs0
  rw [hH] at z0 z1 z2 hs0 B0
  have x0 := z0.cell 0
  have f0 := z2.frozen 0
  have y1 := (z1.other (B' := H + 1 + 1) (by omega) 0 (.bool u))
  have y2 := (z2.set 0 (.bool u))
  have y0 := (z0.other (B' := H + 1 + 1) (by omega) 0 (.bool u))
  have B1 : Below H w (W0.setCell ⟨H + 1 + 1, 0, none⟩ (.bool u)) := B0.setCell (p := ⟨H + 1 + 1, 0, none⟩) (by simp only; omega) _
  have hcall := toByteS_any a n cap zs (W0.setCell ⟨H + 1 + 1, 0, none⟩ (.bool u)) hn hs (hr.keep (by rw [hH]; exact B1))
  have c0 := z2.cell 0
  have hs1 : (W0.setCell ⟨H + 1 + 1, 0, none⟩ (.bool u)).heap.size = H + 1 + 1 + 1 := by rw [size_setC]; exact hs0
  have q1 := y0.cell 1
  simp at x0 c0 q1
  have HB : Hid _ := B1
  clear hr B0 B1 hn
  go_enter Tryz.func171, Tryz.ntmps171
  go_wp2_with fail
  refine hcall.mono ?_
  rintro e w1 ⟨rfl, ho, hb1⟩
  rw [hs1] at ho hb1 ⊢
  have B2 := HB.out.trans (hb1.mono (by omega))
  have u1 := y1.keep (by rw [hs1]; exact hb1)
  have u2 := y2.keep (by rw [hs1]; exact hb1)
  have c1 := u2.cell 1
  have f1 := u2.frozen 1
  have v2 := u2.set 1 (.slice (some ⟨H + 1 + 1 + 1, 0, none⟩) n n)
  have v1 := u1.other (B' := H + 1 + 1) (by omega) 1 (.slice (some ⟨H + 1 + 1 + 1, 0, none⟩) n n)
  have d0 := v2.cell 0
  have d1 := v2.cell 1
  have g0 := v1.cell 0
  have g1 := v1.cell 1
  have h0 := v1.frozen 0
  have h1 := v1.frozen 1
  have r0 := ((v1.set 0 (.bool u)).set 1 (.slice (some ⟨H + 1 + 1 + 1, 0, none⟩) n n)).cell 0
  have r1 := ((v1.set 0 (.bool u)).set 1 (.slice (some ⟨H + 1 + 1 + 1, 0, none⟩) n n)).cell 1
  simp at c1 d0 d1 g0 g1 r0 r1
  have HO : Hid (Own w1 (H + 1 + 1 + 1) n n zs ∧ Below H w w1) := ⟨ho, B2⟩
  clear ho B2 u1 u2 v1 v2 y0 y1 y2 z0 z1 z2 hcall hb1 x0 c0 q1 f0
  go_wp2
  refine bodyPost_ret (v := .agg #[.bool u, .slice (some ⟨H + 1 + 1 + 1, 0, none⟩) n n]) (by simp [results, Tryz.f171, go_sem, r0, r1]) rfl ?_
  obtain ⟨ho, B2⟩ := HO.out
  have k := fun (W : World) (j i : Nat) (v : Value) => gr_setC W j i v
  refine ⟨H + 1 + 1 + 1, rfl, ((ho.kept (k _ (H + 1 + 1) 1 _) (by omega)).kept (k _ (H + 1) 0 _) (by omega)).kept (k _ (H + 1) 1 _) (by omega), by omega, ?_⟩
  have s : ∀ (W : World) (j i : Nat) (v : Value), H ≤ j → Below H w W → Below H w (W.setCell ⟨j, i, none⟩ v) := fun W j i v hj hb => hb.setCell (p := ⟨j, i, none⟩) hj v
  rw [hH]
  exact s _ _ _ _ (by omega) (s _ _ _ _ (by omega) (s _ _ _ _ (by omega) B2))
theorem Own.pg {w : World} {g n c : Nat} {zs : List Int} (u : Bool) (h : Own w g n c zs) : PgR.own w ⟨u, some ⟨g, 0, none⟩, c, zs⟩ := by
  have hl := h.len
  subst hl
  refine ⟨OwnV.rowB (B := 0) (Own.toV h (Nat.zero_le _)), ?_⟩
  show zs.length ≤ c
  rcases h.2 with ⟨h1, h2⟩ | ⟨g', c', cur, h1, _, _, h2, _⟩
  · simp at h1
  · simp only [Value.slice.injEq] at h1
    omega
theorem list_mid {α : Type} (us : List α) (z : α) (m k : Nat) (h : us.length = k) (hm : 0 < m) : (us ++ List.replicate m z)[k]? = some z := by
  rw [List.getElem?_append_right (by omega), h, Nat.sub_self, List.getElem?_replicate, if_pos hm]
theorem set_set_at {α : Type} (l : List α) (i : Nat) (x y : α) : (l.set i x).set i y = l.set i y := by simp
set_option maxHeartbeats 3200000 in
theorem toPageS_any (a : Option Addr) (n cap : Nat) (ps : List PgR) (w : World) (hn : ps.length = n) (hs : totP (ps.map PgR.D) ≤ 1048576) (hr : RdPs w a ps) :
    Calls Tryz.prog 160 #[.slice a n cap] w fun e w' => ∃ qs, e = .returned (.slice (some ⟨w.heap.size, 0, none⟩) n n) ∧ NewPs w' w.heap.size (.slice (some ⟨w.heap.size, 0, none⟩) n n) (ps.map PgR.D) qs ∧ Below w.heap.size w w' := by
  obtain ⟨i0, hi, hz0, hz1, hz2⟩ := info_parts Tryz.infoPage
  have hl := totP_len (ps.map PgR.D)
  have hnn : n ≤ 1048576 := by simp at hl; omega
  clear hl
  have hm : n ≤ maxLen := by unfold maxLen; omega
  have hby : i0.bytes * n ≤ 281474976710656 := by rw [hz2]; omega
  by_cases h0 : n = 0
  · subst h0
    obtain rfl : ps = [] := List.length_eq_zero_iff.1 hn
    go_enter Tryz.func160, Tryz.ntmps160
    go_wp2_with (at_make; refine wpList_make_full _ rfl (.tmp 6) (.tmp 6) 80 rfl 0 94 i0 (.agg #[.bool false, .slice none 0 0]) 2 Tryz.underlying80 hi hz0 hz1 .i64 .i64 _ _ 0 rfl rfl rfl rfl hby hm (Nat.zero_le _) ?_; intro w1 hown hgrow)
    refine wp_loop_rounds 1 ?_; rw [rounds_succ]
    go_wp2
    go_ret
    exact ⟨[], rfl, (Inn.nil pgK w1 w.heap.size).newPs (made_ownPs hown) (Nat.le_refl _) (fun g hg => by simp [Value.ownBlock] at hg; subst hg; simp [Kd.fps]), (Below.refl _ _).grown hgrow (Nat.le_refl _) (by simp)⟩
  · obtain ⟨b, off, rfl, hlt, hc⟩ := hr.lt (by intro h; subst h; simp at hn; omega)
    have hn' : Hid (ps.length = n) := hn
    have HC : Hid _ := hc
    have HS : Hid _ := hs
    clear hr hn hc hs
    go_enter Tryz.func160, Tryz.ntmps160
    go_wp2_with (at_make; refine wpList_make_full _ rfl (.tmp 6) (.tmp 6) 80 rfl 0 94 i0 (.agg #[.bool false, .slice none 0 0]) 2 Tryz.underlying80 hi hz0 hz1 .i64 .i64 _ _ n rfl rfl rfl rfl hby hm (Nat.zero_le _) ?_; intro w1 hown hgrow)
    have ho := made_ownPs hown
    have hB : Below w.heap.size w w1 := (Below.refl _ _).grown hgrow (Nat.le_refl _) (by simp)
    clear hown hgrow
    go_loopw [4] (fun i wr => ∃ (k : Nat) (us : List PgR), k ≤ n ∧ i = .int .i64 k ∧ us.length = k ∧ Hid (Inn pgK wr (w.heap.size + 1) ((ps.take k).map PgR.D) us) ∧ OwnE pgE 94 wr (.slice (some ⟨w.heap.size, 0, none⟩) n n) n (us ++ List.replicate (n - k) pgZ) ∧ Below w.heap.size w wr) (fun i _ => n - (intOf i).toNat)
    case atStart => exact ⟨0, [], Nat.zero_le _, rfl, rfl, Inn.nil _ _ _, ho, hB⟩
    case round =>
      obtain ⟨k, us, hk, rfl, htk, hcp, hown, hbel⟩ := hrel
      clear ho hB
      by_cases hkn : k < n
      · have hkl : k < ps.length := by rw [hn'.out]; exact hkn
        have hki : (k : Int) < (n : Int) := by omega
        obtain ⟨r, hrk⟩ : ∃ r, ps[k]? = some r := ⟨_, List.getElem?_eq_getElem hkl⟩
        obtain ⟨x6, xr⟩ := HC.out k r hrk
        have htot := totP_at hrk
        have hso := HS.out
        have hcall := toPage_any r.used r.a r.zs.length r.cap r.zs wr rfl (by omega) (xr.keep hbel)
        obtain ⟨x0, x1⟩ := x6.keep hbel hlt
        have hrD : Hid ((ps.take (k + 1)).map PgR.D = (ps.take k).map PgR.D ++ [r.D]) := by
          show _ = _
          rw [List.take_add_one, hrk]
          simp
        obtain ⟨u, ra, rc, rz⟩ := r
        dsimp only at x0 x1 hcall
        obtain ⟨n1, hn1⟩ : ∃ n, rz.length = n := ⟨_, rfl⟩
        have HN1 : Hid (rz.length = n1) := hn1
        rw [hn1] at x1 hcall
        have hwz := hbel.size
        clear x6 xr hn1 hrk hkl htot hso
        go_wp2_with fail
        refine hcall.mono ?_
        rintro e w1 ⟨g, rfl, hog, hgs, hb1⟩
        have ho1 := hown.keep hb1
        have hlc := ho1.lt (g := w.heap.size) rfl
        have hlw := hown.lt (g := w.heap.size) rfl
        have hzk : (us ++ List.replicate (n - k) pgZ)[k]? = some pgZ := list_mid us pgZ (n - k) k htk (by omega)
        have q0 := ho1.cell k 0 pgZ hzk (by decide)
        have q1 := ho1.cell k 1 pgZ hzk (by decide)
        have f0 := ho1.frozen (k * 2)
        have f1 := ho1.frozen (k * 2 + 1)
        have s0 := ho1.set k 0 pgZ ⟨u, none, 0, []⟩ (.bool u) hzk (by decide) rfl
        have hzk1 : ((us ++ List.replicate (n - k) pgZ).set k ⟨u, none, 0, []⟩)[k]? = some ⟨u, none, 0, []⟩ := by
          rw [List.getElem?_set_self (by simp; omega)]
        have s1 := s0.set k 1 ⟨u, none, 0, []⟩ ⟨u, some ⟨g, 0, none⟩, n1, rz⟩ (.slice (some ⟨g, 0, none⟩) n1 n1) hzk1 (by decide) (by simp [pgE, HN1.out])
        rw [set_set_at, show (us ++ List.replicate (n - k) pgZ).set k ⟨u, some ⟨g, 0, none⟩, n1, rz⟩ = (us ++ [⟨u, some ⟨g, 0, none⟩, n1, rz⟩]) ++ List.replicate (n - (k + 1)) pgZ by rw [← htk, set_mid us _ _ _ (by omega), htk, show n - k - 1 = n - (k + 1) by omega]] at s1
        have hgr : w1.grownBy ((w1.setCell ⟨w.heap.size, k * 2, none⟩ (.bool u)).setCell ⟨w.heap.size, k * 2 + 1, none⟩ (.slice (some ⟨g, 0, none⟩) n1 n1)) (some w.heap.size) := gr_more (gr_setC w1 w.heap.size (k * 2) _) _ _
        have hbel1 : Below w.heap.size w w1 := hbel.trans (hb1.mono hwz)
        have hbel' := hbel1.grown hgr hbel1.size (by intro g hg; simp at hg; omega)
        have hin := hcp.out.keep hb1
        have hcp' : Hid (Inn pgK ((w1.setCell ⟨w.heap.size, k * 2, none⟩ (.bool u)).setCell ⟨w.heap.size, k * 2 + 1, none⟩ (.slice (some ⟨g, 0, none⟩) n1 n1)) (w.heap.size + 1) ((ps.take (k + 1)).map PgR.D) (us ++ [⟨u, some ⟨g, 0, none⟩, n1, rz⟩])) := by
          show Inn _ _ _ _ _
          rw [hrD.out]
          have h3 := hin.kept hgr (hin.below (by omega))
          have hgo : PgR.own ((w1.setCell ⟨w.heap.size, k * 2, none⟩ (.bool u)).setCell ⟨w.heap.size, k * 2 + 1, none⟩ (.slice (some ⟨g, 0, none⟩) n1 n1)) ⟨u, some ⟨g, 0, none⟩, n1, rz⟩ := Own.pg u (hog.kept hgr (by omega))
          exact h3.snoc (S := wr.heap.size) (q := (⟨u, some ⟨g, 0, none⟩, n1, rz⟩ : PgR)) (fun j hj => hcp.out.lt j hj) hgo (fun j hj => by simp [pgK, PgR.v, Value.ownBlock] at hj; omega) (by simp [pgK, PgR.v, Value.ownBlock])
        have hl' : (us ++ [⟨u, some ⟨g, 0, none⟩, n1, rz⟩] : List PgR).length = k + 1 := by simp [htk]
        have q0' : w1.cell? ⟨w.heap.size, k * 2, none⟩ = some (.bool false) := q0
        have q1' : w1.cell? ⟨w.heap.size, k * 2 + 1, none⟩ = some (.slice none 0 0) := q1
        have S1 : Hid _ := s1
        clear hown hbel hcp ho1 hb1 hbel1 hgr hcall hzk hzk1 s0 s1 hin q0 q1 hog
        go_wp2
        go_roundw
        case rel => exact ⟨k + 1, _, by omega, by go_num, hl', hcp', S1.out, hbel'⟩
        case measure => simp [intOf]; omega
      · go_wp2
        go_ret
        obtain rfl : k = n := by omega
        have := hcp.out
        rw [List.take_of_length_le (by rw [hn'.out]; omega)] at this
        rw [Nat.sub_self, List.replicate_zero, List.append_nil] at hown
        refine ⟨us, rfl, this.newPs (by rw [htk]; exact hown) (by omega) (fun g hg => ?_), hbel⟩
        simp [Value.ownBlock] at hg
        subst hg
        exact ⟨Nat.le_refl _, this.below (by omega)⟩
set_option maxHeartbeats 1600000 in
theorem toBlock_any (a : Option Addr) (n cap : Nat) (wear : Int) (bad : Bool) (ps : List PgR) (w : World) (hn : ps.length = n) (hs : totP (ps.map PgR.D) ≤ 1048576) (hr : RdPs w a ps) :
    Calls Tryz.prog 134 #[.agg #[.slice a n cap, .int .i64 wear, .bool bad]] w fun e w' => ∃ g qs, e = .returned (.agg #[.slice (some ⟨g, 0, none⟩) n n, .int .i64 wear, .bool bad]) ∧ NewPs w' w.heap.size (.slice (some ⟨g, 0, none⟩) n n) (ps.map PgR.D) qs ∧ Below w.heap.size w w' := by
  have B0 : Below w.heap.size w (((w.alloc (.cells #[.slice a n cap, .int .i64 wear, .bool bad] 166)).alloc (.cells #[.slice none 0 0, .int .i64 0, .bool false] 82)).alloc (.cells #[.slice none 0 0, .int .i64 0, .bool false] 82)) := (((Below.refl _ w).alloc (Nat.le_refl _) _).alloc (by simp) _).alloc (by simp; omega) _
  obtain ⟨H, hH⟩ : ∃ H, w.heap.size = H := ⟨_, rfl⟩
  have z0 : Blk (((w.alloc (.cells #[.slice a n cap, .int .i64 wear, .bool bad] 166)).alloc (.cells #[.slice none 0 0, .int .i64 0, .bool false] 82)).alloc (.cells #[.slice none 0 0, .int .i64 0, .bool false] 82)) w.heap.size 166 #[.slice a n cap, .int .i64 wear, .bool bad] := ((Blk.new w 166 _).alloc _).alloc _
  have z1 := (Blk.new (w.alloc (.cells #[.slice a n cap, .int .i64 wear, .bool bad] 166)) 82 #[.slice none 0 0, .int .i64 0, .bool false]).alloc (.cells #[.slice none 0 0, .int .i64 0, .bool false] 82)
  have z2 := Blk.new ((w.alloc (.cells #[.slice a n cap, .int .i64 wear, .bool bad] 166)).alloc (.cells #[.slice none 0 0, .int .i64 0, .bool false] 82)) 82 #[.slice none 0 0, .int .i64 0, .bool false]
  have hs0 : (((w.alloc (.cells #[.slice a n cap, .int .i64 wear, .bool bad] 166)).alloc (.cells #[.slice none 0 0, .int .i64 0, .bool false] 82)).alloc (.cells #[.slice none 0 0, .int .i64 0, .bool false] 82)).heap.size = w.heap.size + 1 + 1 + 1 := by simp
  simp only [World.size_alloc] at z1 z2
  obtain ⟨W0, hW0⟩ : ∃ W, ((w.alloc (.cells #[.slice a n cap, .int .i64 wear, .bool bad] 166)).alloc (.cells #[.slice none 0 0, .int .i64 0, .bool false] 82)).alloc (.cells #[.slice none 0 0, .int .i64 0, .bool false] 82) = W := ⟨_, rfl⟩
  rw [hW0] at B0 z0 z1 z2 hs0
  have hcall := toPageS_any a n cap ps W0 hn hs (hr.keep B0)
  rw [hH] at z0 z1 z2 hs0 B0
  rw [hs0] at hcall
  have x0 := z0.cell 0
  simp at x0
  have HB : Hid _ := B0
  clear hr B0 hn
  go_enter Tryz.func134, Tryz.ntmps134
  go_wp2_with fail
  refine hcall.mono ?_
  rintro e w1 ⟨qs, rfl, ho, hb1⟩
  have B2 := HB.out.trans (hb1.mono (by omega))
  have t0 := z0.keep (by rw [hs0]; exact hb1)
  have t1 := z1.keep (by rw [hs0]; exact hb1)
  have t2 := z2.keep (by rw [hs0]; exact hb1)
  clear z0 z1 z2 hb1 hcall
  have a1 := t0.cell 1
  have a2 := t0.cell 2
  have c0 := t2.cell 0
  have c1 := t2.cell 1
  have c2 := t2.cell 2
  have f0 := t2.frozen 0
  have f1 := t2.frozen 1
  have f2 := t2.frozen 2
  have v2 := ((t2.set 0 (.slice (some ⟨H + 1 + 1 + 1, 0, none⟩) n n)).set 1 (.int .i64 wear)).set 2 (.bool bad)
  have v1 := ((t1.other (B' := H + 1 + 1) (by omega) 0 (.slice (some ⟨H + 1 + 1 + 1, 0, none⟩) n n)).other (B' := H + 1 + 1) (by omega) 1 (.int .i64 wear)).other (B' := H + 1 + 1) (by omega) 2 (.bool bad)
  have d0 := v2.cell 0
  have d1 := v2.cell 1
  have d2 := v2.cell 2
  have g0 := v1.cell 0
  have g1 := v1.cell 1
  have g2 := v1.cell 2
  have h0 := v1.frozen 0
  have h1 := v1.frozen 1
  have h2 := v1.frozen 2
  have r0 := (((v1.set 0 (.slice (some ⟨H + 1 + 1 + 1, 0, none⟩) n n)).set 1 (.int .i64 wear)).set 2 (.bool bad)).cell 0
  have r1 := (((v1.set 0 (.slice (some ⟨H + 1 + 1 + 1, 0, none⟩) n n)).set 1 (.int .i64 wear)).set 2 (.bool bad)).cell 1
  have r2 := (((v1.set 0 (.slice (some ⟨H + 1 + 1 + 1, 0, none⟩) n n)).set 1 (.int .i64 wear)).set 2 (.bool bad)).cell 2
  simp at a1 a2 c0 c1 c2 d0 d1 d2 g0 g1 g2 r0 r1 r2
  have HO : Hid (NewPs w1 (H + 1 + 1 + 1) (.slice (some ⟨H + 1 + 1 + 1, 0, none⟩) n n) (ps.map PgR.D) qs ∧ Below H w w1) := ⟨ho, B2⟩
  clear ho B2 v1 v2 t0 t1 t2
  go_wp2
  refine bodyPost_ret (v := .agg #[.slice (some ⟨H + 1 + 1 + 1, 0, none⟩) n n, .int .i64 wear, .bool bad]) (by simp [results, Tryz.f134, go_sem, r0, r1, r2]) rfl ?_
  obtain ⟨ho, B2⟩ := HO.out
  have s : ∀ (W : World) (j i : Nat) (v : Value), H ≤ j → Below H w W → Below H w (W.setCell ⟨j, i, none⟩ v) := fun W j i v hj hb => hb.setCell (p := ⟨j, i, none⟩) hj v
  have k : ∀ (W : World) (j i : Nat) (v : Value), j < H + 1 + 1 + 1 → NewPs W (H + 1 + 1 + 1) (.slice (some ⟨H + 1 + 1 + 1, 0, none⟩) n n) (ps.map PgR.D) qs → NewPs (W.setCell ⟨j, i, none⟩ v) (H + 1 + 1 + 1) (.slice (some ⟨H + 1 + 1 + 1, 0, none⟩) n n) (ps.map PgR.D) qs := fun W j i v hj h => ⟨h.D, h.own.block fun g hg => Below.heap_setCell _ _ _ _ (by have := h.new g hg; show g ≠ j; omega), h.new, h.nd⟩
  refine ⟨H + 1 + 1 + 1, qs, rfl, (k _ _ _ _ (by omega) (k _ _ _ _ (by omega) (k _ _ _ _ (by omega) (k _ _ _ _ (by omega) (k _ _ _ _ (by omega) (k _ _ _ _ (by omega) ho)))))).wider (by omega), ?_⟩
  rw [hH]
  exact s _ _ _ _ (by omega) (s _ _ _ _ (by omega) (s _ _ _ _ (by omega) (s _ _ _ _ (by omega) (s _ _ _ _ (by omega) (s _ _ _ _ (by omega) B2)))))
theorem NewPs.set_below {W : World} {B j i : Nat} {v u : Value} {ds : List PgD} {qs : List PgR} (h : NewPs W B v ds qs) (hj : j < B) : NewPs (W.setCell ⟨j, i, none⟩ u) B v ds qs := ⟨h.D, h.own.block fun g hg => Below.heap_setCell _ _ _ _ (by have := h.new g hg; show g ≠ j; omega), h.new, h.nd⟩
theorem NewBs.set_below {W : World} {B j i : Nat} {v u : Value} {ds : List BkD} {qs : List BkR} (h : NewBs W B v ds qs) (hj : j < B) : NewBs (W.setCell ⟨j, i, none⟩ u) B v ds qs := ⟨h.D, h.own.block fun g hg => Below.heap_setCell _ _ _ _ (by have := h.new g hg; show g ≠ j; omega), h.new, h.nd⟩
set_option maxHeartbeats 3200000 in
theorem toBlockS_any (a : Option Addr) (n cap : Nat) (bs : List BkR) (w : World) (hn : bs.length = n) (hs : totB (bs.map BkR.D) ≤ 1048576) (hr : RdBs w a bs) :
    Calls Tryz.prog 108 #[.slice a n cap] w fun e w' => ∃ qs, e = .returned (.slice (some ⟨w.heap.size, 0, none⟩) n n) ∧ NewBs w' w.heap.size (.slice (some ⟨w.heap.size, 0, none⟩) n n) (bs.map BkR.D) qs ∧ Below w.heap.size w w' := by
  obtain ⟨i0, hi, hz0, hz1, hz2⟩ := info_parts Tryz.infoBlock
  have hl := totB_len (bs.map BkR.D)
  have hnn : n ≤ 1048576 := by simp at hl; omega
  clear hl
  have hm : n ≤ maxLen := by unfold maxLen; omega
  have hby : i0.bytes * n ≤ 281474976710656 := by rw [hz2]; omega
  by_cases h0 : n = 0
  · subst h0
    obtain rfl : bs = [] := List.length_eq_zero_iff.1 hn
    go_enter Tryz.func108, Tryz.ntmps108
    go_wp2_with (at_make; refine wpList_make_full _ rfl (.tmp 6) (.tmp 6) 32 rfl 0 82 i0 (.agg #[.slice none 0 0, .int .i64 0, .bool false]) 3 Tryz.underlying32 hi hz0 hz1 .i64 .i64 _ _ 0 rfl rfl rfl rfl hby hm (Nat.zero_le _) ?_; intro w1 hown hgrow)
    refine wp_loop_rounds 1 ?_; rw [rounds_succ]
    go_wp2
    go_ret
    exact ⟨[], rfl, (Inn.nil bkK w1 w.heap.size).newBs (made_ownBs hown) (Nat.le_refl _) (fun g hg => by simp [Value.ownBlock] at hg; subst hg; simp [Kd.fps]), (Below.refl _ _).grown hgrow (Nat.le_refl _) (by simp)⟩
  · obtain ⟨b, off, rfl, hlt, hc⟩ := hr.lt (by intro h; subst h; simp at hn; omega)
    have hn' : Hid (bs.length = n) := hn
    have HC : Hid _ := hc
    have HS : Hid _ := hs
    clear hr hn hc hs
    go_enter Tryz.func108, Tryz.ntmps108
    go_wp2_with (at_make; refine wpList_make_full _ rfl (.tmp 6) (.tmp 6) 32 rfl 0 82 i0 (.agg #[.slice none 0 0, .int .i64 0, .bool false]) 3 Tryz.underlying32 hi hz0 hz1 .i64 .i64 _ _ n rfl rfl rfl rfl hby hm (Nat.zero_le _) ?_; intro w1 hown hgrow)
    have ho := made_ownBs hown
    have hB : Below w.heap.size w w1 := (Below.refl _ _).grown hgrow (Nat.le_refl _) (by simp)
    clear hown hgrow
    go_loopw [4] (fun i wr => ∃ (k : Nat) (us : List BkR), k ≤ n ∧ i = .int .i64 k ∧ us.length = k ∧ Hid (Inn bkK wr (w.heap.size + 1) ((bs.take k).map BkR.D) us) ∧ OwnE bkE 82 wr (.slice (some ⟨w.heap.size, 0, none⟩) n n) n (us ++ List.replicate (n - k) bkZ) ∧ Below w.heap.size w wr) (fun i _ => n - (intOf i).toNat)
    case atStart => exact ⟨0, [], Nat.zero_le _, rfl, rfl, Inn.nil _ _ _, ho, hB⟩
    case round =>
      obtain ⟨k, us, hk, rfl, htk, hcp, hown, hbel⟩ := hrel
      clear ho hB
      by_cases hkn : k < n
      · have hkl : k < bs.length := by rw [hn'.out]; exact hkn
        have hki : (k : Int) < (n : Int) := by omega
        obtain ⟨r, hrk⟩ : ∃ r, bs[k]? = some r := ⟨_, List.getElem?_eq_getElem hkl⟩
        obtain ⟨x6, xr⟩ := HC.out k r hrk
        have htot := totB_at hrk
        have hso := HS.out
        have hcall := toBlock_any r.a r.ps.length r.cap r.wear r.bad r.ps wr rfl (by omega) (xr.keep hbel)
        obtain ⟨x0, x1, x2⟩ := x6.keep hbel hlt
        have hrD : Hid ((bs.take (k + 1)).map BkR.D = (bs.take k).map BkR.D ++ [⟨r.ps.map PgR.D, r.wear, r.bad⟩]) := by
          show _ = _
          rw [List.take_add_one, hrk]
          simp [BkR.D]
        obtain ⟨ra, rc, rp, wear, bad⟩ := r
        dsimp only at x0 x1 x2 hcall hrD
        obtain ⟨rD, hrd⟩ : ∃ d, rp.map PgR.D = d := ⟨_, rfl⟩
        rw [hrd] at hcall hrD
        obtain ⟨n1, hn1⟩ : ∃ n, rp.length = n := ⟨_, rfl⟩
        have HN1 : Hid (rD.length = n1) := by show _ = _; rw [← hrd]; simp [hn1]
        rw [hn1] at x0 hcall
        have hwz := hbel.size
        clear x6 xr hn1 hrk hkl htot hso hrd
        go_wp2_with fail
        refine hcall.mono ?_
        rintro e w1 ⟨g, qs, rfl, hnp, hb1⟩
        have hqn : qs.length = n1 := by rw [hnp.len, HN1.out]
        have ho1 := hown.keep hb1
        have hlc := ho1.lt (g := w.heap.size) rfl
        have hlw := hown.lt (g := w.heap.size) rfl
        have hzk : (us ++ List.replicate (n - k) bkZ)[k]? = some bkZ := list_mid us bkZ (n - k) k htk (by omega)
        have q0 := ho1.cell k 0 bkZ hzk (by decide)
        have q1 := ho1.cell k 1 bkZ hzk (by decide)
        have q2 := ho1.cell k 2 bkZ hzk (by decide)
        have f0 := ho1.frozen (k * 3)
        have f1 := ho1.frozen (k * 3 + 1)
        have f2 := ho1.frozen (k * 3 + 2)
        have s0 := ho1.set k 0 bkZ ⟨some ⟨g, 0, none⟩, n1, qs, 0, false⟩ (.slice (some ⟨g, 0, none⟩) n1 n1) hzk (by decide) (by simp [bkE, hqn, bkZ])
        have hzk1 : ((us ++ List.replicate (n - k) bkZ).set k ⟨some ⟨g, 0, none⟩, n1, qs, 0, false⟩)[k]? = some ⟨some ⟨g, 0, none⟩, n1, qs, 0, false⟩ := by
          rw [List.getElem?_set_self (by simp; omega)]
        have s1 := s0.set k 1 ⟨some ⟨g, 0, none⟩, n1, qs, 0, false⟩ ⟨some ⟨g, 0, none⟩, n1, qs, wear, false⟩ (.int .i64 wear) hzk1 (by decide) (by simp [bkE])
        rw [set_set_at] at s1
        have hzk2 : ((us ++ List.replicate (n - k) bkZ).set k ⟨some ⟨g, 0, none⟩, n1, qs, wear, false⟩)[k]? = some ⟨some ⟨g, 0, none⟩, n1, qs, wear, false⟩ := by
          rw [List.getElem?_set_self (by simp; omega)]
        have s2 := s1.set k 2 ⟨some ⟨g, 0, none⟩, n1, qs, wear, false⟩ ⟨some ⟨g, 0, none⟩, n1, qs, wear, bad⟩ (.bool bad) hzk2 (by decide) (by simp [bkE])
        rw [set_set_at, show (us ++ List.replicate (n - k) bkZ).set k ⟨some ⟨g, 0, none⟩, n1, qs, wear, bad⟩ = (us ++ [⟨some ⟨g, 0, none⟩, n1, qs, wear, bad⟩]) ++ List.replicate (n - (k + 1)) bkZ by rw [← htk, set_mid us _ _ _ (by omega), htk, show n - k - 1 = n - (k + 1) by omega]] at s2
        have hgr : w1.grownBy (((w1.setCell ⟨w.heap.size, k * 3, none⟩ (.slice (some ⟨g, 0, none⟩) n1 n1)).setCell ⟨w.heap.size, k * 3 + 1, none⟩ (.int .i64 wear)).setCell ⟨w.heap.size, k * 3 + 2, none⟩ (.bool bad)) (some w.heap.size) := gr_more (gr_more (gr_setC w1 w.heap.size (k * 3) _) _ _) _ _
        have hbel1 : Below w.heap.size w w1 := hbel.trans (hb1.mono hwz)
        have hbel' := hbel1.grown hgr hbel1.size (by intro g hg; simp at hg; omega)
        have hin := hcp.out.keep hb1
        have hcp' : Hid (Inn bkK (((w1.setCell ⟨w.heap.size, k * 3, none⟩ (.slice (some ⟨g, 0, none⟩) n1 n1)).setCell ⟨w.heap.size, k * 3 + 1, none⟩ (.int .i64 wear)).setCell ⟨w.heap.size, k * 3 + 2, none⟩ (.bool bad)) (w.heap.size + 1) ((bs.take (k + 1)).map BkR.D) (us ++ [⟨some ⟨g, 0, none⟩, n1, qs, wear, bad⟩])) := by
          show Inn _ _ _ _ _
          rw [hrD.out, ← hnp.D]
          have h3 := hin.kept hgr (hin.below (by omega))
          have hnp' : NewPs (((w1.setCell ⟨w.heap.size, k * 3, none⟩ (.slice (some ⟨g, 0, none⟩) n1 n1)).setCell ⟨w.heap.size, k * 3 + 1, none⟩ (.int .i64 wear)).setCell ⟨w.heap.size, k * 3 + 2, none⟩ (.bool bad)) wr.heap.size (.slice (some ⟨g, 0, none⟩) n1 n1) rD qs := ((hnp.set_below (by omega)).set_below (by omega)).set_below (by omega)
          have hgo : bkK.own (((w1.setCell ⟨w.heap.size, k * 3, none⟩ (.slice (some ⟨g, 0, none⟩) n1 n1)).setCell ⟨w.heap.size, k * 3 + 1, none⟩ (.int .i64 wear)).setCell ⟨w.heap.size, k * 3 + 2, none⟩ (.bool bad)) (⟨some ⟨g, 0, none⟩, n1, qs, wear, bad⟩ : BkR) := by
            show OwnPs _ (.slice (some ⟨g, 0, none⟩) qs.length n1) qs
            rw [hqn]; exact hnp'.own
          have hfp : bkK.fp (⟨some ⟨g, 0, none⟩, n1, qs, wear, bad⟩ : BkR) = fpPs (.slice (some ⟨g, 0, none⟩) n1 n1) qs := by
            show fpPs (.slice (some ⟨g, 0, none⟩) qs.length n1) qs = _
            rw [hqn]
          exact h3.snoc (S := wr.heap.size) (q := (⟨some ⟨g, 0, none⟩, n1, qs, wear, bad⟩ : BkR)) (fun j hj => hcp.out.lt j hj) hgo (fun j hj => by rw [hfp] at hj; have := hnp.new j hj; omega) (by rw [hfp]; exact hnp.nd)
        have hl' : (us ++ [⟨some ⟨g, 0, none⟩, n1, qs, wear, bad⟩] : List BkR).length = k + 1 := by simp [htk]
        have q0' : w1.cell? ⟨w.heap.size, k * 3, none⟩ = some (.slice none 0 0) := q0
        have q1' : w1.cell? ⟨w.heap.size, k * 3 + 1, none⟩ = some (.int .i64 0) := q1
        have q2' : w1.cell? ⟨w.heap.size, k * 3 + 2, none⟩ = some (.bool false) := q2
        have S1 : Hid _ := s2
        clear hown hbel hcp ho1 hb1 hbel1 hgr hcall hzk hzk1 hzk2 s0 s1 s2 hin q0 q1 q2 hnp hqn
        go_wp2
        go_roundw
        case rel => exact ⟨k + 1, _, by omega, by go_num, hl', hcp', S1.out, hbel'⟩
        case measure => simp [intOf]; omega
      · go_wp2
        go_ret
        obtain rfl : k = n := by omega
        have := hcp.out
        rw [List.take_of_length_le (by rw [hn'.out]; omega)] at this
        rw [Nat.sub_self, List.replicate_zero, List.append_nil] at hown
        refine ⟨us, rfl, this.newBs (by rw [htk]; exact hown) (by omega) (fun g hg => ?_), hbel⟩
        simp [Value.ownBlock] at hg
        subst hg
        exact ⟨Nat.le_refl _, this.below (by omega)⟩
set_option maxHeartbeats 1600000 in
theorem toChip_any (a : Option Addr) (n cap : Nat) (bs : List BkR) (w : World) (hn : bs.length = n) (hs : totB (bs.map BkR.D) ≤ 1048576) (hr : RdBs w a bs) :
    Calls Tryz.prog 73 #[.agg #[.slice a n cap]] w fun e w' => ∃ g qs, e = .returned (.agg #[.slice (some ⟨g, 0, none⟩) n n]) ∧ NewBs w' w.heap.size (.slice (some ⟨g, 0, none⟩) n n) (bs.map BkR.D) qs ∧ Below w.heap.size w w' := by
  have B0 : Below w.heap.size w (((w.alloc (.cells #[.slice a n cap] 24)).alloc (.cells #[.slice none 0 0] 34)).alloc (.cells #[.slice none 0 0] 34)) := (((Below.refl _ w).alloc (Nat.le_refl _) _).alloc (by simp) _).alloc (by simp; omega) _
  obtain ⟨H, hH⟩ : ∃ H, w.heap.size = H := ⟨_, rfl⟩
  have z0 : Blk (((w.alloc (.cells #[.slice a n cap] 24)).alloc (.cells #[.slice none 0 0] 34)).alloc (.cells #[.slice none 0 0] 34)) w.heap.size 24 #[.slice a n cap] := ((Blk.new w 24 _).alloc _).alloc _
  have z1 := (Blk.new (w.alloc (.cells #[.slice a n cap] 24)) 34 #[.slice none 0 0]).alloc (.cells #[.slice none 0 0] 34)
  have z2 := Blk.new ((w.alloc (.cells #[.slice a n cap] 24)).alloc (.cells #[.slice none 0 0] 34)) 34 #[.slice none 0 0]
  have hs0 : (((w.alloc (.cells #[.slice a n cap] 24)).alloc (.cells #[.slice none 0 0] 34)).alloc (.cells #[.slice none 0 0] 34)).heap.size = w.heap.size + 1 + 1 + 1 := by simp
  simp only [World.size_alloc] at z1 z2
  obtain ⟨W0, hW0⟩ : ∃ W, ((w.alloc (.cells #[.slice a n cap] 24)).alloc (.cells #[.slice none 0 0] 34)).alloc (.cells #[.slice none 0 0] 34) = W := ⟨_, rfl⟩
  rw [hW0] at B0 z0 z1 z2 hs0
  have hcall := toBlockS_any a n cap bs W0 hn hs (hr.keep B0)
  rw [hH] at z0 z1 z2 hs0 B0
  rw [hs0] at hcall
  have x0 := z0.cell 0
  simp at x0
  have HB : Hid _ := B0
  clear hr B0 hn
  go_enter Tryz.func73, Tryz.ntmps73
  go_wp2_with fail
  refine hcall.mono ?_
  rintro e w1 ⟨qs, rfl, ho, hb1⟩
  have B2 := HB.out.trans (hb1.mono (by omega))
  have t1 := z1.keep (by rw [hs0]; exact hb1)
  have t2 := z2.keep (by rw [hs0]; exact hb1)
  clear z1 z2 hb1 hcall
  have c0 := t2.cell 0
  have f0 := t2.frozen 0
  have v2 := t2.set 0 (.slice (some ⟨H + 1 + 1 + 1, 0, none⟩) n n)
  have v1 := t1.other (B' := H + 1 + 1) (by omega) 0 (.slice (some ⟨H + 1 + 1 + 1, 0, none⟩) n n)
  have d0 := v2.cell 0
  have g0 := v1.cell 0
  have h0 := v1.frozen 0
  have r0 := (v1.set 0 (.slice (some ⟨H + 1 + 1 + 1, 0, none⟩) n n)).cell 0
  simp at c0 d0 g0 r0
  have HO : Hid (NewBs w1 (H + 1 + 1 + 1) (.slice (some ⟨H + 1 + 1 + 1, 0, none⟩) n n) (bs.map BkR.D) qs ∧ Below H w w1) := ⟨ho, B2⟩
  clear ho B2 v1 v2 t1 t2
  go_wp2
  refine bodyPost_ret (v := .agg #[.slice (some ⟨H + 1 + 1 + 1, 0, none⟩) n n]) (by simp [results, Tryz.f73, go_sem, r0]) rfl ?_
  obtain ⟨ho, B2⟩ := HO.out
  refine ⟨H + 1 + 1 + 1, qs, rfl, ((ho.set_below (by omega)).set_below (by omega)).wider (by omega), ?_⟩
  rw [hH]
  exact (B2.setCell (p := ⟨H + 1 + 1, 0, none⟩) (by simp only; omega) _).setCell (p := ⟨H + 1, 0, none⟩) (by simp only; omega) _
theorem NewBs.rd {w : World} {B n c : Nat} {a : Option Addr} {ds : List BkD} {bs : List BkR} (h : NewBs w B (.slice a n c) ds bs) : RdBs w a bs := h.own.rd
/-- eqChip of two that say the same. -/
theorem eqNew {w : World} {B B' n c c' : Nat} {a a' : Option Addr} {ds : List BkD} {bs bs' : List BkR} (hn : ds.length = n) (hs : totB ds ≤ 4000000) (h : NewBs w B (.slice a n c) ds bs) (h' : NewBs w B' (.slice a' n c') ds bs') :
    Calls Tryz.prog 79 #[.agg #[.slice a n c], .agg #[.slice a' n c']] w fun e w' => e = .returned (.bool true) ∧ Below w.heap.size w w' :=
  eqChip_same a a' n c c' bs bs' w (by rw [h.len, hn]) (by rw [h.D, h'.D]) (by rw [h.D]; exact hs) h.rd h'.rd
end

section
open Go.RowKit
/-- What the measuring functions answer: below 0, or what is left of x when c is taken, and P. -/
def SzQ (x c : Nat) (P : Prop) (e : Ending) : Prop := e = .returned (.int .i64 (-1)) ∨ ∃ v : Nat, v + c ≤ x ∧ e = .returned (.int .i64 v) ∧ P
set_option maxHeartbeats 400000 in
theorem szByteS_w (a : Option Addr) (n cap x : Nat) (w : World) (hn : n ≤ maxLen) (hx : x ≤ 1048576) :
    Calls Tryz.prog 179 #[.slice a n cap, .int .i64 x] w fun e w' => SzQ x n (n ≤ 1048576) e ∧ Below w.heap.size w w' := by
  unfold maxLen at hn
  by_cases h : x < n
  · have h1 : ((x : Int) - (n : Int)) < 0 := by omega
    go_enter Tryz.func179, Tryz.ntmps179
    go_wp2
    go_ret
    exact ⟨.inl rfl, Below.refl _ _⟩
  · have h1 : ¬ ((x : Int) - (n : Int)) < 0 := by omega
    go_enter Tryz.func179, Tryz.ntmps179
    go_wp2
    go_ret
    exact ⟨.inr ⟨x - n, by omega, ret_int (by omega), by omega⟩, Below.refl _ _⟩
end

section
open Go.RowKit
set_option maxHeartbeats 1600000 in
theorem szPage_w (u : Bool) (a : Option Addr) (n cap x : Nat) (w : World) (hn : n ≤ maxLen) (hx : x ≤ 1048576) :
    Calls Tryz.prog 170 #[.agg #[.bool u, .slice a n cap], .int .i64 x] w fun e w' => SzQ x n True e ∧ Below w.heap.size w w' := by
  have B0 : Below w.heap.size w (w.alloc (.cells #[.bool u, .slice a n cap] 205)) := (Below.refl _ w).alloc (Nat.le_refl _) _
  have hcall := szByteS_w a n cap x (w.alloc (.cells #[.bool u, .slice a n cap] 205)) hn hx
  have HB : Hid _ := B0
  clear B0
  go_enter Tryz.func170, Tryz.ntmps170
  go_wp2_with fail
  refine hcall.mono ?_
  rintro e w1 ⟨(rfl | ⟨v, hv, rfl, hzz⟩), hb1⟩
  · go_wp2
    go_ret
    exact ⟨.inl rfl, HB.out.trans (hb1.mono HB.out.size)⟩
  · go_wp2
    go_ret
    exact ⟨.inr ⟨v, hv, rfl, trivial⟩, HB.out.trans (hb1.mono HB.out.size)⟩
set_option maxHeartbeats 1600000 in
theorem szPageS_w (a : Option Addr) (n cap x : Nat) (ps : List PgR) (w : World) (hn : ps.length = n) (hm : n ≤ maxLen) (hx : x ≤ 1048576) (hin : ∀ r ∈ ps, PgIn r) (hr : RdPs w a ps) :
    Calls Tryz.prog 159 #[.slice a n cap, .int .i64 x] w fun e w' => SzQ x (totP (ps.map PgR.D)) True e ∧ Below w.heap.size w w' := by
  unfold maxLen at hm
  by_cases h : x < n
  · have h1 : ((x : Int) - (n : Int)) < 0 := by omega
    go_enter Tryz.func159, Tryz.ntmps159
    go_wp2
    go_ret
    exact ⟨.inl rfl, Below.refl _ _⟩
  · have h1 : ¬ ((x : Int) - (n : Int)) < 0 := by omega
    by_cases h0 : n = 0
    · subst h0
      obtain rfl : ps = [] := List.length_eq_zero_iff.1 hn
      go_enter Tryz.func159, Tryz.ntmps159
      go_wp2
      refine wp_loop_rounds 1 ?_; rw [rounds_succ]
      go_wp2
      go_ret
      exact ⟨.inr ⟨x, by simp [totP], ret_int (by simp), trivial⟩, Below.refl _ _⟩
    · have hne : ps ≠ [] := by intro h; subst h; simp at hn; omega
      obtain ⟨b, off, rfl, hlt, hc⟩ := hr.lt hne
      clear hr hne
      have hn' : Hid (ps.length = n) := hn
      have HC : Hid _ := hc
      have HI : Hid _ := hin
      clear hn hc hin
      go_enter Tryz.func159, Tryz.ntmps159
      go_wp2
      go_loopw [1, 5] (fun l i wr => ∃ k y : Nat, k ≤ n ∧ i = .int .i64 k ∧ l = .int .i64 y ∧ Hid (y + (n - k) + totP ((ps.take k).map PgR.D) ≤ x) ∧ Below w.heap.size w wr) (fun _ i _ => n - (intOf i).toNat)
      case atStart => exact ⟨0, x - n, Nat.zero_le _, rfl, by go_num, by show _ ≤ _; simp [totP]; omega, Below.refl _ _⟩
      case round =>
        obtain ⟨k, y, hk, rfl, rfl, hy, hB⟩ := hrel
        by_cases hkn : k < n
        · have hkl : k < ps.length := by rw [hn'.out]; exact hkn
          have hki : (k : Int) < (n : Int) := by omega
          obtain ⟨r, hrk⟩ : ∃ r, ps[k]? = some r := ⟨_, List.getElem?_eq_getElem hkl⟩
          obtain ⟨x6, xr⟩ := HC.out k r hrk
          have hyo := hy.out
          have hcall := szPage_w r.used r.a r.zs.length r.cap y wr (HI.out r (List.mem_of_getElem? hrk)).len (by omega)
          have hcn : Hid (totP ((ps.take (k + 1)).map PgR.D) = totP ((ps.take k).map PgR.D) + (1 + r.zs.length)) := by show _ = _; rw [List.take_add_one, hrk]; simp [totP, PgR.D]
          obtain ⟨x0, x1⟩ := x6.keep hB hlt
          have hwz := hB.size
          obtain ⟨n1, hn1⟩ : ∃ n, r.zs.length = n := ⟨_, rfl⟩
          rw [hn1] at x1 hcall hcn
          clear x6 xr hn1 hrk hkl hyo
          go_wp2_with fail
          refine hcall.mono ?_
          rintro e w1 ⟨(rfl | ⟨v, hv, rfl, _⟩), hb1⟩
          · go_wp2
            go_ret
            exact ⟨.inl rfl, hB.trans (hb1.mono hwz)⟩
          · clear x0 x1 hcall
            go_wp2
            go_roundw
            case rel => exact ⟨k + 1, v, by omega, by go_num, rfl, by show _ ≤ _; have := hcn.out; have := hy.out; omega, hB.trans (hb1.mono hwz)⟩
            case measure => simp [intOf]; omega
        · have hki : ¬ (k : Int) < (n : Int) := by omega
          go_wp2
          go_ret
          have hyo := hy.out
          rw [List.take_of_length_le (by rw [hn'.out]; omega)] at hyo
          exact ⟨.inr ⟨y, by omega, rfl, trivial⟩, hB⟩
set_option maxHeartbeats 1600000 in
theorem szBlock_w (a : Option Addr) (n cap x : Nat) (wear : Int) (bad : Bool) (ps : List PgR) (w : World) (hn : ps.length = n) (hm : n ≤ maxLen) (hx : x ≤ 1048576) (hin : ∀ r ∈ ps, PgIn r) (hr : RdPs w a ps) :
    Calls Tryz.prog 131 #[.agg #[.slice a n cap, .int .i64 wear, .bool bad], .int .i64 x] w fun e w' => SzQ x (totP (ps.map PgR.D)) True e ∧ Below w.heap.size w w' := by
  have B0 : Below w.heap.size w (w.alloc (.cells #[.slice a n cap, .int .i64 wear, .bool bad] 166)) := (Below.refl _ w).alloc (Nat.le_refl _) _
  have hcall := szPageS_w a n cap x ps (w.alloc (.cells #[.slice a n cap, .int .i64 wear, .bool bad] 166)) hn hm hx hin (hr.keep B0)
  have HB : Hid _ := B0
  clear B0 hin hr hn
  go_enter Tryz.func131, Tryz.ntmps131
  go_wp2_with fail
  refine hcall.mono ?_
  rintro e w1 ⟨(rfl | ⟨v, hv, rfl, hzz⟩), hb1⟩
  · go_wp2
    go_ret
    exact ⟨.inl rfl, HB.out.trans (hb1.mono HB.out.size)⟩
  · go_wp2
    go_ret
    exact ⟨.inr ⟨v, hv, rfl, trivial⟩, HB.out.trans (hb1.mono HB.out.size)⟩
set_option maxHeartbeats 1600000 in
theorem szBlockS_w (a : Option Addr) (n cap x : Nat) (bs : List BkR) (w : World) (hn : bs.length = n) (hm : n ≤ maxLen) (hx : x ≤ 1048576) (hin : ∀ r ∈ bs, BkIn r) (hr : RdBs w a bs) :
    Calls Tryz.prog 96 #[.slice a n cap, .int .i64 x] w fun e w' => SzQ x (totB (bs.map BkR.D)) True e ∧ Below w.heap.size w w' := by
  unfold maxLen at hm
  by_cases h : x < n
  · have h1 : ((x : Int) - (n : Int)) < 0 := by omega
    go_enter Tryz.func96, Tryz.ntmps96
    go_wp2
    go_ret
    exact ⟨.inl rfl, Below.refl _ _⟩
  · have h1 : ¬ ((x : Int) - (n : Int)) < 0 := by omega
    by_cases h0 : n = 0
    · subst h0
      obtain rfl : bs = [] := List.length_eq_zero_iff.1 hn
      go_enter Tryz.func96, Tryz.ntmps96
      go_wp2
      refine wp_loop_rounds 1 ?_; rw [rounds_succ]
      go_wp2
      go_ret
      exact ⟨.inr ⟨x, by simp [totB], ret_int (by simp), trivial⟩, Below.refl _ _⟩
    · have hne : bs ≠ [] := by intro h; subst h; simp at hn; omega
      obtain ⟨b, off, rfl, hlt, hc⟩ := hr.lt hne
      clear hr hne
      have hn' : Hid (bs.length = n) := hn
      have HC : Hid _ := hc
      have HI : Hid _ := hin
      clear hn hc hin
      go_enter Tryz.func96, Tryz.ntmps96
      go_wp2
      go_loopw [1, 5] (fun l i wr => ∃ k y : Nat, k ≤ n ∧ i = .int .i64 k ∧ l = .int .i64 y ∧ Hid (y + (n - k) + totB ((bs.take k).map BkR.D) ≤ x) ∧ Below w.heap.size w wr) (fun _ i _ => n - (intOf i).toNat)
      case atStart => exact ⟨0, x - n, Nat.zero_le _, rfl, by go_num, by show _ ≤ _; simp [totB]; omega, Below.refl _ _⟩
      case round =>
        obtain ⟨k, y, hk, rfl, rfl, hy, hB⟩ := hrel
        by_cases hkn : k < n
        · have hkl : k < bs.length := by rw [hn'.out]; exact hkn
          have hki : (k : Int) < (n : Int) := by omega
          obtain ⟨r, hrk⟩ : ∃ r, bs[k]? = some r := ⟨_, List.getElem?_eq_getElem hkl⟩
          obtain ⟨x6, xr⟩ := HC.out k r hrk
          have hyo := hy.out
          have hri := HI.out r (List.mem_of_getElem? hrk)
          have hcall := szBlock_w r.a r.ps.length r.cap y r.wear r.bad r.ps wr rfl hri.len (by omega) hri.ps (xr.keep hB)
          have hcn : Hid (totB ((bs.take (k + 1)).map BkR.D) = totB ((bs.take k).map BkR.D) + (1 + totP (r.ps.map PgR.D))) := by show _ = _; rw [List.take_add_one, hrk]; simp [totB, BkR.D]
          obtain ⟨x0, x1, x2⟩ := x6.keep hB hlt
          have hwz := hB.size
          obtain ⟨n1, hn1⟩ : ∃ n, r.ps.length = n := ⟨_, rfl⟩
          obtain ⟨n2, hn2⟩ : ∃ n, totP (r.ps.map PgR.D) = n := ⟨_, rfl⟩
          rw [hn1] at x0 hcall
          rw [hn2] at hcall hcn
          clear x6 xr hn1 hn2 hrk hkl hyo hri
          go_wp2_with fail
          refine hcall.mono ?_
          rintro e w1 ⟨(rfl | ⟨v, hv, rfl, _⟩), hb1⟩
          · go_wp2
            go_ret
            exact ⟨.inl rfl, hB.trans (hb1.mono hwz)⟩
          · clear x0 x1 x2 hcall
            go_wp2
            go_roundw
            case rel => exact ⟨k + 1, v, by omega, by go_num, rfl, by show _ ≤ _; have := hcn.out; have := hy.out; omega, hB.trans (hb1.mono hwz)⟩
            case measure => simp [intOf]; omega
        · have hki : ¬ (k : Int) < (n : Int) := by omega
          go_wp2
          go_ret
          have hyo := hy.out
          rw [List.take_of_length_le (by rw [hn'.out]; omega)] at hyo
          exact ⟨.inr ⟨y, by omega, rfl, trivial⟩, hB⟩
set_option maxHeartbeats 1600000 in
theorem szChip_w (a : Option Addr) (n cap x : Nat) (bs : List BkR) (w : World) (hn : bs.length = n) (hm : n ≤ maxLen) (hx : x ≤ 1048576) (hin : ∀ r ∈ bs, BkIn r) (hr : RdBs w a bs) :
    Calls Tryz.prog 64 #[.agg #[.slice a n cap], .int .i64 x] w fun e w' => SzQ x (totB (bs.map BkR.D)) True e ∧ Below w.heap.size w w' := by
  have B0 : Below w.heap.size w (w.alloc (.cells #[.slice a n cap] 24)) := (Below.refl _ w).alloc (Nat.le_refl _) _
  have hcall := szBlockS_w a n cap x bs (w.alloc (.cells #[.slice a n cap] 24)) hn hm hx hin (hr.keep B0)
  have HB : Hid _ := B0
  clear B0 hin hr hn
  go_enter Tryz.func64, Tryz.ntmps64
  go_wp2_with fail
  refine hcall.mono ?_
  rintro e w1 ⟨(rfl | ⟨v, hv, rfl, hzz⟩), hb1⟩
  · go_wp2
    go_ret
    exact ⟨.inl rfl, HB.out.trans (hb1.mono HB.out.size)⟩
  · go_wp2
    go_ret
    exact ⟨.inr ⟨v, hv, rfl, trivial⟩, HB.out.trans (hb1.mono HB.out.size)⟩
end
end Go.Proofs.YtnhbhpbmnlojlaaGreatDoor
