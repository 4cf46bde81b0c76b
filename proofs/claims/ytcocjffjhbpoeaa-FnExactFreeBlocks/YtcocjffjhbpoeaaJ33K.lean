/-
  Joined: ChAp, DvC.
-/
import Derived.Test.YtcocjffjhbpoeaaJ11K
import Derived.Deep.AppendSrc
import Derived.Deep.RegionHeld
import Derived.Deep.RegionLaw
namespace Go.Proofs.Ytcocjffjhbpoeaa
section
open Go.RowKit
/-- A block onto a row of blocks of the call's own. -/
structure AppK (W : World) (v : Value) (us : List BkR) (v' : Value) (W' : World) : Prop where
  own : OwnE bkE 63 W' v' us.length us
  gr : W.grownBy W' v.ownBlock
  at_ : v'.ownBlock = v.ownBlock ∨ v'.ownBlock = some W.heap.size
/-- While blocks are put one by one into the box X. -/
structure CC (w0 wr : World) (X : Nat) (v : Value) (us : List BkR) (ds : List BkD) : Prop where
  bel : Below w0.heap.size w0 wr
  x : Blk wr X 34 #[v]
  xn : w0.heap.size ≤ X
  row : OwnE bkE 63 wr v us.length us
  inn : Inn bkK wr w0.heap.size ds us
  xi : X ∉ bkK.fps us
  vn : ∀ g, v.ownBlock = some g → w0.heap.size ≤ g ∧ g ≠ X ∧ g ∉ bkK.fps us
theorem CC.keep {w0 wr w' : World} {X : Nat} {v : Value} {us : List BkR} {ds : List BkD} (h : CC w0 wr X v us ds) (hb : Below wr.heap.size wr w') : CC w0 w' X v us ds :=
  ⟨h.bel.trans (hb.mono h.bel.size), h.x.keep hb, h.xn, h.row.keep hb, h.inn.keep hb, h.xi, h.vn⟩
theorem CC.new {w0 W : World} {X : Nat} (hb : Below w0.heap.size w0 W) (hx : Blk W X 34 #[.slice none 0 0]) (hX : w0.heap.size ≤ X) : CC w0 W X (.slice none 0 0) [] [] :=
  ⟨hb, hx, hX, ownE_nil _ _ _, Inn.nil _ _ _, by simp [Kd.fps], fun g hg => by simp [Value.ownBlock] at hg⟩
/-- One block more: q lies from the size of W8 on. -/
theorem CC.step {w0 W8 W9 W10 : World} {X k m n1 : Nat} {v : Value} {us : List BkR} {ds : List BkD} {a1 a2 : Option Addr} {c1 c2 : Nat} {wear : Int} {bad : Bool} {qd : List PgD} {qs : List PgR} {o : Obj} (h : CC w0 W8 X v us ds) (_hus : us.length = k) (hq : qs.length = n1) (b9 : Below W8.heap.size W8 W9)
    (hnp : NewPs W9 W8.heap.size (.slice a1 n1 c1) qd qs) (ha : AppK (W9.alloc o) v (us ++ [⟨a1, c1, qs, wear, bad⟩]) (.slice a2 m c2) W10) (hm : m = k + 1) : CC w0 (W10.setCell ⟨X, 0, none⟩ (.slice a2 (k + 1) c2)) X (.slice a2 (k + 1) c2) (us ++ [⟨a1, c1, qs, wear, bad⟩]) (ds ++ [⟨qd, wear, bad⟩]) := by
  subst hm
  subst hq
  obtain ⟨p, hp⟩ : ∃ p : BkR, p = ⟨a1, c1, qs, wear, bad⟩ := ⟨_, rfl⟩
  have hpv : p.v = .slice a1 qs.length c1 := by rw [hp]; rfl
  have hpp : p.ps = qs := by rw [hp]
  have hpD : p.D = ⟨qd, wear, bad⟩ := by rw [hp]; unfold BkR.D; rw [hnp.D]
  rw [← hp] at ha ⊢
  rw [← hpD]
  have hfp : bkK.fp p = fpPs (.slice a1 qs.length c1) qs := by show fpPs p.v p.ps = _; rw [hpv, hpp]
  have hS : ∀ g ∈ bkK.fps us, g < W8.heap.size := fun g hg => h.inn.lt g hg
  have hpB : ∀ g ∈ bkK.fp p, W8.heap.size ≤ g := fun g hg => hnp.new g (by rw [← hfp]; exact hg)
  have hpo0 : bkK.own W9 p := by show OwnPs W9 p.v p.ps; rw [hpv, hpp]; exact hnp.own
  have bA : Below W9.heap.size W9 (W9.alloc o) := (Below.refl _ W9).alloc (Nat.le_refl _) _
  have h1 := (h.keep b9).keep bA
  have hp1 : bkK.own (W9.alloc o) p := bkK.block hpo0 fun g hg => bA.block g (bkK.lt hpo0 g hg)
  have hvB : ∀ g, v.ownBlock = some g → g < W8.heap.size := fun g hg => h.row.lt hg
  have hXB : X < W8.heap.size := h.x.lt
  have hXv : v.ownBlock ≠ some X := fun e => (h.vn X e).2.1 rfl
  have hvp : ∀ g ∈ bkK.fp p, v.ownBlock ≠ some g := fun g hg e => by have := hpB g hg; have := hvB g e; omega
  have hbel : Below w0.heap.size w0 W10 := h1.bel.grown ha.gr h1.bel.size (fun g hg => (h.vn g hg).1)
  have hx : Blk W10 X 34 #[v] := (ha.gr.block X h1.x.lt (fun e => hXv e.symm)).trans h1.x
  have hin : Inn bkK W10 w0.heap.size ds us := h1.inn.block fun g hg => ha.gr.block g (h1.inn.lt g hg) (fun e => (h.vn g e.symm).2.2 hg)
  have hpo : bkK.own W10 p := bkK.block hp1 fun g hg => ha.gr.block g (bkK.lt hp1 g hg) (fun e => hvp g hg e.symm)
  have hpx : X ∉ bkK.fp p := fun hf => by have := hpB X hf; omega
  have hset : ∀ g, g ≠ X → (W10.setCell ⟨X, 0, none⟩ (.slice a2 (k + 1) c2)).heap[g]? = W10.heap[g]? := fun g hg => Below.heap_setCell _ _ _ _ hg
  have hfs : bkK.fps (us ++ [p]) = bkK.fps us ++ bkK.fp p := by simp [Kd.fps]
  have hs9 := b9.size
  have hv'X : ∀ g, (Value.slice a2 (k + 1) c2).ownBlock = some g → w0.heap.size ≤ g ∧ g ≠ X ∧ g ∉ bkK.fps (us ++ [p]) := fun g hg => by
    rw [hfs]
    rcases ha.at_ with e | e
    · rw [hg] at e
      have h2 := h.vn g e.symm
      refine ⟨h2.1, h2.2.1, fun hf => ?_⟩
      rcases List.mem_append.1 hf with h3 | h3
      · exact h2.2.2 h3
      · exact hvp g h3 e.symm
    · rw [hg] at e
      simp at e
      have := h.bel.size
      refine ⟨by omega, by omega, fun hf => ?_⟩
      rcases List.mem_append.1 hf with h3 | h3
      · have := hS g h3; omega
      · have h4 := bkK.lt hpo0 g h3; omega
  have hin' : Inn bkK (W10.setCell ⟨X, 0, none⟩ (.slice a2 (k + 1) c2)) w0.heap.size ds us := hin.block fun g hg => hset g (fun e => by subst e; exact h.xi hg)
  have hpo' : bkK.own (W10.setCell ⟨X, 0, none⟩ (.slice a2 (k + 1) c2)) p := bkK.block hpo fun g hg => hset g (fun e => by subst e; exact hpx hg)
  refine ⟨hbel.setCell (p := ⟨X, 0, none⟩) h.xn _, ?_, h.xn, ha.own.block fun g hg => hset g (hv'X g hg).2.1, ?_, ?_, hv'X⟩
  · exact hx.set 0 (.slice a2 (k + 1) c2)
  · have h8 := h.bel.size
    exact hin'.snoc (S := W8.heap.size) hS hpo' (fun g hg => by have := hpB g hg; exact ⟨this, by omega⟩) (by rw [hfp]; exact hnp.nd)
  · rw [hfs]
    exact fun hf => (List.mem_append.1 hf).elim h.xi hpx
/-- What was built, told. -/
theorem CC.done {w0 W : World} {X n c : Nat} {a : Option Addr} {us : List BkR} {ds : List BkD} (h : CC w0 W X (.slice a n c) us ds) (_hn : us.length = n) : NewBs W w0.heap.size (.slice a n c) ds us :=
  h.inn.newBs h.row (Nat.le_refl _) (fun g hg => ⟨(h.vn g hg).1, (h.vn g hg).2.2⟩)
end

section
open Go.RowKit
theorem RdE.news {α : Type} {E : El α} {rd : α → Prop} {W : World} {a : Option Addr} {rs : List α} (h : RdE E rd W a rs) : rs = [] ∨ ∃ ad, a = some ad ∧ ∀ j u, (E.xv rs)[j]? = some u → W.cell? (ad.add j) = some u := by
  rcases h with h | ⟨b, off, rfl, hc⟩
  · exact .inl h
  · refine .inr ⟨_, rfl, fun j u hj => ?_⟩
    have hp := E.pos
    have hl : j < rs.length * E.k := by
      have := (List.getElem?_eq_some_iff.1 hj).1
      rw [E.xv_length] at this
      exact this
    have hi : j / E.k < rs.length := (Nat.div_lt_iff_lt_mul hp).2 hl
    have hr : rs[j / E.k]? = some rs[j / E.k] := List.getElem?_eq_getElem hi
    have hm : j % E.k < E.k := Nat.mod_lt _ hp
    have hjj : j / E.k * E.k + j % E.k = j := by rw [Nat.mul_comm]; exact Nat.div_add_mod j E.k
    have h1 := (hc _ _ hr).1 _ hm
    rw [Nat.add_assoc, hjj] at h1
    have h2 := E.xv_at rs _ _ _ hr hm
    rw [hjj] at h2
    rw [show (⟨b, off, none⟩ : Addr).add j = ⟨b, off + j, none⟩ by simp [Addr.add], h1, ← h2]
    exact hj
end
end Go.Proofs.Ytcocjffjhbpoeaa
