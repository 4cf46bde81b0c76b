/-
  Joined: ChAp, ChCp, ChOk, ChOkC.
-/
import Derived.Test.YtoeeblmnogeonaaGreatDoorJ05T
import Derived.Deep.RegionLaw
namespace Go.Proofs.YtoeeblmnogeonaaGreatDoor
section
open Go.RowKit
/-- A block onto a row of blocks of the call's own. -/
structure AppK (W : World) (v : Value) (us : List BkR) (v' : Value) (W' : World) : Prop where
  own : OwnE bkE 42 W' v' us.length us
  gr : W.grownBy W' v.ownBlock
  at_ : v'.ownBlock = v.ownBlock ∨ v'.ownBlock = some W.heap.size
theorem three_news (w : World) (v0 v1 v2 : Value) (t : TypeId) : ∀ j u, [v0, v1, v2][j]? = some u → (w.alloc (.cells #[v0, v1, v2] t)).cell? ((⟨w.heap.size, 0, none⟩ : Addr).add j) = some u := by
  intro j u hj
  have zb := Blk.new w t #[v0, v1, v2]
  rw [add_at]
  have := zb.cell j
  rw [this]
  simpa using hj
theorem app_block (W : World) (v : Value) (us : List BkR) (k : Nat) (hk : us.length = k) (hs : k + 1 ≤ 8000000) (hown : OwnE bkE 42 W v k us) (p : BkR) (ty : TypeId) (n1 : Nat) (hn1 : p.ps.length = n1) :
    ∃ v' W', (Builtin.append_ #[24, 24] ty #[v, .slice (some ⟨W.heap.size, 0, none⟩) 1 1]).run Tryz.prog (W.alloc (.cells #[.slice p.a n1 p.cap, .int .i64 p.wear, .bool p.bad] 42)) = .ok v' W' ∧ AppK (W.alloc (.cells #[.slice p.a n1 p.cap, .int .i64 p.wear, .bool p.bad] 42)) v (us ++ [p]) v' W' := by
  obtain ⟨i0, hi, hz0, hz1, hz2⟩ := info_parts Tryz.infoBlock
  subst hn1
  obtain ⟨v', W', h1, h2, h3, h4⟩ := run_appAny (W.alloc (.cells #[.slice p.a p.ps.length p.cap, .int .i64 p.wear, .bool p.bad] 42)) 0 24 ty 42 i0 (.agg #[.slice none 0 0, .int .i64 0, .bool false]) 3 40 Tryz.underlying24 hi hz0 hz1 hz2 rfl (by omega) v k (bkE.xv us) (World.ownsRow.alloc hown _) (some ⟨W.heap.size, 0, none⟩) 1 1 (bkE.xv [p]) (by rw [bkE.xv_length]; rfl) (.inr ⟨_, rfl, fun j u hj => by
      have := three_news W (.slice p.a p.ps.length p.cap) (.int .i64 p.wear) (.bool p.bad) 42 j u
      exact this (by simpa [El.xv, bkE] using hj)⟩) (fun u hu => by simp [El.xv, bkE] at hu; rcases hu with rfl | rfl | rfl <;> rfl) hs (by omega) (Nat.zero_le _)
  exact ⟨v', W', h1, ⟨by unfold OwnE; rw [List.length_append, hk, bkE.xv_append]; exact h2, h3, h4⟩⟩
/-- While blocks are put one by one into the box X. -/
structure CC (w0 wr : World) (X : Nat) (v : Value) (us : List BkR) (ds : List BkD) : Prop where
  bel : Below w0.heap.size w0 wr
  x : Blk wr X 26 #[v]
  xn : w0.heap.size ≤ X
  row : OwnE bkE 42 wr v us.length us
  inn : Inn bkK wr w0.heap.size ds us
  xi : X ∉ bkK.fps us
  vn : ∀ g, v.ownBlock = some g → w0.heap.size ≤ g ∧ g ≠ X ∧ g ∉ bkK.fps us
theorem CC.keep {w0 wr w' : World} {X : Nat} {v : Value} {us : List BkR} {ds : List BkD} (h : CC w0 wr X v us ds) (hb : Below wr.heap.size wr w') : CC w0 w' X v us ds :=
  ⟨h.bel.trans (hb.mono h.bel.size), h.x.keep hb, h.xn, h.row.keep hb, h.inn.keep hb, h.xi, h.vn⟩
theorem CC.new {w0 W : World} {X : Nat} (hb : Below w0.heap.size w0 W) (hx : Blk W X 26 #[.slice none 0 0]) (hX : w0.heap.size ≤ X) : CC w0 W X (.slice none 0 0) [] [] :=
  ⟨hb, hx, hX, ownE_nil _ _ _, Inn.nil _ _ _, by simp [Kd.fps], fun g hg => by simp [Value.ownBlock] at hg⟩
/-- One block more: q lies from the size of W8 on. -/
theorem CC.step {w0 W8 W9 W10 : World} {X k m n1 : Nat} {v : Value} {us : List BkR} {ds : List BkD} {a1 a2 : Option Addr} {c1 c2 : Nat} {wear : Int} {bad : Bool} {qd : List PgD} {qs : List PgR} {o : Obj} (h : CC w0 W8 X v us ds) (_hus : us.length = k) (hq : qs.length = n1) (b9 : Below W8.heap.size W8 W9)
    (hnp : NewPs W9 W8.heap.size (.slice a1 n1 c1) qd qs) (ha : AppK (W9.alloc o) v (us ++ [⟨a1, c1, qs, wear, bad⟩]) (.slice a2 m c2) W10) (hm : m = k + 1) : CC w0 (W10.setCell ⟨X, 0, none⟩ (.slice a2 (k + 1) c2)) X (.slice a2 (k + 1) c2) (us ++ [⟨a1, c1, qs, wear, bad⟩]) (ds ++ [⟨qd, wear, bad⟩]) := by
  subst hm
  subst hq
  obtain ⟨p, hp⟩ : ∃ p : BkR, p = ⟨a1, c1, qs, wear, bad⟩ := ⟨_, rfl⟩
  have hpv : p.v = .slice a1 qs.length c1 := by rw [hp]; rfl
  have hpp : p.ps = qs := by rw [hp]
  have hpD : p.D = ⟨qd, wear, bad⟩ := by rw [hp]; unfold BkR.D; rw [hnp.D]
  rw [← hp] at ha ⊢
  rw [← hpD]
  have hfp : bkK.fp p = fpPs (.slice a1 qs.length c1) qs := by show fpPs p.v p.ps = _; rw [hpv, hpp]
  have hS : ∀ g ∈ bkK.fps us, g < W8.heap.size := fun g hg => h.inn.lt g hg
  have hpB : ∀ g ∈ bkK.fp p, W8.heap.size ≤ g := fun g hg => hnp.new g (by rw [← hfp]; exact hg)
  have hpo0 : bkK.own W9 p := by show OwnPs W9 p.v p.ps; rw [hpv, hpp]; exact hnp.own
  have bA : Below W9.heap.size W9 (W9.alloc o) := (Below.refl _ W9).alloc (Nat.le_refl _) _
  have h1 := (h.keep b9).keep bA
  have hp1 : bkK.own (W9.alloc o) p := bkK.block hpo0 fun g hg => bA.block g (bkK.lt hpo0 g hg)
  have hvB : ∀ g, v.ownBlock = some g → g < W8.heap.size := fun g hg => h.row.lt hg
  have hXB : X < W8.heap.size := h.x.lt
  have hXv : v.ownBlock ≠ some X := fun e => (h.vn X e).2.1 rfl
  have hvp : ∀ g ∈ bkK.fp p, v.ownBlock ≠ some g := fun g hg e => by have := hpB g hg; have := hvB g e; omega
  have hbel : Below w0.heap.size w0 W10 := h1.bel.grown ha.gr h1.bel.size (fun g hg => (h.vn g hg).1)
  have hx : Blk W10 X 26 #[v] := (ha.gr.block X h1.x.lt (fun e => hXv e.symm)).trans h1.x
  have hin : Inn bkK W10 w0.heap.size ds us := h1.inn.block fun g hg => ha.gr.block g (h1.inn.lt g hg) (fun e => (h.vn g e.symm).2.2 hg)
  have hpo : bkK.own W10 p := bkK.block hp1 fun g hg => ha.gr.block g (bkK.lt hp1 g hg) (fun e => hvp g hg e.symm)
  have hpx : X ∉ bkK.fp p := fun hf => by have := hpB X hf; omega
  have hset : ∀ g, g ≠ X → (W10.setCell ⟨X, 0, none⟩ (.slice a2 (k + 1) c2)).heap[g]? = W10.heap[g]? := fun g hg => Below.heap_setCell _ _ _ _ hg
  have hfs : bkK.fps (us ++ [p]) = bkK.fps us ++ bkK.fp p := by simp [Kd.fps]
  have hs9 := b9.size
  have hv'X : ∀ g, (Value.slice a2 (k + 1) c2).ownBlock = some g → w0.heap.size ≤ g ∧ g ≠ X ∧ g ∉ bkK.fps (us ++ [p]) := fun g hg => by
    rw [hfs]
    rcases ha.at_ with e | e
    · rw [hg] at e
      have h2 := h.vn g e.symm
      refine ⟨h2.1, h2.2.1, fun hf => ?_⟩
      rcases List.mem_append.1 hf with h3 | h3
      · exact h2.2.2 h3
      · exact hvp g h3 e.symm
    · rw [hg] at e
      simp at e
      have := h.bel.size
      refine ⟨by omega, by omega, fun hf => ?_⟩
      rcases List.mem_append.1 hf with h3 | h3
      · have := hS g h3; omega
      · have h4 := bkK.lt hpo0 g h3; omega
  have hin' : Inn bkK (W10.setCell ⟨X, 0, none⟩ (.slice a2 (k + 1) c2)) w0.heap.size ds us := hin.block fun g hg => hset g (fun e => by subst e; exact h.xi hg)
  have hpo' : bkK.own (W10.setCell ⟨X, 0, none⟩ (.slice a2 (k + 1) c2)) p := bkK.block hpo fun g hg => hset g (fun e => by subst e; exact hpx hg)
  refine ⟨hbel.setCell (p := ⟨X, 0, none⟩) h.xn _, ?_, h.xn, ha.own.block fun g hg => hset g (hv'X g hg).2.1, ?_, ?_, hv'X⟩
  · exact hx.set 0 (.slice a2 (k + 1) c2)
  · have h8 := h.bel.size
    exact hin'.snoc (S := W8.heap.size) hS hpo' (fun g hg => by have := hpB g hg; exact ⟨this, by omega⟩) (by rw [hfp]; exact hnp.nd)
  · rw [hfs]
    exact fun hf => (List.mem_append.1 hf).elim h.xi hpx
/-- What was built, told. -/
theorem CC.done {w0 W : World} {X n c : Nat} {a : Option Addr} {us : List BkR} {ds : List BkD} (h : CC w0 W X (.slice a n c) us ds) (_hn : us.length = n) : NewBs W w0.heap.size (.slice a n c) ds us :=
  h.inn.newBs h.row (Nat.le_refl _) (fun g hg => ⟨(h.vn g hg).1, (h.vn g hg).2.2⟩)
end

section
open Go.RowKit
/-- A page onto a row of pages of the call's own. -/
structure AppP (W : World) (v : Value) (us : List PgR) (v' : Value) (W' : World) : Prop where
  own : OwnE pgE 92 W' v' us.length us
  gr : W.grownBy W' v.ownBlock
  at_ : v'.ownBlock = v.ownBlock ∨ v'.ownBlock = some W.heap.size
theorem app_page (W : World) (v : Value) (us : List PgR) (k : Nat) (hk : us.length = k) (hs : k + 1 ≤ 8000000) (hown : OwnE pgE 92 W v k us) (p : PgR) (ty : TypeId) (n1 : Nat) (hn1 : p.zs.length = n1) :
    ∃ v' W', (Builtin.append_ #[40, 40] ty #[v, .slice (some ⟨W.heap.size, 0, none⟩) 1 1]).run Tryz.prog (W.alloc (.cells #[.bool p.used, .slice p.a n1 p.cap] 92)) = .ok v' W' ∧ AppP (W.alloc (.cells #[.bool p.used, .slice p.a n1 p.cap] 92)) v (us ++ [p]) v' W' := by
  obtain ⟨i0, hi, hz0, hz1, hz2⟩ := info_parts Tryz.infoPage
  subst hn1
  obtain ⟨v', W', h1, h2, h3, h4⟩ := run_appAny (W.alloc (.cells #[.bool p.used, .slice p.a p.zs.length p.cap] 92)) 0 40 ty 92 i0 (.agg #[.bool false, .slice none 0 0]) 2 32 Tryz.underlying40 hi hz0 hz1 hz2 rfl (by omega) v k (pgE.xv us) (World.ownsRow.alloc hown _) (some ⟨W.heap.size, 0, none⟩) 1 1 (pgE.xv [p]) (by rw [pgE.xv_length]; rfl) (.inr ⟨_, rfl, fun j u hj => by
      have := pair_news W (.bool p.used, .slice p.a p.zs.length p.cap) 92 j u
      exact this (by simpa [El.xv, pgE] using hj)⟩) (fun u hu => by simp [El.xv, pgE] at hu; rcases hu with rfl | rfl <;> rfl) hs (by omega) (Nat.zero_le _)
  exact ⟨v', W', h1, ⟨by unfold OwnE; rw [List.length_append, hk, pgE.xv_append]; exact h2, h3, h4⟩⟩
theorem blk_gr {W W' : World} {b : Nat} {t : TypeId} {vs : Array Value} {r : Option Nat} (h : Blk W b t vs) (hg : W.grownBy W' r) (hne : r ≠ some b) : Blk W' b t vs := (hg.block b h.lt (fun e => hne e.symm)).trans h
/-- While pages are copied one by one into the box X. -/
structure CB (w0 wr : World) (X : Nat) (wear : Int) (bad : Bool) (v : Value) (us : List PgR) (ds : List PgD) : Prop where
  bel : Below w0.heap.size w0 wr
  x : Blk wr X 42 #[v, .int .i64 wear, .bool bad]
  xn : w0.heap.size ≤ X
  row : OwnE pgE 92 wr v us.length us
  inn : Inn pgK wr w0.heap.size ds us
  xi : X ∉ pgK.fps us
  vn : ∀ g, v.ownBlock = some g → w0.heap.size ≤ g ∧ g ≠ X ∧ g ∉ pgK.fps us
theorem CB.keep {w0 wr w' : World} {X : Nat} {wear : Int} {bad : Bool} {v : Value} {us : List PgR} {ds : List PgD} (h : CB w0 wr X wear bad v us ds) (hb : Below wr.heap.size wr w') : CB w0 w' X wear bad v us ds :=
  ⟨h.bel.trans (hb.mono h.bel.size), h.x.keep hb, h.xn, h.row.keep hb, h.inn.keep hb, h.xi, h.vn⟩
/-- One page more. -/
theorem CB.app {w0 W W' : World} {X : Nat} {wear : Int} {bad : Bool} {v v' : Value} {us : List PgR} {ds : List PgD} {p : PgR} {B : Nat} {o : Obj} (h : CB w0 W X wear bad v us ds) (hp : p.own W) (hpB : ∀ g, p.v.ownBlock = some g → B ≤ g) (hB : ∀ g ∈ pgK.fps us, g < B) (hXB : X < B) (hvB : ∀ g, v.ownBlock = some g → g < B) (hB0 : w0.heap.size ≤ B) (hBW : B ≤ W.heap.size)
    (ha : AppP (W.alloc o) v (us ++ [p]) v' W') : CB w0 (W'.setCell ⟨X, 0, none⟩ v') X wear bad v' (us ++ [p]) (ds ++ [p.D]) := by
  have bA : Below W.heap.size W (W.alloc o) := (Below.refl _ W).alloc (Nat.le_refl _) _
  have h1 := h.keep bA
  have hp1 : p.own (W.alloc o) := hp.block fun g hg => bA.block g (hp.lt hg)
  have hXv : v.ownBlock ≠ some X := fun e => (h.vn X e).2.1 rfl
  have hvp : ∀ g, p.v.ownBlock = some g → v.ownBlock ≠ some g := fun g hg e => by have := hpB g hg; have := hvB g e; omega
  have hbel : Below w0.heap.size w0 W' := h1.bel.grown ha.gr h1.bel.size (fun g hg => (h.vn g hg).1)
  have hx : Blk W' X 42 #[v, .int .i64 wear, .bool bad] := (ha.gr.block X h1.x.lt (fun e => hXv e.symm)).trans h1.x
  have hin : Inn pgK W' w0.heap.size ds us := h1.inn.block fun g hg => ha.gr.block g (h1.inn.lt g hg) (fun e => (h.vn g e.symm).2.2 hg)
  have hpo : p.own W' := hp1.block fun g hg => ha.gr.block g (hp1.lt hg) (fun e => hvp g hg e.symm)
  have hpx : X ∉ pgK.fp p := fun hf => by have := hpB X (by simpa [pgK] using hf); omega
  have hset : ∀ g, g ≠ X → (W'.setCell ⟨X, 0, none⟩ v').heap[g]? = W'.heap[g]? := fun g hg => Below.heap_setCell _ _ _ _ hg
  have hfs : pgK.fps (us ++ [p]) = pgK.fps us ++ pgK.fp p := by simp [Kd.fps]
  have hv'X : ∀ g, v'.ownBlock = some g → w0.heap.size ≤ g ∧ g ≠ X ∧ g ∉ pgK.fps (us ++ [p]) := fun g hg => by
    rw [hfs]
    rcases ha.at_ with e | e
    · rw [hg] at e
      have h2 := h.vn g e.symm
      refine ⟨h2.1, h2.2.1, fun hf => ?_⟩
      rcases List.mem_append.1 hf with h3 | h3
      · exact h2.2.2 h3
      · exact hvp g (by simpa [pgK] using h3) e.symm
    · rw [hg] at e
      simp at e
      have := h.bel.size
      refine ⟨by omega, by omega, fun hf => ?_⟩
      rcases List.mem_append.1 hf with h3 | h3
      · have := hB g h3; omega
      · have h4 := hp.lt (g := g) (by simpa [pgK] using h3); omega
  refine ⟨hbel.setCell (p := ⟨X, 0, none⟩) h.xn _, ?_, h.xn, ha.own.block fun g hg => hset g (hv'X g hg).2.1, ?_, ?_, hv'X⟩
  · have := hx.set 0 v'
    exact this
  · have hin' : Inn pgK (W'.setCell ⟨X, 0, none⟩ v') w0.heap.size ds us := hin.block fun g hg => hset g (fun e => by subst e; exact h.xi hg)
    have hpo' : pgK.own (W'.setCell ⟨X, 0, none⟩ v') p := hpo.block fun g hg => hset g (fun e => by subst e; exact hpx (by simp [pgK, hg]))
    exact hin'.snoc (S := B) hB hpo' (fun g hg => by have := hpB g (by simpa [pgK] using hg); exact ⟨this, by omega⟩) (by show (p.v.ownBlock.toList).Nodup; cases p.v.ownBlock <;> simp)
  · rw [hfs]
    exact fun hf => (List.mem_append.1 hf).elim h.xi hpx
/-- One page more, as the walk has it. -/
theorem CB.step {w0 W8 W9 W10 : World} {X k n1 : Nat} {wear : Int} {bad : Bool} {v : Value} {us : List PgR} {ds : List PgD} {u : Bool} {pz : List Int} {a1 a2 : Option Addr} {c1 c2 m : Nat} (h : CB w0 W8 X wear bad v us ds) (_hus : us.length = k) (hz : pz.length = n1)
    (ha : AppB W8 (.slice none 0 0) n1 pz (.slice a1 n1 c1) W9) (ha2 : AppP (W9.alloc (.cells #[.bool u, .slice a1 n1 c1] 92)) v (us ++ [⟨u, a1, c1, pz⟩]) (.slice a2 m c2) W10) (hm : m = k + 1) : CB w0 (W10.setCell ⟨X, 0, none⟩ (.slice a2 (k + 1) c2)) X wear bad (.slice a2 (k + 1) c2) (us ++ [⟨u, a1, c1, pz⟩]) (ds ++ [⟨u, pz⟩]) := by
  subst hm
  have b9 := ha.below rfl
  refine CB.app (B := W8.heap.size) (h.keep b9) (p := ⟨u, a1, c1, pz⟩) ?_ ?_ (fun g hg => h.inn.lt g hg) h.x.lt (fun g hg => h.row.lt hg) h.bel.size b9.size ha2
  · refine ⟨?_, ?_⟩
    · show RowB W9 (.slice a1 pz.length c1) pz.length pz
      rw [hz]
      exact OwnV.rowB ha.own
    · show pz.length ≤ c1
      rw [hz]
      rcases ha.own.2 with ⟨h1, h2⟩ | ⟨g', c', cur, h1, _, _, h2, _⟩
      · omega
      · simp only [Value.slice.injEq] at h1
        omega
  · intro g hg
    have hg' : (Value.slice a1 n1 c1).ownBlock = some g := by rw [← hz]; exact hg
    rcases ha.at_ with e | e
    · rw [hg'] at e; simp [Value.ownBlock] at e
    · rw [hg'] at e; simp at e; omega
/-- What copyBlock's first region leaves: the box X and an empty row. -/
def CBR (w0 : World) (wear : Int) (bad : Bool) (s : Value) (wx : World) : Prop := ∃ X v, s = .pointer (some ⟨X, 0, none⟩) ∧ CB w0 wx X wear bad v [] []
theorem cbr_new {w0 W : World} {X : Nat} {wear : Int} {bad : Bool} {v : Value} (hb : Below w0.heap.size w0 W) (hx : Blk W X 42 #[v, .int .i64 wear, .bool bad]) (hX : w0.heap.size ≤ X) (hr : OwnE pgE 92 W v 0 []) (hv : ∀ g, v.ownBlock = some g → w0.heap.size ≤ g ∧ g ≠ X) : CBR w0 wear bad (.pointer (some ⟨X, 0, none⟩)) W :=
  ⟨X, v, rfl, ⟨hb, hx, hX, hr, Inn.nil _ _ _, by simp [Kd.fps], fun g hg => ⟨(hv g hg).1, (hv g hg).2, by simp [Kd.fps]⟩⟩⟩
/-- What a copying of a block answers. -/
def CpA (w : World) (n : Nat) (wear : Int) (bad : Bool) (ds : List PgD) (e : Ending) (w' : World) : Prop := ∃ v c qs, e = .returned (.agg #[.slice v n c, .int .i64 wear, .bool bad]) ∧ NewPs w' w.heap.size (.slice v n c) ds qs ∧ Below w.heap.size w w'
set_option maxRecDepth 100000 in
set_option maxHeartbeats 8000000 in
theorem copyBlkI (a : Option Addr) (n cap : Nat) (wear : Int) (bad : Bool) (ps : List PgR) (w : World) (hn : ps.length = n) (hs : totP (ps.map PgR.D) ≤ 1048576) (hr : RdPs w a ps) :
    Calls Tryz.prog 133 #[.agg #[.slice a n cap, .int .i64 wear, .bool bad]] w (CpA w n wear bad (ps.map PgR.D)) := by
  obtain ⟨i0, hi, hz0, hz1, hz2⟩ := info_parts Tryz.infoPage
  have hl := totP_len (ps.map PgR.D)
  have hnn : n ≤ 1048576 := by simp at hl; omega
  clear hl
  have hm : n ≤ maxLen := by unfold maxLen; omega
  have hby : i0.bytes * n ≤ 281474976710656 := by rw [hz2]; omega
  have B0 : Below w.heap.size w ((w.alloc (.cells #[.slice a n cap, .int .i64 wear, .bool bad] 42)).alloc (.cells #[.slice none 0 0, .int .i64 0, .bool false] 42)) := ((Below.refl _ w).alloc (Nat.le_refl _) _).alloc (by simp) _
  have z0 := (Blk.new w 42 #[.slice a n cap, .int .i64 wear, .bool bad]).alloc (.cells #[.slice none 0 0, .int .i64 0, .bool false] 42)
  have z1 := Blk.new (w.alloc (.cells #[.slice a n cap, .int .i64 wear, .bool bad] 42)) 42 #[.slice none 0 0, .int .i64 0, .bool false]
  simp only [World.size_alloc] at z1
  have hws : ((w.alloc (.cells #[.slice a n cap, .int .i64 wear, .bool bad] 42)).alloc (.cells #[.slice none 0 0, .int .i64 0, .bool false] 42)).heap.size = w.heap.size + 2 := by simp
  obtain ⟨H, hH⟩ : ∃ H, w.heap.size = H := ⟨_, rfl⟩
  rw [hH] at z0 z1 hws
  go_enter Tryz.func133, Tryz.ntmps133
  go_upto_region 1 with fail
  obtain ⟨W0, hW0⟩ : ∃ W, (w.alloc (.cells #[.slice a n cap, .int .i64 wear, .bool bad] 42)).alloc (.cells #[.slice none 0 0, .int .i64 0, .bool false] 42) = W := ⟨_, rfl⟩
  rw [hW0] at B0 z0 z1 hws ⊢
  clear hW0
  have x0 := z0.cell 0
  have x1 := z0.cell 1
  have x2 := z0.cell 2
  simp at x0 x1 x2
  have HW : Hid _ := hws
  have HH : Hid (w.heap.size = H) := hH
  go_cut [3] (fun s wx => CBR W0 wear bad s wx)
  case first =>
    obtain ⟨M, hM⟩ : ∃ M, M = madeCells (Value.agg #[.bool false, .slice none 0 0]).cells (n * i0.size) := ⟨_, rfl⟩
    have hmk : ∀ W : World, (Instr.makeSlice 40 (.int .i64 0) (.int .i64 (n : Int))).run Tryz.prog W = .ok (.slice (some ⟨W.heap.size, 0, none⟩) 0 n) (W.alloc (.cells M 92)) := fun W => by
      have h := run_make (P := Tryz.prog) W 40 92 i0 _ Tryz.underlying40 hi hz0 .i64 .i64 0 (n : Int) (by omega) (by omega) (by rw [hz2]; omega) (by omega)
      simp only [Int.toNat_natCast] at h
      rw [← hM] at h
      simpa using h
    have hmo : ∀ W : World, OwnE pgE 92 (W.alloc (.cells M 92)) (.slice (some ⟨W.heap.size, 0, none⟩) 0 n) 0 [] := fun W => by
      have := World.ownsRow_made W M n (base := 0) (e := 92) (size := 2) (Nat.zero_le _) hm (by rw [hM, hz1]; exact size_madeCells _ _)
      exact this
    have HMO : Hid _ := hmo
    clear hM hmo hr
    go_region_held3 (fun W : World => W.cell? ⟨H, 0, none⟩ = some (.slice a n cap) ∧ W.cell? ⟨H, 1, none⟩ = some (.int .i64 wear) ∧ W.cell? ⟨H, 2, none⟩ = some (.bool bad)) (go_keep) (fail)
    all_goals (go_wp2_with fail; go_meet)
    · have hw := HW.out
      have b1 : Below W0.heap.size W0 (((W0.alloc (.cells M 92)).alloc (.cells #[.slice (some ⟨H + 2, 0, none⟩) 0 n, .int .i64 wear, .bool bad] 42)).drew) := (((Below.refl _ W0).alloc (Nat.le_refl _) _).alloc (by simp) _).drew
      have zz := Blk.new (W0.alloc (.cells M 92)) 42 #[.slice (some ⟨H + 2, 0, none⟩) 0 n, .int .i64 wear, .bool bad]
      simp only [World.size_alloc, hw] at zz
      have ho := HMO.out W0
      rw [hw] at ho
      exact cbr_new b1 zz (by omega) (World.ownsRow.alloc ho _) (fun g hg => by simp [Value.ownBlock] at hg; omega)
    · have hw := HW.out
      have b1 : Below W0.heap.size W0 (((W0.alloc (.cells #[.slice (some ⟨H + 2 + 1, 0, none⟩) 0 n, .int .i64 wear, .bool bad] 42)).alloc (.cells M 92)).drew) := (((Below.refl _ W0).alloc (Nat.le_refl _) _).alloc (by simp) _).drew
      have zz := (Blk.new W0 42 #[.slice (some ⟨H + 2 + 1, 0, none⟩) 0 n, .int .i64 wear, .bool bad]).alloc (.cells M 92)
      rw [hw] at zz
      have ho := HMO.out (W0.alloc (.cells #[.slice (some ⟨H + 2 + 1, 0, none⟩) 0 n, .int .i64 wear, .bool bad] 42))
      simp only [World.size_alloc, hw] at ho
      exact cbr_new b1 zz (by omega) ho (fun g hg => by simp [Value.ownBlock] at hg; omega)
  case rest =>
  obtain ⟨X, v, rfl, cb⟩ := hcut
  obtain ⟨W1, hwc⟩ : ∃ W, W = wc := ⟨_, rfl⟩
  subst hwc
  have HRP : Hid (RdPs W0 a ps) := hr.keep B0
  have HN : Hid (ps.length = n) := hn
  have HS : Hid _ := hs
  have HB0 : Hid (Below H w W0) := by rw [← hH]; exact B0

  have HZ1 : Hid _ := z1
  have y0 := (z0.keep cb.bel).cell 0
  simp at y0
  clear x0 x1 x2 hr hn hs B0 z0 z1 hi hz0 hz1 hz2 hby hH hws
  go_upto_region 3 with fail
  clear y0
  go_loopw [18] (fun i wr => ∃ (k : Nat) (v : Value) (us : List PgR), k ≤ n ∧ i = .int .i64 k ∧ us.length = k ∧ Hid (CB W0 wr X wear bad v us ((ps.take k).map PgR.D))) (fun i _ => n - (intOf i).toNat)
  case atStart => exact ⟨0, v, [], by omega, rfl, rfl, cb⟩
  case round =>
    obtain ⟨k, v, us, hk, rfl, hus, hcb⟩ := hrel
    clear cb
    by_cases hkn : k < n
    · have hki : (k : Int) < (n : Int) := by omega
      obtain ⟨p, hpk⟩ : ∃ p, ps[k]? = some p := ⟨_, List.getElem?_eq_getElem (by rw [HN.out]; exact hkn)⟩
      obtain ⟨b, off, rfl, hlt, hc⟩ := RdPs.lt (HRP.out.keep hcb.out.bel) (by intro h; rw [h] at hpk; simp at hpk)
      obtain ⟨⟨c0, c1⟩, hrz⟩ := hc k p hpk
      have htz := totP_at hpk
      have hso := HS.out
      have hpD : Hid ((ps.take (k + 1)).map PgR.D = (ps.take k).map PgR.D ++ [⟨p.used, p.zs⟩]) := by show _ = _; rw [List.take_add_one, hpk]; simp [PgR.D]
      obtain ⟨u, pa, pc, pz⟩ := p
      dsimp only at c0 c1 hrz htz hpD
      obtain ⟨n1, hn1⟩ : ∃ n1, pz.length = n1 := ⟨_, rfl⟩
      have HN1 : Hid (pz.length = n1) := hn1
      have hn1m : n1 ≤ 1048576 := by omega
      rw [hn1] at c1
      have bE : Below wr.heap.size wr (wr.alloc (.cells #[.bool u, .slice pa n1 pc] 92)) := (Below.refl _ wr).alloc (Nat.le_refl _) _
      have zE := Blk.new wr 92 #[.bool u, .slice pa n1 pc]
      have hXE : X < wr.heap.size := hcb.out.x.lt
      have hcb8 : CB W0 (wr.alloc (.cells #[.bool u, .slice pa n1 pc] 92)) X wear bad v us ((ps.take k).map PgR.D) := hcb.out.keep bE
      have hrz8 := hrz.keep bE
      have hsz8 : (wr.alloc (.cells #[.bool u, .slice pa n1 pc] 92)).heap.size = wr.heap.size + 1 := by simp
      clear hpk hc htz hso hn1 hrz
      go_upto_region 5 with fail
      clear c0 c1 hlt
      obtain ⟨E, hE⟩ : ∃ E, wr.heap.size = E := ⟨_, rfl⟩
      obtain ⟨W8, hW8⟩ : ∃ W, wr.alloc (.cells #[.bool u, .slice pa n1 pc] 92) = W := ⟨_, rfl⟩
      rw [hW8] at hcb8 zE hrz8 hsz8 ⊢
      rw [hE] at zE hXE hsz8 ⊢
      clear hW8 hE bE hcb
      have hEX : E ≠ X := by omega
      have hEX' : X ≠ E := by omega
      have x0 := hcb8.x.cell 0
      have p0 := zE.cell 0
      have p1 := zE.cell 1
      simp at x0 p0 p1
      have happ : ∀ ty, ∃ v' W', (Builtin.append_ #[22, 22] ty #[.slice none 0 0, .slice pa n1 pc]).run Tryz.prog W8.drew = .ok v' W' ∧ AppB W8.drew (.slice none 0 0) n1 pz v' W' := fun ty => by
        have := app_bytes W8.drew (.slice none 0 0) 0 [] pa n1 pc pz HN1.out (by omega) (ownV_nil 0 _) hrz8 ty
        rw [Nat.zero_add, List.nil_append] at this
        exact this
      have HC8 : Hid (CB W0 W8.drew X wear bad v us ((ps.take k).map PgR.D)) := hcb8.keep (Below.refl _ _).drew
      have HE8 : Hid (Blk W8.drew E 92 #[.bool u, .slice pa n1 pc]) := zE
      clear hcb8 zE hrz8
      have HK : Hid (us.length = k) := hus
      go_region_law (first
        | (refine step_appAny W8.drew rfl (.const (.slice none 0 0)) (.tmp 27) 22 rfl (.slice none 0 0) (.slice pa n1 pc) _ rfl rfl happ ?_; intro v1 W9 hap; obtain ⟨a1, c1, rfl, _⟩ := (OwnV.rowB hap.own).form; have b9 := hap.below rfl; have cb9 := HC8.out.keep b9; have e9 := HE8.out.keep b9; have x0' := cb9.x.cell 0; have x0'' := (cb9.x.alloc (.cells #[.bool u, .slice a1 n1 c1] 92)).cell 0; have p0' := e9.cell 0; have p0'' := (e9.alloc (.cells #[.bool u, .slice a1 n1 c1] 92)).cell 0; simp at x0' x0'' p0' p0''; have hrow := cb9.row; rw [HK.out] at hrow; have happ2 := fun ty => app_page W9 v us k HK.out (by omega) hrow ⟨u, a1, c1, pz⟩ ty n1 HN1.out; dsimp only)
        | (refine step_appAny (W9.alloc (.cells #[.bool u, .slice a1 n1 c1] 92)) rfl (.tmp 23) (.tmp 30) 40 rfl v (.slice (some ⟨W9.heap.size, 0, none⟩) 1 1) _ rfl rfl happ2 ?_; intro v2 W10 hap2; obtain ⟨a2, c2, rfl, _⟩ := OwnE.rd (rd := fun _ => True) hap2.own (fun _ _ => trivial); have hxg := blk_gr (cb9.x.alloc (.cells #[.bool u, .slice a1 n1 c1] 92)) hap2.gr (fun e => (cb9.vn X e).2.1 rfl); have g0 := hxg.cell 0; have gf := hxg.frozen 0; simp at g0; dsimp only))
      all_goals (have cbn : CB W0 (W10.setCell ⟨X, 0, none⟩ (.slice a2 (k + 1) c2)) X wear bad (.slice a2 (k + 1) c2) (us ++ [⟨u, a1, c1, pz⟩]) ((ps.take k).map PgR.D ++ [⟨u, pz⟩]) := CB.step HC8.out HK.out HN1.out hap hap2 (by simp [HK.out]); rw [← hpD.out] at cbn; have CBN : Hid _ := cbn; have hul : (us ++ [⟨u, a1, c1, pz⟩] : List PgR).length = k + 1 := (by simp [HK.out]); clear cbn hap hap2 cb9 e9 x0' x0'' p0' p0'' x0 p0 p1 hrow happ happ2 hxg g0 gf b9)
      all_goals go_wp2
      all_goals go_roundw
      all_goals first
        | (case rel => exact ⟨k + 1, _, _, by omega, by go_num, hul, CBN⟩)
        | (case measure => simp [intOf]; omega)
    · have hki : ¬ (k : Int) < (n : Int) := by omega
      obtain rfl : k = n := by omega
      have hcbo := hcb.out
      rw [List.take_of_length_le (by rw [HN.out]; omega)] at hcbo
      obtain ⟨va, vc, rfl, _⟩ := OwnE.rd (rd := fun _ => True) hcbo.row (fun _ _ => trivial)
      rw [hus] at hcbo
      have x0 := hcbo.x.cell 0
      have x1 := hcbo.x.cell 1
      have x2 := hcbo.x.cell 2
      have zr := Blk.keep HZ1.out hcbo.bel
      have r0 := zr.cell 0
      have r1 := zr.cell 1
      have r2 := zr.cell 2
      have f0 := zr.frozen 0
      have f1 := zr.frozen 1
      have f2 := zr.frozen 2
      have zf := ((zr.set 0 (.slice va k vc)).set 1 (.int .i64 wear)).set 2 (.bool bad)
      have d0 := zf.cell 0
      have d1 := zf.cell 1
      have d2 := zf.cell 2
      simp at x0 x1 x2 r0 r1 r2 d0 d1 d2
      have HC : Hid _ := hcbo
      clear hcbo zr zf
      go_wp2
      refine bodyPost_ret (v := .agg #[.slice va k vc, .int .i64 wear, .bool bad]) (by simp [results, Tryz.f133, go_sem, d0, d1, d2]) rfl ?_
      have hc := HC.out
      have hw := HW.out
      have hH := HH.out
      have hbs := HB0.out
      have bel : Below w.heap.size w wr := by rw [hH]; exact hbs.trans (hc.bel.mono (by omega))
      have hnp : NewPs wr (w.heap.size + 2) (.slice va k vc) (ps.map PgR.D) us := hc.inn.newPs (by rw [hus]; have := hc.row; rw [hus] at this; exact this) (by omega) (fun g hg => by have := hc.vn g hg; exact ⟨by omega, this.2.2⟩)
      refine ⟨va, vc, us, rfl, (((hnp.set_below (by omega)).set_below (by omega)).set_below (by omega)).wider (by omega), ?_⟩
      exact ((bel.setCell (p := ⟨H + 1, 0, none⟩) (by simp only; omega) _).setCell (p := ⟨H + 1, 1, none⟩) (by simp only; omega) _).setCell (p := ⟨H + 1, 2, none⟩) (by simp only; omega) _
end

section
open Go.RowKit
/-- What a page that is right may have. -/
def pgOk (p : PgD) : Bool := decide (p.zs.length ≤ 400) && (p.used || decide (p.zs.length = 0))
/-- A block is right. -/
def BkOk (b : BkD) : Prop := b.ps.length = 8 ∧ 0 ≤ b.wear ∧ b.wear ≤ 100000 ∧ ∀ (i : Nat) (p : PgD), b.ps[i]? = some p → pgOk p = true ∧ p.used = decide (i < nextP b.ps)
/-- A chip is right. -/
def ChOk (ds : List BkD) : Prop := 3 ≤ ds.length ∧ ds.length ≤ 24 ∧ ∀ b ∈ ds, BkOk b
open Classical in
noncomputable def bkOkB (b : BkD) : Bool := decide (BkOk b)
open Classical in
noncomputable def chipOkB (ds : List BkD) : Bool := decide (ChOk ds)
theorem chipOkB_eq {ds : List BkD} {r : Bool} (h : r = true ↔ ChOk ds) : r = chipOkB ds := by
  unfold chipOkB
  cases r <;> simp_all
theorem bkOkB_iff (b : BkD) : bkOkB b = true ↔ BkOk b := by simp [bkOkB]
theorem chipOkB_iff (ds : List BkD) : chipOkB ds = true ↔ ChOk ds := by simp [chipOkB]
/-- Of pages of which none that is written stands behind one that is not, those that are written come first. -/
theorem firsts (ps : List PgD) (h : ∀ (i : Nat) (p q : PgD), ps[i + 1]? = some p → ps[i]? = some q → p.used = true → q.used = true) : ∀ (i : Nat) (p : PgD), ps[i]? = some p → p.used = decide (i < nextP ps) := by
  induction ps with
  | nil => intro i p hp; simp at hp
  | cons x ps ih =>
    have h2 := ih (fun i p q hp hq => h (i + 1) p q (by simpa using hp) (by simpa using hq))
    cases hx : x.used with
    | true =>
      have hn : nextP (x :: ps) = nextP ps + 1 := by simp [nextP, hx]
      intro i p hp
      cases i with
      | zero => simp at hp; subst hp; rw [hx, hn]; simp
      | succ i =>
        have := h2 i p (by simpa using hp)
        rw [this, hn]
        simp
    | false =>
      have h0 : nextP ps = 0 := by
        cases hps : ps with
        | nil => simp [nextP]
        | cons y l =>
          have h3 := h2 0 y (by rw [hps]; rfl)
          have h4 := h 0 y x (by rw [hps]; rfl) rfl
          cases hy : y.used with
          | true => rw [hx] at h4; exact absurd (h4 hy) (by simp)
          | false =>
            rw [hy] at h3
            rw [← hps]
            have : ¬ 0 < nextP ps := by simpa using h3.symm
            omega
      have hn : nextP (x :: ps) = 0 := by
        have : nextP (x :: ps) = nextP ps := by simp [nextP, hx]
        omega
      intro i p hp
      cases i with
      | zero => simp at hp; subst hp; rw [hx, hn]; simp
      | succ i =>
        have := h2 i p (by simpa using hp)
        rw [this, hn, h0]
        simp
/-- What the specification asks of a page and the one ahead of it. -/
def pgS (ps : List PgD) (i : Nat) : Prop := ∀ p, ps[i]? = some p → pgOk p = true ∧ ∀ q, 0 < i → ps[i - 1]? = some q → p.used = true → q.used = true
theorem bkOk_spec {b : BkD} (h1 : b.ps.length = 8) (h2 : 0 ≤ b.wear) (h3 : b.wear ≤ 100000) (h : ∀ i, i < 8 → pgS b.ps i) : BkOk b := by
  have hf := firsts b.ps (fun i p q hp hq hu => (h (i + 1) (by have := (List.getElem?_eq_some_iff.1 hp).1; omega) p hp).2 q (by omega) (by simpa using hq) hu)
  exact ⟨h1, h2, h3, fun i p hp => ⟨(h i (by have := (List.getElem?_eq_some_iff.1 hp).1; omega) p hp).1, hf i p hp⟩⟩
theorem bkOk_pgS {b : BkD} (h : BkOk b) (i : Nat) : pgS b.ps i := fun p hp => by
  have h1 := h.2.2.2 i p hp
  refine ⟨h1.1, fun q hi hq hu => ?_⟩
  have h2 := h.2.2.2 (i - 1) q hq
  rw [h2.2]
  rw [h1.2] at hu
  simp at hu ⊢
  omega
set_option maxHeartbeats 1600000 in
theorem pageOkI (u : Bool) (a : Option Addr) (n cap : Nat) (zs : List Int) (w : World) (hn : zs.length = n) (hs : n ≤ 1048576) :
    Calls Tryz.prog 132 #[.agg #[.bool u, .slice a n cap]] w fun e w' => e = .returned (.bool (pgOk ⟨u, zs⟩)) ∧ Below w.heap.size w w' := by
  have B0 : Below w.heap.size w (w.alloc (.cells #[.bool u, .slice a n cap] 92)) := (Below.refl _ w).alloc (Nat.le_refl _) _
  have hp : pgOk ⟨u, zs⟩ = (decide (n ≤ 400) && (u || decide (n = 0))) := by unfold pgOk; rw [hn]
  rw [hp]
  clear hp hn
  by_cases h1 : n ≤ 400
  · have h2 : (n : Int) ≤ 400 := by omega
    cases u
    · by_cases h3 : n = 0
      · subst h3
        go_enter Tryz.func132, Tryz.ntmps132
        go_wp2
        go_ret
        exact ⟨by simp, B0⟩
      · have h4 : ((n : Int) == 0) = false := by simp; omega
        go_enter Tryz.func132, Tryz.ntmps132
        go_wp2
        go_ret
        exact ⟨by simp [h1, h3], B0⟩
    · go_enter Tryz.func132, Tryz.ntmps132
      go_wp2
      go_ret
      exact ⟨by simp [h1], B0⟩
  · have h2 : ¬ (n : Int) ≤ 400 := by omega
    go_enter Tryz.func132, Tryz.ntmps132
    go_wp2
    go_ret
    exact ⟨by simp, B0⟩
set_option maxRecDepth 100000 in
set_option maxHeartbeats 4000000 in
theorem blockOkI (a : Option Addr) (n cap : Nat) (wear : Int) (bad : Bool) (ps : List PgR) (w : World) (hn : ps.length = n) (hs : totP (ps.map PgR.D) ≤ 1048576) (hr : RdPs w a ps) :
    Calls Tryz.prog 108 #[.agg #[.slice a n cap, .int .i64 wear, .bool bad]] w fun e w' => e = .returned (.bool (bkOkB ⟨ps.map PgR.D, wear, bad⟩)) ∧ Below w.heap.size w w' := by
  have B0 : Below w.heap.size w (w.alloc (.cells #[.slice a n cap, .int .i64 wear, .bool bad] 42)) := (Below.refl _ w).alloc (Nat.le_refl _) _
  have hl := totP_len (ps.map PgR.D)
  have hn1 : n ≤ 1048576 := by simp at hl; omega
  have hf : ¬ BkOk ⟨ps.map PgR.D, wear, bad⟩ → bkOkB ⟨ps.map PgR.D, wear, bad⟩ = false := fun h => by
    have := bkOkB_iff ⟨ps.map PgR.D, wear, bad⟩
    cases hb : bkOkB ⟨ps.map PgR.D, wear, bad⟩ with
    | false => rfl
    | true => exact absurd (this.1 hb) h
  by_cases h8 : n = 8
  · subst h8
    by_cases hw0 : wear < 0
    · rw [hf (fun h => by have := h.2.1; simp at this; omega)]
      clear hf hr
      go_enter Tryz.func108, Tryz.ntmps108
      go_wp2
      go_ret
      exact ⟨rfl, B0⟩
    · by_cases hw1 : 100000 < wear
      · rw [hf (fun h => by have := h.2.2.1; simp at this; omega)]
        clear hf hr
        go_enter Tryz.func108, Tryz.ntmps108
        go_wp2
        go_ret
        exact ⟨rfl, B0⟩
      · have z0 := Blk.new w 42 #[.slice a 8 cap, .int .i64 wear, .bool bad]
        have hcall := writtenI a 8 cap ps _ hn hs (hr.keep B0)
        have HT : Hid (RdPs w a ps) := hr
        have HB : Hid _ := B0
        have HF : Hid _ := hf
        have HL : Hid (ps.length = 8) := hn
        have HS : Hid _ := hs
        have HW : Hid (0 ≤ wear ∧ wear ≤ 100000) := ⟨by omega, by omega⟩
        obtain ⟨R, hR⟩ : ∃ R, bkOkB ⟨ps.map PgR.D, wear, bad⟩ = R := ⟨_, rfl⟩
        have HR : Hid _ := hR
        rw [hR]
        obtain ⟨m, hm⟩ : ∃ m, nextP (ps.map PgR.D) = m := ⟨_, rfl⟩
        have hm8 : m ≤ 8 := by have := nextP_le (ps.map PgR.D); simp at this; omega
        rw [hm] at hcall
        have HM : Hid _ := hm
        clear hf hr B0 hn hs hl hR hm
        go_enter Tryz.func108, Tryz.ntmps108
        go_wp2_with fail
        refine hcall.mono ?_
        rintro e w1 ⟨rfl, b1⟩
        have t0 := (z0.keep b1).cell 0
        simp at t0
        have HB1 : Hid (Below w.heap.size w w1) := HB.out.trans (b1.mono HB.out.size)
        clear z0 b1 hcall
        go_wp2
        go_loopw [26] (fun i wr => ∃ (k : Nat), k ≤ 8 ∧ i = .int .i64 k ∧ Hid (∀ (j : Nat) (p : PgD), j < k → (ps.map PgR.D)[j]? = some p → pgOk p = true ∧ p.used = decide (j < m)) ∧ Hid (Below w.heap.size w wr)) (fun i _ => 8 - (intOf i).toNat)
        case atStart => exact ⟨0, by omega, rfl, fun j p hj => by omega, HB1⟩
        case round =>
          obtain ⟨k, hk, rfl, hall, hB⟩ := hrel
          by_cases hkn : k < 8
          · have hki : (k : Int) < 8 := by omega
            obtain ⟨r, hrk⟩ : ∃ r, ps[k]? = some r := ⟨_, List.getElem?_eq_getElem (by rw [HL.out]; exact hkn)⟩
            obtain ⟨b, off, rfl, hlt, hc⟩ := RdPs.lt (HT.out.keep hB.out) (by intro h; rw [h] at hrk; simp at hrk)
            obtain ⟨⟨x0, x1⟩, _⟩ := hc k _ hrk
            have htp := totP_at hrk
            have hs := HS.out
            have hB2 : Hid (Below w.heap.size w (wr.alloc (.cells #[.bool r.used, .slice r.a r.zs.length r.cap] 92))) := hB.out.alloc hB.out.size _
            have hpk := pageOkI r.used r.a r.zs.length r.cap r.zs (wr.alloc (.cells #[.bool r.used, .slice r.a r.zs.length r.cap] 92)) rfl (by omega)
            have zp := Blk.new wr 92 #[.bool r.used, .slice r.a r.zs.length r.cap]
            have hbad : Hid (¬ (pgOk ⟨r.used, r.zs⟩ = true ∧ r.used = decide (k < m)) → R = false) := fun h => by
              rw [← HR.out]
              refine HF.out fun hok => h ?_
              have := hok.2.2.2 k r.D (by simp [hrk])
              rw [HM.out] at this
              exact this
            have hnx : Hid (pgOk ⟨r.used, r.zs⟩ = true ∧ r.used = decide (k < m) → ∀ (j : Nat) (p : PgD), j < k + 1 → (ps.map PgR.D)[j]? = some p → pgOk p = true ∧ p.used = decide (j < m)) := fun h j p hj hp => by
              rcases (show j < k ∨ j = k by omega) with h1 | rfl
              · exact hall.out j p h1 hp
              · simp [hrk] at hp
                subst hp
                exact h
            obtain ⟨n1, hn1'⟩ : ∃ n1, r.zs.length = n1 := ⟨_, rfl⟩
            rw [hn1'] at x1 hpk zp hB2
            obtain ⟨G, hG⟩ : ∃ G, pgOk ⟨r.used, r.zs⟩ = G := ⟨_, rfl⟩
            rw [hG] at hpk hbad hnx
            obtain ⟨u, hu⟩ : ∃ u, r.used = u := ⟨_, rfl⟩
            rw [hu] at x0 hpk zp hB2 hbad hnx
            clear hc hrk htp hs hn1' hG hu hall
            cases G
            · go_wp2_with fail
              refine hpk.mono ?_
              rintro e w2 ⟨rfl, b2⟩
              clear hpk x0 x1 zp
              go_wp2
              go_ret
              exact ⟨by rw [hbad.out (by simp)]; rfl, hB2.out.trans (b2.mono hB2.out.size)⟩
            · go_wp2_with fail
              refine hpk.mono ?_
              rintro e w2 ⟨rfl, b2⟩
              have y0 := (zp.keep b2).cell 0
              simp at y0
              have hB3 : Hid (Below w.heap.size w w2) := hB2.out.trans (b2.mono hB2.out.size)
              clear hpk x0 x1 zp b2
              by_cases hkm : k < m
              · have hkmi : (k : Int) < (m : Int) := by omega
                cases u
                · have hR0 : R = false := hbad.out (by simp [hkm])
                  subst hR0
                  go_wp2
                  go_ret
                  exact ⟨rfl, hB3.out⟩
                · have hA : Hid _ := hnx.out ⟨by simp, by simp [hkm]⟩
                  go_wp2
                  go_roundw
                  case rel => exact ⟨k + 1, by omega, by go_num, hA, hB3⟩
                  case measure => simp [intOf]; omega
              · have hkmi : ¬ (k : Int) < (m : Int) := by omega
                cases u
                · have hA : Hid _ := hnx.out ⟨by simp, by simp [hkm]⟩
                  go_wp2
                  go_roundw
                  case rel => exact ⟨k + 1, by omega, by go_num, hA, hB3⟩
                  case measure => simp [intOf]; omega
                · have hR0 : R = false := hbad.out (by simp [hkm])
                  subst hR0
                  go_wp2
                  go_ret
                  exact ⟨rfl, hB3.out⟩
          · have hki : ¬ (k : Int) < 8 := by omega
            have hR1 : R = true := by
              rw [← HR.out, bkOkB_iff]
              refine ⟨by simp [HL.out], HW.out.1, HW.out.2, fun j p hp => ?_⟩
              have hjl := (List.getElem?_eq_some_iff.1 hp).1
              have hL8 := HL.out
              simp only [List.length_map] at hjl
              have := hall.out j p (by omega) hp
              rw [HM.out]
              exact this
            subst hR1
            go_wp2
            go_ret
            exact ⟨rfl, hB.out⟩
  · have h8i : ((n : Int) != 8) = true := by simp; omega
    have h8e : ((n : Int) == 8) = false := by simp; omega
    rw [hf (fun h => by have := h.1; simp at this; omega)]
    clear hf hr hl
    go_enter Tryz.func108, Tryz.ntmps108
    go_wp2
    go_ret
    exact ⟨rfl, B0⟩
set_option maxRecDepth 100000 in
set_option maxHeartbeats 4000000 in
theorem l10BlockS (a : Option Addr) (n cap : Nat) (wear : Int) (bad : Bool) (ps : List PgR) (w : World) (hn : ps.length = n) (hs : totP (ps.map PgR.D) ≤ 1048576) (hr : RdPs w a ps) :
    Calls Tryz.prog 119 #[.agg #[.slice a n cap, .int .i64 wear, .bool bad]] w fun e w' => e = .returned (.bool (bkOkB ⟨ps.map PgR.D, wear, bad⟩)) ∧ Below w.heap.size w w' := by
  have B0 : Below w.heap.size w (w.alloc (.cells #[.slice a n cap, .int .i64 wear, .bool bad] 42)) := (Below.refl _ w).alloc (Nat.le_refl _) _
  have hl := totP_len (ps.map PgR.D)
  have hn1 : n ≤ 1048576 := by simp at hl; omega
  have hf : ¬ BkOk ⟨ps.map PgR.D, wear, bad⟩ → bkOkB ⟨ps.map PgR.D, wear, bad⟩ = false := fun h => by
    have := bkOkB_iff ⟨ps.map PgR.D, wear, bad⟩
    cases hb : bkOkB ⟨ps.map PgR.D, wear, bad⟩ with
    | false => rfl
    | true => exact absurd (this.1 hb) h
  have hin := l1In_any wear 0 100000 (w.alloc (.cells #[.slice a n cap, .int .i64 wear, .bool bad] 42))
  by_cases h8 : n = 8
  · subst h8
    by_cases hw : 0 ≤ wear ∧ wear ≤ 100000
    · have hd : (decide (0 ≤ wear) && decide (wear ≤ 100000)) = true := by simp [hw.1, hw.2]
      rw [hd] at hin
      have z0 := Blk.new w 42 #[.slice a 8 cap, .int .i64 wear, .bool bad]
      have HT : Hid (RdPs w a ps) := hr
      have HB : Hid _ := B0
      have HF : Hid _ := hf
      have HL : Hid (ps.length = 8) := hn
      have HS : Hid _ := hs
      have HW : Hid (0 ≤ wear ∧ wear ≤ 100000) := hw
      obtain ⟨R, hR⟩ : ∃ R, bkOkB ⟨ps.map PgR.D, wear, bad⟩ = R := ⟨_, rfl⟩
      have HR : Hid _ := hR
      rw [hR]
      clear hf hr B0 hn hs hl hR hw hd
      go_enter Tryz.func119, Tryz.ntmps119
      go_wp2_with fail
      refine hin.mono ?_
      rintro e w1 ⟨rfl, hw⟩
      obtain rfl := hw.symm
      clear hin
      go_wp2
      obtain ⟨W0, hW0⟩ : ∃ W, w.alloc (.cells #[.slice a 8 cap, .int .i64 wear, .bool bad] 42) = W := ⟨_, rfl⟩
      rw [hW0] at z0 HB ⊢
      clear hW0
      obtain ⟨H, hH⟩ : ∃ H, w.heap.size = H := ⟨_, rfl⟩
      rw [hH] at z0 ⊢
      go_loopw [3] (fun i wr => ∃ (k : Nat), k ≤ 8 ∧ i = .int .i64 k ∧ Hid (∀ (j : Nat), j < k → pgS (ps.map PgR.D) j) ∧ Hid (Below W0.heap.size W0 wr)) (fun i _ => 8 - (intOf i).toNat)
      case atStart => exact ⟨0, by omega, rfl, fun j hj => by omega, Below.refl _ _⟩
      case round =>
        obtain ⟨k, hk, rfl, hall, hB⟩ := hrel
        have zk := z0.keep hB.out
        have t0 := zk.cell 0
        simp at t0
        by_cases hkn : k < 8
        · have hki : (k : Int) < 8 := by omega
          obtain ⟨r, hrk⟩ : ∃ r, ps[k]? = some r := ⟨_, List.getElem?_eq_getElem (by rw [HL.out]; exact hkn)⟩
          obtain ⟨b, off, rfl, hlt, hc⟩ := RdPs.lt ((HT.out.keep HB.out).keep hB.out) (by intro h; rw [h] at hrk; simp at hrk)
          obtain ⟨⟨x0, x1⟩, _⟩ := hc k _ hrk
          have htp := totP_at hrk
          have hs := HS.out
          have hB2 : Hid (Below W0.heap.size W0 (wr.alloc (.cells #[.bool r.used, .slice r.a r.zs.length r.cap] 92))) := hB.out.alloc hB.out.size _
          have t0' := (zk.alloc (.cells #[.bool r.used, .slice r.a r.zs.length r.cap] 92)).cell 0
          simp at t0'
          have hbad : Hid (¬ pgS (ps.map PgR.D) k → R = false) := fun h => by
            rw [← HR.out]
            exact HF.out fun hok => h (bkOk_pgS hok k)
          have hnx : Hid (pgS (ps.map PgR.D) k → ∀ (j : Nat), j < k + 1 → pgS (ps.map PgR.D) j) := fun h j hj => by
            rcases (show j < k ∨ j = k by omega) with h1 | rfl
            · exact hall.out j h1
            · exact h
          have hone : Hid (∀ q, pgOk ⟨r.used, r.zs⟩ = true → (0 < k → (ps.map PgR.D)[k - 1]? = some q → r.used = true → q.used = true) → (ps.map PgR.D)[k - 1]? = some q ∨ k = 0 → pgS (ps.map PgR.D) k) := fun q h1 h2 h3 p hp => by
            simp [hrk] at hp
            subst hp
            refine ⟨h1, fun q' hk0 hq' hu => ?_⟩
            rcases h3 with h3 | h3
            · rw [h3] at hq'
              simp at hq'
              subst hq'
              exact h2 hk0 h3 hu
            · omega
          have hno : Hid (pgS (ps.map PgR.D) k → pgOk ⟨r.used, r.zs⟩ = true ∧ ∀ q, 0 < k → (ps.map PgR.D)[k - 1]? = some q → r.used = true → q.used = true) := fun h => h r.D (by simp [hrk])
          obtain ⟨n1, hn1'⟩ : ∃ n1, r.zs.length = n1 := ⟨_, rfl⟩
          have hpo : Hid (pgOk ⟨r.used, r.zs⟩ = (decide (n1 ≤ 400) && (r.used || decide (n1 = 0)))) := by show _ = _; unfold pgOk; rw [← hn1']
          have hn1m : n1 ≤ 1048576 := by omega
          rw [hn1'] at x1 hB2 t0'
          by_cases h4 : n1 ≤ 400
          · have h4i : ¬ (400 : Int) < (n1 : Int) := by omega
            cases hu : r.used with
            | false =>
              rw [hu] at x0 hB2 t0'
              by_cases h0 : n1 = 0
              · have hA : Hid _ := hnx.out (hone.out (if h : 0 < k then (ps.map PgR.D)[k - 1]'(by simp [HL.out]; omega) else ⟨false, []⟩) (by rw [hpo.out, hu]; simp [h0]) (by intro _ _ h; simp [hu] at h) (by
                  by_cases hk0 : 0 < k
                  · left; rw [dif_pos hk0]; exact List.getElem?_eq_getElem _
                  · right; omega))
                subst h0
                have hc00 : ¬ (0 : Int) < ((0 : Nat) : Int) := by omega
                by_cases hk0 : 0 < k
                · have hk0i : (0 : Int) < (k : Int) := by omega
                  clear hc hrk htp hs hn1' hall hbad hone hno hpo hnx
                  go_wp2
                  go_roundw
                  case rel => exact ⟨k + 1, by omega, by go_num, hA, hB2⟩
                  case measure => simp [intOf]; omega
                · have hk0i : ¬ (0 : Int) < (k : Int) := by omega
                  clear hc hrk htp hs hn1' hall hbad hone hno hpo hnx
                  go_wp2
                  go_roundw
                  case rel => exact ⟨k + 1, by omega, by go_num, hA, hB2⟩
                  case measure => simp [intOf]; omega
              · have hR0 : R = false := hbad.out (fun h => by have := (hno.out h).1; rw [hpo.out, hu] at this; simp [h0] at this)
                subst hR0
                have h0i : (0 : Int) < (n1 : Int) := by omega
                clear hc hrk htp hs hn1' hall hbad hone hno hpo hnx
                go_wp2
                go_ret
                rw [← hH]
                exact ⟨rfl, HB.out.trans (hB2.out.mono HB.out.size)⟩
            | true =>
              rw [hu] at x0 hB2 t0'
              by_cases hk0 : 0 < k
              · have hk0i : (0 : Int) < (k : Int) := by omega
                obtain ⟨j, hjk⟩ : ∃ j, k = j + 1 := ⟨k - 1, by omega⟩
                obtain ⟨q, hqk⟩ : ∃ q, ps[j]? = some q := ⟨_, List.getElem?_eq_getElem (by rw [HL.out]; omega)⟩
                obtain ⟨⟨y0, y1⟩, _⟩ := hc j _ hqk
                have hjw : (k : Int) - 1 = (j : Int) := by omega
                have hji : (j : Int) < 8 := by omega
                have hj0 : (0 : Int) ≤ (j : Int) := by omega
                have hq1 : (ps.map PgR.D)[k - 1]? = some q.D := by rw [hjk]; simp [hqk]
                have y0a := (Below.cell (p := ⟨b, off + j * 2, none⟩) ((Below.refl wr.heap.size wr).alloc (Nat.le_refl _) (.cells #[.bool true, .slice r.a n1 r.cap] 92)) hlt).trans y0
                cases hq : q.used with
                | false =>
                  have hR0 : R = false := hbad.out (fun h => by have := (hno.out h).2 q.D hk0 hq1 hu; simp [PgR.D, hq] at this)
                  subst hR0
                  rw [hq] at y0a
                  clear hc hrk htp hs hn1' hall hbad hone hno hpo hnx hqk y0 y1 hq1 hjk
                  go_wp2
                  go_ret
                  rw [← hH]
                  exact ⟨rfl, HB.out.trans (hB2.out.mono HB.out.size)⟩
                | true =>
                  have hA : Hid _ := hnx.out (hone.out q.D (by rw [hpo.out, hu]; simp [h4]) (fun _ _ _ => hq) (.inl hq1))
                  rw [hq] at y0a
                  clear hc hrk htp hs hn1' hall hbad hone hno hpo hnx hqk y0 y1 hq1 hjk
                  go_wp2
                  go_roundw
                  case rel => exact ⟨k + 1, by omega, by go_num, hA, hB2⟩
                  case measure => simp [intOf]; omega
              · have hk0i : ¬ (0 : Int) < (k : Int) := by omega
                have hA : Hid _ := hnx.out (hone.out ⟨false, []⟩ (by rw [hpo.out, hu]; simp [h4]) (by intro h; omega) (.inr (by omega)))
                clear hc hrk htp hs hn1' hall hbad hone hno hpo hnx
                go_wp2
                go_roundw
                case rel => exact ⟨k + 1, by omega, by go_num, hA, hB2⟩
                case measure => simp [intOf]; omega
          · have h4i : (400 : Int) < (n1 : Int) := by omega
            have hR0 : R = false := hbad.out (fun h => by have := (hno.out h).1; rw [hpo.out] at this; simp [h4] at this)
            subst hR0
            clear hc hrk htp hs hn1' hall hbad hone hno hpo hnx
            go_wp2
            go_ret
            rw [← hH]
            exact ⟨rfl, HB.out.trans (hB2.out.mono HB.out.size)⟩
        · have hki : ¬ (k : Int) < 8 := by omega
          have hR1 : R = true := by
            rw [← HR.out, bkOkB_iff]
            exact bkOk_spec (by simp [HL.out]) HW.out.1 HW.out.2 (fun j hj => hall.out j (by omega))
          subst hR1
          go_wp2
          go_ret
          rw [← hH]
          exact ⟨rfl, HB.out.trans (hB.out.mono HB.out.size)⟩
    · have hd : (decide (0 ≤ wear) && decide (wear ≤ 100000)) = false := by
        rw [← Bool.not_eq_true]; intro h; simp at h; exact hw h
      rw [hd] at hin
      rw [hf (fun h => hw ⟨h.2.1, h.2.2.1⟩)]
      clear hf hr
      go_enter Tryz.func119, Tryz.ntmps119
      go_wp2_with fail
      refine hin.mono ?_
      rintro e w1 ⟨rfl, hw⟩
      obtain rfl := hw.symm
      go_wp2
      go_ret
      exact ⟨rfl, B0⟩
  · have h8i : ((n : Int) != 8) = true := by simp; omega
    have h8e : ((n : Int) == 8) = false := by simp; omega
    rw [hf (fun h => by have := h.1; simp at this; omega)]
    clear hf hr hl
    go_enter Tryz.func119, Tryz.ntmps119
    go_wp2
    go_ret
    exact ⟨rfl, B0⟩
end

section
open Go.RowKit
theorem chipOk_no {ds : List BkD} (h : ¬ ChOk ds) : chipOkB ds = false := by
  have := chipOkB_iff ds
  cases hb : chipOkB ds with
  | false => rfl
  | true => exact absurd (this.1 hb) h
set_option maxHeartbeats 1600000 in
theorem countOkI (x : Int) (w : World) :
    Calls Tryz.prog 107 #[.int .i64 x] w fun e w' => e = .returned (.bool (decide (3 ≤ x) && decide (x ≤ 24))) ∧ w' = w := by
  go_enter Tryz.func107, Tryz.ntmps107
  by_cases h1 : 3 ≤ x
  · by_cases h2 : x ≤ 24
    · go_wp2
      go_ret
      exact ⟨by simp [h1, h2], rfl⟩
    · go_wp2
      go_ret
      exact ⟨by simp [h2], rfl⟩
  · go_wp2
    go_ret
    exact ⟨by simp; omega, rfl⟩
set_option maxRecDepth 100000 in
set_option maxHeartbeats 4000000 in
theorem chipOkI (a : Option Addr) (n cap : Nat) (bs : List BkR) (w : World) (ht : CR w a n bs) :
    Calls Tryz.prog 56 #[.agg #[.slice a n cap]] w fun e w' => e = .returned (.bool (chipOkB (bs.map BkR.D))) ∧ Below w.heap.size w w' := by
  have B0 : Below w.heap.size w (w.alloc (.cells #[.slice a n cap] 26)) := (Below.refl _ w).alloc (Nat.le_refl _) _
  have hn1 := ht.n
  have hcnt := countOkI (n : Int) (w.alloc (.cells #[.slice a n cap] 26))
  by_cases hc : 3 ≤ n ∧ n ≤ 24
  · have hd : (decide (3 ≤ (n : Int)) && decide ((n : Int) ≤ 24)) = true := by simp; omega
    rw [hd] at hcnt
    have HT : Hid _ := ht.keep B0
    have HB : Hid _ := B0
    have hln : Hid (bs.length = n) := ht.len
    obtain ⟨R, hR⟩ : ∃ R, chipOkB (bs.map BkR.D) = R := ⟨_, rfl⟩
    have HR : Hid _ := hR
    rw [hR]
    clear ht B0 hR hd
    go_enter Tryz.func56, Tryz.ntmps56
    go_wp2_with fail
    refine hcnt.mono ?_
    rintro e w1 ⟨rfl, hw⟩
    obtain rfl := hw.symm
    clear hcnt
    go_wp2
    obtain ⟨W0, hW0⟩ : ∃ W, w.alloc (.cells #[.slice a n cap] 26) = W := ⟨_, rfl⟩
    rw [hW0] at HB HT ⊢
    clear hW0
    go_loopw [13] (fun i wr => ∃ (k : Nat), k ≤ n ∧ i = .int .i64 k ∧ Hid (∀ (j : Nat) (b : BkR), j < k → bs[j]? = some b → BkOk b.D) ∧ Hid (Below W0.heap.size W0 wr)) (fun i _ => n - (intOf i).toNat)
    case atStart => exact ⟨0, Nat.zero_le _, rfl, fun j b hj => by omega, Below.refl _ _⟩
    case round =>
      obtain ⟨k, hk, rfl, hall, hB⟩ := hrel
      by_cases hkn : k < n
      · have hki : (k : Int) < (n : Int) := by omega
        obtain ⟨b, off, r, rfl, hlt, hrk, x3, hrp, htp⟩ := (HT.out.keep hB.out).some hkn
        obtain ⟨x0, x1, x2⟩ := x3
        have hB2 : Hid (Below W0.heap.size W0 (wr.alloc (.cells #[.slice r.a r.ps.length r.cap, .int .i64 r.wear, .bool r.bad] 42))) := hB.out.alloc hB.out.size _
        have hcall := blockOkI r.a r.ps.length r.cap r.wear r.bad r.ps (wr.alloc (.cells #[.slice r.a r.ps.length r.cap, .int .i64 r.wear, .bool r.bad] 42)) rfl htp (hrp.keep ((Below.refl _ wr).alloc (Nat.le_refl _) _))
        have hmem : Hid (¬ BkOk r.D → R = false) := fun h => by
          rw [← HR.out]
          exact chipOk_no fun hok => h (hok.2.2 r.D (List.mem_map_of_mem (List.mem_of_getElem? hrk)))
        have hnx : Hid (BkOk r.D → ∀ (j : Nat) (b : BkR), j < k + 1 → bs[j]? = some b → BkOk b.D) := fun h j b hj hb => by
          rcases (show j < k ∨ j = k by omega) with h1 | rfl
          · exact hall.out j b h1 hb
          · rw [hrk] at hb
            simp at hb
            subst hb
            exact h
        have hiff : Hid (bkOkB ⟨r.ps.map PgR.D, r.wear, r.bad⟩ = true ↔ BkOk r.D) := bkOkB_iff _
        obtain ⟨n1, hn1'⟩ : ∃ n1, r.ps.length = n1 := ⟨_, rfl⟩
        rw [hn1'] at x0 hB2 hcall
        obtain ⟨G, hG⟩ : ∃ G, bkOkB ⟨r.ps.map PgR.D, r.wear, r.bad⟩ = G := ⟨_, rfl⟩
        rw [hG] at hcall hiff
        clear hrk hn1' hG hall hrp htp
        cases G
        · have hR0 : R = false := hmem.out (fun h => by have := hiff.out.2 h; simp at this)
          subst hR0
          go_wp2_with fail
          refine hcall.mono ?_
          rintro e w2 ⟨rfl, b2⟩
          clear hcall x0 x1 x2
          go_wp2
          go_ret
          exact ⟨rfl, HB.out.trans ((hB2.out.trans (b2.mono hB2.out.size)).mono HB.out.size)⟩
        · have hA : Hid _ := hnx.out (hiff.out.1 rfl)
          go_wp2_with fail
          refine hcall.mono ?_
          rintro e w2 ⟨rfl, b2⟩
          clear hcall x0 x1 x2
          go_wp2
          go_roundw
          case rel => exact ⟨k + 1, by omega, by go_num, hA, hB2.out.trans (b2.mono hB2.out.size)⟩
          case measure => simp [intOf]; omega
      · have hki : ¬ (k : Int) < (n : Int) := by omega
        have hR1 : R = true := by
          rw [← HR.out, chipOkB_iff]
          refine ⟨by simp [hln.out]; omega, by simp [hln.out]; omega, fun d hd => ?_⟩
          obtain ⟨b, hb, rfl⟩ := List.mem_map.1 hd
          obtain ⟨j, hj⟩ := List.mem_iff_getElem?.1 hb
          exact hall.out j b (by have := (List.getElem?_eq_some_iff.1 hj).1; have := hln.out; omega) hj
        subst hR1
        go_wp2
        go_ret
        exact ⟨rfl, HB.out.trans (hB.out.mono HB.out.size)⟩
  · have hd : (decide (3 ≤ (n : Int)) && decide ((n : Int) ≤ 24)) = false := by
      rw [← Bool.not_eq_true]; intro h; simp at h; exact hc ⟨by omega, by omega⟩
    rw [hd] at hcnt
    rw [chipOk_no (fun h => hc ⟨by have := h.1; simpa [ht.len] using this, by have := h.2.1; simpa [ht.len] using this⟩)]
    clear ht hd
    go_enter Tryz.func56, Tryz.ntmps56
    go_wp2_with fail
    refine hcnt.mono ?_
    rintro e w1 ⟨rfl, hw⟩
    obtain rfl := hw.symm
    go_wp2
    go_ret
    exact ⟨rfl, B0⟩
set_option maxRecDepth 100000 in
set_option maxHeartbeats 4000000 in
theorem chipOkS (a : Option Addr) (n cap : Nat) (bs : List BkR) (w : World) (ht : CR w a n bs) :
    Calls Tryz.prog 69 #[.agg #[.slice a n cap]] w fun e w' => e = .returned (.bool (chipOkB (bs.map BkR.D))) ∧ Below w.heap.size w w' := by
  have B0 : Below w.heap.size w (w.alloc (.cells #[.slice a n cap] 26)) := (Below.refl _ w).alloc (Nat.le_refl _) _
  have z0 := Blk.new w 26 #[.slice a n cap]
  have hn1 := ht.n
  have HT : Hid _ := ht.keep B0
  have HB : Hid _ := B0
  have hln : Hid (bs.length = n) := ht.len
  obtain ⟨R, hR⟩ : ∃ R, chipOkB (bs.map BkR.D) = R := ⟨_, rfl⟩
  have HR : Hid _ := hR
  rw [hR]
  clear ht B0 hR
  obtain ⟨H, hH⟩ : ∃ H, w.heap.size = H := ⟨_, rfl⟩
  rw [hH] at z0
  go_enter Tryz.func69, Tryz.ntmps69
  go_wp2
  obtain ⟨W0, hW0⟩ : ∃ W, w.alloc (.cells #[.slice a n cap] 26) = W := ⟨_, rfl⟩
  rw [hW0] at z0 HB HT ⊢
  clear hW0
  try rw [hH]
  go_loopw [3] (fun i wr => ∃ (k : Nat), k ≤ n ∧ i = .int .i64 k ∧ Hid (∀ (j : Nat) (b : BkR), j < k → bs[j]? = some b → BkOk b.D) ∧ Hid (Below W0.heap.size W0 wr)) (fun i _ => n - (intOf i).toNat)
  case atStart => exact ⟨0, Nat.zero_le _, rfl, fun j b hj => by omega, Below.refl _ _⟩
  case round =>
    obtain ⟨k, hk, rfl, hall, hB⟩ := hrel
    have t0 := (z0.keep hB.out).cell 0
    simp at t0
    by_cases hkn : k < n
    · have hki : (k : Int) < (n : Int) := by omega
      obtain ⟨b, off, r, rfl, hlt, hrk, x3, hrp, htp⟩ := (HT.out.keep hB.out).some hkn
      obtain ⟨x0, x1, x2⟩ := x3
      have hcall := l10BlockS r.a r.ps.length r.cap r.wear r.bad r.ps wr rfl htp hrp
      have hmem : Hid (¬ BkOk r.D → R = false) := fun h => by
        rw [← HR.out]
        exact chipOk_no fun hok => h (hok.2.2 r.D (List.mem_map_of_mem (List.mem_of_getElem? hrk)))
      have hnx : Hid (BkOk r.D → ∀ (j : Nat) (b : BkR), j < k + 1 → bs[j]? = some b → BkOk b.D) := fun h j b hj hb => by
        rcases (show j < k ∨ j = k by omega) with h1 | rfl
        · exact hall.out j b h1 hb
        · rw [hrk] at hb
          simp at hb
          subst hb
          exact h
      have hiff : Hid (bkOkB ⟨r.ps.map PgR.D, r.wear, r.bad⟩ = true ↔ BkOk r.D) := bkOkB_iff _
      obtain ⟨n1, hn1'⟩ : ∃ n1, r.ps.length = n1 := ⟨_, rfl⟩
      rw [hn1'] at x0 hcall
      obtain ⟨G, hG⟩ : ∃ G, bkOkB ⟨r.ps.map PgR.D, r.wear, r.bad⟩ = G := ⟨_, rfl⟩
      rw [hG] at hcall hiff
      clear hrk hn1' hG hall hrp htp
      cases G
      · have hR0 : R = false := hmem.out (fun h => by have := hiff.out.2 h; simp at this)
        subst hR0
        go_wp2_with fail
        refine hcall.mono ?_
        rintro e w2 ⟨rfl, b2⟩
        clear hcall x0 x1 x2
        go_wp2
        go_ret
        rw [← hH]
        exact ⟨rfl, HB.out.trans ((hB.out.trans (b2.mono hB.out.size)).mono HB.out.size)⟩
      · have hA : Hid _ := hnx.out (hiff.out.1 rfl)
        go_wp2_with fail
        refine hcall.mono ?_
        rintro e w2 ⟨rfl, b2⟩
        clear hcall x0 x1 x2
        go_wp2
        go_roundw
        case rel => exact ⟨k + 1, by omega, by go_num, hA, hB.out.trans (b2.mono hB.out.size)⟩
        case measure => simp [intOf]; omega
    · have hki : ¬ (k : Int) < (n : Int) := by omega
      have hin := l1In_any (n : Int) 3 24 wr
      have hR1 : Hid ((decide (3 ≤ (n : Int)) && decide ((n : Int) ≤ 24)) = R) := by
        show _ = _
        rw [← HR.out]
        refine chipOkB_eq ?_
        simp only [Bool.and_eq_true, decide_eq_true_eq]
        constructor
        · intro h
          refine ⟨by simp [hln.out]; omega, by simp [hln.out]; omega, fun d hd => ?_⟩
          obtain ⟨b, hb, rfl⟩ := List.mem_map.1 hd
          obtain ⟨j, hj⟩ := List.mem_iff_getElem?.1 hb
          exact hall.out j b (by have := (List.getElem?_eq_some_iff.1 hj).1; have := hln.out; omega) hj
        · intro h
          have h1 := h.1
          have h2 := h.2.1
          have h3 := hln.out
          simp at h1 h2
          omega
      rw [hR1.out] at hin
      go_wp2_with fail
      refine hin.mono ?_
      rintro e w2 ⟨rfl, hw⟩
      obtain rfl := hw.symm
      clear hin
      go_wp2
      go_ret
      rw [← hH]
      exact ⟨rfl, HB.out.trans (hB.out.mono HB.out.size)⟩
end
end Go.Proofs.YtoeeblmnogeonaaGreatDoor
