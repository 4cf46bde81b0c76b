/-
  Joined: LogF, App10, ChAp.
-/
import Derived.Test.YtpejfkgbfdkdnaaJ05B
import Derived.Deep.AppendSrc
namespace Go.Proofs.Ytpejfkgbfdkdnaa
section
open Go.RowKit
/-- Nothing is written, and it is not bad. -/
def freeB (b : BkD) : Bool := !b.bad && decide (nextP b.ps = 0)
/-- Some pages are written, but not all, and it is not bad. -/
def begB (b : BkD) : Bool := !b.bad && (decide (0 < nextP b.ps) && decide (nextP b.ps < b.ps.length))
/-- How many blocks are free. -/
def freeD (ds : List BkD) : Nat := (ds.filter freeB).length
theorem freeD_snoc (ds : List BkD) (b : BkD) : freeD (ds ++ [b]) = freeD ds + (if freeB b then 1 else 0) := by
  unfold freeD
  rw [List.filter_append]
  cases h : freeB b <;> simp [h]
theorem freeD_take {bs : List BkR} {k : Nat} {r : BkR} (h : bs[k]? = some r) : freeD ((bs.take (k + 1)).map BkR.D) = freeD ((bs.take k).map BkR.D) + (if freeB r.D then 1 else 0) := by
  rw [List.take_add_one, h]
  simp only [Option.toList_some, List.map_append, List.map_cons, List.map_nil]
  exact freeD_snoc _ _
theorem freeD_le (ds : List BkD) : freeD ds ≤ ds.length := List.length_filter_le _ _
/-- The place of the first that is so, or -1. -/
def fstD (p : BkD → Bool) (ds : List BkD) : Int := match ds.findIdx? p with | some k => (k : Int) | none => -1
theorem fstD_at {p : BkD → Bool} {bs : List BkR} {k : Nat} {r : BkR} (hk : bs[k]? = some r) (h : p r.D = true) (ha : ∀ (j : Nat) (q : BkR), j < k → bs[j]? = some q → p q.D = false) : fstD p (bs.map BkR.D) = (k : Int) := by
  have hf : (bs.map BkR.D).findIdx? p = some k := by
    obtain ⟨hl, he⟩ := List.getElem?_eq_some_iff.1 hk
    rw [List.findIdx?_eq_some_iff_getElem]
    refine ⟨by simpa using hl, by simpa [he] using h, fun j hj => ?_⟩
    have := ha j _ hj (List.getElem?_eq_getElem (by omega))
    simpa using this
  unfold fstD
  rw [hf]
theorem fstD_none {p : BkD → Bool} {bs : List BkR} (ha : ∀ (j : Nat) (q : BkR), bs[j]? = some q → p q.D = false) : fstD p (bs.map BkR.D) = -1 := by
  have hf : (bs.map BkR.D).findIdx? p = none := by
    rw [List.findIdx?_eq_none_iff]
    intro x hx
    obtain ⟨q, hq, rfl⟩ := List.mem_map.1 hx
    obtain ⟨j, hj⟩ := List.getElem?_of_mem hq
    exact ha j q hj
  unfold fstD
  rw [hf]
/-- The block that is written to next. -/
def openD (ds : List BkD) (spare : Int) : Int := if 0 ≤ fstD begB ds then fstD begB ds else if spare < (freeD ds : Int) then fstD freeB ds else -1
end

section
open Go.RowKit
/-- What was appended, and where it lies. -/
theorem run_appAny (W : World) (B : Nat) (t ty e : TypeId) (i : TypeInfo) (z : Value) (size bytes : Nat) (ht : Try.prog.underlying t = some (.slice e)) (hi : Try.prog.info? e = some i) (hz : i.zero = some z) (hsize : i.size = size) (hby : i.bytes = bytes) (hzs : z.cells.size = size) (hsz : 0 < size)
    (v : Value) (n : Nat) (xs : List Value) (hown : W.ownsRow B e size v n xs) (ao : Option Addr) (m c : Nat) (news : List Value) (hl : news.length = m * size) (hnews : m = 0 ∨ ∃ ad, ao = some ad ∧ ∀ j u, news[j]? = some u → W.cell? (ad.add j) = some u)
    (h1 : ∀ u ∈ news, u.oneCell' = true) (h63 : n + m ≤ 8000000) (hb64 : bytes ≤ 640) (hB : B ≤ W.heap.size) :
    ∃ v' W', (Builtin.append_ #[t, t] ty #[v, .slice ao m c]).run Try.prog W = .ok v' W' ∧ W'.ownsRow B e size v' (n + m) (xs ++ news) ∧ W.grownBy W' v.ownBlock ∧ (v'.ownBlock = v.ownBlock ∨ v'.ownBlock = some W.heap.size) := by
  cases ao with
  | some ad =>
    obtain ⟨v', w', hr, h2, h3, _, h5⟩ := run_append_own_at (P := Try.prog) W B t ty e i z size bytes ht hi hz hsize hby hzs hsz v n xs hown ad m c news hl (by
      rcases hnews with h0 | ⟨ad', h0, hn⟩
      · subst h0
        obtain rfl : news = [] := List.length_eq_zero_iff.1 (by simpa using hl)
        intro j u hj; simp at hj
      · simp at h0; subst h0; exact hn) h1 (by unfold maxLen; omega) (by have : (n + m) * bytes ≤ 8000000 * 640 := Nat.mul_le_mul (by omega) hb64; omega) hB
    exact ⟨v', w', hr, h2, h3, h5⟩
  | none =>
    have hm : m = 0 := by
      rcases hnews with h0 | ⟨ad', h0, _⟩
      · exact h0
      · simp at h0
    subst hm
    obtain rfl : news = [] := List.length_eq_zero_iff.1 (by simpa using hl)
    have hs : Go.Src Try.prog i.size t (.slice none 0 c) 0 [] W := Go.Src.ofNil W ht c
    refine ⟨v, W, ?_, by rw [Nat.add_zero, List.append_nil]; exact hown, World.grownBy.refl W _, .inl rfl⟩
    rcases hown.2 with ⟨rfl, rfl⟩ | ⟨g, cap, cur, rfl, _, _, hk, _⟩
    · simp [Builtin.append_, run_underlying ht, sizeOf, typeInfo, hi, hs.len, hs.cells]
    · have hr := run_append_room_src W t t ty e i ht hi g 0 n cap (.slice none 0 c) 0 [] hs (by omega) (fun j hj => by simp at hj) (fun j hj => by simp at hj)
      rw [hr]
      rfl
/-- At the operation. -/
theorem wpList_appAny (W : World) {ops : Array Oper} {rest : List Oper} {o : Oper} {a : Act} {Q : Exit → Act → World → Prop} (hgd : o.guard = none) (s x : Operand) (t : TypeId)
    (ho : o.op = .call { callee := .builtin .append, args := #[s, x], argTypes := #[t, t] }) (v u : Value) (R : Value → World → Prop) (hs : a.eval s = v) (hx : a.eval x = u)
    (hr : ∀ ty, ∃ v' W', (Builtin.append_ #[t, t] ty #[v, u]).run Try.prog W = .ok v' W' ∧ R v' W')
    (h : ∀ v' W', R v' W' → wpList Try.prog ops Q rest (a.put o.dst v') W') :
    wpList Try.prog ops Q (o :: rest) a W := by
  refine wpList_plain hgd fun K hK => ?_
  obtain ⟨v', W', h1, h2⟩ := hr o.type
  unfold Oper.wp execOp
  simp only [ho, resolve, invoke, builtin, Sem.run_bind, Sem.run_pure, Result.andThen_ok, List.map_toArray, List.map_cons, List.map_nil, hs, hx, h1]
  exact hK _ _ (h v' W' h2)
/-- At a step of a region that draws. -/
theorem step_appAny (W : World) {ops : Array Oper} {o : Oper} {a : Act} {K : Act → World → Prop} {Q : Exit → Act → World → Prop} {E : Prop} (hgd : o.guard = none) (s x : Operand) (t : TypeId)
    (ho : o.op = .call { callee := .builtin .append, args := #[s, x], argTypes := #[t, t] }) (v u : Value) (R : Value → World → Prop) (hs : a.eval s = v) (hx : a.eval x = u)
    (hr : ∀ ty, ∃ v' W', (Builtin.append_ #[t, t] ty #[v, u]).run Try.prog W = .ok v' W' ∧ R v' W')
    (h : ∀ v' W', R v' W' → K (a.put o.dst v') W') :
    if Region.wanted o (yielded ops a.tmps) = true then Oper.wp Try.prog o a W K Q else E := by
  have hw : Region.wanted o (yielded ops a.tmps) = true := by simp [Region.wanted, hgd]
  rw [if_pos hw]
  obtain ⟨v', W', h1, h2⟩ := hr o.type
  unfold Oper.wp execOp
  simp only [ho, resolve, invoke, builtin, Sem.run_bind, Sem.run_pure, Result.andThen_ok, List.map_toArray, List.map_cons, List.map_nil, hs, hx, h1]
  exact h v' W' h2
/-- Bytes onto bytes. -/
structure AppB (W : World) (v : Value) (n : Nat) (zs : List Int) (v' : Value) (W' : World) : Prop where
  own : OwnV 0 W' v' n zs
  gr : W.grownBy W' v.ownBlock
  at_ : v'.ownBlock = v.ownBlock ∨ v'.ownBlock = some W.heap.size
theorem app_bytes (W : World) (v : Value) (n : Nat) (xs : List Int) (ao : Option Addr) (m c : Nat) (zs : List Int) (hn : zs.length = m) (hs : n + m ≤ 8000000) (hown : OwnV 0 W v n xs) (hr : Rd W ao zs) (ty : TypeId) :
    ∃ v' W', (Builtin.append_ #[22, 22] ty #[v, .slice ao m c]).run Try.prog W = .ok v' W' ∧ AppB W v (n + m) (xs ++ zs) v' W' := by
  obtain ⟨i0, hi, hz0, hz1, hz2⟩ := info_parts Try.info5
  obtain ⟨v', W', h1, h2, h3, h4⟩ := run_appAny W 0 22 ty 5 i0 (.int .u8 0) 1 1 Try.underlying22 hi hz0 hz1 hz2 rfl (by omega) v n (xs.map (Value.int .u8)) hown ao m c (zs.map (Value.int .u8)) (by simp [hn]) (by
    rcases hr with rfl | ⟨b, off, rfl, hc⟩
    · left; simpa using hn.symm
    · refine .inr ⟨_, rfl, fun j u hj => ?_⟩
      simp only [List.getElem?_map] at hj
      by_cases hjm : j < zs.length
      · have := hc j hjm
        rw [show (⟨b, off, none⟩ : Addr).add j = ⟨b, off + j, none⟩ by simp [Addr.add], this]
        rw [List.getElem?_eq_getElem hjm] at hj
        simpa [List.getElem?_eq_getElem hjm] using hj
      · rw [List.getElem?_eq_none (by omega)] at hj
        simp at hj) (fun u hu => by obtain ⟨z, _, rfl⟩ := List.mem_map.1 hu; rfl) hs (by omega) (Nat.zero_le _)
  exact ⟨v', W', h1, ⟨by unfold OwnV; rw [List.map_append]; exact h2, h3, h4⟩⟩
theorem AppB.room {W W' : World} {v : Value} {a : Option Addr} {n m c : Nat} {zs : List Int} (h : AppB W v n zs (.slice a m c) W') : n ≤ c := by
  rcases h.own.2 with ⟨_, h2⟩ | ⟨g', c', cur, h1, _, _, h2, _⟩
  · omega
  · simp only [Value.slice.injEq] at h1
    omega
theorem AppB.below {W W' : World} {v v' : Value} {n : Nat} {zs : List Int} (h : AppB W v n zs v' W') (hv : v.ownBlock = none) : Below W.heap.size W W' := ⟨h.gr.os, h.gr.tape, h.gr.output, h.gr.size, fun k hk => h.gr.block k hk (by rw [hv]; simp)⟩
end

section
open Go.RowKit
/-- A block onto a row of blocks of the call's own. -/
structure AppK (W : World) (v : Value) (us : List BkR) (v' : Value) (W' : World) : Prop where
  own : OwnE bkE 39 W' v' us.length us
  gr : W.grownBy W' v.ownBlock
  at_ : v'.ownBlock = v.ownBlock ∨ v'.ownBlock = some W.heap.size
theorem three_news (w : World) (v0 v1 v2 : Value) (t : TypeId) : ∀ j u, [v0, v1, v2][j]? = some u → (w.alloc (.cells #[v0, v1, v2] t)).cell? ((⟨w.heap.size, 0, none⟩ : Addr).add j) = some u := by
  intro j u hj
  have zb := Blk.new w t #[v0, v1, v2]
  rw [add_at]
  have := zb.cell j
  rw [this]
  simpa using hj
theorem app_block (W : World) (v : Value) (us : List BkR) (k : Nat) (hk : us.length = k) (hs : k + 1 ≤ 8000000) (hown : OwnE bkE 39 W v k us) (p : BkR) (ty : TypeId) (n1 : Nat) (hn1 : p.ps.length = n1) :
    ∃ v' W', (Builtin.append_ #[24, 24] ty #[v, .slice (some ⟨W.heap.size, 0, none⟩) 1 1]).run Try.prog (W.alloc (.cells #[.slice p.a n1 p.cap, .int .i64 p.wear, .bool p.bad] 39)) = .ok v' W' ∧ AppK (W.alloc (.cells #[.slice p.a n1 p.cap, .int .i64 p.wear, .bool p.bad] 39)) v (us ++ [p]) v' W' := by
  obtain ⟨i0, hi, hz0, hz1, hz2⟩ := info_parts Try.infoBlock
  subst hn1
  obtain ⟨v', W', h1, h2, h3, h4⟩ := run_appAny (W.alloc (.cells #[.slice p.a p.ps.length p.cap, .int .i64 p.wear, .bool p.bad] 39)) 0 24 ty 39 i0 (.agg #[.slice none 0 0, .int .i64 0, .bool false]) 3 40 Try.underlying24 hi hz0 hz1 hz2 rfl (by omega) v k (bkE.xv us) (World.ownsRow.alloc hown _) (some ⟨W.heap.size, 0, none⟩) 1 1 (bkE.xv [p]) (by rw [bkE.xv_length]; rfl) (.inr ⟨_, rfl, fun j u hj => by
      have := three_news W (.slice p.a p.ps.length p.cap) (.int .i64 p.wear) (.bool p.bad) 39 j u
      exact this (by simpa [El.xv, bkE] using hj)⟩) (fun u hu => by simp [El.xv, bkE] at hu; rcases hu with rfl | rfl | rfl <;> rfl) hs (by omega) (Nat.zero_le _)
  exact ⟨v', W', h1, ⟨by unfold OwnE; rw [List.length_append, hk, bkE.xv_append]; exact h2, h3, h4⟩⟩
/-- While blocks are put one by one into the box X. -/
structure CC (w0 wr : World) (X : Nat) (v : Value) (us : List BkR) (ds : List BkD) : Prop where
  bel : Below w0.heap.size w0 wr
  x : Blk wr X 26 #[v]
  xn : w0.heap.size ≤ X
  row : OwnE bkE 39 wr v us.length us
  inn : Inn bkK wr w0.heap.size ds us
  xi : X ∉ bkK.fps us
  vn : ∀ g, v.ownBlock = some g → w0.heap.size ≤ g ∧ g ≠ X ∧ g ∉ bkK.fps us
theorem CC.keep {w0 wr w' : World} {X : Nat} {v : Value} {us : List BkR} {ds : List BkD} (h : CC w0 wr X v us ds) (hb : Below wr.heap.size wr w') : CC w0 w' X v us ds :=
  ⟨h.bel.trans (hb.mono h.bel.size), h.x.keep hb, h.xn, h.row.keep hb, h.inn.keep hb, h.xi, h.vn⟩
theorem CC.new {w0 W : World} {X : Nat} (hb : Below w0.heap.size w0 W) (hx : Blk W X 26 #[.slice none 0 0]) (hX : w0.heap.size ≤ X) : CC w0 W X (.slice none 0 0) [] [] :=
  ⟨hb, hx, hX, ownE_nil _ _ _, Inn.nil _ _ _, by simp [Kd.fps], fun g hg => by simp [Value.ownBlock] at hg⟩
/-- One block more: q lies from the size of W8 on. -/
theorem CC.step {w0 W8 W9 W10 : World} {X k m n1 : Nat} {v : Value} {us : List BkR} {ds : List BkD} {a1 a2 : Option Addr} {c1 c2 : Nat} {wear : Int} {bad : Bool} {qd : List PgD} {qs : List PgR} {o : Obj} (h : CC w0 W8 X v us ds) (_hus : us.length = k) (hq : qs.length = n1) (b9 : Below W8.heap.size W8 W9)
    (hnp : NewPs W9 W8.heap.size (.slice a1 n1 c1) qd qs) (ha : AppK (W9.alloc o) v (us ++ [⟨a1, c1, qs, wear, bad⟩]) (.slice a2 m c2) W10) (hm : m = k + 1) : CC w0 (W10.setCell ⟨X, 0, none⟩ (.slice a2 (k + 1) c2)) X (.slice a2 (k + 1) c2) (us ++ [⟨a1, c1, qs, wear, bad⟩]) (ds ++ [⟨qd, wear, bad⟩]) := by
  subst hm
  subst hq
  obtain ⟨p, hp⟩ : ∃ p : BkR, p = ⟨a1, c1, qs, wear, bad⟩ := ⟨_, rfl⟩
  have hpv : p.v = .slice a1 qs.length c1 := by rw [hp]; rfl
  have hpp : p.ps = qs := by rw [hp]
  have hpD : p.D = ⟨qd, wear, bad⟩ := by rw [hp]; unfold BkR.D; rw [hnp.D]
  rw [← hp] at ha ⊢
  rw [← hpD]
  have hfp : bkK.fp p = fpPs (.slice a1 qs.length c1) qs := by show fpPs p.v p.ps = _; rw [hpv, hpp]
  have hS : ∀ g ∈ bkK.fps us, g < W8.heap.size := fun g hg => h.inn.lt g hg
  have hpB : ∀ g ∈ bkK.fp p, W8.heap.size ≤ g := fun g hg => hnp.new g (by rw [← hfp]; exact hg)
  have hpo0 : bkK.own W9 p := by show OwnPs W9 p.v p.ps; rw [hpv, hpp]; exact hnp.own
  have bA : Below W9.heap.size W9 (W9.alloc o) := (Below.refl _ W9).alloc (Nat.le_refl _) _
  have h1 := (h.keep b9).keep bA
  have hp1 : bkK.own (W9.alloc o) p := bkK.block hpo0 fun g hg => bA.block g (bkK.lt hpo0 g hg)
  have hvB : ∀ g, v.ownBlock = some g → g < W8.heap.size := fun g hg => h.row.lt hg
  have hXB : X < W8.heap.size := h.x.lt
  have hXv : v.ownBlock ≠ some X := fun e => (h.vn X e).2.1 rfl
  have hvp : ∀ g ∈ bkK.fp p, v.ownBlock ≠ some g := fun g hg e => by have := hpB g hg; have := hvB g e; omega
  have hbel : Below w0.heap.size w0 W10 := h1.bel.grown ha.gr h1.bel.size (fun g hg => (h.vn g hg).1)
  have hx : Blk W10 X 26 #[v] := (ha.gr.block X h1.x.lt (fun e => hXv e.symm)).trans h1.x
  have hin : Inn bkK W10 w0.heap.size ds us := h1.inn.block fun g hg => ha.gr.block g (h1.inn.lt g hg) (fun e => (h.vn g e.symm).2.2 hg)
  have hpo : bkK.own W10 p := bkK.block hp1 fun g hg => ha.gr.block g (bkK.lt hp1 g hg) (fun e => hvp g hg e.symm)
  have hpx : X ∉ bkK.fp p := fun hf => by have := hpB X hf; omega
  have hset : ∀ g, g ≠ X → (W10.setCell ⟨X, 0, none⟩ (.slice a2 (k + 1) c2)).heap[g]? = W10.heap[g]? := fun g hg => Below.heap_setCell _ _ _ _ hg
  have hfs : bkK.fps (us ++ [p]) = bkK.fps us ++ bkK.fp p := by simp [Kd.fps]
  have hs9 := b9.size
  have hv'X : ∀ g, (Value.slice a2 (k + 1) c2).ownBlock = some g → w0.heap.size ≤ g ∧ g ≠ X ∧ g ∉ bkK.fps (us ++ [p]) := fun g hg => by
    rw [hfs]
    rcases ha.at_ with e | e
    · rw [hg] at e
      have h2 := h.vn g e.symm
      refine ⟨h2.1, h2.2.1, fun hf => ?_⟩
      rcases List.mem_append.1 hf with h3 | h3
      · exact h2.2.2 h3
      · exact hvp g h3 e.symm
    · rw [hg] at e
      simp at e
      have := h.bel.size
      refine ⟨by omega, by omega, fun hf => ?_⟩
      rcases List.mem_append.1 hf with h3 | h3
      · have := hS g h3; omega
      · have h4 := bkK.lt hpo0 g h3; omega
  have hin' : Inn bkK (W10.setCell ⟨X, 0, none⟩ (.slice a2 (k + 1) c2)) w0.heap.size ds us := hin.block fun g hg => hset g (fun e => by subst e; exact h.xi hg)
  have hpo' : bkK.own (W10.setCell ⟨X, 0, none⟩ (.slice a2 (k + 1) c2)) p := bkK.block hpo fun g hg => hset g (fun e => by subst e; exact hpx hg)
  refine ⟨hbel.setCell (p := ⟨X, 0, none⟩) h.xn _, ?_, h.xn, ha.own.block fun g hg => hset g (hv'X g hg).2.1, ?_, ?_, hv'X⟩
  · exact hx.set 0 (.slice a2 (k + 1) c2)
  · have h8 := h.bel.size
    exact hin'.snoc (S := W8.heap.size) hS hpo' (fun g hg => by have := hpB g hg; exact ⟨this, by omega⟩) (by rw [hfp]; exact hnp.nd)
  · rw [hfs]
    exact fun hf => (List.mem_append.1 hf).elim h.xi hpx
/-- What was built, told. -/
theorem CC.done {w0 W : World} {X n c : Nat} {a : Option Addr} {us : List BkR} {ds : List BkD} (h : CC w0 W X (.slice a n c) us ds) (_hn : us.length = n) : NewBs W w0.heap.size (.slice a n c) ds us :=
  h.inn.newBs h.row (Nat.le_refl _) (fun g hg => ⟨(h.vn g hg).1, (h.vn g hg).2.2⟩)
end
end Go.Proofs.Ytpejfkgbfdkdnaa
