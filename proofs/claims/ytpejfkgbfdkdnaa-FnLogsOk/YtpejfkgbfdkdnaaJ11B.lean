/-
  Joined: ChMk, ChUp, ChEr.
-/
import Derived.Test.YtpejfkgbfdkdnaaJ10B
namespace Go.Proofs.Ytpejfkgbfdkdnaa
section
open Go.RowKit
theorem mem_set {α : Type} {l : List α} {i : Nat} {x y : α} (h : y ∈ l.set i x) : y = x ∨ ∃ j, j ≠ i ∧ l[j]? = some y := by
  obtain ⟨j, hj⟩ := List.mem_iff_getElem?.1 h
  by_cases e : j = i
  · subst e
    left
    rw [List.getElem?_set_self (by have := (List.getElem?_eq_some_iff.1 hj).1; simpa using this)] at hj
    simpa using hj.symm
  · right
    rw [List.getElem?_set_ne (fun h => e h.symm)] at hj
    exact ⟨j, e, hj⟩
/-- Of a list without doubles what one element takes is not taken by another one. -/
theorem flat_apart {α : Type} {f : α → List Nat} {l : List α} (hd : (l.flatMap f).Nodup) {i j : Nat} {x y : α} (hi : l[i]? = some x) (hj : l[j]? = some y) (hne : i ≠ j) {g : Nat} (hx : g ∈ f x) : g ∉ f y := by
  induction l generalizing i j with
  | nil => simp at hi
  | cons z l ih =>
    rw [List.flatMap_cons, List.nodup_append] at hd
    cases i with
    | zero =>
      cases j with
      | zero => omega
      | succ j =>
        simp at hi hj
        subst hi
        intro hy
        exact hd.2.2 g hx g (List.mem_flatMap.2 ⟨y, List.mem_of_getElem? hj, hy⟩) rfl
    | succ i =>
      cases j with
      | zero =>
        simp at hi hj
        subst hj
        intro hy
        exact hd.2.2 g hy g (List.mem_flatMap.2 ⟨x, List.mem_of_getElem? hi, hx⟩) rfl
      | succ j => exact ih hd.2.1 (by simpa using hi) (by simpa using hj) (by omega)
end

section
open Go.RowKit
theorem split_at {α : Type} {l : List α} {k : Nat} {x : α} (h : l[k]? = some x) (y : α) : l = l.take k ++ x :: l.drop (k + 1) ∧ l.set k y = l.take k ++ y :: l.drop (k + 1) := by
  obtain ⟨hl, he⟩ := List.getElem?_eq_some_iff.1 h
  have h1 : l = l.take k ++ x :: l.drop (k + 1) := by
    conv => lhs; rw [← List.take_append_drop k l, List.drop_eq_getElem_cons hl, he]
  refine ⟨h1, ?_⟩
  rw [List.set_eq_take_append_cons_drop, if_pos hl]
/-- One element put anew: what it takes was taken by the old one, or is new. -/
theorem Inn.put {α δ : Type} {K : Kd α δ} {w w' : World} {H S k : Nat} {ds : List δ} {qs : List α} {x q : α} (h : Inn K w H ds qs) (hx : qs[k]? = some x) (hS : ∀ g ∈ K.fps qs, g < S) (hH : H ≤ S)
    (hq : K.own w' q) (hfp : ∀ g ∈ K.fp q, g ∈ K.fp x ∨ S ≤ g) (hd : (K.fp q).Nodup) (hk : ∀ g ∈ K.fps qs, g ∉ K.fp x → w'.heap[g]? = w.heap[g]?) : Inn K w' H (ds.set k (K.D q)) (qs.set k q) := by
  obtain ⟨e1, e2⟩ := split_at hx q
  have hnd := h.nd
  have hsub : ∀ g ∈ K.fp x, g ∈ K.fps qs := fun g hg => List.mem_flatMap.2 ⟨x, List.mem_of_getElem? hx, hg⟩
  have hfe : K.fps qs = (qs.take k).flatMap K.fp ++ (K.fp x ++ (qs.drop (k + 1)).flatMap K.fp) := by
    unfold Kd.fps
    conv => lhs; rw [e1]
    rw [List.flatMap_append, List.flatMap_cons]
  have hfs : K.fps (qs.set k q) = (qs.take k).flatMap K.fp ++ (K.fp q ++ (qs.drop (k + 1)).flatMap K.fp) := by
    unfold Kd.fps
    rw [e2, List.flatMap_append, List.flatMap_cons]
  rw [hfe] at hnd hS
  rw [List.nodup_append, List.nodup_append] at hnd
  obtain ⟨nA, ⟨nX, nC, dXC⟩, dA⟩ := hnd
  refine ⟨?_, fun r hr => ?_, fun g hg => ?_, ?_⟩
  · rw [List.map_set, h.D]
  · rcases mem_set hr with rfl | ⟨j, hj, hrj⟩
    · exact hq
    · refine K.block (h.own r (List.mem_of_getElem? hrj)) fun g hg => hk g (List.mem_flatMap.2 ⟨r, List.mem_of_getElem? hrj, hg⟩) ?_
      exact flat_apart h.nd hrj hx hj hg
  · rw [hfs] at hg
    rcases List.mem_append.1 hg with h1 | h1
    · exact h.new g (by rw [hfe]; exact List.mem_append_left _ h1)
    · rcases List.mem_append.1 h1 with h2 | h2
      · rcases hfp g h2 with h3 | h3
        · exact h.new g (hsub g h3)
        · omega
      · exact h.new g (by rw [hfe]; exact List.mem_append_right _ (List.mem_append_right _ h2))
  · rw [hfs, List.nodup_append, List.nodup_append]
    refine ⟨nA, ⟨hd, nC, fun a ha b hb e => ?_⟩, fun a ha b hb e => ?_⟩
    · subst e
      rcases hfp a ha with h1 | h1
      · exact dXC a h1 a hb rfl
      · have := hS a (List.mem_append_right _ (List.mem_append_right _ hb)); omega
    · subst e
      rcases List.mem_append.1 hb with h1 | h1
      · rcases hfp a h1 with h2 | h2
        · exact dA a ha a (List.mem_append_left _ h2) rfl
        · have := hS a (List.mem_append_left _ ha); omega
      · exact dA a ha a (List.mem_append_right _ h1) rfl
theorem NewBs.inn {w : World} {B : Nat} {v : Value} {ds : List BkD} {bs : List BkR} (h : NewBs w B v ds bs) : Inn bkK w B ds bs := ⟨h.D, h.own.2, fun g hg => h.new g (List.mem_append_right _ hg), (List.nodup_append.1 h.nd).2.1⟩
theorem NewBs.row {w : World} {B g n c : Nat} {ds : List BkD} {bs : List BkR} (h : NewBs w B (.slice (some ⟨g, 0, none⟩) n c) ds bs) : g ∉ bkK.fps bs ∧ B ≤ g := ⟨fun hg => (List.nodup_append.1 h.nd).2.2 g (by simp [Value.ownBlock]) g hg rfl, h.new g (fpBs_row rfl)⟩
theorem NewPs.inn {w : World} {B : Nat} {v : Value} {ds : List PgD} {bs : List PgR} (h : NewPs w B v ds bs) : Inn pgK w B ds bs := ⟨h.D, h.own.2, fun g hg => h.new g (List.mem_append_right _ hg), (List.nodup_append.1 h.nd).2.1⟩
theorem flat_nodup' {α : Type} {f : α → List Nat} {l : List α} (hd : (l.flatMap f).Nodup) {x : α} (h : x ∈ l) : (f x).Nodup := by
  induction l with
  | nil => simp at h
  | cons z l ih =>
    rw [List.flatMap_cons, List.nodup_append] at hd
    rcases List.mem_cons.1 h with rfl | h
    · exact hd.1
    · exact ih hd.2.1 h
/-- The pages of the block k put anew. -/
theorem NewBs.pages {W W1 : World} {B g n c k n1 c1 : Nat} {a1 : Option Addr} {ds : List BkD} {bs : List BkR} {b : BkR} {qd : List PgD} {qs : List PgR} (h : NewBs W B (.slice (some ⟨g, 0, none⟩) n c) ds bs) (hn : bs.length = n) (hb : bs[k]? = some b) (b1 : Below W.heap.size W W1) (hp : NewPs W1 W.heap.size (.slice a1 n1 c1) qd qs) (hq : qs.length = n1) :
    NewBs (W1.setCell ⟨g, k * 3, none⟩ (.slice a1 n1 c1)) B (.slice (some ⟨g, 0, none⟩) n c) (ds.set k ⟨qd, b.wear, b.bad⟩) (bs.set k ⟨a1, c1, qs, b.wear, b.bad⟩) := by
  subst hq
  have hr := h.row
  have hlt := h.own.lt
  have hgl : g < W.heap.size := hlt g (fpBs_row rfl)
  have hset : ∀ j, j ≠ g → (W1.setCell ⟨g, k * 3, none⟩ (.slice a1 qs.length c1)).heap[j]? = W1.heap[j]? := fun j hj => Below.heap_setCell _ _ _ _ hj
  have hfq : bkK.fp (⟨a1, c1, qs, b.wear, b.bad⟩ : BkR) = fpPs (.slice a1 qs.length c1) qs := rfl
  have hown : OwnE bkE 39 W1 (.slice (some ⟨g, 0, none⟩) n c) n bs := by have := (h.own.1).keep b1; rw [hn] at this; exact this
  have s := hown.set k 0 b ⟨a1, c1, qs, b.wear, b.bad⟩ (.slice a1 qs.length c1) hb (by decide) rfl
  have hin := h.inn.put (w' := W1.setCell ⟨g, k * 3, none⟩ (.slice a1 qs.length c1)) (S := W.heap.size) (q := (⟨a1, c1, qs, b.wear, b.bad⟩ : BkR)) hb (fun j hj => h.inn.lt j hj) (Nat.le_trans hr.2 (by omega)) (by
      show OwnPs _ (.slice a1 qs.length c1) qs
      exact hp.own.block fun j hj => hset j (fun e => by subst e; have := hp.new j hj; omega)) (fun j hj => .inr (hp.new j hj)) hp.nd (fun j hj _ => by rw [hset j (fun e => by subst e; exact hr.1 hj)]; exact b1.block j (h.inn.lt j hj))
  have hD : bkK.D (⟨a1, c1, qs, b.wear, b.bad⟩ : BkR) = ⟨qd, b.wear, b.bad⟩ := by show BkD.mk (qs.map PgR.D) b.wear b.bad = _; rw [hp.D]
  rw [hD] at hin
  refine hin.newBs (by rw [List.length_set, hn]; exact s) (Nat.le_refl _) (fun j hj => ?_)
  simp [Value.ownBlock] at hj
  subst hj
  refine ⟨hr.2, fun hf => ?_⟩
  obtain ⟨e1, e2⟩ := split_at hb (⟨a1, c1, qs, b.wear, b.bad⟩ : BkR)
  unfold Kd.fps at hf
  obtain ⟨x, hx, hxf⟩ := List.mem_flatMap.1 hf
  rcases mem_set hx with rfl | ⟨j, hj, hxj⟩
  · have := hp.new g hxf; omega
  · exact hr.1 (List.mem_flatMap.2 ⟨x, List.mem_of_getElem? hxj, hxf⟩)
/-- The wear of the block k put anew. -/
theorem NewBs.wear {W : World} {B g n c k : Nat} {ds : List BkD} {bs : List BkR} {b : BkR} (h : NewBs W B (.slice (some ⟨g, 0, none⟩) n c) ds bs) (hn : bs.length = n) (hb : bs[k]? = some b) (y : Int) :
    NewBs (W.setCell ⟨g, k * 3 + 1, none⟩ (.int .i64 y)) B (.slice (some ⟨g, 0, none⟩) n c) (ds.set k ⟨b.ps.map PgR.D, y, b.bad⟩) (bs.set k ⟨b.a, b.cap, b.ps, y, b.bad⟩) := by
  have hr := h.row
  have hset : ∀ j, j ≠ g → (W.setCell ⟨g, k * 3 + 1, none⟩ (.int .i64 y)).heap[j]? = W.heap[j]? := fun j hj => Below.heap_setCell _ _ _ _ hj
  have hown : OwnE bkE 39 W (.slice (some ⟨g, 0, none⟩) n c) n bs := by have := h.own.1; rw [hn] at this; exact this
  have s := hown.set k 1 b ⟨b.a, b.cap, b.ps, y, b.bad⟩ (.int .i64 y) hb (by decide) rfl
  have hfx : ∀ j ∈ bkK.fps bs, j ≠ g := fun j hj e => by subst e; exact hr.1 hj
  have hbm : b ∈ bs := List.mem_of_getElem? hb
  have hin := h.inn.put (w' := W.setCell ⟨g, k * 3 + 1, none⟩ (.int .i64 y)) (S := W.heap.size) (q := (⟨b.a, b.cap, b.ps, y, b.bad⟩ : BkR)) hb (fun j hj => h.inn.lt j hj) (by have := h.own.lt g (fpBs_row rfl); have := hr.2; omega) (by
      show OwnPs _ b.v b.ps
      exact (h.own.2 b hbm).block fun j hj => hset j (hfx j (List.mem_flatMap.2 ⟨b, hbm, hj⟩))) (fun j hj => .inl hj) (show (fpPs b.v b.ps).Nodup from flat_nodup' (f := bkK.fp) h.inn.nd hbm) (fun j hj _ => hset j (hfx j hj))
  refine hin.newBs (by rw [List.length_set, hn]; exact s) (Nat.le_refl _) (fun j hj => ?_)
  simp [Value.ownBlock] at hj
  subst hj
  refine ⟨hr.2, fun hf => ?_⟩
  obtain ⟨x, hx, hxf⟩ := List.mem_flatMap.1 hf
  rcases mem_set hx with rfl | ⟨j, hj, hxj⟩
  · exact hr.1 (List.mem_flatMap.2 ⟨b, hbm, hxf⟩)
  · exact hr.1 (List.mem_flatMap.2 ⟨x, List.mem_of_getElem? hxj, hxf⟩)
end

section
open Go.RowKit
/-- A chip and a code were answered. -/
def ChCA (w : World) (ds : List BkD) (code : Int) (e : Ending) (w' : World) : Prop := ∃ a n c qs, e = .returned (.tuple #[.agg #[.slice a n c], .int .i64 code]) ∧ NewBs w' w.heap.size (.slice a n c) ds qs ∧ qs.length = n ∧ Below w.heap.size w w'
/-- The code of an erase, and the chip behind it. -/
def codeE (ok : Bool) (ds : List BkD) (x : Int) : Int := mayD ok ds x (wornAt ds x)
def eraseAt (ds : List BkD) (k : Nat) : List BkD := match ds[k]? with | some b => ds.set k ⟨List.replicate 8 ⟨false, []⟩, b.wear + 1, b.bad⟩ | none => ds
def eraseD (ok : Bool) (ds : List BkD) (x : Int) : List BkD := if codeE ok ds x = 0 then eraseAt ds x.toNat else ds
theorem code_zero {ok : Bool} {bs : List BkR} {x : Int} {full : Bool} (h : mayD ok (bs.map BkR.D) x full = 0) : ok = true ∧ ∃ (k : Nat) (r : BkR), x = (k : Int) ∧ bs[k]? = some r ∧ r.bad = false ∧ full = false := by
  unfold mayD at h
  split at h
  · omega
  · rename_i h1
    have hx : 0 ≤ x ∧ x < (bs.length : Int) := by simp at h1; omega
    obtain ⟨k, rfl⟩ : ∃ k : Nat, x = (k : Int) := ⟨x.toNat, by omega⟩
    have hk : bs[k]? = some bs[k] := List.getElem?_eq_getElem (by omega)
    split at h
    · omega
    · rename_i h2
      split at h
      · omega
      · rename_i h3
        refine ⟨by cases ok <;> simp_all, k, _, rfl, hk, ?_, by simpa using h3⟩
        simpa [hk, BkR.D] using h2
set_option maxRecDepth 100000 in
set_option maxHeartbeats 8000000 in
theorem eraseS (a : Option Addr) (n cap : Nat) (bs : List BkR) (x : Int) (w : World) (ht : CR w a n bs) :
    Calls Try.prog 91 #[.agg #[.slice a n cap], .int .i64 x] w (ChCA w (eraseD (chipOkB (bs.map BkR.D)) (bs.map BkR.D) x) (codeE (chipOkB (bs.map BkR.D)) (bs.map BkR.D) x)) := by
  have hnn := ht.n
  have B0 : Below w.heap.size w ((w.alloc (.cells #[.slice a n cap] 26)).alloc (.cells #[.slice none 0 0] 26)) := ((Below.refl _ w).alloc (Nat.le_refl _) _).alloc (by simp) _
  have z0 := (Blk.new w 26 #[.slice a n cap]).alloc (.cells #[.slice none 0 0] 26)
  have z1 := Blk.new (w.alloc (.cells #[.slice a n cap] 26)) 26 #[.slice none 0 0]
  simp only [World.size_alloc] at z1
  have hws : ((w.alloc (.cells #[.slice a n cap] 26)).alloc (.cells #[.slice none 0 0] 26)).heap.size = w.heap.size + 2 := by simp
  obtain ⟨H, hH⟩ : ∃ H, w.heap.size = H := ⟨_, rfl⟩
  rw [hH] at z0 z1 hws
  obtain ⟨i0, hi, hz0, hz1, hz2⟩ := info_parts Try.infoPage
  obtain ⟨M, hM⟩ : ∃ M, M = madeCells (Value.agg #[.bool false, .slice none 0 0]).cells 16 := ⟨_, rfl⟩
  have hmk : ∀ W : World, (Instr.makeSlice 37 (.int .i64 8) (.int .i64 8)).run Try.prog W = .ok (.slice (some ⟨W.heap.size, 0, none⟩) 8 8) (W.alloc (.cells M 74)) := fun W => by
    have h := run_make (P := Try.prog) W 37 74 i0 _ Try.underlying37 hi hz0 .i64 .i64 8 8 (by omega) (by omega) (by rw [hz2]; omega) (by omega)
    rw [hz1] at h
    rw [hM]
    exact h
  have HM : Hid _ := hM
  clear hM hi hz0 hz1 hz2
  have cE := fun (W : World) (h : CR W a n bs) => l10EraseS a n cap bs x W h
  generalize hok : chipOkB (bs.map BkR.D) = ok at cE
  obtain ⟨code, hcode⟩ : ∃ code, codeE ok (bs.map BkR.D) x = code := ⟨_, rfl⟩
  unfold codeE at hcode
  rw [hcode] at cE
  have CE : Hid _ := cE
  have HOK : Hid (chipOkB (bs.map BkR.D) = ok) := hok
  have HCO : Hid (mayD ok (bs.map BkR.D) x (wornAt (bs.map BkR.D) x) = code) := hcode
  have HD : Hid (eraseD ok (bs.map BkR.D) x = if code = 0 then eraseAt (bs.map BkR.D) x.toNat else bs.map BkR.D) := by show _ = _; unfold eraseD codeE; rw [hcode]
  have HCE : Hid (codeE ok (bs.map BkR.D) x = code) := hcode
  clear cE hok hcode
  go_enter Try.func91, Try.ntmps91
  have x00 := z0.cell 0
  simp at x00
  go_upto_region 1 with fail
  obtain ⟨W0, hW0⟩ : ∃ W, (w.alloc (.cells #[.slice a n cap] 26)).alloc (.cells #[.slice none 0 0] 26) = W := ⟨_, rfl⟩
  rw [hW0] at B0 z0 z1 hws x00 ⊢
  clear hW0
  have HW : Hid _ := hws
  have HH : Hid (w.heap.size = H) := hH
  have HT : Hid (CR W0 a n bs) := ht.keep B0
  have HB0 : Hid (Below H w W0) := by rw [← hH]; exact B0
  have HZ0 : Hid (Blk W0 H 26 #[.slice a n cap]) := z0
  have HZ1 : Hid (Blk W0 (H + 1) 26 #[.slice none 0 0]) := z1
  have hln : Hid (bs.length = n) := ht.len
  clear ht B0 z0 z1 hH
  go_wp2_with fail
  refine (copyChS a n cap bs W0 HT.out).mono ?_
  rintro e w1 ⟨aC, nC, cC, tC, rfl, qC, hlC, b1⟩
  obtain rfl : nC = n := by rw [← hlC, qC.len]; simp [hln.out]
  have b2 : Below w1.heap.size w1 (w1.alloc (.cells #[.slice aC nC cC] 26)) := (Below.refl _ w1).alloc (Nat.le_refl _) _
  have zX := Blk.new w1 26 #[.slice aC nC cC]
  have y0 := ((Blk.keep HZ0.out b1).keep b2).cell 0
  simp at y0
  clear x00
  go_wp2_with fail
  obtain ⟨W2, hW2⟩ : ∃ W, w1.alloc (.cells #[.slice aC nC cC] 26) = W := ⟨_, rfl⟩
  rw [hW2] at b2 zX y0 ⊢
  clear hW2
  obtain ⟨X, hX⟩ : ∃ X, w1.heap.size = X := ⟨_, rfl⟩
  have hX0 : W0.heap.size ≤ X := by rw [← hX]; exact b1.size
  rw [hX] at zX ⊢
  have hFX : Hid (∀ g ∈ fpBs (.slice aC nC cC) tC, g < X) := fun g hg => by rw [← hX]; exact qC.own.lt g hg
  have q2 := qC.keep b2
  have B2 : Below W0.heap.size W0 W2 := b1.trans (b2.mono b1.size)
  clear qC b1 b2 hX
  refine (CE.out W2 (HT.out.keep B2)).mono ?_
  rintro e w3 ⟨rfl, b3⟩
  have q3 := q2.keep b3
  have z3 := zX.keep b3
  have B3 : Below W0.heap.size W0 w3 := B2.trans (b3.mono B2.size)
  clear q2 zX B2 b3 y0
  by_cases hc0 : code = 0
  · subst hc0
    obtain ⟨hokt, k, r, hxk, hrk, hbad, hfull⟩ := code_zero HCO.out
    subst hxk
    have hkn : k < nC := by have := (List.getElem?_eq_some_iff.1 hrk).1; have := hln.out; omega
    have hki : (k : Int) < (nC : Int) := by omega
    obtain ⟨t, htk, hrt⟩ := same_at (f := BkR.D) (ps := bs) (qs := tC) q3.D hrk
    have hrow := q3.own.1
    rw [hlC] at hrow
    rcases hrow.cases with ⟨_, h0, _⟩ | ⟨g, c, hv, hgl⟩
    · omega
    · simp only [Value.slice.injEq] at hv
      obtain ⟨rfl, _, rfl⟩ := hv
      have hgX : g < X := hFX.out g (fpBs_row rfl)
      have hg0 : W0.heap.size ≤ g := q3.new g (fpBs_row rfl)
      have HDC : Hid (tC.map BkR.D = bs.map BkR.D) := q3.D
      have hD : t.wear = r.wear ∧ t.bad = r.bad := by unfold BkR.D at hrt; simp only [BkD.mk.injEq] at hrt; exact ⟨hrt.2.1, hrt.2.2⟩
      have hw0 : 0 ≤ r.wear ∧ r.wear < 100000 := by
        have h1 := HOK.out
        rw [hokt, chipOkB_iff] at h1
        have h2 := h1.2.2 r.D (List.mem_map_of_mem (List.mem_of_getElem? hrk))
        have h3 := h2.2.1
        rw [wornAt_in hrk] at hfull
        simp at hfull
        exact ⟨h3, hfull⟩
      clear hokt
      obtain ⟨b, off, r', ha', hlt, hrk', x3, _, _⟩ := HT.out.some hkn
      obtain rfl : r = r' := by rw [hrk] at hrk'; simpa using hrk'
      have cw := x3.c1
      obtain ⟨wear, hwe⟩ : ∃ wear, r.wear = wear := ⟨_, rfl⟩
      rw [hwe] at cw hw0
      obtain ⟨hw1, hw2⟩ := hw0
      subst ha'
      have x0 := z3.cell 0
      simp at x0
      have hcc0 : ((0 : Int) == 0) = true := rfl
      go_upto_region 4 with fail
      have bM : Below w3.drew.heap.size w3.drew (w3.drew.alloc (.cells M 74)) := (Below.refl _ _).alloc (Nat.le_refl _) _
      have zM := (z3.keep (Below.refl _ _).drew).keep bM
      have xM := zM.cell 0
      simp at xM
      have rowM := (hrow.keep (Below.refl _ _).drew).keep bM
      have rc0 : (w3.drew.alloc (.cells M 74)).cell? ⟨g, k * 3, none⟩ = some (.slice t.a t.ps.length t.cap) := rowM.cell k 0 t htk (by decide)
      have rf0 := rowM.frozen (k * 3)
      have rc1 : w3.cell? ⟨g, k * 3, none⟩ = some (.slice t.a t.ps.length t.cap) := hrow.cell k 0 t htk (by decide)
      have rf1 : w3.frozen? ⟨g, k * 3, none⟩ = false := hrow.frozen (k * 3)
      have hxw : w3.drew.cell? ⟨X, 0, none⟩ = some (.slice (some ⟨g, 0, none⟩) nC cC) := x0
      have q3d := q3.keep (Below.refl w3.heap.size w3).drew
      have hnp := new_row (W := w3.drew) HM.out
      have q5 := q3d.pages hlC htk bM hnp (by simp)
      have hXg : (⟨X, 0, none⟩ : Addr).block ≠ g := by show X ≠ g; omega
      have z5 := zM.other (B' := g) (by omega) (k * 3) (.slice (some ⟨w3.drew.heap.size, 0, none⟩) 8 8)
      have B5 : Below W0.heap.size W0 ((w3.drew.alloc (.cells M 74)).setCell ⟨g, k * 3, none⟩ (.slice (some ⟨w3.drew.heap.size, 0, none⟩) 8 8)) := ((B3.drew).trans (bM.mono B3.size)).setCell (p := ⟨g, k * 3, none⟩) hg0 _
      have HP5 : Hid _ := And.intro q5 (And.intro z5 B5)
      clear bM zM rowM q3d hnp q5 z5 B5
      refine wp_region_noPanic ?_
      refine wp_region_last (fun W : World => W.cell? ⟨X, 0, none⟩ = some (.slice (some ⟨g, 0, none⟩) nC cC)) 6 (by kernel_rfl) (by kernel_rfl) (by go_keep) 6 (by kernel_rfl) (fun hS => ?_)
      refine wpAnyH_take (i := 0) (v := ?gv1) rfl (by kernel_rfl) (by kernel_rfl) (by kernel_rfl) (fun _ _ _ h => h) (Or.inl ⟨by kernel_rfl, ?gy1⟩) (by assumption) ?gr1
      case gy1 => (intro w' hSw; (try dsimp only at hSw); go_simp; (try with_reducible rfl))
      try simp only [Act.put, List.setIfInBounds_toArray, List.set_cons_zero, List.set_cons_succ, List.getElem_toArray, List.getElem_cons_zero]
      refine wpAnyH_take (i := 1) (v := ?gv2) rfl (by kernel_rfl) (by kernel_rfl) (by kernel_rfl) (fun _ _ _ h => h) (Or.inl ⟨by kernel_rfl, ?gy2⟩) (by assumption) ?gr2
      case gy2 => (intro w' hSw; (try dsimp only at hSw); go_simp; (try with_reducible rfl))
      try simp only [Act.put, List.setIfInBounds_toArray, List.set_cons_zero, List.set_cons_succ, List.getElem_toArray, List.getElem_cons_succ, List.getElem_cons_zero]
      refine wpAnyH_take (i := 2) (v := ?gv3) rfl (by kernel_rfl) (by kernel_rfl) (by kernel_rfl) (fun _ _ _ h => h) (Or.inl ⟨by kernel_rfl, ?gy3⟩) (by assumption) ?gr3
      case gy3 => (intro w' hSw; (try dsimp only at hSw); go_simp; (try with_reducible rfl))
      try simp only [Act.put, List.setIfInBounds_toArray, List.set_cons_zero, List.set_cons_succ, List.getElem_toArray, List.getElem_cons_succ, List.getElem_cons_zero]
      refine wpAnyH_ready (rs := [3]) (by kernel_rfl) (by simp) ?_
      refine AllReadyH.cons rfl (fun K hK => ?_) AllReadyH.nil
      go_simp
      clear hS
      try dsimp only
      refine Shut.out hK _ _ (xM) (fun hS => ?_)
      try simp only [Act.put, List.setIfInBounds_toArray, List.set_cons_zero, List.set_cons_succ, List.getElem_toArray, List.getElem_cons_succ, List.getElem_cons_zero]
      refine wpAnyH_take (i := 4) (v := ?gv4) rfl (by kernel_rfl) (by kernel_rfl) (by kernel_rfl) (fun _ _ _ h => h) (Or.inl ⟨by kernel_rfl, ?gy4⟩) (by assumption) ?gr4
      case gy4 => (intro w' hSw; (try dsimp only at hSw); go_simp; (try with_reducible rfl))
      try simp only [Act.put, List.setIfInBounds_toArray, List.set_cons_zero, List.set_cons_succ, List.getElem_toArray, List.getElem_cons_succ, List.getElem_cons_zero]
      refine wpAnyH_take (i := 5) (v := ?gv5) rfl (by kernel_rfl) (by kernel_rfl) (by kernel_rfl) (fun _ _ _ h => h) (Or.inl ⟨by kernel_rfl, ?gy5⟩) (by assumption) ?gr5
      case gy5 => (intro w' hSw; (try dsimp only at hSw); go_simp; (try with_reducible rfl))
      try simp only [Act.put, List.setIfInBounds_toArray, List.set_cons_zero, List.set_cons_succ, List.getElem_toArray, List.getElem_cons_succ, List.getElem_cons_zero]
      refine wpAnyH_done (by kernel_rfl) ?_ _
      refine wpOp_last rfl (fun K hK => ?_)
      clear hS
      go_simp
      refine Shut.out hK _ _ (NoPanic.normal ?_)
      obtain ⟨q5, z5, B5⟩ := HP5.out
      have hcomm : (w3.drew.alloc (.cells M 74)).setCell ⟨g, k * 3, none⟩ (.slice (some ⟨w3.heap.size, 0, none⟩) 8 8) = ((w3.setCell ⟨g, k * 3, none⟩ (.slice (some ⟨w3.heap.size, 0, none⟩) 8 8)).alloc (.cells M 74)).drew := World.setCell_alloc_past (w := w3.drew) _ g (k * 3) _ hgl
      have q5' : NewBs ((w3.drew.alloc (.cells M 74)).setCell ⟨g, k * 3, none⟩ (.slice (some ⟨w3.heap.size, 0, none⟩) 8 8)) W0.heap.size (.slice (some ⟨g, 0, none⟩) nC cC) _ _ := q5
      have z5' : Blk ((w3.drew.alloc (.cells M 74)).setCell ⟨g, k * 3, none⟩ (.slice (some ⟨w3.heap.size, 0, none⟩) 8 8)) X 26 #[.slice (some ⟨g, 0, none⟩) nC cC] := z5
      have B5' : Below W0.heap.size W0 ((w3.drew.alloc (.cells M 74)).setCell ⟨g, k * 3, none⟩ (.slice (some ⟨w3.heap.size, 0, none⟩) 8 8)) := B5
      rw [hcomm] at q5' z5' B5'
      obtain ⟨W5, hW5⟩ : ∃ W, ((w3.setCell ⟨g, k * 3, none⟩ (.slice (some ⟨w3.heap.size, 0, none⟩) 8 8)).alloc (.cells M 74)).drew = W := ⟨_, rfl⟩
      rw [hW5] at q5' z5' B5' ⊢
      clear xM rc0 rf0 rc1 rf1 hxw x0 q3 z3 hrow HP5 hcomm q5 z5 B5 hW5 hmk B3
      have hk5 : (tC.set k ⟨some ⟨w3.drew.heap.size, 0, none⟩, 8, List.replicate 8 pgZ, t.wear, t.bad⟩)[k]? = some ⟨some ⟨w3.drew.heap.size, 0, none⟩, 8, List.replicate 8 pgZ, t.wear, t.bad⟩ := by rw [List.getElem?_set_self (List.getElem?_eq_some_iff.1 htk).1]
      have hl5 : (tC.set k ⟨some ⟨w3.drew.heap.size, 0, none⟩, 8, List.replicate 8 pgZ, t.wear, t.bad⟩).length = nC := by rw [List.length_set, hlC]
      have q6 := (NewBs.keep q5' (Below.refl _ _).drew).wear hl5 hk5 (wear + 1)
      have row5 := q5'.own.1
      rw [hl5] at row5
      have rc1 : W5.cell? ⟨g, k * 3 + 1, none⟩ = some (.int .i64 t.wear) := row5.cell k 1 (⟨some ⟨w3.drew.heap.size, 0, none⟩, 8, List.replicate 8 pgZ, t.wear, t.bad⟩ : BkR) hk5 (by decide)
      have rf1 : W5.frozen? ⟨g, k * 3 + 1, none⟩ = false := row5.frozen (k * 3 + 1)
      have x0 := z5'.cell 0
      simp at x0
      have hyH := (Blk.keep HZ0.out B5').cell 0
      simp at hyH
      have cw5 := (B5'.cell (p := ⟨b, off + k * 3 + 1, none⟩) hlt).trans cw
      have x0d : W5.drew.cell? ⟨X, 0, none⟩ = some (.slice (some ⟨g, 0, none⟩) nC cC) := x0
      have yHd : W5.drew.cell? ⟨H, 0, none⟩ = some (.slice (some ⟨b, off, none⟩) nC cap) := hyH
      have cwd : W5.drew.cell? ⟨b, off + k * 3 + 1, none⟩ = some (.int .i64 wear) := cw5
      have HL6 : Hid _ := q6
      have z6 := (Blk.keep z5' (Below.refl _ _).drew).other (B' := g) (by omega) (k * 3 + 1) (.int .i64 (wear + 1))
      have B6 : Below W0.heap.size W0 (W5.drew.setCell ⟨g, k * 3 + 1, none⟩ (.int .i64 (wear + 1))) := B5'.drew.setCell (p := ⟨g, k * 3 + 1, none⟩) hg0 _
      have HP6 : Hid (Blk (W5.drew.setCell ⟨g, k * 3 + 1, none⟩ (.int .i64 (wear + 1))) X 26 #[.slice (some ⟨g, 0, none⟩) nC cC] ∧ Below W0.heap.size W0 (W5.drew.setCell ⟨g, k * 3 + 1, none⟩ (.int .i64 (wear + 1)))) := ⟨z6, B6⟩
      clear q6 z6 B6 row5 q5' z5'
      have hwr : IntKind.i64.wrap (wear + 1) = wear + 1 := wrap_small _ (by omega) (by omega)
      go_upto_region 5 with fail
      refine wp_region_noPanic ?_
      refine wp_region_last (fun W : World => W.cell? ⟨X, 0, none⟩ = some (.slice (some ⟨g, 0, none⟩) nC cC) ∧ W.cell? ⟨H, 0, none⟩ = some (.slice (some ⟨b, off, none⟩) nC cap) ∧ W.cell? ⟨b, off + k * 3 + 1, none⟩ = some (.int .i64 wear)) 12 (by kernel_rfl) (by kernel_rfl) (by go_keep) 12 (by kernel_rfl) (fun hS => ?_)
      refine wpAnyH_take (i := 0) (v := ?gv6) rfl (by kernel_rfl) (by kernel_rfl) (by kernel_rfl) (fun _ _ _ h => h) (Or.inl ⟨by kernel_rfl, ?gy6⟩) (by assumption) ?gr6
      case gy6 => (intro w' hSw; (try dsimp only at hSw); go_simp; (try with_reducible rfl))
      try simp only [Act.put, List.setIfInBounds_toArray, List.set_cons_zero, List.set_cons_succ, List.getElem_toArray, List.getElem_cons_zero]
      refine wpAnyH_take (i := 1) (v := ?gv7) rfl (by kernel_rfl) (by kernel_rfl) (by kernel_rfl) (fun _ _ _ h => h) (Or.inl ⟨by kernel_rfl, ?gy7⟩) (by assumption) ?gr7
      case gy7 => (intro w' hSw; (try dsimp only at hSw); go_simp; (try with_reducible rfl))
      try simp only [Act.put, List.setIfInBounds_toArray, List.set_cons_zero, List.set_cons_succ, List.getElem_toArray, List.getElem_cons_succ, List.getElem_cons_zero]
      refine wpAnyH_take (i := 2) (v := ?gv8) rfl (by kernel_rfl) (by kernel_rfl) (by kernel_rfl) (fun _ _ _ h => h) (Or.inl ⟨by kernel_rfl, ?gy8⟩) (by assumption) ?gr8
      case gy8 => (intro w' hSw; (try dsimp only at hSw); go_simp; (try with_reducible rfl))
      try simp only [Act.put, List.setIfInBounds_toArray, List.set_cons_zero, List.set_cons_succ, List.getElem_toArray, List.getElem_cons_succ, List.getElem_cons_zero]
      refine wpAnyH_take (i := 3) (v := ?gv9) rfl (by kernel_rfl) (by kernel_rfl) (by kernel_rfl) (fun _ _ _ h => h) (Or.inl ⟨by kernel_rfl, ?gy9⟩) (by assumption) ?gr9
      case gy9 => (intro w' hSw; (try dsimp only at hSw); go_simp; (try with_reducible rfl))
      try simp only [Act.put, List.setIfInBounds_toArray, List.set_cons_zero, List.set_cons_succ, List.getElem_toArray, List.getElem_cons_succ, List.getElem_cons_zero]
      refine wpAnyH_take (i := 4) (v := ?gv10) rfl (by kernel_rfl) (by kernel_rfl) (by kernel_rfl) (fun _ _ _ h => h) (Or.inl ⟨by kernel_rfl, ?gy10⟩) (by assumption) ?gr10
      case gy10 => (intro w' hSw; (try dsimp only at hSw); go_simp; (try with_reducible rfl))
      try simp only [Act.put, List.setIfInBounds_toArray, List.set_cons_zero, List.set_cons_succ, List.getElem_toArray, List.getElem_cons_succ, List.getElem_cons_zero]
      refine wpAnyH_take (i := 5) (v := ?gv11) rfl (by kernel_rfl) (by kernel_rfl) (by kernel_rfl) (fun _ _ _ h => h) (Or.inl ⟨by kernel_rfl, ?gy11⟩) (by assumption) ?gr11
      case gy11 => (intro w' hSw; (try dsimp only at hSw); go_simp; (try with_reducible rfl))
      try simp only [Act.put, List.setIfInBounds_toArray, List.set_cons_zero, List.set_cons_succ, List.getElem_toArray, List.getElem_cons_succ, List.getElem_cons_zero]
      refine wpAnyH_take (i := 6) (v := ?gv12) rfl (by kernel_rfl) (by kernel_rfl) (by kernel_rfl) (fun _ _ _ h => h) (Or.inl ⟨by kernel_rfl, ?gy12⟩) (by assumption) ?gr12
      case gy12 => (intro w' hSw; (try dsimp only at hSw); go_simp; (try with_reducible rfl))
      try simp only [Act.put, List.setIfInBounds_toArray, List.set_cons_zero, List.set_cons_succ, List.getElem_toArray, List.getElem_cons_succ, List.getElem_cons_zero]
      refine wpAnyH_take (i := 7) (v := ?gv13) rfl (by kernel_rfl) (by kernel_rfl) (by kernel_rfl) (fun _ _ _ h => h) (Or.inl ⟨by kernel_rfl, ?gy13⟩) (by assumption) ?gr13
      case gy13 => (intro w' hSw; (try dsimp only at hSw); go_simp; (try with_reducible rfl))
      try simp only [Act.put, List.setIfInBounds_toArray, List.set_cons_zero, List.set_cons_succ, List.getElem_toArray, List.getElem_cons_succ, List.getElem_cons_zero]
      refine wpAnyH_take (i := 8) (v := ?gv14) rfl (by kernel_rfl) (by kernel_rfl) (by kernel_rfl) (fun _ _ _ h => h) (Or.inl ⟨by kernel_rfl, ?gy14⟩) (by assumption) ?gr14
      case gy14 => (intro w' hSw; (try dsimp only at hSw); go_simp; (try with_reducible rfl))
      try simp only [Act.put, List.setIfInBounds_toArray, List.set_cons_zero, List.set_cons_succ, List.getElem_toArray, List.getElem_cons_succ, List.getElem_cons_zero]
      refine wpAnyH_take (i := 9) (v := ?gv15) rfl (by kernel_rfl) (by kernel_rfl) (by kernel_rfl) (fun _ _ _ h => h) (Or.inl ⟨by kernel_rfl, ?gy15⟩) (by assumption) ?gr15
      case gy15 => (intro w' hSw; (try dsimp only at hSw); go_simp; (try with_reducible rfl))
      try simp only [Act.put, List.setIfInBounds_toArray, List.set_cons_zero, List.set_cons_succ, List.getElem_toArray, List.getElem_cons_succ, List.getElem_cons_zero]
      refine wpAnyH_take (i := 10) (v := ?gv16) rfl (by kernel_rfl) (by kernel_rfl) (by kernel_rfl) (fun _ _ _ h => h) (Or.inl ⟨by kernel_rfl, ?gy16⟩) (by assumption) ?gr16
      case gy16 => (intro w' hSw; (try dsimp only at hSw); go_simp; (try with_reducible rfl))
      try simp only [Act.put, List.setIfInBounds_toArray, List.set_cons_zero, List.set_cons_succ, List.getElem_toArray, List.getElem_cons_succ, List.getElem_cons_zero]
      refine wpAnyH_take (i := 11) (v := ?gv17) rfl (by kernel_rfl) (by kernel_rfl) (by kernel_rfl) (fun _ _ _ h => h) (Or.inl ⟨by kernel_rfl, ?gy17⟩) (by assumption) ?gr17
      case gy17 => (intro w' hSw; (try dsimp only at hSw); go_simp; (try with_reducible rfl))
      try simp only [Act.put, List.setIfInBounds_toArray, List.set_cons_zero, List.set_cons_succ, List.getElem_toArray, List.getElem_cons_succ, List.getElem_cons_zero]
      refine wpAnyH_done (by kernel_rfl) ?_ _
      refine wpOp_last rfl (fun K hK => ?_)
      clear hS
      go_simp
      refine Shut.out hK _ _ (NoPanic.normal ?_)
      clear rc1 rf1 x0 hyH cw5 x0d yHd cwd
      have q6' : NewBs ((W5.setCell ⟨g, k * 3 + 1, none⟩ (.int .i64 (wear + 1))).drew) W0.heap.size (.slice (some ⟨g, 0, none⟩) nC cC) _ _ := HL6.out
      have z6' : Blk ((W5.setCell ⟨g, k * 3 + 1, none⟩ (.int .i64 (wear + 1))).drew) X 26 #[.slice (some ⟨g, 0, none⟩) nC cC] := HP6.out.1
      have B6' : Below W0.heap.size W0 ((W5.setCell ⟨g, k * 3 + 1, none⟩ (.int .i64 (wear + 1))).drew) := HP6.out.2
      clear HL6 HP6
      obtain ⟨W6, hW6⟩ : ∃ W, (W5.setCell ⟨g, k * 3 + 1, none⟩ (.int .i64 (wear + 1))).drew = W := ⟨_, rfl⟩
      rw [hW6] at q6' z6' B6' ⊢
      clear hW6 hwr
      have x0 := z6'.cell 0
      have zr := Blk.keep HZ1.out B6'
      have r0 := zr.cell 0
      have f0 := zr.frozen 0
      have zf := zr.set 0 (.slice (some ⟨g, 0, none⟩) nC cC)
      have d0 := zf.cell 0
      simp at x0 r0 d0
      have HQ : Hid _ := q6'
      have HB6 : Hid (Below W0.heap.size W0 W6) := B6'
      have HLL : Hid (tC.length = nC) := hlC
      have HRR : Hid (bs[k]? = some r ∧ r.bad = t.bad ∧ r.wear = wear ∧ tC.map BkR.D = bs.map BkR.D) := by
        refine ⟨hrk, hD.2.symm, hwe, ?_⟩
        exact HDC.out
      clear q6' z6' B6' zr zf hlC hrk hwe hD hrt htk hk5 hl5 x3 hrk' hlt cw B5'
      go_wp2
      refine bodyPost_ret (v := .tuple #[.agg #[.slice (some ⟨g, 0, none⟩) nC cC], .int .i64 0]) (by simp [results, Try.f91, go_sem, d0]) rfl ?_
      have hw := HW.out
      have hH := HH.out
      have hbs := HB0.out
      have hb3 := HB6.out
      obtain ⟨e1, e2, e3, e4⟩ := HRR.out
      have hfin : eraseD ok (bs.map BkR.D) (k : Int) = (((bs.map BkR.D).set k ⟨List.replicate 8 ⟨false, []⟩, t.wear, t.bad⟩).set k ⟨(List.replicate 8 pgZ).map PgR.D, wear + 1, t.bad⟩) := by
        rw [HD.out, if_pos trivial, set_set_at]
        unfold eraseAt
        simp only [Int.toNat_natCast, List.getElem?_map, e1, Option.map_some]
        rw [← e2, ← e3]
        rfl
      rw [hfin, HCE.out]
      have bel : Below w.heap.size w W6 := by rw [hH]; exact hbs.trans (hb3.mono (by omega))
      exact ⟨some ⟨g, 0, none⟩, nC, cC, _, rfl, NewBs.wider (B := W0.heap.size) (NewBs.set_below (B := W0.heap.size) (j := H + 1) HQ.out (by omega)) (by omega), by rw [List.length_set, List.length_set]; exact HLL.out, bel.setCell (p := ⟨H + 1, 0, none⟩) (by simp only; omega) _⟩
  · have hcb : (code == 0) = false := by simp [hc0]
    have x0 := z3.cell 0
    have zr := Blk.keep HZ1.out B3
    have r0 := zr.cell 0
    have f0 := zr.frozen 0
    have zf := zr.set 0 (.slice aC nC cC)
    have d0 := zf.cell 0
    simp at x0 r0 d0
    have HQ : Hid _ := q3
    have HB3 : Hid (Below W0.heap.size W0 w3) := B3
    have HL : Hid (tC.length = nC) := hlC
    have HC0 : Hid (¬ code = 0) := hc0
    clear q3 z3 B3 zr zf hlC hc0
    go_wp2
    refine bodyPost_ret (v := .tuple #[.agg #[.slice aC nC cC], .int .i64 code]) (by simp [results, Try.f91, go_sem, d0]) rfl ?_
    have hw := HW.out
    have hH := HH.out
    have hbs := HB0.out
    have hb3 := HB3.out
    rw [HD.out, if_neg HC0.out, HCE.out]
    have bel : Below w.heap.size w w3 := by rw [hH]; exact hbs.trans (hb3.mono (by omega))
    exact ⟨aC, nC, cC, tC, rfl, NewBs.wider (B := W0.heap.size) (NewBs.set_below (B := W0.heap.size) (j := H + 1) HQ.out (by omega)) (by omega), HL.out, bel.setCell (p := ⟨H + 1, 0, none⟩) (by simp only; omega) _⟩
end
end Go.Proofs.Ytpejfkgbfdkdnaa
