/-
  Joined: ChUp, ChEr, ChBi, ChPi.
-/
import Derived.Test.YtoeeblmnogeonaaGreatDoorJ10T
namespace Go.Proofs.YtoeeblmnogeonaaGreatDoor
section
open Go.RowKit
theorem split_at {α : Type} {l : List α} {k : Nat} {x : α} (h : l[k]? = some x) (y : α) : l = l.take k ++ x :: l.drop (k + 1) ∧ l.set k y = l.take k ++ y :: l.drop (k + 1) := by
  obtain ⟨hl, he⟩ := List.getElem?_eq_some_iff.1 h
  have h1 : l = l.take k ++ x :: l.drop (k + 1) := by
    conv => lhs; rw [← List.take_append_drop k l, List.drop_eq_getElem_cons hl, he]
  refine ⟨h1, ?_⟩
  rw [List.set_eq_take_append_cons_drop, if_pos hl]
/-- One element put anew: what it takes was taken by the old one, or is new. -/
theorem Inn.put {α δ : Type} {K : Kd α δ} {w w' : World} {H S k : Nat} {ds : List δ} {qs : List α} {x q : α} (h : Inn K w H ds qs) (hx : qs[k]? = some x) (hS : ∀ g ∈ K.fps qs, g < S) (hH : H ≤ S)
    (hq : K.own w' q) (hfp : ∀ g ∈ K.fp q, g ∈ K.fp x ∨ S ≤ g) (hd : (K.fp q).Nodup) (hk : ∀ g ∈ K.fps qs, g ∉ K.fp x → w'.heap[g]? = w.heap[g]?) : Inn K w' H (ds.set k (K.D q)) (qs.set k q) := by
  obtain ⟨e1, e2⟩ := split_at hx q
  have hnd := h.nd
  have hsub : ∀ g ∈ K.fp x, g ∈ K.fps qs := fun g hg => List.mem_flatMap.2 ⟨x, List.mem_of_getElem? hx, hg⟩
  have hfe : K.fps qs = (qs.take k).flatMap K.fp ++ (K.fp x ++ (qs.drop (k + 1)).flatMap K.fp) := by
    unfold Kd.fps
    conv => lhs; rw [e1]
    rw [List.flatMap_append, List.flatMap_cons]
  have hfs : K.fps (qs.set k q) = (qs.take k).flatMap K.fp ++ (K.fp q ++ (qs.drop (k + 1)).flatMap K.fp) := by
    unfold Kd.fps
    rw [e2, List.flatMap_append, List.flatMap_cons]
  rw [hfe] at hnd hS
  rw [List.nodup_append, List.nodup_append] at hnd
  obtain ⟨nA, ⟨nX, nC, dXC⟩, dA⟩ := hnd
  refine ⟨?_, fun r hr => ?_, fun g hg => ?_, ?_⟩
  · rw [List.map_set, h.D]
  · rcases mem_set hr with rfl | ⟨j, hj, hrj⟩
    · exact hq
    · refine K.block (h.own r (List.mem_of_getElem? hrj)) fun g hg => hk g (List.mem_flatMap.2 ⟨r, List.mem_of_getElem? hrj, hg⟩) ?_
      exact flat_apart h.nd hrj hx hj hg
  · rw [hfs] at hg
    rcases List.mem_append.1 hg with h1 | h1
    · exact h.new g (by rw [hfe]; exact List.mem_append_left _ h1)
    · rcases List.mem_append.1 h1 with h2 | h2
      · rcases hfp g h2 with h3 | h3
        · exact h.new g (hsub g h3)
        · omega
      · exact h.new g (by rw [hfe]; exact List.mem_append_right _ (List.mem_append_right _ h2))
  · rw [hfs, List.nodup_append, List.nodup_append]
    refine ⟨nA, ⟨hd, nC, fun a ha b hb e => ?_⟩, fun a ha b hb e => ?_⟩
    · subst e
      rcases hfp a ha with h1 | h1
      · exact dXC a h1 a hb rfl
      · have := hS a (List.mem_append_right _ (List.mem_append_right _ hb)); omega
    · subst e
      rcases List.mem_append.1 hb with h1 | h1
      · rcases hfp a h1 with h2 | h2
        · exact dA a ha a (List.mem_append_left _ h2) rfl
        · have := hS a (List.mem_append_left _ ha); omega
      · exact dA a ha a (List.mem_append_right _ h1) rfl
theorem NewBs.inn {w : World} {B : Nat} {v : Value} {ds : List BkD} {bs : List BkR} (h : NewBs w B v ds bs) : Inn bkK w B ds bs := ⟨h.D, h.own.2, fun g hg => h.new g (List.mem_append_right _ hg), (List.nodup_append.1 h.nd).2.1⟩
theorem NewBs.row {w : World} {B g n c : Nat} {ds : List BkD} {bs : List BkR} (h : NewBs w B (.slice (some ⟨g, 0, none⟩) n c) ds bs) : g ∉ bkK.fps bs ∧ B ≤ g := ⟨fun hg => (List.nodup_append.1 h.nd).2.2 g (by simp [Value.ownBlock]) g hg rfl, h.new g (fpBs_row rfl)⟩
theorem NewPs.inn {w : World} {B : Nat} {v : Value} {ds : List PgD} {bs : List PgR} (h : NewPs w B v ds bs) : Inn pgK w B ds bs := ⟨h.D, h.own.2, fun g hg => h.new g (List.mem_append_right _ hg), (List.nodup_append.1 h.nd).2.1⟩
theorem flat_nodup' {α : Type} {f : α → List Nat} {l : List α} (hd : (l.flatMap f).Nodup) {x : α} (h : x ∈ l) : (f x).Nodup := by
  induction l with
  | nil => simp at h
  | cons z l ih =>
    rw [List.flatMap_cons, List.nodup_append] at hd
    rcases List.mem_cons.1 h with rfl | h
    · exact hd.1
    · exact ih hd.2.1 h
/-- The pages of the block k put anew. -/
theorem NewBs.pages {W W1 : World} {B g n c k n1 c1 : Nat} {a1 : Option Addr} {ds : List BkD} {bs : List BkR} {b : BkR} {qd : List PgD} {qs : List PgR} (h : NewBs W B (.slice (some ⟨g, 0, none⟩) n c) ds bs) (hn : bs.length = n) (hb : bs[k]? = some b) (b1 : Below W.heap.size W W1) (hp : NewPs W1 W.heap.size (.slice a1 n1 c1) qd qs) (hq : qs.length = n1) :
    NewBs (W1.setCell ⟨g, k * 3, none⟩ (.slice a1 n1 c1)) B (.slice (some ⟨g, 0, none⟩) n c) (ds.set k ⟨qd, b.wear, b.bad⟩) (bs.set k ⟨a1, c1, qs, b.wear, b.bad⟩) := by
  subst hq
  have hr := h.row
  have hlt := h.own.lt
  have hgl : g < W.heap.size := hlt g (fpBs_row rfl)
  have hset : ∀ j, j ≠ g → (W1.setCell ⟨g, k * 3, none⟩ (.slice a1 qs.length c1)).heap[j]? = W1.heap[j]? := fun j hj => Below.heap_setCell _ _ _ _ hj
  have hfq : bkK.fp (⟨a1, c1, qs, b.wear, b.bad⟩ : BkR) = fpPs (.slice a1 qs.length c1) qs := rfl
  have hown : OwnE bkE 42 W1 (.slice (some ⟨g, 0, none⟩) n c) n bs := by have := (h.own.1).keep b1; rw [hn] at this; exact this
  have s := hown.set k 0 b ⟨a1, c1, qs, b.wear, b.bad⟩ (.slice a1 qs.length c1) hb (by decide) rfl
  have hin := h.inn.put (w' := W1.setCell ⟨g, k * 3, none⟩ (.slice a1 qs.length c1)) (S := W.heap.size) (q := (⟨a1, c1, qs, b.wear, b.bad⟩ : BkR)) hb (fun j hj => h.inn.lt j hj) (Nat.le_trans hr.2 (by omega)) (by
      show OwnPs _ (.slice a1 qs.length c1) qs
      exact hp.own.block fun j hj => hset j (fun e => by subst e; have := hp.new j hj; omega)) (fun j hj => .inr (hp.new j hj)) hp.nd (fun j hj _ => by rw [hset j (fun e => by subst e; exact hr.1 hj)]; exact b1.block j (h.inn.lt j hj))
  have hD : bkK.D (⟨a1, c1, qs, b.wear, b.bad⟩ : BkR) = ⟨qd, b.wear, b.bad⟩ := by show BkD.mk (qs.map PgR.D) b.wear b.bad = _; rw [hp.D]
  rw [hD] at hin
  refine hin.newBs (by rw [List.length_set, hn]; exact s) (Nat.le_refl _) (fun j hj => ?_)
  simp [Value.ownBlock] at hj
  subst hj
  refine ⟨hr.2, fun hf => ?_⟩
  obtain ⟨e1, e2⟩ := split_at hb (⟨a1, c1, qs, b.wear, b.bad⟩ : BkR)
  unfold Kd.fps at hf
  obtain ⟨x, hx, hxf⟩ := List.mem_flatMap.1 hf
  rcases mem_set hx with rfl | ⟨j, hj, hxj⟩
  · have := hp.new g hxf; omega
  · exact hr.1 (List.mem_flatMap.2 ⟨x, List.mem_of_getElem? hxj, hxf⟩)
/-- The wear of the block k put anew. -/
theorem NewBs.wear {W : World} {B g n c k : Nat} {ds : List BkD} {bs : List BkR} {b : BkR} (h : NewBs W B (.slice (some ⟨g, 0, none⟩) n c) ds bs) (hn : bs.length = n) (hb : bs[k]? = some b) (y : Int) :
    NewBs (W.setCell ⟨g, k * 3 + 1, none⟩ (.int .i64 y)) B (.slice (some ⟨g, 0, none⟩) n c) (ds.set k ⟨b.ps.map PgR.D, y, b.bad⟩) (bs.set k ⟨b.a, b.cap, b.ps, y, b.bad⟩) := by
  have hr := h.row
  have hset : ∀ j, j ≠ g → (W.setCell ⟨g, k * 3 + 1, none⟩ (.int .i64 y)).heap[j]? = W.heap[j]? := fun j hj => Below.heap_setCell _ _ _ _ hj
  have hown : OwnE bkE 42 W (.slice (some ⟨g, 0, none⟩) n c) n bs := by have := h.own.1; rw [hn] at this; exact this
  have s := hown.set k 1 b ⟨b.a, b.cap, b.ps, y, b.bad⟩ (.int .i64 y) hb (by decide) rfl
  have hfx : ∀ j ∈ bkK.fps bs, j ≠ g := fun j hj e => by subst e; exact hr.1 hj
  have hbm : b ∈ bs := List.mem_of_getElem? hb
  have hin := h.inn.put (w' := W.setCell ⟨g, k * 3 + 1, none⟩ (.int .i64 y)) (S := W.heap.size) (q := (⟨b.a, b.cap, b.ps, y, b.bad⟩ : BkR)) hb (fun j hj => h.inn.lt j hj) (by have := h.own.lt g (fpBs_row rfl); have := hr.2; omega) (by
      show OwnPs _ b.v b.ps
      exact (h.own.2 b hbm).block fun j hj => hset j (hfx j (List.mem_flatMap.2 ⟨b, hbm, hj⟩))) (fun j hj => .inl hj) (show (fpPs b.v b.ps).Nodup from flat_nodup' (f := bkK.fp) h.inn.nd hbm) (fun j hj _ => hset j (hfx j hj))
  refine hin.newBs (by rw [List.length_set, hn]; exact s) (Nat.le_refl _) (fun j hj => ?_)
  simp [Value.ownBlock] at hj
  subst hj
  refine ⟨hr.2, fun hf => ?_⟩
  obtain ⟨x, hx, hxf⟩ := List.mem_flatMap.1 hf
  rcases mem_set hx with rfl | ⟨j, hj, hxj⟩
  · exact hr.1 (List.mem_flatMap.2 ⟨b, hbm, hxf⟩)
  · exact hr.1 (List.mem_flatMap.2 ⟨x, List.mem_of_getElem? hxj, hxf⟩)
end

section
open Go.RowKit
/-- A chip and a code were answered. -/
def ChCA (w : World) (ds : List BkD) (code : Int) (e : Ending) (w' : World) : Prop := ∃ a n c qs, e = .returned (.tuple #[.agg #[.slice a n c], .int .i64 code]) ∧ NewBs w' w.heap.size (.slice a n c) ds qs ∧ qs.length = n ∧ Below w.heap.size w w'
theorem code_zero {ok : Bool} {bs : List BkR} {x : Int} {full : Bool} (h : mayD ok (bs.map BkR.D) x full = 0) : ok = true ∧ ∃ (k : Nat) (r : BkR), x = (k : Int) ∧ bs[k]? = some r ∧ r.bad = false ∧ full = false := by
  unfold mayD at h
  split at h
  · omega
  · rename_i h1
    have hx : 0 ≤ x ∧ x < (bs.length : Int) := by simp at h1; omega
    obtain ⟨k, rfl⟩ : ∃ k : Nat, x = (k : Int) := ⟨x.toNat, by omega⟩
    have hk : bs[k]? = some bs[k] := List.getElem?_eq_getElem (by omega)
    split at h
    · omega
    · rename_i h2
      split at h
      · omega
      · rename_i h3
        refine ⟨by cases ok <;> simp_all, k, _, rfl, hk, ?_, by simpa using h3⟩
        simpa [hk, BkR.D] using h2
end

section
open Go.RowKit
theorem flOf_ex : ∀ (bs : List BkR), (∀ b ∈ bs, b.ps.length = 8) → ∃ fs, FlOf bs fs
  | [], _ => ⟨[], rfl, fun i r h => by simp at h⟩
  | b :: bs, h => by
    obtain ⟨fs, h1, h2⟩ := flOf_ex bs (fun b hb => h b (List.mem_cons_of_mem _ hb))
    refine ⟨⟨b.ps, b.wear, b.bad, h b List.mem_cons_self⟩ :: fs, by simp [h1], fun i r hi => ?_⟩
    cases i with
    | zero => simp at hi; subst hi; exact ⟨_, rfl, rfl, rfl, rfl⟩
    | succ i => simp at hi; obtain ⟨f, hf⟩ := h2 i r hi; exact ⟨f, by simpa using hf.1, hf.2⟩
theorem FlOf.at {bs : List BkR} {fs : List FkR} (h : FlOf bs fs) {i : Nat} {f : FkR} (hf : fs[i]? = some f) : ∃ r, bs[i]? = some r ∧ f.ps = r.ps ∧ f.wear = r.wear ∧ f.bad = r.bad := by
  have hi := (List.getElem?_eq_some_iff.1 hf).1
  obtain ⟨r, hr⟩ : ∃ r, bs[i]? = some r := ⟨_, List.getElem?_eq_getElem (by have := h.1; omega)⟩
  obtain ⟨f', h1, h2⟩ := h.2 i _ hr
  rw [hf] at h1
  cases h1
  exact ⟨_, hr, h2⟩
theorem FlOf.D {bs : List BkR} {fs : List FkR} (h : FlOf bs fs) : fs.map FkR.D = bs.map BkR.D := by
  refine List.ext_getElem? fun i => ?_
  rw [List.getElem?_map, List.getElem?_map]
  cases hr : bs[i]? with
  | none => rw [List.getElem?_eq_none (by have := h.1; have := List.getElem?_eq_none_iff.1 hr; omega)]; rfl
  | some r =>
    obtain ⟨f, h1, h2, h3, h4⟩ := h.2 i r hr
    rw [h1]
    simp only [Option.map_some, FkR.D, BkR.D, h2, h3, h4]
/-- A right chip's blocks have eight pages each, and a wear within its limits. -/
theorem ok_flash {bs : List BkR} (h : chipOkB (bs.map BkR.D) = true) : ∃ fs, FlOf bs fs ∧ ∀ f ∈ fs, 0 ≤ f.wear ∧ f.wear ≤ 100000 := by
  rw [chipOkB_iff] at h
  obtain ⟨fs, hf⟩ := flOf_ex bs (fun b hb => by
    have := (h.2.2 b.D (List.mem_map_of_mem hb)).1
    simpa [BkR.D] using this)
  refine ⟨fs, hf, fun f hfm => ?_⟩
  obtain ⟨i, hi⟩ := List.mem_iff_getElem?.1 hfm
  obtain ⟨r, hr, _, h2, _⟩ := hf.at hi
  have h3 := h.2.2 r.D (List.mem_map_of_mem (List.mem_of_getElem? hr))
  rw [h2]
  exact ⟨h3.2.1, h3.2.2.1⟩
theorem totB_set : ∀ (ds : List BkD) (k : Nat) (b b' : BkD), ds[k]? = some b → totP b'.ps ≤ totP b.ps → totB (ds.set k b') ≤ totB ds
  | [], _, _, _, h, _ => by simp at h
  | d :: ds, 0, b, b', h, hp => by simp at h; subst h; rw [List.set_cons_zero, totB_cons, totB_cons]; omega
  | d :: ds, k + 1, b, b', h, hp => by
    have := totB_set ds k b b' (by simpa using h) hp
    rw [List.set_cons_succ, totB_cons, totB_cons]
    omega
end

section
open Go.RowKit
theorem FO.rdPs {w0 w : World} {F G n k : Nat} {fs : List FkR} {f : FkR} (h : FO w0 w F G n fs) (hf : fs[k]? = some f) (hr : ∀ p ∈ f.ps, Rd w p.a p.zs) : RdPs w (some ⟨G, k * 18, none⟩) f.ps := by
  refine .inr ⟨G, k * 18, rfl, fun i p hi => ⟨fun j hj => ?_, hr p (List.mem_of_getElem? hi)⟩⟩
  have hj2 : j < 2 := hj
  have hi8 : i < 8 := by have := (List.getElem?_eq_some_iff.1 hi).1; rw [f.h8] at this; exact this
  have h1 := h.cell hf (j := i * 2 + j) (by omega)
  show w.cell? ⟨G, k * 18 + i * 2 + j, none⟩ = _
  rw [Nat.add_assoc, h1]
  show (pgE.xv f.ps ++ [Value.int .i64 f.wear, Value.bool f.bad])[i * 2 + j]? = _
  rw [List.getElem?_append_left (by rw [xv16]; omega)]
  exact pgE.xv_at f.ps i j p hi hj
/-- How many of a flash's block's pages are written. -/
def fkN (f : FkR) : Nat := nextP (f.ps.map PgR.D)
/-- What program refuses; the flash behind it. -/
def prC (fs : List FkR) (x : Int) (nb : Nat) : Int := if 400 < nb then 1 else if btcC fs x = 0 then (if (fs[x.toNat]?).map fkN = some 8 then 5 else 0) else btcC fs x
def prAt (fs : List FkR) (k : Nat) (p : PgR) : List FkR := match fs[k]? with | some f => fs.set k (f.pg (fkN f) p) | none => fs
end
end Go.Proofs.YtoeeblmnogeonaaGreatDoor
