/-
  A table drawn by changes from a new one on: l6Draw.
-/
import Derived.Test.YtgcmpimckpnemaaChange6T
namespace Go.Proofs.Ytgcmpimckpnemaa
open Go.RowKit
theorem nilV {w : World} {e : TypeId} {s : Nat} (B : Nat) : w.ownsRow B e s (.slice none 0 0) 0 [] := ⟨by simp, .inl ⟨rfl, rfl⟩⟩
theorem new_tq {w w' : World} {e : Ending} (h : NewPost w e w') : ∃ g, e = .returned (.agg #[.slice (some ⟨g, 0, none⟩) 1 1, .int .i64 2]) ∧ TQ w.heap.size w' (some ⟨g, 0, none⟩) 1 1 [ino1.D] ∧ Below w.heap.size w w' := by
  obtain ⟨g, rfl, hg, ho, hb⟩ := h
  have hgl := ho.lt
  have hrow : w'.ownsRow w.heap.size 30 6 (.slice (some ⟨g, 0, none⟩) 1 1) 1 (iv [ino1]) := by
    refine ⟨ho.1, ?_⟩
    rcases ho.2 with ⟨h1, _⟩ | ⟨g', c, cur, h1, h2, h3, rest⟩
    · simp at h1
    · refine .inr ⟨g', c, cur, h1, ?_, h3, rest⟩
      simp at h1
      have := h1.1
      omega
  refine ⟨g, rfl, ⟨⟨[⟨ino1, w'.heap.size, w'.heap.size⟩], rfl, ⟨rfl, hrow, ?_, ?_, ?_, ?_⟩⟩, ⟨⟨ino1.D, List.mem_singleton.2 rfl, rfl⟩, by simp, fun D hD => ?_, fun D hD => ?_⟩⟩, hb⟩
  · intro i j e
    obtain rfl : j = ⟨ino1, w'.heap.size, w'.heap.size⟩ := List.mem_singleton.1 (List.mem_of_getElem? e)
    refine ⟨nilV 0, ?_, ?_, ?_, ?_⟩
    · intro z hz
      simp [ino1] at hz
    · exact nilV 0
    · exact nilV 0
    · intro g h
      simp [InoJ.v1, InoJ.v2, InoJ.v3, ino1, Value.ownBlock] at h
  · intro i j e
    obtain rfl : j = ⟨ino1, w'.heap.size, w'.heap.size⟩ := List.mem_singleton.1 (List.mem_of_getElem? e)
    exact ⟨hb.size, Nat.le_refl _, Nat.le_refl _⟩
  · intro i i' j j' e e' hne
    have h1 := (List.getElem?_eq_some_iff.1 e).1
    have h2 := (List.getElem?_eq_some_iff.1 e').1
    simp at h1 h2
    omega
  · intro g' hg' i j e
    obtain rfl : j = ⟨ino1, w'.heap.size, w'.heap.size⟩ := List.mem_singleton.1 (List.mem_of_getElem? e)
    have : g = g' := by simpa [Value.ownBlock] using hg'
    left
    dsimp only
    omega
  · rw [List.mem_singleton.1 hD]
    exact ino1_small
  · rw [List.mem_singleton.1 hD]
    simp [ino1]
/-- What is known while a table is drawn. -/
structure LD (w W : World) (gc sn scap : Nat) (sa : Option Addr) (zs : List Int) (T : Nat) (a : Option Addr) (n c : Nat) (nx : Int) (ds : List InoD) : Prop where
  src : Src W gc sn scap sa zs
  gr : w.grownBy W (some gc)
  zT : Blk W T 26 #[.slice a n c, .int .i64 nx]
  zR : Blk W w.heap.size 26 #[.slice none 0 0, .int .i64 0]
  tq : TQ (w.heap.size + 1) W a n c ds
  lt : gc < w.heap.size
  ltT : w.heap.size < T
theorem LD.step {w W W' : World} {gc sn scap : Nat} {sa : Option Addr} {zs : List Int} {T : Nat} {a : Option Addr} {n c : Nat} {nx : Int} {ds : List InoD} (h : LD w W gc sn scap sa zs T a n c nx ds) (hs : Src W' gc sn scap sa zs) (g : W.grownBy W' (some gc)) : LD w W' gc sn scap sa zs T a n c nx ds :=
  ⟨hs, h.gr.trans g, h.zT.kept g (by have := h.lt; have := h.ltT; omega), h.zR.kept g (by have := h.lt; omega), h.tq.gr g (by have := h.lt; omega), h.lt, h.ltT⟩
theorem LD.put {w W V : World} {gc sn scap : Nat} {sa : Option Addr} {zs : List Int} {T : Nat} {a : Option Addr} {n c : Nat} {nx : Int} {ds : List InoD} (h : LD w W gc sn scap sa zs T a n c nx ds) {a' : Option Addr} {n' c' : Nat} {nx' : Int} {ds' : List InoD} (ht : TQ W.heap.size V a' n' c' ds') (hs : Src V gc sn scap sa zs) (g : W.grownBy V (some gc)) :
    LD w ((V.setCell ⟨T, 0, none⟩ (.slice a' n' c')).setCell ⟨T, 1, none⟩ (.int .i64 nx')) gc sn scap sa zs T a' n' c' nx' ds' := by
  have h1 := h.zT.lt
  have h2 := h.lt
  have h3 := h.ltT
  have h4 := h.step hs g
  refine ⟨(h4.src.other (gr_setC _ _ _ _) (by omega)).other (gr_setC _ _ _ _) (by omega), ?_, blk2 h4.zT _ _, (h4.zR.other (B' := T) (by omega) _ _).other (B' := T) (by omega) _ _, ((ht.setX h1 _ _).setX h1 _ _).lower (by have := h.gr.size; have := h.zR.lt; omega), h2, h3⟩
  exact gr_mono (gr_mono h4.gr (.inr (by omega)) (gr_setC _ _ _ _)) (.inr (by omega)) (gr_setC _ _ _ _)
theorem LD.fin {w W : World} {gc sn scap : Nat} {sa : Option Addr} {zs : List Int} {T : Nat} {a : Option Addr} {n c : Nat} {nx : Int} {ds : List InoD} (h : LD w W gc sn scap sa zs T a n c nx ds) :
    ChP w gc sn scap sa zs (.returned (.agg #[.slice a n c, .int .i64 nx])) ((W.setCell ⟨w.heap.size, 0, none⟩ (.slice a n c)).setCell ⟨w.heap.size, 1, none⟩ (.int .i64 nx)) := by
  have h2 := h.lt
  refine ⟨a, n, c, nx, ds, rfl, ((h.tq.setX (by omega) _ _).setX (by omega) _ _).lower (by omega), (h.src.other (gr_setC _ _ _ _) h2).other (gr_setC _ _ _ _) h2, ?_⟩
  exact gr_mono (gr_mono h.gr (.inr (Nat.le_refl _)) (gr_setC _ _ _ _)) (.inr (Nat.le_refl _)) (gr_setC _ _ _ _)
theorem LD.new {w W1 : World} {gc sn scap : Nat} {sa : Option Addr} {zs : List Int} {g : Nat} {ds : List InoD} (h : Src w gc sn scap sa zs) (ht : TQ (w.heap.size + 1) W1 (some ⟨g, 0, none⟩) 1 1 ds) (hb : Below (w.heap.size + 1) (w.alloc (.cells #[.slice none 0 0, .int .i64 0] 26)) W1) :
    LD w (W1.alloc (.cells #[.slice (some ⟨g, 0, none⟩) 1 1, .int .i64 2] 26)) gc sn scap sa zs W1.heap.size (some ⟨g, 0, none⟩) 1 1 2 ds := by
  have hgc := h.cur.lt
  have hsz := hb.size
  simp only [World.size_alloc] at hsz
  have bA : Below w.heap.size w W1 := ((Below.refl _ w).alloc (Nat.le_refl _) _).trans (hb.mono (by omega))
  have bB : Below W1.heap.size W1 (W1.alloc (.cells #[.slice (some ⟨g, 0, none⟩) 1 1, .int .i64 2] 26)) := (Below.refl _ W1).alloc (Nat.le_refl _) _
  have zR : Blk W1 w.heap.size 26 #[.slice none 0 0, .int .i64 0] := by
    have z := Blk.new w 26 #[.slice none 0 0, .int .i64 0]
    exact (hb.block w.heap.size (by omega)).trans z
  exact ⟨(h.keep bA).keep bB, gr_of_below (bA.trans (bB.mono (by omega))) _, Blk.new W1 _ _, zR.keep bB, ht.keep bB, hgc, by omega⟩
set_option maxRecDepth 100000 in
set_option maxHeartbeats 4000000 in
theorem drawS (gc sn scap : Nat) (sa : Option Addr) (zs : List Int) (m : Nat) (w : World) (h : Src w gc sn scap sa zs) (hm : m ≤ 100) :
    Calls Try.prog 55 #[.pointer (some ⟨gc, 0, none⟩), .int .i64 m] w fun e w' => ChP w gc sn scap sa zs e w' := by
  have hgc := h.cur.lt
  have hcN := tabNewS (w.alloc (.cells #[.slice none 0 0, .int .i64 0] 26))
  have HS : Hid _ := h
  clear h
  go_enter Try.func55, Try.ntmps55
  go_wp2_with fail
  (with_reducible refine hcN.mono ?_)
  rintro e W1 hN
  obtain ⟨g, rfl, hTQ, hb⟩ := new_tq hN
  rw [World.size_alloc] at hTQ hb
  have ld0 := LD.new HS.out hTQ hb
  clear hN hTQ hb hcN
  go_wp2_with fail
  obtain ⟨W2, hW2⟩ : ∃ W, W1.alloc (.cells #[.slice (some ⟨g, 0, none⟩) 1 1, .int .i64 2] 26) = W := ⟨_, rfl⟩
  rw [hW2] at ld0 ⊢
  clear hW2
  obtain ⟨T, hT⟩ : ∃ T, W1.heap.size = T := ⟨_, rfl⟩
  rw [hT] at ld0 ⊢
  clear hT
  rw [show (m : Int) + 4 = ((m + 4 : Nat) : Int) by omega]
  refine (below_step gc sn scap sa zs (m + 4) W2 ld0.src (by omega) (by omega)).mono ?_
  rintro e W3 ⟨x, rfl, hx, hs3, hg3⟩
  have ld1 := ld0.step hs3 hg3
  have HL : Hid _ := ld1
  clear ld0 hs3 hg3 ld1
  go_wp2
  go_loopw [6] (fun i wr => ∃ (k : Nat) (a : Option Addr) (n c : Nat) (nx : Int) (ds : List InoD), i = .int .i64 k ∧ k ≤ 200 ∧ LD w wr gc sn scap sa zs T a n c nx ds) (fun i _ => (intOf i).toNat)
  case atStart => exact ⟨x, _, _, _, _, _, rfl, by omega, HL.out⟩
  case round =>
    obtain ⟨k, a, n, c, nx, ds, rfl, hk, ld⟩ := hrel
    have t0 := ld.zT.cell 0
    have t1 := ld.zT.cell 1
    simp at t0 t1
    by_cases hk0 : k = 0
    · subst hk0
      have r0 := ld.zR.cell 0
      have r1 := ld.zR.cell 1
      have f0 := ld.zR.frozen 0
      have f1 := ld.zR.frozen 1
      simp at r0 r1
      have HZ : Hid _ := ld.zR
      have HF : Hid _ := ld.fin
      clear ld
      go_wp2
      have zf := blk2 HZ.out (.slice a n c) (.int .i64 nx)
      have dd0 := zf.cell 0
      have dd1 := zf.cell 1
      simp at dd0 dd1
      refine bodyPost_ret (v := .agg #[.slice a n c, .int .i64 nx]) (by simp [results, Try.f55, go_sem, dd0, dd1]) rfl ?_
      exact HF.out
    · have hk1 : (0 : Int) < (k : Int) := by omega
      have hc := changeS gc sn scap sa zs a n c nx ds wr ld.src (ld.tq.lower (by omega))
      go_wp2_with fail
      (with_reducible refine hc.mono ?_)
      rintro e V ⟨a', n', c', nx', ds', rfl, hTQ, hs, hg⟩
      have HP : Hid _ := ld.put (nx' := nx') hTQ hs hg
      have ldV := ld.step hs hg
      have u0 := ldV.zT.cell 0
      have u1 := ldV.zT.cell 1
      have f0 := ldV.zT.frozen 0
      have f1 := ldV.zT.frozen 1
      simp at u0 u1
      clear ldV ld hc hTQ hs hg t0 t1
      go_wp2
      go_roundw
      case rel => exact ⟨k - 1, _, _, _, _, _, by go_num, by omega, HP.out⟩
      case measure => simp [intOf]; omega
end Go.Proofs.Ytgcmpimckpnemaa
