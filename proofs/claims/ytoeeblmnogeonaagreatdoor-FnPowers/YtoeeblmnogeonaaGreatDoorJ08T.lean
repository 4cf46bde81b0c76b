/-
  Joined: ChFl, AsI, CodeI, ChEi.
-/
import Derived.Test.YtoeeblmnogeonaaGreatDoorJ07T
import Derived.LaidEql
import Derived.Stop.Asserts
import Derived.RowKitTokens
namespace Go.Proofs.YtoeeblmnogeonaaGreatDoor
section
open Go.RowKit
def FkR.wearTo (f : FkR) (x : Int) : FkR := ⟨f.ps, x, f.bad, f.h8⟩
def FkR.badTo (f : FkR) (x : Bool) : FkR := ⟨f.ps, f.wear, x, f.h8⟩
def FkR.pg (f : FkR) (j : Nat) (p : PgR) : FkR := ⟨f.ps.set j p, f.wear, f.bad, by rw [List.length_set]; exact f.h8⟩
theorem xv16 (f : FkR) : (pgE.xv f.ps).length = 16 := by rw [pgE.xv_length, f.h8]; rfl
theorem en_wear (f : FkR) (x : Int) : fkE.en (f.wearTo x) = (fkE.en f).set 16 (.int .i64 x) := by
  show pgE.xv f.ps ++ [Value.int .i64 x, Value.bool f.bad] = (pgE.xv f.ps ++ [Value.int .i64 f.wear, Value.bool f.bad]).set 16 (.int .i64 x)
  rw [List.set_append_right _ _ (by rw [xv16]; omega), xv16]
  rfl
theorem en_bad (f : FkR) (x : Bool) : fkE.en (f.badTo x) = (fkE.en f).set 17 (.bool x) := by
  show pgE.xv f.ps ++ [Value.int .i64 f.wear, Value.bool x] = (pgE.xv f.ps ++ [Value.int .i64 f.wear, Value.bool f.bad]).set 17 (.bool x)
  rw [List.set_append_right _ _ (by rw [xv16]; omega), xv16]
  rfl
theorem en_pg {f : FkR} {j j2 : Nat} {p q : PgR} {x : Value} (hj : f.ps[j]? = some q) (h2 : j2 < 2) (he : pgE.en p = (pgE.en q).set j2 x) : fkE.en (f.pg j p) = (fkE.en f).set (j * 2 + j2) x := by
  have h8 : j < 8 := by have := (List.getElem?_eq_some_iff.1 hj).1; rw [f.h8] at this; exact this
  show pgE.xv (f.ps.set j p) ++ [Value.int .i64 f.wear, Value.bool f.bad] = (pgE.xv f.ps ++ [Value.int .i64 f.wear, Value.bool f.bad]).set (j * 2 + j2) x
  rw [List.set_append_left _ _ (by rw [xv16]; omega)]
  rw [← pgE.xv_set f.ps j j2 q p x hj h2 he]
  rfl
theorem FkR.ext' {f g : FkR} (h1 : f.ps = g.ps) (h2 : f.wear = g.wear) (h3 : f.bad = g.bad) : f = g := by
  cases f; cases g; simp at h1 h2 h3; subst h1; subst h2; subst h3; rfl
/-- A flash of the call's own: its box F, its row G. -/
structure FO (w0 wr : World) (F G n : Nat) (fs : List FkR) : Prop where
  bel : Below w0.heap.size w0 wr
  f : Blk wr F 142 #[.slice (some ⟨G, 0, none⟩) n n]
  g : OwnE fkE 154 wr (.slice (some ⟨G, 0, none⟩) n n) n fs
  fn : w0.heap.size ≤ F
  gn : w0.heap.size ≤ G
  ne : F ≠ G
theorem FO.keep {w0 wr w' : World} {F G n : Nat} {fs : List FkR} (h : FO w0 wr F G n fs) (hb : Below wr.heap.size wr w') : FO w0 w' F G n fs := ⟨h.bel.trans (hb.mono h.bel.size), h.f.keep hb, h.g.keep hb, h.fn, h.gn, h.ne⟩
theorem FO.cell {w0 wr : World} {F G n k j : Nat} {fs : List FkR} {f : FkR} (h : FO w0 wr F G n fs) (hk : fs[k]? = some f) (hj : j < 18) : wr.cell? ⟨G, k * 18 + j, none⟩ = (fkE.en f)[j]? := h.g.cell k j f hk hj
theorem FO.is {w0 wr : World} {F G n k j : Nat} {fs : List FkR} {f : FkR} (h : FO w0 wr F G n fs) (hk : fs[k]? = some f) (hj : j < 18) : ∃ x, wr.cell? ⟨G, k * 18 + j, none⟩ = .some x := ⟨_, (h.cell hk hj).trans (List.getElem?_eq_getElem (by rw [fkE.len]; exact hj))⟩
theorem FO.one {w0 wr : World} {F G n k j : Nat} {fs : List FkR} {f f' : FkR} {x : Value} (h : FO w0 wr F G n fs) (hk : fs[k]? = some f) (hj : j < 18) (he : fkE.en f' = (fkE.en f).set j x) : FO w0 (wr.setCell ⟨G, k * 18 + j, none⟩ x) F G n (fs.set k f') :=
  ⟨h.bel.setCell (p := ⟨G, k * 18 + j, none⟩) h.gn _, (Below.heap_setCell _ _ _ _ h.ne).trans h.f, h.g.set k j f f' x hk hj he, h.fn, h.gn, h.ne⟩
theorem get_set {α : Type} {l : List α} {k : Nat} {f g : α} (h : l[k]? = some f) : (l.set k g)[k]? = some g := by
  rw [List.getElem?_set_self (List.getElem?_eq_some_iff.1 h).1]
/-- A page into a block. -/
theorem FO.page {w0 wr : World} {F G n k j n1 : Nat} {fs : List FkR} {f : FkR} {p : PgR} (h : FO w0 wr F G n fs) (hk : fs[k]? = some f) (hj : j < 8) (hn : p.zs.length = n1) : FO w0 ((wr.setCell ⟨G, k * 18 + j * 2, none⟩ (.bool p.used)).setCell ⟨G, k * 18 + j * 2 + 1, none⟩ (.slice p.a n1 p.cap)) F G n (fs.set k (f.pg j p)) := by
  subst hn
  obtain ⟨q, hq⟩ : ∃ q, f.ps[j]? = .some q := ⟨_, List.getElem?_eq_getElem (by rw [f.h8]; exact hj)⟩
  have h1 := h.one (j := j * 2 + 0) (x := .bool p.used) (f' := f.pg j ⟨p.used, q.a, q.cap, q.zs⟩) hk (by omega) (en_pg hq (by omega) rfl)
  have h2 := h1.one (j := j * 2 + 1) (x := .slice p.a p.zs.length p.cap) (f' := (f.pg j ⟨p.used, q.a, q.cap, q.zs⟩).pg j p) (get_set hk) (by omega) (en_pg (get_set hq) (by omega) rfl)
  rw [List.set_set, Nat.add_zero] at h2
  rw [show (f.pg j ⟨p.used, q.a, q.cap, q.zs⟩).pg j p = f.pg j p from FkR.ext' (by simp [FkR.pg]) rfl rfl] at h2
  exact h2
theorem FO.used {w0 wr : World} {F G n k j : Nat} {fs : List FkR} {f : FkR} {u : Bool} (h : FO w0 wr F G n fs) (hk : fs[k]? = some f) (hj : j < 8) : ∃ gs g, FO w0 (wr.setCell ⟨G, k * 18 + j * 2, none⟩ (.bool u)) F G n gs ∧ gs[k]? = Option.some g := by
  obtain ⟨q, hq⟩ : ∃ q, f.ps[j]? = .some q := ⟨_, List.getElem?_eq_getElem (by rw [f.h8]; exact hj)⟩
  exact ⟨_, _, h.one (j := j * 2 + 0) (x := .bool u) (f' := f.pg j ⟨u, q.a, q.cap, q.zs⟩) hk (by omega) (en_pg hq (by omega) rfl), get_set hk⟩
/-- A flash was answered. -/
def FlA (w : World) (fs : List FkR) (e : Ending) (w' : World) : Prop := ∃ F G, e = .returned (.pointer (some ⟨F, 0, none⟩)) ∧ FO w w' F G fs.length fs
/-- The flash of a chip. -/
def FlOf (bs : List BkR) (fs : List FkR) : Prop := fs.length = bs.length ∧ ∀ (i : Nat) (r : BkR), bs[i]? = some r → ∃ f : FkR, fs[i]? = some f ∧ f.ps = r.ps ∧ f.wear = r.wear ∧ f.bad = r.bad
set_option maxRecDepth 100000 in
set_option maxHeartbeats 8000000 in
theorem flashOfI (a : Option Addr) (n cap : Nat) (bs : List BkR) (fs : List FkR) (w : World) (ht : CR w a n bs) (hf : FlOf bs fs) :
    Calls Tryz.prog 126 #[.agg #[.slice a n cap]] w (FlA w fs) := by
  have hnn := ht.n
  obtain ⟨i0, hi, hz0, hz1, hz2⟩ := info_parts Tryz.infoCells
  have hm : n ≤ maxLen := by unfold maxLen; omega
  have hby : i0.bytes * n ≤ 281474976710656 := by rw [hz2]; omega
  have B0 : Below w.heap.size w (w.alloc (.cells #[.slice a n cap] 26)) := (Below.refl _ w).alloc (Nat.le_refl _) _
  have z0 := Blk.new w 26 #[.slice a n cap]
  have hws : (w.alloc (.cells #[.slice a n cap] 26)).heap.size = w.heap.size + 1 := by simp
  obtain ⟨H, hH⟩ : ∃ H, w.heap.size = H := ⟨_, rfl⟩
  rw [hH] at z0 hws
  go_enter Tryz.func126, Tryz.ntmps126
  go_upto_region 1 with fail
  obtain ⟨W0, hW0⟩ : ∃ W, w.alloc (.cells #[.slice a n cap] 26) = W := ⟨_, rfl⟩
  rw [hW0] at B0 z0 hws ⊢
  clear hW0
  have y0 := z0.cell 0
  simp at y0
  have HH : Hid (w.heap.size = H) := hH
  have HW : Hid (W0.heap.size = H + 1) := hws
  have HT : Hid (CR W0 a n bs) := ht.keep B0
  have HF : Hid (FlOf bs fs) := hf
  have HLN : Hid (bs.length = n) := ht.len
  have HB0 : Hid (Below H w W0) := by rw [← hH]; exact B0
  have HZ0 : Hid (Blk W0 H 26 #[.slice a n cap]) := z0
  clear ht hf B0 z0 hH hws
  go_upto_region 2 with (at_make; refine wpList_make_full _ rfl (.tmp 10) (.tmp 10) 140 rfl 0 154 i0 _ 18 Tryz.underlying140 hi hz0 hz1 .i64 .i64 _ _ n rfl rfl rfl rfl hby hm (Nat.zero_le _) ?_; intro w2 hown hgrow)
  have B2 : Below W0.heap.size W0 w2 := (Below.refl _ _).grown hgrow (Nat.le_refl _) (by simp)
  have fo0 : FO W0 (w2.alloc (.cells #[.slice (some ⟨W0.heap.size, 0, none⟩) n n] 142)) w2.heap.size W0.heap.size n (List.replicate n fkZ) := by
    have h1 : OwnE fkE 154 w2 (.slice (some ⟨W0.heap.size, 0, none⟩) n n) n (List.replicate n fkZ) := made_row fkE fkZ (.agg #[.bool false, .slice none 0 0, .bool false, .slice none 0 0, .bool false, .slice none 0 0, .bool false, .slice none 0 0, .bool false, .slice none 0 0, .bool false, .slice none 0 0, .bool false, .slice none 0 0, .bool false, .slice none 0 0, .int .i64 0, .bool false]) rfl hown
    have h2 := h1.lt (g := W0.heap.size) rfl
    exact ⟨B2.alloc B2.size _, Blk.new w2 _ _, h1.keep ((Below.refl _ w2).alloc (Nat.le_refl _) _), B2.size, Nat.le_refl _, by omega⟩
  obtain ⟨G, hG⟩ : ∃ G, W0.heap.size = G := ⟨_, rfl⟩
  obtain ⟨F, hFF⟩ : ∃ F, w2.heap.size = F := ⟨_, rfl⟩
  rw [hG, hFF] at fo0
  rw [hG]
  obtain ⟨W1, hW1⟩ : ∃ W, w2.alloc (.cells #[.slice (some ⟨G, 0, none⟩) n n] 142) = W := ⟨_, rfl⟩
  rw [hW1] at fo0
  try rw [hFF]
  try rw [hW1]
  have HG : Hid (W0.heap.size = G) := hG
  have y1 := (Blk.keep HZ0.out fo0.bel).cell 0
  simp at y1
  clear hown hgrow B2 hW1 hi hz0 hz1 hz2 hby hm y0 hG hFF
  go_upto_region 3 with fail
  clear y1
  go_loopw [17] (fun i wr => ∃ (k : Nat) (gs : List FkR), k ≤ n ∧ i = .int .i64 k ∧ Hid (FO W0 wr F G n gs) ∧ Hid (∀ j, j < k → gs[j]? = fs[j]?)) (fun i _ => n - (intOf i).toNat)
  case atStart => exact ⟨0, _, by omega, rfl, fo0, fun j hj => absurd hj (by omega)⟩
  case round =>
    obtain ⟨k, gs, hk, rfl, hfo, hgs⟩ := hrel
    clear fo0
    by_cases hkn : k < n
    · have hki : (k : Int) < (n : Int) := by omega
      obtain ⟨b, off, r, rfl, hlt, hrk, x3, hrp, htp⟩ := (HT.out.keep hfo.out.bel).some hkn
      obtain ⟨c0, c1, c2⟩ := x3
      obtain ⟨fk, hfk, hfp, hfw, hfb⟩ := HF.out.2 k r hrk
      have HRP0 : Hid (RdPs W0 r.a r.ps) := by
        obtain ⟨_, _, r', _, _, h1, _, h2, _⟩ := HT.out.some hkn
        rw [hrk] at h1
        cases h1
        exact h2
      obtain ⟨ra, rc, rp, wear, bad⟩ := r
      dsimp only at c0 c1 c2 hrp htp hfp hfw hfb HRP0
      have hr8 : rp.length = 8 := by rw [← hfp]; exact fk.h8
      rw [hr8] at c0
      obtain ⟨f, hgk⟩ : ∃ f, gs[k]? = some f := ⟨_, List.getElem?_eq_getElem (by rw [hfo.out.g.len]; exact hkn)⟩
      have HFK : Hid (fs[k]? = some fk ∧ fk.ps = rp ∧ fk.wear = wear ∧ fk.bad = bad) := ⟨hfk, hfp, hfw, hfb⟩
      have bE : Below wr.heap.size wr (wr.alloc (.cells #[.slice ra 8 rc, .int .i64 wear, .bool bad] 42)) := (Below.refl _ wr).alloc (Nat.le_refl _) _
      have zE := Blk.new wr 42 #[.slice ra 8 rc, .int .i64 wear, .bool bad]
      have fo8 := hfo.out.keep bE
      have hrp8 := hrp.keep bE
      go_upto_region 5 with fail
      obtain ⟨W8, hW8⟩ : ∃ W, wr.alloc (.cells #[.slice ra 8 rc, .int .i64 wear, .bool bad] 42) = W := ⟨_, rfl⟩
      rw [hW8] at zE fo8 hrp8 bE ⊢
      clear hW8 c0 c1 c2 hrp hrk hfk hfp hfw hfb hlt
      obtain ⟨E, hE⟩ : ∃ E, wr.heap.size = E := ⟨_, rfl⟩
      rw [hE] at zE ⊢
      have hEG : E ≠ G := by have := hfo.out.g.lt (g := G) rfl; omega
      have fo9 : FO W0 W8.drew F G n gs := fo8.keep (Below.refl _ _).drew
      have zE9 : Blk W8.drew E 42 #[.slice ra 8 rc, .int .i64 wear, .bool bad] := Blk.keep zE (Below.refl _ _).drew
      have fa := fo9.one (j := 16) (x := .int .i64 wear) hgk (by omega) (en_wear f wear)
      have fb := fa.one (j := 17) (x := .bool bad) (get_set hgk) (by omega) (en_bad (f.wearTo wear) bad)
      rw [List.set_set] at fb
      have zEa : Blk (W8.drew.setCell ⟨G, k * 18 + 16, none⟩ (.int .i64 wear)) E 42 #[.slice ra 8 rc, .int .i64 wear, .bool bad] := (Below.heap_setCell _ _ _ _ hEG).trans zE9
      have zEb : Blk ((W8.drew.setCell ⟨G, k * 18 + 16, none⟩ (.int .i64 wear)).setCell ⟨G, k * 18 + 17, none⟩ (.bool bad)) E 42 #[.slice ra 8 rc, .int .i64 wear, .bool bad] := (Below.heap_setCell _ _ _ _ hEG).trans zEa
      obtain ⟨v16, p16⟩ := fo9.is hgk (j := 16) (by omega)
      have f16 := fo9.g.frozen (k * 18 + 16)
      obtain ⟨v17, p17⟩ := fa.is (get_set hgk) (j := 17) (by omega)
      have f17 := fa.g.frozen (k * 18 + 17)
      have x0 := fo9.f.cell 0
      have x1 := zE9.cell 1
      have x2 := zE9.cell 2
      have xa0 := fa.f.cell 0
      have xa1 := zEa.cell 1
      have xa2 := zEa.cell 2
      have HXA : Hid _ := And.intro xa0 (And.intro xa1 xa2)
      simp at x0 x1 x2
      have HFB : Hid _ := fb
      have HGK : Hid (gs[k]? = some f) := hgk
      have HZEB : Hid _ := zEb
      clear hfo fo8 bE zE fo9 zE9 fa fb zEa zEb hrp8 hE xa0 xa1 xa2 hgk
      have hkk : ¬ (k : Int) < 0 := by omega
      have p17' : ((W8.setCell ⟨G, k * 18 + 16, none⟩ (.int .i64 wear)).drew).cell? ⟨G, k * 18 + 17, none⟩ = some v17 := p17
      have f17' : ((W8.setCell ⟨G, k * 18 + 16, none⟩ (.int .i64 wear)).drew).frozen? ⟨G, k * 18 + 17, none⟩ = false := f17
      refine wp_region_noPanic ?_
      refine wp_region_last (fun W : World => W.cell? ⟨F, 0, none⟩ = some (.slice (some ⟨G, 0, none⟩) n n) ∧ W.cell? ⟨E, 1, none⟩ = some (.int .i64 wear) ∧ W.cell? ⟨E, 2, none⟩ = some (.bool bad)) 19 (by kernel_rfl) (by kernel_rfl) (by go_keep) 19 (by kernel_rfl) (fun hS => ?_)
      refine wpAnyH_take (i := 0) (v := ?gv1) rfl (by kernel_rfl) (by kernel_rfl) (by kernel_rfl) (fun _ _ _ h => h) (Or.inl ⟨by kernel_rfl, ?gy1⟩) (by assumption) ?gr1
      case gy1 => (intro w' hSw; (try dsimp only at hSw); go_simp; (try with_reducible rfl))
      try simp only [Act.put, List.setIfInBounds_toArray, List.set_cons_zero, List.set_cons_succ, List.getElem_toArray, List.getElem_cons_zero]
      refine wpAnyH_take (i := 1) (v := ?gv2) rfl (by kernel_rfl) (by kernel_rfl) (by kernel_rfl) (fun _ _ _ h => h) (Or.inl ⟨by kernel_rfl, ?gy2⟩) (by assumption) ?gr2
      case gy2 => (intro w' hSw; (try dsimp only at hSw); go_simp; (try with_reducible rfl))
      try simp only [Act.put, List.setIfInBounds_toArray, List.set_cons_zero, List.set_cons_succ, List.getElem_toArray, List.getElem_cons_succ, List.getElem_cons_zero]
      refine wpAnyH_take (i := 2) (v := ?gv3) rfl (by kernel_rfl) (by kernel_rfl) (by kernel_rfl) (fun _ _ _ h => h) (Or.inl ⟨by kernel_rfl, ?gy3⟩) (by assumption) ?gr3
      case gy3 => (intro w' hSw; (try dsimp only at hSw); go_simp; (try with_reducible rfl))
      try simp only [Act.put, List.setIfInBounds_toArray, List.set_cons_zero, List.set_cons_succ, List.getElem_toArray, List.getElem_cons_succ, List.getElem_cons_zero]
      refine wpAnyH_take (i := 3) (v := ?gv4) rfl (by kernel_rfl) (by kernel_rfl) (by kernel_rfl) (fun _ _ _ h => h) (Or.inl ⟨by kernel_rfl, ?gy4⟩) (by assumption) ?gr4
      case gy4 => (intro w' hSw; (try dsimp only at hSw); go_simp; (try with_reducible rfl))
      try simp only [Act.put, List.setIfInBounds_toArray, List.set_cons_zero, List.set_cons_succ, List.getElem_toArray, List.getElem_cons_succ, List.getElem_cons_zero]
      refine wpAnyH_take (i := 4) (v := ?gv5) rfl (by kernel_rfl) (by kernel_rfl) (by kernel_rfl) (fun _ _ _ h => h) (Or.inl ⟨by kernel_rfl, ?gy5⟩) (by assumption) ?gr5
      case gy5 => (intro w' hSw; (try dsimp only at hSw); go_simp; (try with_reducible rfl))
      try simp only [Act.put, List.setIfInBounds_toArray, List.set_cons_zero, List.set_cons_succ, List.getElem_toArray, List.getElem_cons_succ, List.getElem_cons_zero]
      refine wpAnyH_take (i := 5) (v := ?gv6) rfl (by kernel_rfl) (by kernel_rfl) (by kernel_rfl) (fun _ _ _ h => h) (Or.inl ⟨by kernel_rfl, ?gy6⟩) (by assumption) ?gr6
      case gy6 => (intro w' hSw; (try dsimp only at hSw); go_simp; (try with_reducible rfl))
      try simp only [Act.put, List.setIfInBounds_toArray, List.set_cons_zero, List.set_cons_succ, List.getElem_toArray, List.getElem_cons_succ, List.getElem_cons_zero]
      refine wpAnyH_take (i := 6) (v := ?gv7) rfl (by kernel_rfl) (by kernel_rfl) (by kernel_rfl) (fun _ _ _ h => h) (Or.inl ⟨by kernel_rfl, ?gy7⟩) (by assumption) ?gr7
      case gy7 => (intro w' hSw; (try dsimp only at hSw); go_simp; (try with_reducible rfl))
      try simp only [Act.put, List.setIfInBounds_toArray, List.set_cons_zero, List.set_cons_succ, List.getElem_toArray, List.getElem_cons_succ, List.getElem_cons_zero]
      refine wpAnyH_take (i := 7) (v := ?gv8) rfl (by kernel_rfl) (by kernel_rfl) (by kernel_rfl) (fun _ _ _ h => h) (Or.inl ⟨by kernel_rfl, ?gy8⟩) (by assumption) ?gr8
      case gy8 => (intro w' hSw; (try dsimp only at hSw); go_simp; (try with_reducible rfl))
      try simp only [Act.put, List.setIfInBounds_toArray, List.set_cons_zero, List.set_cons_succ, List.getElem_toArray, List.getElem_cons_succ, List.getElem_cons_zero]
      refine wpAnyH_take (i := 8) (v := ?gv9) rfl (by kernel_rfl) (by kernel_rfl) (by kernel_rfl) (fun _ _ _ h => h) (Or.inl ⟨by kernel_rfl, ?gy9⟩) (by assumption) ?gr9
      case gy9 => (intro w' hSw; (try dsimp only at hSw); go_simp; (try with_reducible rfl))
      try simp only [Act.put, List.setIfInBounds_toArray, List.set_cons_zero, List.set_cons_succ, List.getElem_toArray, List.getElem_cons_succ, List.getElem_cons_zero]
      refine wpAnyH_take (i := 9) (v := ?gv10) rfl (by kernel_rfl) (by kernel_rfl) (by kernel_rfl) (fun _ _ _ h => h) (Or.inl ⟨by kernel_rfl, ?gy10⟩) (by assumption) ?gr10
      case gy10 => (intro w' hSw; (try dsimp only at hSw); go_simp; (try with_reducible rfl))
      try simp only [Act.put, List.setIfInBounds_toArray, List.set_cons_zero, List.set_cons_succ, List.getElem_toArray, List.getElem_cons_succ, List.getElem_cons_zero]
      refine wpAnyH_take (i := 10) (v := ?gv11) rfl (by kernel_rfl) (by kernel_rfl) (by kernel_rfl) (fun _ _ _ h => h) (Or.inl ⟨by kernel_rfl, ?gy11⟩) (by assumption) ?gr11
      case gy11 => (intro w' hSw; (try dsimp only at hSw); go_simp; (try with_reducible rfl))
      try simp only [Act.put, List.setIfInBounds_toArray, List.set_cons_zero, List.set_cons_succ, List.getElem_toArray, List.getElem_cons_succ, List.getElem_cons_zero]
      refine wpAnyH_take (i := 11) (v := ?gv12) rfl (by kernel_rfl) (by kernel_rfl) (by kernel_rfl) (fun _ _ _ h => h) (Or.inl ⟨by kernel_rfl, ?gy12⟩) (by assumption) ?gr12
      case gy12 => (intro w' hSw; (try dsimp only at hSw); go_simp; (try with_reducible rfl))
      try simp only [Act.put, List.setIfInBounds_toArray, List.set_cons_zero, List.set_cons_succ, List.getElem_toArray, List.getElem_cons_succ, List.getElem_cons_zero]
      refine wpAnyH_take (i := 12) (v := ?gv13) rfl (by kernel_rfl) (by kernel_rfl) (by kernel_rfl) (fun _ _ _ h => h) (Or.inl ⟨by kernel_rfl, ?gy13⟩) (by assumption) ?gr13
      case gy13 => (intro w' hSw; (try dsimp only at hSw); go_simp; (try with_reducible rfl))
      try simp only [Act.put, List.setIfInBounds_toArray, List.set_cons_zero, List.set_cons_succ, List.getElem_toArray, List.getElem_cons_succ, List.getElem_cons_zero]
      refine wpAnyH_take (i := 13) (v := ?gv14) rfl (by kernel_rfl) (by kernel_rfl) (by kernel_rfl) (fun _ _ _ h => h) (Or.inl ⟨by kernel_rfl, ?gy14⟩) (by assumption) ?gr14
      case gy14 => (intro w' hSw; (try dsimp only at hSw); go_simp; (try with_reducible rfl))
      try simp only [Act.put, List.setIfInBounds_toArray, List.set_cons_zero, List.set_cons_succ, List.getElem_toArray, List.getElem_cons_succ, List.getElem_cons_zero]
      refine wpAnyH_take (i := 14) (v := ?gv15) rfl (by kernel_rfl) (by kernel_rfl) (by kernel_rfl) (fun _ _ _ h => h) (Or.inl ⟨by kernel_rfl, ?gy15⟩) (by assumption) ?gr15
      case gy15 => (intro w' hSw; (try dsimp only at hSw); go_simp; (try with_reducible rfl))
      try simp only [Act.put, List.setIfInBounds_toArray, List.set_cons_zero, List.set_cons_succ, List.getElem_toArray, List.getElem_cons_succ, List.getElem_cons_zero]
      refine wpAnyH_take (i := 15) (v := ?gv16) rfl (by kernel_rfl) (by kernel_rfl) (by kernel_rfl) (fun _ _ _ h => h) (Or.inl ⟨by kernel_rfl, ?gy16⟩) (by assumption) ?gr16
      case gy16 => (intro w' hSw; (try dsimp only at hSw); go_simp; (try with_reducible rfl))
      try simp only [Act.put, List.setIfInBounds_toArray, List.set_cons_zero, List.set_cons_succ, List.getElem_toArray, List.getElem_cons_succ, List.getElem_cons_zero]
      refine wpAnyH_ready (rs := [16]) (by kernel_rfl) (by simp) ?_
      refine AllReadyH.cons rfl (fun K hK => ?_) AllReadyH.nil
      go_simp
      clear hS
      try dsimp only
      refine Shut.out hK _ _ (⟨HXA.out.1, HXA.out.2.1, HXA.out.2.2⟩) (fun hS => ?_)
      try simp only [Act.put, List.setIfInBounds_toArray, List.set_cons_zero, List.set_cons_succ, List.getElem_toArray, List.getElem_cons_succ, List.getElem_cons_zero]
      refine wpAnyH_take (i := 17) (v := ?gv17) rfl (by kernel_rfl) (by kernel_rfl) (by kernel_rfl) (fun _ _ _ h => h) (Or.inl ⟨by kernel_rfl, ?gy17⟩) (by assumption) ?gr17
      case gy17 => (intro w' hSw; (try dsimp only at hSw); go_simp; (try with_reducible rfl))
      try simp only [Act.put, List.setIfInBounds_toArray, List.set_cons_zero, List.set_cons_succ, List.getElem_toArray, List.getElem_cons_succ, List.getElem_cons_zero]
      refine wpAnyH_take (i := 18) (v := ?gv18) rfl (by kernel_rfl) (by kernel_rfl) (by kernel_rfl) (fun _ _ _ h => h) (Or.inl ⟨by kernel_rfl, ?gy18⟩) (by assumption) ?gr18
      case gy18 => (intro w' hSw; (try dsimp only at hSw); go_simp; (try with_reducible rfl))
      try simp only [Act.put, List.setIfInBounds_toArray, List.set_cons_zero, List.set_cons_succ, List.getElem_toArray, List.getElem_cons_succ, List.getElem_cons_zero]
      refine wpAnyH_done (by kernel_rfl) ?_ _
      refine wpOp_last rfl (fun K hK => ?_)
      clear hS
      go_simp
      refine Shut.out hK _ _ (NoPanic.normal ?_)
      have hfb : FO W0 ((W8.setCell ⟨G, k * 18 + 16, none⟩ (.int .i64 wear)).setCell ⟨G, k * 18 + 17, none⟩ (.bool bad)).drew F G n (gs.set k ((f.wearTo wear).badTo bad)) := HFB.out
      have hze : Blk ((W8.setCell ⟨G, k * 18 + 16, none⟩ (.int .i64 wear)).setCell ⟨G, k * 18 + 17, none⟩ (.bool bad)).drew E 42 #[.slice ra 8 rc, .int .i64 wear, .bool bad] := HZEB.out
      obtain ⟨W9, hW9⟩ : ∃ W, ((W8.setCell ⟨G, k * 18 + 16, none⟩ (.int .i64 wear)).setCell ⟨G, k * 18 + 17, none⟩ (.bool bad)).drew = W := ⟨_, rfl⟩
      rw [hW9] at hfb hze
      have e0 := hze.cell 0
      simp at e0
      have HGS9 : Hid (∀ i, i < k → (gs.set k ((f.wearTo wear).badTo bad))[i]? = fs[i]?) := fun i hi => by rw [List.getElem?_set_ne (by omega)]; exact hgs.out i hi
      have HG9 : Hid (∃ g, (gs.set k ((f.wearTo wear).badTo bad))[k]? = some g ∧ g.wear = wear ∧ g.bad = bad ∧ ∀ i, i < 0 → g.ps[i]? = rp[i]?) := ⟨_, get_set HGK.out, rfl, rfl, fun i hi => absurd hi (by omega)⟩
      have HF9 : Hid (FO W0 W9 F G n (gs.set k ((f.wearTo wear).badTo bad))) := hfb
      try rw [hW9]
      clear hW9 hfb hze x0 x1 x2 p16 f16 p17 f17 p17' f17' HFB HZEB HXA hgs
      go_upto_region 7 with fail
      clear e0
      go_loopw [43] (fun i wr => ∃ (j : Nat) (gs : List FkR), j ≤ 8 ∧ i = .int .i64 j ∧ Hid (FO W0 wr F G n gs) ∧ Hid (∀ i, i < k → gs[i]? = fs[i]?) ∧ Hid (∃ g, gs[k]? = some g ∧ g.wear = wear ∧ g.bad = bad ∧ ∀ i, i < j → g.ps[i]? = rp[i]?)) (fun i _ => 8 - (intOf i).toNat)
      case atStart => exact ⟨0, _, by omega, rfl, HF9, HGS9, HG9⟩
      case round =>
        obtain ⟨j, hs, hj, rfl, hfo, hgs, hgk⟩ := hrel
        clear HF9 HGS9 HG9
        by_cases hj8 : j < 8
        · have hji : (j : Int) < 8 := by omega
          obtain ⟨p, hpj⟩ : ∃ p, rp[j]? = some p := ⟨_, List.getElem?_eq_getElem (by rw [hr8]; exact hj8)⟩
          obtain ⟨pb, poff, rfl, hplt, hpc⟩ := RdPs.lt (RdPs.keep HRP0.out hfo.out.bel) (by intro h; rw [h] at hpj; simp at hpj)
          obtain ⟨⟨c0, c1⟩, _⟩ := hpc j p hpj
          obtain ⟨g, hg1, hg2, hg3, hg4⟩ := hgk.out
          have HGN : Hid (∃ g', (hs.set k (g.pg j p))[k]? = some g' ∧ g'.wear = wear ∧ g'.bad = bad ∧ ∀ i, i < j + 1 → g'.ps[i]? = rp[i]?) := ⟨_, get_set hg1, hg2, hg3, fun i hi => by
            show (g.ps.set j p)[i]? = _
            by_cases he : i = j
            · subst he
              rw [List.getElem?_set_self (by rw [g.h8]; exact hj8), hpj]
            · rw [List.getElem?_set_ne (by omega)]
              exact hg4 i (by omega)⟩
          have HSN : Hid (∀ i, i < k → (hs.set k (g.pg j p))[i]? = fs[i]?) := fun i hi => by rw [List.getElem?_set_ne (by omega)]; exact hgs.out i hi
          obtain ⟨u, pa, pc, pz⟩ := p
          dsimp only at c0 c1
          obtain ⟨n1, hn1⟩ : ∃ n1, pz.length = n1 := ⟨_, rfl⟩
          rw [hn1] at c1
          have bQ : Below wr.heap.size wr (wr.alloc (.cells #[.bool u, .slice pa n1 pc] 92)) := (Below.refl _ wr).alloc (Nat.le_refl _) _
          have zQ := Blk.new wr 92 #[.bool u, .slice pa n1 pc]
          have fo8 := hfo.out.keep bQ
          clear hgk hgs hfo hg2 hg3 hg4 hpc hplt hpj
          go_upto_region 9 with fail
          obtain ⟨W7, hW7⟩ : ∃ W, wr.alloc (.cells #[.bool u, .slice pa n1 pc] 92) = W := ⟨_, rfl⟩
          rw [hW7] at zQ fo8 bQ ⊢
          obtain ⟨Q, hQ⟩ : ∃ Q, wr.heap.size = Q := ⟨_, rfl⟩
          rw [hQ] at zQ ⊢
          clear hW7 c0 c1 bQ hQ
          have fo9 : FO W0 W7.drew F G n hs := fo8.keep (Below.refl _ _).drew
          have zQ9 : Blk W7.drew Q 92 #[.bool u, .slice pa n1 pc] := Blk.keep zQ (Below.refl _ _).drew
          have x0 := fo9.f.cell 0
          have q0 := zQ9.cell 0
          have q1 := zQ9.cell 1
          simp at x0 q0 q1
          obtain ⟨v0, p0⟩ := fo9.is hg1 (j := j * 2) (by omega)
          obtain ⟨v1, p1⟩ := fo9.is hg1 (j := j * 2 + 1) (by omega)
          have r0 : W7.drew.cell? ⟨G, k * 18 + j * 2, none⟩ = some v0 := p0
          have r1 : W7.drew.cell? ⟨G, k * 18 + j * 2 + 1, none⟩ = some v1 := p1
          have f0 := fo9.g.frozen (k * 18 + j * 2)
          obtain ⟨gs1, g1, foU, hgU⟩ := fo9.used (u := u) hg1 hj8
          obtain ⟨v2, p2⟩ := foU.is hgU (j := j * 2 + 1) (by omega)
          have r2 : ((W7.setCell ⟨G, k * 18 + j * 2, none⟩ (.bool u)).drew).cell? ⟨G, k * 18 + j * 2 + 1, none⟩ = some v2 := p2
          have f2 : ((W7.setCell ⟨G, k * 18 + j * 2, none⟩ (.bool u)).drew).frozen? ⟨G, k * 18 + j * 2 + 1, none⟩ = false := foU.g.frozen (k * 18 + j * 2 + 1)
          have HFN : Hid _ := fo9.page (p := ⟨u, pa, pc, pz⟩) hg1 hj8 hn1
          clear p0 p1 p2 foU hgU fo9 fo8 zQ zQ9 hg1 hn1
          have hjj : ¬ (j : Int) < 0 := by omega
          refine wp_region_noPanic ?_
          refine wp_region_last (fun W : World => W.cell? ⟨F, 0, none⟩ = some (.slice (some ⟨G, 0, none⟩) n n) ∧ W.cell? ⟨Q, 0, none⟩ = some (.bool u) ∧ W.cell? ⟨Q, 1, none⟩ = some (.slice pa n1 pc)) 10 (by kernel_rfl) (by kernel_rfl) (by go_keep) 10 (by kernel_rfl) (fun hS => ?_)
          refine wpAnyH_take (i := 0) (v := ?gv19) rfl (by kernel_rfl) (by kernel_rfl) (by kernel_rfl) (fun _ _ _ h => h) (Or.inl ⟨by kernel_rfl, ?gy19⟩) (by assumption) ?gr19
          case gy19 => (intro w' hSw; (try dsimp only at hSw); go_simp; (try with_reducible rfl))
          try simp only [Act.put, List.setIfInBounds_toArray, List.set_cons_zero, List.set_cons_succ, List.getElem_toArray, List.getElem_cons_zero]
          refine wpAnyH_take (i := 1) (v := ?gv20) rfl (by kernel_rfl) (by kernel_rfl) (by kernel_rfl) (fun _ _ _ h => h) (Or.inl ⟨by kernel_rfl, ?gy20⟩) (by assumption) ?gr20
          case gy20 => (intro w' hSw; (try dsimp only at hSw); go_simp; (try with_reducible rfl))
          try simp only [Act.put, List.setIfInBounds_toArray, List.set_cons_zero, List.set_cons_succ, List.getElem_toArray, List.getElem_cons_succ, List.getElem_cons_zero]
          refine wpAnyH_take (i := 2) (v := ?gv21) rfl (by kernel_rfl) (by kernel_rfl) (by kernel_rfl) (fun _ _ _ h => h) (Or.inl ⟨by kernel_rfl, ?gy21⟩) (by assumption) ?gr21
          case gy21 => (intro w' hSw; (try dsimp only at hSw); go_simp; (try with_reducible rfl))
          try simp only [Act.put, List.setIfInBounds_toArray, List.set_cons_zero, List.set_cons_succ, List.getElem_toArray, List.getElem_cons_succ, List.getElem_cons_zero]
          refine wpAnyH_take (i := 3) (v := ?gv22) rfl (by kernel_rfl) (by kernel_rfl) (by kernel_rfl) (fun _ _ _ h => h) (Or.inl ⟨by kernel_rfl, ?gy22⟩) (by assumption) ?gr22
          case gy22 => (intro w' hSw; (try dsimp only at hSw); go_simp; (try with_reducible rfl))
          try simp only [Act.put, List.setIfInBounds_toArray, List.set_cons_zero, List.set_cons_succ, List.getElem_toArray, List.getElem_cons_succ, List.getElem_cons_zero]
          refine wpAnyH_take (i := 4) (v := ?gv23) rfl (by kernel_rfl) (by kernel_rfl) (by kernel_rfl) (fun _ _ _ h => h) (Or.inl ⟨by kernel_rfl, ?gy23⟩) (by assumption) ?gr23
          case gy23 => (intro w' hSw; (try dsimp only at hSw); go_simp; (try with_reducible rfl))
          try simp only [Act.put, List.setIfInBounds_toArray, List.set_cons_zero, List.set_cons_succ, List.getElem_toArray, List.getElem_cons_succ, List.getElem_cons_zero]
          refine wpAnyH_take (i := 5) (v := ?gv24) rfl (by kernel_rfl) (by kernel_rfl) (by kernel_rfl) (fun _ _ _ h => h) (Or.inl ⟨by kernel_rfl, ?gy24⟩) (by assumption) ?gr24
          case gy24 => (intro w' hSw; (try dsimp only at hSw); go_simp; (try with_reducible rfl))
          try simp only [Act.put, List.setIfInBounds_toArray, List.set_cons_zero, List.set_cons_succ, List.getElem_toArray, List.getElem_cons_succ, List.getElem_cons_zero]
          refine wpAnyH_take (i := 6) (v := ?gv25) rfl (by kernel_rfl) (by kernel_rfl) (by kernel_rfl) (fun _ _ _ h => h) (Or.inl ⟨by kernel_rfl, ?gy25⟩) (by assumption) ?gr25
          case gy25 => (intro w' hSw; (try dsimp only at hSw); go_simp; (try with_reducible rfl))
          try simp only [Act.put, List.setIfInBounds_toArray, List.set_cons_zero, List.set_cons_succ, List.getElem_toArray, List.getElem_cons_succ, List.getElem_cons_zero]
          refine wpAnyH_take (i := 7) (v := ?gv26) rfl (by kernel_rfl) (by kernel_rfl) (by kernel_rfl) (fun _ _ _ h => h) (Or.inl ⟨by kernel_rfl, ?gy26⟩) (by assumption) ?gr26
          case gy26 => (intro w' hSw; (try dsimp only at hSw); go_simp; (try with_reducible rfl))
          try simp only [Act.put, List.setIfInBounds_toArray, List.set_cons_zero, List.set_cons_succ, List.getElem_toArray, List.getElem_cons_succ, List.getElem_cons_zero]
          refine wpAnyH_take (i := 8) (v := ?gv27) rfl (by kernel_rfl) (by kernel_rfl) (by kernel_rfl) (fun _ _ _ h => h) (Or.inl ⟨by kernel_rfl, ?gy27⟩) (by assumption) ?gr27
          case gy27 => (intro w' hSw; (try dsimp only at hSw); go_simp; (try with_reducible rfl))
          try simp only [Act.put, List.setIfInBounds_toArray, List.set_cons_zero, List.set_cons_succ, List.getElem_toArray, List.getElem_cons_succ, List.getElem_cons_zero]
          refine wpAnyH_take (i := 9) (v := ?gv28) rfl (by kernel_rfl) (by kernel_rfl) (by kernel_rfl) (fun _ _ _ h => h) (Or.inl ⟨by kernel_rfl, ?gy28⟩) (by assumption) ?gr28
          case gy28 => (intro w' hSw; (try dsimp only at hSw); go_simp; (try with_reducible rfl))
          try simp only [Act.put, List.setIfInBounds_toArray, List.set_cons_zero, List.set_cons_succ, List.getElem_toArray, List.getElem_cons_succ, List.getElem_cons_zero]
          refine wpAnyH_done (by kernel_rfl) ?_ _
          refine wpOp_last rfl (fun K hK => ?_)
          clear hS
          go_simp
          refine Shut.out hK _ _ (NoPanic.normal ?_)
          have hfn : FO W0 ((W7.setCell ⟨G, k * 18 + j * 2, none⟩ (.bool u)).setCell ⟨G, k * 18 + j * 2 + 1, none⟩ (.slice pa n1 pc)).drew F G n (hs.set k (g.pg j ⟨u, pa, pc, pz⟩)) := HFN.out
          have HFN2 : Hid _ := hfn
          clear hfn x0 q0 q1 r0 r1 r2 f0 f2
          go_wp2
          go_roundw
          case rel => exact ⟨j + 1, _, by omega, by go_num, HFN2, HSN, HGN⟩
          case measure => simp [intOf]; omega
        · have hji : ¬ (j : Int) < 8 := by omega
          have HEND : Hid (∀ i, i < k + 1 → hs[i]? = fs[i]?) := fun i hi => by
            by_cases he : i = k
            · subst he
              obtain ⟨g, h1, h2, h3, h4⟩ := hgk.out
              obtain ⟨h5, h6, h7, h9⟩ := HFK.out
              rw [h1, h5, FkR.ext' (f := g) (g := fk) (List.ext_getElem? fun i => by
                have h10 := g.h8
                by_cases hi8 : i < j
                · rw [h4 i hi8, h6]
                · rw [List.getElem?_eq_none (by omega), List.getElem?_eq_none (by rw [fk.h8]; omega)]) (by rw [h2, h7]) (by rw [h3, h9])]
            · exact hgs.out i (by omega)
          go_wp2
          go_roundw
          case rel => exact ⟨k + 1, hs, by omega, by go_num, hfo, HEND⟩
          case measure => simp [intOf]; omega
    · have hki : ¬ (k : Int) < (n : Int) := by omega
      obtain rfl : k = n := by omega
      go_wp2
      go_ret
      have hl : gs.length = k := hfo.out.g.len
      have hf := HF.out.1
      have hln := HLN.out
      have e : gs = fs := List.ext_getElem? fun i => by
        by_cases h : i < k
        · exact hgs.out i h
        · rw [List.getElem?_eq_none (by omega), List.getElem?_eq_none (by omega)]
      have hG := HG.out
      have hW := HW.out
      have hH := HH.out
      have hb := HB0.out
      have h := hfo.out
      refine ⟨F, G, rfl, ?_⟩
      rw [show fs.length = k by omega, ← e]
      have h1 := h.fn
      have h2 := h.gn
      exact ⟨by rw [hH]; exact hb.trans (h.bel.mono (by omega)), h.f, h.g, by omega, by omega, h.ne⟩
end

section
open Go.RowKit Go.Extern.Stop Go.Stop Go.Extern
theorem as_nil (t : Value) (w : World) : Calls Tryz.prog 127 #[.nilIface, t] w fun e w' => e = .returned (.bool false) ∧ w' = w := by
  go_enter Tryz.func127, Tryz.ntmps127
  go_wp2
  go_ret
  exact ⟨rfl, rfl⟩
theorem rf_valueOfP (t : Addr) (w : World) : (ReflectliteValue.unpack (.iface 151 (.pointer (some t)))).run Tryz.prog w
    = .ok (.agg #[.pointer (some ⟨1, 151, none⟩), .pointer (some ⟨w.heap.size, 0, none⟩), .int .u64 150]) (w.alloc (.cells #[.pointer (some t)] 151)) := by kernel_rfl
theorem rf_typeP (a : Addr) (w : World) : (ReflectliteValue.methodAny (ReflectliteValue.valueError "reflectlite.Value.Type" 0) (fun t _ _ _ => ReflectliteType.toType t) #[.agg #[.pointer (some ⟨1, 151, none⟩), .pointer (some a), .int .u64 150]]).run Tryz.prog w
    = .ok (.iface 191 (.agg #[.pointer (some ⟨1, 151, none⟩)])) w := by kernel_rfl
theorem rf_methodKind (h : Value) (w : World) : (Go.method 331 191 (.agg #[h]) "Kind").run Tryz.prog w = .ok (172, h) w := by kernel_rfl
theorem rf_kindP (w : World) : ((ReflectliteType.abiMethod fun t => (fun a : Nat => Value.int IntKind.u8 (a : Int)) <$> Rtype.kind t) #[.pointer (some ⟨1, 151, none⟩)]).run Tryz.prog w = .ok (.int .u8 22) w := by kernel_rfl
theorem rf_kindR (w : World) : ((ReflectliteType.abiMethod fun t => (fun a : Nat => Value.int IntKind.u8 (a : Int)) <$> Rtype.kind t) #[.pointer (some ⟨1, 149, none⟩)]).run Tryz.prog w = .ok (.int .u8 2) w := by kernel_rfl
theorem rf_rlm (z : Sem Value) (f : TypeId → Addr → Nat → Nat → Sem Value) (v : Value) :
    ReflectliteValue.method z f #[v] = (do match ← ReflectliteValue.parts v with | none => z | some (t, a, fl) => f t a fl (fl % 32)) := rfl
theorem rf_partsP (a : Addr) (w : World) : (ReflectliteValue.parts (.agg #[.pointer (some ⟨1, 151, none⟩), .pointer (some a), .int .u64 150])).run Tryz.prog w = .ok (some (151, a, 150)) w := by kernel_rfl
theorem rf_isNilP (a p : Addr) (W : World) (ha : W.cell? a = some (.pointer (some p))) :
    (ReflectliteValue.method (ReflectliteValue.valueError "reflectlite.Value.IsNil" 0) ReflectliteValue.isNil #[.agg #[.pointer (some ⟨1, 151, none⟩), .pointer (some a), .int .u64 150]]).run Tryz.prog W = .ok (.bool false) W := by
  rw [rf_rlm]
  simp only [Sem.run_bind, rf_partsP, Result.andThen]
  simp [ReflectliteValue.isNil, loadVar, isAgg, underlying, Tryz.underlying151, ha, Result.andThen]
theorem rf_methodElem (h : Value) (w : World) : (Go.method 331 191 (.agg #[h]) "Elem").run Tryz.prog w = .ok (182, .agg #[h]) w := by kernel_rfl
theorem rf_methodImplements (h : Value) (w : World) : (Go.method 331 191 (.agg #[h]) "Implements").run Tryz.prog w = .ok (183, .agg #[h]) w := by kernel_rfl
theorem rf_methodAssignableTo (h : Value) (w : World) : (Go.method 331 191 (.agg #[h]) "AssignableTo").run Tryz.prog w = .ok (180, .agg #[h]) w := by kernel_rfl
theorem rf_elemP (w : World) : (ReflectliteType.method ReflectliteType.elem #[.agg #[.pointer (some ⟨1, 151, none⟩)]]).run Tryz.prog w = .ok (.iface 191 (.agg #[.pointer (some ⟨1, 149, none⟩)])) w := by kernel_rfl
theorem rf_implementsR (w : World) : (ReflectliteType.relation "Implements" ReflectliteType.implements_ #[.agg #[.pointer (some ⟨1, 149, none⟩)], .iface 191 (.agg #[.pointer (some ⟨1, 84, none⟩)])]).run Tryz.prog w = .ok (.bool true) w := by kernel_rfl
theorem rf_typeOfR (v : Value) (w : World) : (ReflectliteType.typeOf #[.iface 149 v]).run Tryz.prog w = .ok (.iface 191 (.agg #[.pointer (some ⟨1, 149, none⟩)])) w := by kernel_rfl
theorem rf_assignableR (w : World) : (ReflectliteType.relation "AssignableTo" ReflectliteType.assignableTo #[.agg #[.pointer (some ⟨1, 149, none⟩)], .iface 191 (.agg #[.pointer (some ⟨1, 149, none⟩)])]).run Tryz.prog w = .ok (.bool true) w := by kernel_rfl
theorem rf_valueOfR (n : Int) (w : World) : (ReflectliteValue.unpack (.iface 149 (.int .i64 n))).run Tryz.prog w
    = .ok (.agg #[.pointer (some ⟨1, 149, none⟩), .pointer (some ⟨w.heap.size, 0, none⟩), .int .u64 130]) (w.alloc (.cells #[.int .i64 n] 149)) := by kernel_rfl
theorem rf_elemOfP (w : World) : (Rtype.elem? 151).run Tryz.prog w = .ok (some 149) w := by kernel_rfl
theorem rf_mkR (p : Addr) (w : World) : (ReflectliteValue.mk 149 p ReflectliteValue.flagAddr).run Tryz.prog w = .ok (.agg #[.pointer (some ⟨1, 149, none⟩), .pointer (some p), .int .u64 386]) w := by kernel_rfl
theorem rf_elemV (a p : Addr) (W : World) (ha : W.cell? a = some (.pointer (some p))) :
    (ReflectliteValue.method (ReflectliteValue.valueError "reflectlite.Value.Elem" 0) ReflectliteValue.elem #[.agg #[.pointer (some ⟨1, 151, none⟩), .pointer (some a), .int .u64 150]]).run Tryz.prog W
      = .ok (.agg #[.pointer (some ⟨1, 149, none⟩), .pointer (some p), .int .u64 386]) W := by
  rw [rf_rlm]
  simp only [Sem.run_bind, rf_partsP, Result.andThen]
  simp [ReflectliteValue.elem, loadVar, isAgg, underlying, Tryz.underlying151, ha, Result.andThen, rf_elemOfP, rf_mkR]
theorem rf_partsRa (a : Addr) (w : World) : (ReflectliteValue.parts (.agg #[.pointer (some ⟨1, 149, none⟩), .pointer (some a), .int .u64 386])).run Tryz.prog w = .ok (some (149, a, 386)) w := by kernel_rfl
theorem rf_partsR (a : Addr) (w : World) : (ReflectliteValue.parts (.agg #[.pointer (some ⟨1, 149, none⟩), .pointer (some a), .int .u64 130])).run Tryz.prog w = .ok (some (149, a, 130)) w := by kernel_rfl
theorem rf_directR (w : World) : (Rtype.directlyAssignable 149 149).run Tryz.prog w = .ok true w := by kernel_rfl
theorem rf_set (ta b : Addr) (n : Int) (old : Value) (W : World) (hb : W.cell? b = some (.int .i64 n)) (ht : W.cell? ta = some old) (hf : W.frozen? ta = false) :
    (ReflectliteValue.set #[.agg #[.pointer (some ⟨1, 149, none⟩), .pointer (some ta), .int .u64 386], .agg #[.pointer (some ⟨1, 149, none⟩), .pointer (some b), .int .u64 130]]).run Tryz.prog W
      = .ok (.tuple #[]) (W.setCell ta (.int .i64 n)) := by
  rw [show ReflectliteValue.set #[(.agg #[.pointer (some ⟨1, 149, none⟩), .pointer (some ta), .int .u64 386]), (.agg #[.pointer (some ⟨1, 149, none⟩), .pointer (some b), .int .u64 130])] = (ReflectliteValue.parts (.agg #[.pointer (some ⟨1, 149, none⟩), .pointer (some ta), .int .u64 386]) >>= fun p => ReflectliteValue.parts (.agg #[.pointer (some ⟨1, 149, none⟩), .pointer (some b), .int .u64 130]) >>= fun q => _) from rfl]
  simp only [Sem.run_bind, rf_partsRa, rf_partsR, Result.andThen]
  simp [ReflectliteValue.flagAddr, loadVar, isAgg, underlying, Tryz.underlying149, hb, Result.andThen, rf_directR, storeVar, Value.cells, storeCells, Addr.add]
  rw [run_store Tryz.prog W ta _ _ (by rfl)]
  simp [ht, hf]
/-- The one variable of the library that errors.As reads. -/
def EtCell (w : World) : Prop := w.cell? ⟨0, 0, none⟩ = some (.iface 191 (.agg #[.pointer (some ⟨1, 84, none⟩)]))
set_option maxRecDepth 100000 in
set_option maxHeartbeats 4000000 in
theorem as_hit (n : Int) (t : Addr) (old : Value) (w : World) (hg0 : EtCell w) (ht0 : w.cell? t = some old) (hf0 : w.frozen? t = false) :
    Calls Tryz.prog 127 #[.iface 149 (.int .i64 n), .iface 151 (.pointer (some t))] w fun ev w' => ev = .returned (.bool true) ∧ w' = ((((w.alloc (.cells #[.pointer (some t)] 151)).alloc (.cells #[.pointer (some ⟨1, 151, none⟩), .pointer (some ⟨w.heap.size, 0, none⟩), .int .u64 150] 176)).alloc (.cells #[.pointer (some ⟨1, 151, none⟩), .pointer (some ⟨w.heap.size, 0, none⟩), .int .u64 150] 176)).alloc (.cells #[.int .i64 n] 149)).setCell t (.int .i64 n) := by
  have hg : w.cell? ⟨0, 0, none⟩ = some (.iface 191 (.agg #[.pointer (some ⟨1, 84, none⟩)])) := hg0
  have h6 := @run_callFunc_extern Tryz.prog 142 _ (fun args => ReflectliteValue.unpack (args.getD 0 (.tuple #[]))) Tryz.func142 (by kernel_rfl) (by kernel_rfl) (by kernel_rfl) (by kernel_rfl)
  have h7 := @run_callFunc_extern Tryz.prog 143 _ (ReflectliteValue.methodAny (ReflectliteValue.valueError "reflectlite.Value.Type" 0) (fun t _ _ _ => ReflectliteType.toType t)) Tryz.func143 (by kernel_rfl) (by kernel_rfl) (by kernel_rfl) (by kernel_rfl)
  have h8 := @run_callFunc_extern Tryz.prog 144 _ (ReflectliteValue.method (ReflectliteValue.valueError "reflectlite.Value.IsNil" 0) ReflectliteValue.isNil) Tryz.func144 (by kernel_rfl) (by kernel_rfl) (by kernel_rfl) (by kernel_rfl)
  have h27 := @run_callFunc_extern Tryz.prog 172 _ (ReflectliteType.abiMethod fun t => do pure (.int .u8 (← Rtype.kind t))) Tryz.func172 (by kernel_rfl) (by kernel_rfl) (by kernel_rfl) (by kernel_rfl)
  have h37 := @run_callFunc_extern Tryz.prog 182 _ (ReflectliteType.method ReflectliteType.elem) Tryz.func182 (by kernel_rfl) (by kernel_rfl) (by kernel_rfl) (by kernel_rfl)
  have h38 := @run_callFunc_extern Tryz.prog 183 _ (ReflectliteType.relation "Implements" ReflectliteType.implements_) Tryz.func183 (by kernel_rfl) (by kernel_rfl) (by kernel_rfl) (by kernel_rfl)
  have h10 := @run_callFunc_extern Tryz.prog 155 _ ReflectliteType.typeOf Tryz.func155 (by kernel_rfl) (by kernel_rfl) (by kernel_rfl) (by kernel_rfl)
  have h35 := @run_callFunc_extern Tryz.prog 180 _ (ReflectliteType.relation "AssignableTo" ReflectliteType.assignableTo) Tryz.func180 (by kernel_rfl) (by kernel_rfl) (by kernel_rfl) (by kernel_rfl)
  have h11 := @run_callFunc_extern Tryz.prog 156 _ (ReflectliteValue.method (ReflectliteValue.valueError "reflectlite.Value.Elem" 0) ReflectliteValue.elem) Tryz.func156 (by kernel_rfl) (by kernel_rfl) (by kernel_rfl) (by kernel_rfl)
  have h12 := @run_callFunc_extern Tryz.prog 157 _ ReflectliteValue.set Tryz.func157 (by kernel_rfl) (by kernel_rfl) (by kernel_rfl) (by kernel_rfl)
  have tO := rf_typeOfR
  have mA := rf_methodAssignableTo
  have aR := rf_assignableR
  have vR := rf_valueOfR
  have f6 := rf_valueOfP
  have f7 := rf_typeP
  have mK := rf_methodKind
  have mE := rf_methodElem
  have mI := rf_methodImplements
  have kP := rf_kindP
  have kR := rf_kindR
  have eP := rf_elemP
  have iR := rf_implementsR
  have n8 := rf_isNilP ⟨w.heap.size, 0, none⟩ t ((w.alloc (.cells #[.pointer (some t)] 151)).alloc (.cells #[.pointer (some ⟨1, 151, none⟩), .pointer (some ⟨w.heap.size, 0, none⟩), .int .u64 150] 176)) (by simp)
  have hlt : 0 < w.heap.size := by
    rcases Nat.eq_zero_or_pos w.heap.size with h0 | h
    · simp [World.cell?, h0] at hg
    · exact h
  have hg2 : ((w.alloc (.cells #[.pointer (some t)] 151)).alloc (.cells #[.pointer (some ⟨1, 151, none⟩), .pointer (some ⟨w.heap.size, 0, none⟩), .int .u64 150] 176)).cell? ⟨0, 0, none⟩ = some (.iface 191 (.agg #[.pointer (some ⟨1, 84, none⟩)])) := by
    rw [World.cell?_alloc_lt _ _ ⟨0, 0, none⟩ (by simp), World.cell?_alloc_lt _ _ ⟨0, 0, none⟩ hlt]; exact hg
  have htl : t.block < w.heap.size := by
    rcases Nat.lt_or_ge t.block w.heap.size with h | h
    · exact h
    · simp [World.cell?, Array.getElem?_eq_none h] at ht0
  have el := rf_elemV ⟨w.heap.size, 0, none⟩ t (((w.alloc (.cells #[.pointer (some t)] 151)).alloc (.cells #[.pointer (some ⟨1, 151, none⟩), .pointer (some ⟨w.heap.size, 0, none⟩), .int .u64 150] 176)).alloc (.cells #[.pointer (some ⟨1, 151, none⟩), .pointer (some ⟨w.heap.size, 0, none⟩), .int .u64 150] 176)) (by rw [World.cell?_alloc_lt _ _ ⟨w.heap.size, 0, none⟩ (by simp; omega)]; simp)
  have st := rf_set t ⟨w.heap.size + 1 + 1 + 1, 0, none⟩ n old ((((w.alloc (.cells #[.pointer (some t)] 151)).alloc (.cells #[.pointer (some ⟨1, 151, none⟩), .pointer (some ⟨w.heap.size, 0, none⟩), .int .u64 150] 176)).alloc (.cells #[.pointer (some ⟨1, 151, none⟩), .pointer (some ⟨w.heap.size, 0, none⟩), .int .u64 150] 176)).alloc (.cells #[.int .i64 n] 149))
    (by rw [World.cell?_alloc_at _ _ _ _ (by simp)]; rfl)
    (by rw [World.cell?_alloc_lt _ _ t (by simp; omega), World.cell?_alloc_lt _ _ t (by simp; omega), World.cell?_alloc_lt _ _ t (by simp; omega), World.cell?_alloc_lt _ _ t htl]; exact ht0)
    (by rw [World.frozen?_alloc_old _ _ t (by simp; omega), World.frozen?_alloc_old _ _ t (by simp; omega), World.frozen?_alloc_old _ _ t (by simp; omega), World.frozen?_alloc_old _ _ t (Nat.ne_of_lt htl)]; exact hf0)
  go_enter Tryz.func127, Tryz.ntmps127
  go_wp2
  refine wp_loop_rounds 1 ?_
  rw [rounds_succ]
  go_wp2
  go_ret
  exact ⟨rfl, rfl⟩
end

section
open Go.RowKit
/-- A code as an error. -/
def errV (c : Int) : Value := if c = 0 then .nilIface else .iface 149 (.int .i64 c)
theorem errV_zero : errV 0 = .nilIface := rfl
theorem errV_some {c : Int} (h : c ≠ 0) : errV c = .iface 149 (.int .i64 c) := if_neg h
theorem EtCell.keep {w w' : World} (h : EtCell w) (hb : Below w.heap.size w w') : EtCell w' := by
  have hlt : 0 < w.heap.size := by
    rcases Nat.eq_zero_or_pos w.heap.size with h0 | h1
    · have h' : w.cell? ⟨0, 0, none⟩ = _ := h
      simp [World.cell?, h0] at h'
    · exact h1
  exact (hb.cell (p := ⟨0, 0, none⟩) hlt).trans h
set_option maxRecDepth 100000 in
set_option maxHeartbeats 1000000 in
theorem codeOfI (c : Int) (w : World) (hg : EtCell w) :
    Calls Tryz.prog 97 #[errV c] w fun e w' => e = .returned (.int .i64 c) ∧ Below w.heap.size w w' := by
  have B0 : Below w.heap.size w (w.alloc (.cells #[.int .i64 0] 149)) := (Below.refl _ w).alloc (Nat.le_refl _) _
  by_cases h0 : c = 0
  · subst h0
    rw [errV_zero]
    go_enter Tryz.func97, Tryz.ntmps97
    go_wp2_with fail
    (with_reducible refine (as_nil _ _).mono ?_)
    rintro e w1 ⟨rfl, hw⟩
    obtain rfl := hw.symm
    go_wp2
    go_ret
    exact ⟨rfl, B0⟩
  · rw [errV_some h0]
    have z0 := Blk.new w 149 #[.int .i64 0]
    have t0 : (w.alloc (.cells #[.int .i64 0] 149)).cell? ⟨w.heap.size, 0, none⟩ = some (.int .i64 0) := z0.cell 0
    have f0 := z0.frozen 0
    have hA := as_hit c ⟨w.heap.size, 0, none⟩ (.int .i64 0) _ (hg.keep B0) t0 f0
    go_enter Tryz.func97, Tryz.ntmps97
    go_wp2_with fail
    (with_reducible refine hA.mono ?_)
    rintro e w1 ⟨rfl, hw⟩
    obtain ⟨W, hW⟩ : ∃ W, ((((w.alloc (.cells #[.int .i64 0] 149)).alloc (.cells #[.pointer (some ⟨w.heap.size, 0, none⟩)] 151)).alloc (.cells #[.pointer (some ⟨1, 151, none⟩), .pointer (some ⟨(w.alloc (.cells #[.int .i64 0] 149)).heap.size, 0, none⟩), .int .u64 150] 176)).alloc (.cells #[.pointer (some ⟨1, 151, none⟩), .pointer (some ⟨(w.alloc (.cells #[.int .i64 0] 149)).heap.size, 0, none⟩), .int .u64 150] 176)).alloc (.cells #[.int .i64 c] 149) = W := ⟨_, rfl⟩
    rw [hW] at hw
    have BW : Below w.heap.size w W := by
      rw [← hW]
      exact (((B0.alloc B0.size _).alloc (by simp; omega) _).alloc (by simp; omega) _).alloc (by simp; omega) _
    have zW : Blk W w.heap.size 149 #[.int .i64 0] := by
      rw [← hW]
      exact (((z0.alloc _).alloc _).alloc _).alloc _
    have zF := zW.set 0 (.int .i64 c)
    have r0 := zF.cell 0
    simp at r0
    have hgr := gr_setC W w.heap.size 0 (.int .i64 c)
    have hend : Hid (Below w.heap.size w (W.setCell ⟨w.heap.size, 0, none⟩ (.int .i64 c))) := BW.grown hgr BW.size (fun j hj => by simp at hj; omega)
    subst hw
    clear hW hA zW zF hgr BW z0 t0 f0 B0
    go_wp2
    go_ret
    exact ⟨rfl, hend.out⟩
end

section
open Go.RowKit
set_option maxHeartbeats 1600000 in
theorem hasCl (a : Option Addr) (n cap : Nat) (x : Int) (w : World) (_hn : n ≤ 1048576) :
    Calls Tryz.prog 146 #[.slice a n cap, .int .i64 x] w fun e w' => e = .returned (.bool (decide (0 ≤ x) && decide (x < (n : Int)))) ∧ w' = w := by
  go_enter Tryz.func146, Tryz.ntmps146
  by_cases h1 : 0 ≤ x
  · by_cases h2 : x < (n : Int)
    · go_wp2
      go_ret
      exact ⟨by simp [h1, h2], rfl⟩
    · go_wp2
      go_ret
      exact ⟨by simp [h2], rfl⟩
  · go_wp2
    go_ret
    exact ⟨by simp; omega, rfl⟩
/-- What blockToChange refuses. -/
def btcC (fs : List FkR) (x : Int) : Int := if x < 0 ∨ (fs.length : Int) ≤ x then 1 else if ((fs[x.toNat]?).map FkR.bad).getD false then 2 else 0
theorem btcC_in {fs : List FkR} {k : Nat} {f : FkR} (h : fs[k]? = some f) : btcC fs (k : Int) = if f.bad then 2 else 0 := by
  have hl := (List.getElem?_eq_some_iff.1 h).1
  unfold btcC
  rw [if_neg (by omega)]
  simp [h]
set_option maxRecDepth 100000 in
set_option maxHeartbeats 4000000 in
theorem btcI (F G n : Nat) (fs : List FkR) (x : Int) (w0 w : World) (hn : n ≤ 1048576) (h : FO w0 w F G n fs) :
    Calls Tryz.prog 128 #[.pointer (some ⟨F, 0, none⟩), .int .i64 x] w fun e w' => e = .returned (.tuple #[if btcC fs x = 0 then .pointer (some ⟨G, x.toNat * 18, none⟩) else .pointer none, errV (btcC fs x)]) ∧ w' = w := by
  have x0 := h.f.cell 0
  simp at x0
  have hl : fs.length = n := h.g.len
  by_cases hx : 0 ≤ x ∧ x < (n : Int)
  · obtain ⟨k, rfl⟩ : ∃ k : Nat, x = (k : Int) := ⟨x.toNat, by omega⟩
    have hkn : k < n := by omega
    have hki : (k : Int) < (n : Int) := by omega
    have hkk : ¬ (k : Int) < 0 := by omega
    obtain ⟨f, hf⟩ : ∃ f, fs[k]? = some f := ⟨_, List.getElem?_eq_getElem (by omega)⟩
    have c17 : w.cell? ⟨G, k * 18 + 17, none⟩ = some (.bool f.bad) := by
      rw [h.cell hf (by omega)]
      show (pgE.xv f.ps ++ [Value.int .i64 f.wear, Value.bool f.bad])[17]? = _
      rw [List.getElem?_append_right (by rw [xv16]; omega), xv16]
      rfl
    rw [btcC_in hf]
    obtain ⟨bad, hb⟩ : ∃ bad, f.bad = bad := ⟨_, rfl⟩
    rw [hb] at c17 ⊢
    have hcall := hasCl (some ⟨G, 0, none⟩) n n (k : Int) w hn
    rw [show (decide (0 ≤ (k : Int)) && decide ((k : Int) < (n : Int))) = true by simp; omega] at hcall
    clear h hf hb hl hx
    cases bad with
    | true =>
      go_enter Tryz.func128, Tryz.ntmps128
      go_wp2_with fail
      refine hcall.mono ?_
      rintro e w1 ⟨rfl, hw⟩
      obtain rfl := hw.symm
      go_wp2
      refine bodyPost_ret (v := .tuple #[.pointer none, .iface 149 (.int .i64 2)]) (by simp [results, Tryz.f128, go_sem]) rfl ?_
      exact ⟨by simp [errV], rfl⟩
    | false =>
      go_enter Tryz.func128, Tryz.ntmps128
      go_wp2_with fail
      refine hcall.mono ?_
      rintro e w1 ⟨rfl, hw⟩
      obtain rfl := hw.symm
      go_wp2
      refine bodyPost_ret (v := .tuple #[.pointer (some ⟨G, k * 18, none⟩), .nilIface]) (by simp [results, Tryz.f128, go_sem]) rfl ?_
      exact ⟨by simp [errV], rfl⟩
  · have hc : btcC fs x = 1 := by unfold btcC; rw [if_pos (by omega)]
    rw [hc]
    have hcall := hasCl (some ⟨G, 0, none⟩) n n x w hn
    rw [show (decide (0 ≤ x) && decide (x < (n : Int))) = false by rw [← Bool.not_eq_true]; intro h'; simp at h'; exact hx h'] at hcall
    clear h hc hl hx
    go_enter Tryz.func128, Tryz.ntmps128
    go_wp2_with fail
    refine hcall.mono ?_
    rintro e w1 ⟨rfl, hw⟩
    obtain rfl := hw.symm
    go_wp2
    refine bodyPost_ret (v := .tuple #[.pointer none, .iface 149 (.int .i64 1)]) (by simp [results, Tryz.f128, go_sem]) rfl ?_
    exact ⟨by simp [errV], rfl⟩
/-- Pages into a block, from a place on. -/
def FkR.pgs (f : FkR) (j : Nat) : List PgR → FkR
  | [] => f
  | q :: qs => (f.pg j q).pgs (j + 1) qs
theorem set_same {α : Type} {l : List α} {k : Nat} {f : α} (h : l[k]? = some f) : l.set k f = l := by
  refine List.ext_getElem? fun i => ?_
  rw [List.getElem?_set]
  by_cases he : k = i
  · subst he
    rw [if_pos rfl, if_pos (List.getElem?_eq_some_iff.1 h).1, h]
  · rw [if_neg he]
theorem FO.put {w0 : World} {F G n k : Nat} : ∀ (qs : List PgR) (j : Nat) (wr : World) (fs : List FkR) (f : FkR), FO w0 wr F G n fs → fs[k]? = some f → j + qs.length ≤ 8 → FO w0 (wr.setCells G (k * 18 + j * 2) (pgE.xv qs)) F G n (fs.set k (f.pgs j qs))
  | [], j, wr, fs, f, h, hk, _ => by rw [show fs.set k (f.pgs j []) = fs from set_same hk]; exact h
  | q :: qs, j, wr, fs, f, h, hk, hj => by
    have h1 := h.page (p := q) hk (j := j) (by simp at hj; omega) rfl
    have h2 := FO.put qs (j + 1) _ _ _ h1 (get_set hk) (by simp at hj; omega)
    rw [List.set_set, show k * 18 + (j + 1) * 2 = k * 18 + j * 2 + 1 + 1 by omega] at h2
    exact h2
theorem btc_zero {fs : List FkR} {x : Int} (h : btcC fs x = 0) : ∃ (k : Nat) (f : FkR), x = (k : Int) ∧ fs[k]? = some f := by
  unfold btcC at h
  split at h
  · omega
  · obtain ⟨k, rfl⟩ : ∃ k : Nat, x = (k : Int) := ⟨x.toNat, by omega⟩
    exact ⟨k, _, rfl, List.getElem?_eq_getElem (by omega)⟩
end
end Go.Proofs.YtoeeblmnogeonaaGreatDoor
