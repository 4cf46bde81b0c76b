/-
  Joined: TabM2, FreshM, WrapI, LawC, TruncT.
-/
import Derived.Test.YtmfimoccemgoiaaGreatDoorJ32D
import Derived.Laws.StructEq
import Derived.Laws.BytesString
namespace Go.Proofs.YtmfimoccemgoiaaGreatDoor
section
open Go.RowKit
theorem find_set {α : Type} (q : α → Bool) (D : α) (hD : q D = false) : ∀ (l : List α) (p : Nat), (∀ E, l[p]? = some E → q E = false) → (l.set p D).find? q = l.find? q
  | [], _, _ => rfl
  | x :: l, 0, h => by
    have := h x rfl
    simp [hD, this]
  | x :: l, p + 1, h => by
    rw [List.set_cons_succ, List.find?_cons, List.find?_cons, find_set q D hD l p (fun E hE => h E (by simpa using hE))]
theorem find_set_self {α : Type} (q : α → Bool) (D : α) (hD : q D = true) : ∀ (l : List α) (p : Nat), p < l.length → (∀ j E, j < p → l[j]? = some E → q E = false) → (l.set p D).find? q = some D
  | [], _, h, _ => by simp at h
  | x :: l, 0, _, _ => by simp [hD]
  | x :: l, p + 1, h, k => by
    have hx := k 0 x (by omega) rfl
    rw [List.set_cons_succ, List.find?_cons, hx]
    exact find_set_self q D hD l p (by simpa using h) (fun j E hj hE => k (j + 1) E (by omega) (by simpa using hE))
theorem setD_form (ds : List InoD) (D : InoD) : (∃ p, p < ds.length ∧ setD ds D = ds.set p D ∧ (∀ E, ds[p]? = some E → E.ino = D.ino) ∧ ∀ j E, j < p → ds[j]? = some E → E.ino ≠ D.ino) ∨ (∃ k, setD ds D = ds.take k ++ D :: ds.drop k) ∧ ∀ E ∈ ds, E.ino ≠ D.ino := by
  unfold setD
  have hi : inos (ds.map lift) = ds.map InoD.ino := by unfold inos; rw [List.map_map]; rfl
  cases hf : firstAt (inos (ds.map lift)) (lift D).D.ino with
  | some p =>
    left
    rw [setR_some hf]
    rw [hi] at hf
    obtain ⟨hl, hp, hj⟩ := List.findIdx?_eq_some_iff_getElem.1 hf
    have hl' : p < ds.length := by simpa using hl
    refine ⟨p, hl', ?_, ?_, ?_⟩
    · rw [List.map_set, lift_map]; rfl
    · intro E hE
      have : (ds.map InoD.ino)[p]? = some E.ino := by rw [List.getElem?_map, hE]; rfl
      rw [(List.getElem?_eq_some_iff.1 this).2] at hp
      simpa [lift] using hp
    · intro j E hjp hE
      have h1 : (ds.map InoD.ino)[j]? = some E.ino := by rw [List.getElem?_map, hE]; rfl
      have h2 := hj j hjp
      rw [(List.getElem?_eq_some_iff.1 h1).2] at h2
      simpa [lift] using h2
  | none =>
    right
    rw [setR_none hf]
    refine ⟨⟨placeOf (ds.map lift) (lift D).D.ino, ?_⟩, fun E hE he => ?_⟩
    · unfold putAt
      simp only [List.map_append, List.map_cons, List.map_take, List.map_drop, lift_map]
      rfl
    · rw [hi] at hf
      have := List.findIdx?_eq_none_iff.1 hf E.ino (List.mem_map_of_mem hE)
      have he' : E.ino = (lift D).D.ino := he
      rw [he'] at this
      simp at this
theorem look_setD (ds : List InoD) (D : InoD) (y : Int) : look (setD ds D) y = if y = D.ino then some D else look ds y := by
  unfold look
  rcases setD_form ds D with ⟨p, hp, e, h1, h2⟩ | ⟨⟨k, e⟩, h⟩
  · rw [e]
    split
    · rename_i hy
      subst hy
      exact find_set_self _ D (by simp) ds p hp (fun j E hj hE => by simpa using h2 j E hj hE)
    · rename_i hy
      refine find_set _ D (by simpa using fun e => hy e.symm) ds p (fun E hE => ?_)
      have := h1 E hE
      rw [this]
      simpa using fun e => hy e.symm
  · rw [e]
    split
    · rename_i hy
      subst hy
      have h0 : (ds.take k).find? (fun E => E.ino == D.ino) = none := List.find?_eq_none.2 (fun E hE => by simpa using h E (List.mem_of_mem_take hE))
      rw [List.find?_append, h0]
      simp
    · rename_i hy
      have hn : (D.ino == y) = false := by simpa using fun e => hy e.symm
      rw [List.find?_append, List.find?_cons, hn]
      rw [show ds.find? (fun E => E.ino == y) = (ds.take k ++ ds.drop k).find? (fun E => E.ino == y) by rw [List.take_append_drop], List.find?_append]
end

section
open Go.RowKit
theorem entOf_in {nm : ByteArray} : ∀ {es : List (ByteArray × Int)}, entOf nm es ≠ 0 → ∃ q ∈ es, q.2 = entOf nm es
  | [], h => absurd rfl h
  | q :: es, h => by
    unfold entOf at h ⊢
    by_cases hq : q.1 = nm
    · rw [if_pos hq]
      exact ⟨q, List.mem_cons_self .., rfl⟩
    · rw [if_neg hq] at h ⊢
      obtain ⟨p, hp, he⟩ := entOf_in h
      exact ⟨p, List.mem_cons_of_mem _ hp, he⟩
theorem walkD_new {ds : List InoD} {N : InoD} (hN : look ds N.ino = none) (hE : ∀ D ∈ ds, ∀ e ∈ D.ents, (look ds e.2).isSome = true) : ∀ (l : List ByteArray) (x : Int), x ≠ N.ino → walkD (setD ds N) x l = walkD ds x l
  | [], x, _ => rfl
  | nm :: l, x, hx => by
    unfold walkD
    rw [look_setD, if_neg hx]
    cases hl : look ds x with
    | none => rfl
    | some D =>
      dsimp only
      by_cases hk : D.kind = 2
      · rw [if_pos hk, if_pos hk]
        by_cases h0 : entOf nm D.ents = 0
        · rw [if_pos h0, if_pos h0]
        · rw [if_neg h0, if_neg h0]
          refine walkD_new hN hE l _ fun e => ?_
          obtain ⟨q, hq, hq2⟩ : ∃ q ∈ D.ents, q.2 = entOf nm D.ents := entOf_in h0
          have h1 := hE D (look_mem hl).1 q hq
          rw [hq2, e, hN] at h1
          cases h1
      · rw [if_neg hk, if_neg hk]
theorem walkD_end {ds : List InoD} {N : InoD} (hN : look ds N.ino = none) (hE : ∀ D ∈ ds, ∀ e ∈ D.ents, (look ds e.2).isSome = true) : ∀ (l : List ByteArray) (x : Int), x ≠ N.ino → 0 ≠ N.ino → (walkD ds x l).1 ≠ N.ino
  | [], x, hx, _ => hx
  | nm :: l, x, hx, hz => by
    unfold walkD
    cases hl : look ds x with
    | none => exact hz
    | some D =>
      dsimp only
      by_cases hk : D.kind = 2
      · rw [if_pos hk]
        by_cases h0 : entOf nm D.ents = 0
        · rw [if_pos h0]
          exact hz
        · rw [if_neg h0]
          refine walkD_end hN hE l _ (fun e => ?_) hz
          obtain ⟨q, hq, hq2⟩ : ∃ q ∈ D.ents, q.2 = entOf nm D.ents := entOf_in h0
          have h1 := hE D (look_mem hl).1 q hq
          rw [hq2, e, hN] at h1
          cases h1
      · rw [if_neg hk]
        exact hz
theorem statD_new {ds : List InoD} {N : InoD} (hN : look ds N.ino = none) (hE : ∀ D ∈ ds, ∀ e ∈ D.ents, (look ds e.2).isSome = true) (h1 : N.ino ≠ 1) (h0 : N.ino ≠ 0) (s : ByteArray) : statD (setD ds N) s = statD ds s := by
  have hw : walkP (setD ds N) s = walkP ds s := by
    unfold walkP
    cases splitOf s.data.toList with
    | none => rfl
    | some l => exact walkD_new hN hE _ 1 (Ne.symm h1)
  have he : (walkP ds s).1 ≠ N.ino := by
    unfold walkP
    cases splitOf s.data.toList with
    | none => exact Ne.symm h0
    | some l => exact walkD_end hN hE _ 1 (Ne.symm h1) (Ne.symm h0)
  unfold statD
  rw [hw, look_setD, if_neg he]
theorem badK_new {ds : List InoD} {N : InoD} (hN : look ds N.ino = none) (hE : ∀ D ∈ ds, ∀ e ∈ D.ents, (look ds e.2).isSome = true) (h1 : N.ino ≠ 1) (h0 : N.ino ≠ 0) (k : Int) (s : ByteArray) : badK k (setD ds N) s = badK k ds s := by
  unfold badK
  rw [statD_new hN hE h1 h0]
theorem set_new {ds : List InoD} {N : InoD} (h : ∀ E ∈ ds, E.ino < N.ino) : setD ds N = ds ++ [N] := by
  unfold setD
  have hf : firstAt (inos (ds.map lift)) (lift N).D.ino = none := by
    unfold firstAt inos
    rw [List.findIdx?_eq_none_iff]
    intro x hx
    rw [List.map_map] at hx
    obtain ⟨E, hE, rfl⟩ := List.mem_map.1 hx
    have h1 := h E hE
    have h2 : E.ino ≠ N.ino := by omega
    simpa [lift] using h2
  rw [setR_none hf]
  have hp : placeOf (ds.map lift) (lift N).D.ino = (ds.map lift).length := placeOf_end fun j q hj => by
    have hm := List.mem_of_getElem? hj
    obtain ⟨E, hE, rfl⟩ := List.mem_map.1 hm
    have h1 := h E hE
    show ¬ N.ino < E.ino
    omega
  rw [hp]
  unfold putAt
  simp only [List.take_length, List.drop_length, List.map_append, List.map_cons, List.map_nil, lift_map]
  rfl
theorem set_there {ds : List InoD} {D' : InoD} (h : ∃ E ∈ ds, E.ino = D'.ino) : ∃ p, p < ds.length ∧ setD ds D' = ds.set p D' ∧ (∀ E, ds[p]? = some E → E.ino = D'.ino) ∧ ∀ j E, j < p → ds[j]? = some E → E.ino ≠ D'.ino := by
  rcases setD_form ds D' with h1 | ⟨_, h2⟩
  · exact h1
  · obtain ⟨E, hE, he⟩ := h
    exact absurd he (h2 E hE)
theorem set_two {ds : List InoD} {N D' : InoD} (hN : ∀ E ∈ ds, E.ino < N.ino) (hD : ∃ E ∈ ds, E.ino = D'.ino) : setD (setD ds N) D' = setD (setD ds D') N := by
  obtain ⟨p, hp, e1, e2, e3⟩ := set_there hD
  have hlt : D'.ino < N.ino := by obtain ⟨E, hE, he⟩ := hD; have := hN E hE; omega
  rw [set_new hN, e1, set_new (ds := ds.set p D') (N := N) (fun E hE => by
    rcases List.mem_or_eq_of_mem_set hE with h | rfl
    · exact hN E h
    · exact hlt)]
  obtain ⟨q, hq, f1, f2, f3⟩ := set_there (ds := ds ++ [N]) (D' := D') (by obtain ⟨E, hE, he⟩ := hD; exact ⟨E, List.mem_append_left _ hE, he⟩)
  have hqp : q = p := by
    rcases Nat.lt_trichotomy q p with h | h | h
    · have hql : q < ds.length := by omega
      have h1 := f2 ds[q] (by rw [List.getElem?_append_left hql]; exact List.getElem?_eq_getElem hql)
      exact absurd h1 (e3 q ds[q] h (List.getElem?_eq_getElem hql))
    · exact h
    · have h1 := e2 ds[p] (List.getElem?_eq_getElem hp)
      exact absurd h1 (f3 p ds[p] h (by rw [List.getElem?_append_left hp]; exact List.getElem?_eq_getElem hp))
  subst hqp
  rw [f1, List.set_append_left _ _ hp]
end

section
open Go.RowKit
theorem tabC_box {w W V : World} {nx : Int} {ds : List InoD} {c : Int} {e : Ending} {R : Nat} {u0 u1 : Value} (h : TabC W nx ds c e V) (hb : Below w.heap.size w W) (hR : w.heap.size ≤ R) (hz : Blk W R 28 #[u0, u1]) : ∃ (a : Option Addr) (m cc : Nat), e = .returned (.tuple #[.agg #[.slice a m cc, .int .i64 nx], .int .i64 c]) ∧ Blk V R 28 #[u0, u1] ∧ TabC w nx ds c (.returned (.tuple #[.agg #[.slice a m cc, .int .i64 nx], .int .i64 c])) ((V.setCell ⟨R, 0, none⟩ (.slice a m cc)).setCell ⟨R, 1, none⟩ (.int .i64 nx)) := by
  obtain ⟨a, cc, js, rfl, hq, hbV⟩ := h
  have := hq.boxed (hb.trans (hbV.mono hb.size)) hR hz.lt (.slice a js.length cc) (.int .i64 nx)
  exact ⟨a, js.length, cc, rfl, hz.keep hbV, a, cc, js, rfl, this.1, this.2⟩
set_option maxRecDepth 100000 in
set_option maxHeartbeats 4000000 in
theorem wrap_MakeDir (a : Option Addr) (n cap : Nat) (nx : Int) (s : ByteArray) (w : World) (N : Int) (D : List InoD) (C : Int)
    (hc : ∀ W : World, Below w.heap.size w W → Calls Tryz.prog 61 #[.agg #[.slice a n cap, .int .i64 nx], .int .i64 0, .agg #[.string s, .string ⟨#[]⟩, .int .i64 0, .slice none 0 0, .string ⟨#[]⟩, .string ⟨#[]⟩]] W fun e w' => TabC W N D C e w') :
    Calls Tryz.prog 18 #[.agg #[.slice a n cap, .int .i64 nx], .string s] w fun e w' => TabC w N D C e w' := by
  have B0 : Below w.heap.size w ((w.alloc (.cells #[.slice a n cap, .int .i64 nx] 28)).alloc (.cells #[.slice none 0 0, .int .i64 0] 28)) := ((Below.refl _ w).alloc (Nat.le_refl _) _).alloc (by simp) _
  have zR := Blk.new (w.alloc (.cells #[.slice a n cap, .int .i64 nx] 28)) 28 #[.slice none 0 0, .int .i64 0]
  simp only [World.size_alloc] at zR
  go_enter Tryz.func18, Tryz.ntmps18
  go_wp2_with fail
  obtain ⟨W0, hW0⟩ : ∃ W, ((w.alloc (.cells #[.slice a n cap, .int .i64 nx] 28)).alloc (.cells #[.slice none 0 0, .int .i64 0] 28)) = W := ⟨_, rfl⟩
  rw [hW0] at B0 zR ⊢
  clear hW0
  (with_reducible refine (hc W0 B0).mono ?_)
  intro e w2 hp
  obtain ⟨ra, rn, rc, rfl, zz, hfin⟩ := tabC_box hp B0 (by omega) zR
  have HFIN : Hid (TabC w N D C (.returned (.tuple #[.agg #[.slice ra rn rc, .int .i64 N], .int .i64 C])) ((w2.setCell ⟨w.heap.size + 1, 0, none⟩ (.slice ra rn rc)).setCell ⟨w.heap.size + 1, 1, none⟩ (.int .i64 N))) := hfin
  have r0 := zz.cell 0
  have r1 := zz.cell 1
  have f0 := zz.frozen 0
  have f1 := zz.frozen 1
  simp at r0 r1
  have zf := blk2 zz (.slice ra rn rc) (.int .i64 N)
  have dd0 := zf.cell 0
  have dd1 := zf.cell 1
  simp at dd0 dd1
  clear hp hfin zf zz zR B0 hc
  go_wp2
  refine bodyPost_ret (v := .tuple #[.agg #[.slice ra rn rc, .int .i64 N], .int .i64 C]) (by simp [results, Tryz.f18, go_sem, dd0, dd1]) rfl ?_
  exact HFIN.out
set_option maxRecDepth 100000 in
set_option maxHeartbeats 4000000 in
theorem wrap_MakeFile (a : Option Addr) (n cap : Nat) (nx : Int) (s : ByteArray) (w : World) (N : Int) (D : List InoD) (C : Int)
    (hc : ∀ W : World, Below w.heap.size w W → Calls Tryz.prog 61 #[.agg #[.slice a n cap, .int .i64 nx], .int .i64 1, .agg #[.string s, .string ⟨#[]⟩, .int .i64 0, .slice none 0 0, .string ⟨#[]⟩, .string ⟨#[]⟩]] W fun e w' => TabC W N D C e w') :
    Calls Tryz.prog 23 #[.agg #[.slice a n cap, .int .i64 nx], .string s] w fun e w' => TabC w N D C e w' := by
  have B0 : Below w.heap.size w ((w.alloc (.cells #[.slice a n cap, .int .i64 nx] 28)).alloc (.cells #[.slice none 0 0, .int .i64 0] 28)) := ((Below.refl _ w).alloc (Nat.le_refl _) _).alloc (by simp) _
  have zR := Blk.new (w.alloc (.cells #[.slice a n cap, .int .i64 nx] 28)) 28 #[.slice none 0 0, .int .i64 0]
  simp only [World.size_alloc] at zR
  go_enter Tryz.func23, Tryz.ntmps23
  go_wp2_with fail
  obtain ⟨W0, hW0⟩ : ∃ W, ((w.alloc (.cells #[.slice a n cap, .int .i64 nx] 28)).alloc (.cells #[.slice none 0 0, .int .i64 0] 28)) = W := ⟨_, rfl⟩
  rw [hW0] at B0 zR ⊢
  clear hW0
  (with_reducible refine (hc W0 B0).mono ?_)
  intro e w2 hp
  obtain ⟨ra, rn, rc, rfl, zz, hfin⟩ := tabC_box hp B0 (by omega) zR
  have HFIN : Hid (TabC w N D C (.returned (.tuple #[.agg #[.slice ra rn rc, .int .i64 N], .int .i64 C])) ((w2.setCell ⟨w.heap.size + 1, 0, none⟩ (.slice ra rn rc)).setCell ⟨w.heap.size + 1, 1, none⟩ (.int .i64 N))) := hfin
  have r0 := zz.cell 0
  have r1 := zz.cell 1
  have f0 := zz.frozen 0
  have f1 := zz.frozen 1
  simp at r0 r1
  have zf := blk2 zz (.slice ra rn rc) (.int .i64 N)
  have dd0 := zf.cell 0
  have dd1 := zf.cell 1
  simp at dd0 dd1
  clear hp hfin zf zz zR B0 hc
  go_wp2
  refine bodyPost_ret (v := .tuple #[.agg #[.slice ra rn rc, .int .i64 N], .int .i64 C]) (by simp [results, Tryz.f23, go_sem, dd0, dd1]) rfl ?_
  exact HFIN.out
set_option maxRecDepth 100000 in
set_option maxHeartbeats 4000000 in
theorem wrap_Unlink (a : Option Addr) (n cap : Nat) (nx : Int) (s : ByteArray) (w : World) (N : Int) (D : List InoD) (C : Int)
    (hc : ∀ W : World, Below w.heap.size w W → Calls Tryz.prog 61 #[.agg #[.slice a n cap, .int .i64 nx], .int .i64 4, .agg #[.string s, .string ⟨#[]⟩, .int .i64 0, .slice none 0 0, .string ⟨#[]⟩, .string ⟨#[]⟩]] W fun e w' => TabC W N D C e w') :
    Calls Tryz.prog 30 #[.agg #[.slice a n cap, .int .i64 nx], .string s] w fun e w' => TabC w N D C e w' := by
  have B0 : Below w.heap.size w ((w.alloc (.cells #[.slice a n cap, .int .i64 nx] 28)).alloc (.cells #[.slice none 0 0, .int .i64 0] 28)) := ((Below.refl _ w).alloc (Nat.le_refl _) _).alloc (by simp) _
  have zR := Blk.new (w.alloc (.cells #[.slice a n cap, .int .i64 nx] 28)) 28 #[.slice none 0 0, .int .i64 0]
  simp only [World.size_alloc] at zR
  go_enter Tryz.func30, Tryz.ntmps30
  go_wp2_with fail
  obtain ⟨W0, hW0⟩ : ∃ W, ((w.alloc (.cells #[.slice a n cap, .int .i64 nx] 28)).alloc (.cells #[.slice none 0 0, .int .i64 0] 28)) = W := ⟨_, rfl⟩
  rw [hW0] at B0 zR ⊢
  clear hW0
  (with_reducible refine (hc W0 B0).mono ?_)
  intro e w2 hp
  obtain ⟨ra, rn, rc, rfl, zz, hfin⟩ := tabC_box hp B0 (by omega) zR
  have HFIN : Hid (TabC w N D C (.returned (.tuple #[.agg #[.slice ra rn rc, .int .i64 N], .int .i64 C])) ((w2.setCell ⟨w.heap.size + 1, 0, none⟩ (.slice ra rn rc)).setCell ⟨w.heap.size + 1, 1, none⟩ (.int .i64 N))) := hfin
  have r0 := zz.cell 0
  have r1 := zz.cell 1
  have f0 := zz.frozen 0
  have f1 := zz.frozen 1
  simp at r0 r1
  have zf := blk2 zz (.slice ra rn rc) (.int .i64 N)
  have dd0 := zf.cell 0
  have dd1 := zf.cell 1
  simp at dd0 dd1
  clear hp hfin zf zz zR B0 hc
  go_wp2
  refine bodyPost_ret (v := .tuple #[.agg #[.slice ra rn rc, .int .i64 N], .int .i64 C]) (by simp [results, Tryz.f30, go_sem, dd0, dd1]) rfl ?_
  exact HFIN.out
set_option maxRecDepth 100000 in
set_option maxHeartbeats 4000000 in
theorem wrap_HardLink (a : Option Addr) (n cap : Nat) (nx : Int) (s tt : ByteArray) (w : World) (N : Int) (D : List InoD) (C : Int)
    (hc : ∀ W : World, Below w.heap.size w W → Calls Tryz.prog 61 #[.agg #[.slice a n cap, .int .i64 nx], .int .i64 6, .agg #[.string s, .string tt, .int .i64 0, .slice none 0 0, .string ⟨#[]⟩, .string ⟨#[]⟩]] W fun e w' => TabC W N D C e w') :
    Calls Tryz.prog 25 #[.agg #[.slice a n cap, .int .i64 nx], .string s, .string tt] w fun e w' => TabC w N D C e w' := by
  have B0 : Below w.heap.size w ((w.alloc (.cells #[.slice a n cap, .int .i64 nx] 28)).alloc (.cells #[.slice none 0 0, .int .i64 0] 28)) := ((Below.refl _ w).alloc (Nat.le_refl _) _).alloc (by simp) _
  have zR := Blk.new (w.alloc (.cells #[.slice a n cap, .int .i64 nx] 28)) 28 #[.slice none 0 0, .int .i64 0]
  simp only [World.size_alloc] at zR
  go_enter Tryz.func25, Tryz.ntmps25
  go_wp2_with fail
  obtain ⟨W0, hW0⟩ : ∃ W, ((w.alloc (.cells #[.slice a n cap, .int .i64 nx] 28)).alloc (.cells #[.slice none 0 0, .int .i64 0] 28)) = W := ⟨_, rfl⟩
  rw [hW0] at B0 zR ⊢
  clear hW0
  (with_reducible refine (hc W0 B0).mono ?_)
  intro e w2 hp
  obtain ⟨ra, rn, rc, rfl, zz, hfin⟩ := tabC_box hp B0 (by omega) zR
  have HFIN : Hid (TabC w N D C (.returned (.tuple #[.agg #[.slice ra rn rc, .int .i64 N], .int .i64 C])) ((w2.setCell ⟨w.heap.size + 1, 0, none⟩ (.slice ra rn rc)).setCell ⟨w.heap.size + 1, 1, none⟩ (.int .i64 N))) := hfin
  have r0 := zz.cell 0
  have r1 := zz.cell 1
  have f0 := zz.frozen 0
  have f1 := zz.frozen 1
  simp at r0 r1
  have zf := blk2 zz (.slice ra rn rc) (.int .i64 N)
  have dd0 := zf.cell 0
  have dd1 := zf.cell 1
  simp at dd0 dd1
  clear hp hfin zf zz zR B0 hc
  go_wp2
  refine bodyPost_ret (v := .tuple #[.agg #[.slice ra rn rc, .int .i64 N], .int .i64 C]) (by simp [results, Tryz.f25, go_sem, dd0, dd1]) rfl ?_
  exact HFIN.out
set_option maxRecDepth 100000 in
set_option maxHeartbeats 4000000 in
theorem wrap_Rename (a : Option Addr) (n cap : Nat) (nx : Int) (s tt : ByteArray) (w : World) (N : Int) (D : List InoD) (C : Int)
    (hc : ∀ W : World, Below w.heap.size w W → Calls Tryz.prog 61 #[.agg #[.slice a n cap, .int .i64 nx], .int .i64 7, .agg #[.string s, .string tt, .int .i64 0, .slice none 0 0, .string ⟨#[]⟩, .string ⟨#[]⟩]] W fun e w' => TabC W N D C e w') :
    Calls Tryz.prog 27 #[.agg #[.slice a n cap, .int .i64 nx], .string s, .string tt] w fun e w' => TabC w N D C e w' := by
  have B0 : Below w.heap.size w ((w.alloc (.cells #[.slice a n cap, .int .i64 nx] 28)).alloc (.cells #[.slice none 0 0, .int .i64 0] 28)) := ((Below.refl _ w).alloc (Nat.le_refl _) _).alloc (by simp) _
  have zR := Blk.new (w.alloc (.cells #[.slice a n cap, .int .i64 nx] 28)) 28 #[.slice none 0 0, .int .i64 0]
  simp only [World.size_alloc] at zR
  go_enter Tryz.func27, Tryz.ntmps27
  go_wp2_with fail
  obtain ⟨W0, hW0⟩ : ∃ W, ((w.alloc (.cells #[.slice a n cap, .int .i64 nx] 28)).alloc (.cells #[.slice none 0 0, .int .i64 0] 28)) = W := ⟨_, rfl⟩
  rw [hW0] at B0 zR ⊢
  clear hW0
  (with_reducible refine (hc W0 B0).mono ?_)
  intro e w2 hp
  obtain ⟨ra, rn, rc, rfl, zz, hfin⟩ := tabC_box hp B0 (by omega) zR
  have HFIN : Hid (TabC w N D C (.returned (.tuple #[.agg #[.slice ra rn rc, .int .i64 N], .int .i64 C])) ((w2.setCell ⟨w.heap.size + 1, 0, none⟩ (.slice ra rn rc)).setCell ⟨w.heap.size + 1, 1, none⟩ (.int .i64 N))) := hfin
  have r0 := zz.cell 0
  have r1 := zz.cell 1
  have f0 := zz.frozen 0
  have f1 := zz.frozen 1
  simp at r0 r1
  have zf := blk2 zz (.slice ra rn rc) (.int .i64 N)
  have dd0 := zf.cell 0
  have dd1 := zf.cell 1
  simp at dd0 dd1
  clear hp hfin zf zz zR B0 hc
  go_wp2
  refine bodyPost_ret (v := .tuple #[.agg #[.slice ra rn rc, .int .i64 N], .int .i64 C]) (by simp [results, Tryz.f27, go_sem, dd0, dd1]) rfl ?_
  exact HFIN.out
end

section
open Go.RowKit
theorem setD_memC {ds : List InoD} {D E : InoD} (h : E ∈ setD ds D) : E = D ∨ E ∈ ds := by
  unfold setD at h
  obtain ⟨r, hr, rfl⟩ := List.mem_map.1 h
  unfold setR at hr
  split at hr
  · rename_i p hp
    rcases List.mem_or_eq_of_mem_set hr with h1 | h1
    · obtain ⟨E, hE, rfl⟩ := List.mem_map.1 h1
      exact .inr hE
    · exact .inl (by rw [h1]; rfl)
  · unfold putAt at hr
    rcases List.mem_append.1 hr with h1 | h1
    · obtain ⟨E, hE, rfl⟩ := List.mem_map.1 (List.mem_of_mem_take h1)
      exact .inr hE
    · rcases List.mem_cons.1 h1 with h1 | h1
      · exact .inl (by rw [h1]; rfl)
      · obtain ⟨E, hE, rfl⟩ := List.mem_map.1 (List.mem_of_mem_drop h1)
        exact .inr hE
theorem setD_lenC (ds : List InoD) (D : InoD) : (setD ds D).length ≤ ds.length + 1 := by
  unfold setD
  rw [List.length_map]
  unfold setR
  split
  · simp
  · rw [putAt_len _ _ _ (placeOf_le _ _)]
    simp
end

section
open Go.RowKit
theorem stat_form {ds : List InoD} {s : ByteArray} (h : (splitOf s.data.toList).isSome = false) : (statD ds s).2 = 1 := by
  have h0 : splitOf s.data.toList = none := by simpa using h
  unfold statD walkP
  rw [h0]
  rfl
theorem file_form {ds : List InoD} {s : ByteArray} (h : (splitOf s.data.toList).isSome = false) : (fileD ds s).2 = 1 := by
  have h1 := stat_form (ds := ds) h
  unfold fileD
  rw [h1, if_neg (by simp)]
  exact h1
theorem stat_in {ds : List InoD} {s : ByteArray} (h : (statD ds s).2 = 0) : (statD ds s).1 ∈ ds := by
  revert h
  unfold statD
  split
  · split
    · intro h; simp at h
    · rename_i D hD
      intro _
      exact (look_mem hD).1
  · rename_i hc
    intro h
    exact absurd h hc
end
end Go.Proofs.YtmfimoccemgoiaaGreatDoor
