/-
  Joined: Fresh, ChRd.
-/
import Derived.Test.YtcocjffjhbpoeaaJ10X
import Derived.Test.YtcocjffjhbpoeaaJ14X
namespace Go.Proofs.Ytcocjffjhbpoeaa
section
open Go.RowKit
theorem empty_row (W : World) (B : Nat) (e : TypeId) (s : Nat) (hB : B ≤ W.heap.size) : (W.alloc (.cells #[] e)).ownsRow B e s (.slice (some ⟨W.heap.size, 0, none⟩) 0 0) 0 [] :=
  ⟨by simp, .inr ⟨W.heap.size, 0, #[], rfl, hB, heap_alloc_new W _, Nat.le_refl _, Nat.zero_le _, by simp, by simp⟩⟩
end

section
open Go.RowKit
/-- What is read of a page: nothing, if it is not written. -/
def readD (ds : List BkD) (x y : Int) : Option (List Int) :=
  if 0 ≤ x ∧ 0 ≤ y then (match ds[x.toNat]? with | some b => (match b.ps[y.toNat]? with | some p => if p.used then some p.zs else none | none => none) | none => none) else none
theorem readD_in {bs : List BkR} {k j : Nat} {r : BkR} {p : PgR} (h : bs[k]? = some r) (h2 : r.ps[j]? = some p) : readD (bs.map BkR.D) (k : Int) (j : Int) = if p.used then some p.zs else none := by
  unfold readD
  rw [if_pos (by omega)]
  simp [h, h2, BkR.D, PgR.D]
theorem readD_bk {ds : List BkD} {x y : Int} (h : ¬ (0 ≤ x ∧ x < (ds.length : Int))) : readD ds x y = none := by
  unfold readD
  split
  · rw [List.getElem?_eq_none (by omega)]
  · rfl
theorem readD_pg {bs : List BkR} {k : Nat} {r : BkR} {y : Int} (hb : bs[k]? = some r) (h : ¬ (0 ≤ y ∧ y < (r.ps.length : Int))) : readD (bs.map BkR.D) (k : Int) y = none := by
  unfold readD
  split
  · rename_i hxy
    have : (r.ps.map PgR.D)[y.toNat]? = none := List.getElem?_eq_none (by simp; omega)
    simp [hb, BkR.D]
    rw [List.getElem?_eq_none (by omega)]
    rfl
  · rfl
/-- What was answered: a new list (or nil) and whether it was there. -/
structure RdA (w : World) (o : Option (List Int)) (e : Ending) (w' : World) : Prop where
  ans : ∃ v, e = .returned (.tuple #[v, .bool o.isSome]) ∧ OwnV 0 w' v (o.getD []).length (o.getD []) ∧ ∀ g, v.ownBlock = some g → w.heap.size ≤ g
  bel : Below w.heap.size w w'
theorem ownV_fresh {W : World} : OwnV 0 (W.alloc (.cells #[] 5)) (.slice (some ⟨W.heap.size, 0, none⟩) 0 0) 0 [] := empty_row W 0 5 1 (Nat.zero_le _)
set_option maxRecDepth 100000 in
set_option maxHeartbeats 4000000 in
theorem readI (a : Option Addr) (n cap : Nat) (bs : List BkR) (x y : Int) (w : World) (ht : CR w a n bs) :
    Calls Try.prog 63 #[.agg #[.slice a n cap], .int .i64 x, .int .i64 y] w (RdA w (readD (bs.map BkR.D) x y)) := by
  have B0 : Below w.heap.size w (w.alloc (.cells #[.slice a n cap] 34)) := (Below.refl _ w).alloc (Nat.le_refl _) _
  have hn1 := ht.n
  have hh := hasBk a n cap x (w.alloc (.cells #[.slice a n cap] 34)) hn1
  by_cases hx : 0 ≤ x ∧ x < (n : Int)
  · obtain ⟨k, rfl⟩ : ∃ k : Nat, x = (k : Int) := ⟨x.toNat, by omega⟩
    have hkn : k < n := by omega
    have hki : (k : Int) < (n : Int) := by omega
    have hd : (decide (0 ≤ (k : Int)) && decide ((k : Int) < (n : Int))) = true := by simp [hki]
    rw [hd] at hh
    obtain ⟨b, off, r, rfl, hlt, hrk, x3, hrp, htp⟩ := (ht.keep B0).some hkn
    obtain ⟨x0, x1, x2⟩ := x3
    have hpl := totP_len (r.ps.map PgR.D)
    simp only [List.length_map] at hpl
    have hp := hasPg r.a r.ps.length r.cap y (w.alloc (.cells #[.slice (some ⟨b, off, none⟩) n cap] 34)) (by omega)
    by_cases hy : 0 ≤ y ∧ y < (r.ps.length : Int)
    · obtain ⟨j, rfl⟩ : ∃ j : Nat, y = (j : Int) := ⟨y.toNat, by omega⟩
      have hjn : j < r.ps.length := by omega
      have hd2 : (decide (0 ≤ (j : Int)) && decide ((j : Int) < (r.ps.length : Int))) = true := by simp; omega
      rw [hd2] at hp
      obtain ⟨p, hpj⟩ : ∃ p, r.ps[j]? = some p := ⟨_, List.getElem?_eq_getElem hjn⟩
      have hrd := readD_in hrk hpj
      obtain ⟨b2, off2, ha2, hlt2, hc2⟩ := hrp.lt (by intro h; rw [h] at hpj; simp at hpj)
      obtain ⟨⟨y0, y1⟩, hrz⟩ := hc2 j p hpj
      have htz := totP_at hpj
      rw [ha2] at x0 hp
      have hjl : (j : Int) < (r.ps.length : Int) := by omega
      obtain ⟨n2, hn2⟩ : ∃ n2, r.ps.length = n2 := ⟨_, rfl⟩
      rw [hn2] at x0 hp hjl
      obtain ⟨u, hu⟩ : ∃ u, p.used = u := ⟨_, rfl⟩
      rw [hu] at y0 hrd
      obtain ⟨n3, hn3⟩ : ∃ n3, p.zs.length = n3 := ⟨_, rfl⟩
      rw [hn3] at y1 htz
      have hn3m : n3 ≤ 1048576 := by omega
      have B1 : Below w.heap.size w ((w.alloc (.cells #[.slice (some ⟨b, off, none⟩) n cap] 34)).alloc (.cells #[.bool u, .slice p.a n3 p.cap] 90)) := B0.alloc B0.size _
      have hrz1 := hrz.keep ((Below.refl (w.alloc (.cells #[.slice (some ⟨b, off, none⟩) n cap] 34)).heap.size _).alloc (Nat.le_refl _) (.cells #[.bool u, .slice p.a n3 p.cap] 90))
      have happ := fun ty => app_bytes ((w.alloc (.cells #[.slice (some ⟨b, off, none⟩) n cap] 34)).alloc (.cells #[.bool u, .slice p.a n3 p.cap] 90)) (.slice none 0 0) 0 [] p.a n3 p.cap p.zs hn3 (by omega) (ownV_nil 0 _) hrz1 ty
      have HB : Hid _ := B1
      have HP : Hid _ := happ
      have HZ : Hid (p.zs.length = n3) := hn3
      rw [hrd]
      generalize hGP : RdA w (if u = true then some p.zs else none) = P
      have HGP : Hid _ := hGP
      clear hrd hrk hpj ht B0 B1 hrp hd hd2 hc2 hrz hrz1 happ ha2 hu hn2 hn3 htz hGP htp hpl
      go_enter Try.func63, Try.ntmps63
      go_wp2_with fail
      refine hh.mono ?_
      rintro e w1 ⟨rfl, hw⟩
      obtain rfl := hw.symm
      go_wp2_with fail
      refine hp.mono ?_
      rintro e w1 ⟨rfl, hw⟩
      obtain rfl := hw.symm
      cases u
      · go_wp2
        rw [← HGP.out]
        exact ⟨⟨.slice none 0 0, rfl, ownV_nil 0 _, fun g hg => by simp [Value.ownBlock] at hg⟩, HB.out⟩
      · go_wp2_with (at_builtin; refine wpList_appAny _ rfl (.const (.slice none 0 0)) (.tmp 38) 45 rfl (.slice none 0 0) (.slice p.a n3 p.cap) _ rfl rfl HP.out ?_; intro v' W' hap)
        rw [← HGP.out]
        have hbl := HB.out
        have hz := HZ.out
        refine ⟨⟨v', rfl, ?_, fun g hg => ?_⟩, hbl.trans ((hap.below rfl).mono hbl.size)⟩
        · have := hap.own
          rw [Nat.zero_add, List.nil_append, ← hz] at this
          exact this
        · have h5 := hbl.size
          rcases hap.at_ with h4 | h4
          · rw [hg] at h4; simp [Value.ownBlock] at h4
          · rw [hg] at h4; simp at h4; simp at h5; omega
    · have hd2 : (decide (0 ≤ y) && decide (y < (r.ps.length : Int))) = false := by
        rw [← Bool.not_eq_true]; intro h; simp at h; exact hy h
      rw [hd2] at hp
      have hrd := readD_pg hrk hy
      rw [hrd]
      generalize hGP : RdA w none = P
      have HGP : Hid _ := hGP
      obtain ⟨n2, hn2⟩ : ∃ n2, r.ps.length = n2 := ⟨_, rfl⟩
      rw [hn2] at x0 hp
      clear hrd hrk ht hrp hd hd2 hGP hn2 hy hpl htp
      go_enter Try.func63, Try.ntmps63
      go_wp2_with fail
      refine hh.mono ?_
      rintro e w1 ⟨rfl, hw⟩
      obtain rfl := hw.symm
      go_wp2_with fail
      refine hp.mono ?_
      rintro e w1 ⟨rfl, hw⟩
      obtain rfl := hw.symm
      go_wp2
      rw [← HGP.out]
      exact ⟨⟨.slice none 0 0, rfl, ownV_nil 0 _, fun g hg => by simp [Value.ownBlock] at hg⟩, B0⟩
  · have hd : (decide (0 ≤ x) && decide (x < (n : Int))) = false := by
      rw [← Bool.not_eq_true]; intro h; simp at h; exact hx h
    rw [hd] at hh
    have hrd : readD (bs.map BkR.D) x y = none := readD_bk (by simpa [ht.len] using hx)
    rw [hrd]
    generalize hGP : RdA w none = P
    have HGP : Hid _ := hGP
    clear hrd ht hd hGP hx
    go_enter Try.func63, Try.ntmps63
    go_wp2_with fail
    refine hh.mono ?_
    rintro e w1 ⟨rfl, hw⟩
    obtain rfl := hw.symm
    go_wp2
    rw [← HGP.out]
    exact ⟨⟨.slice none 0 0, rfl, ownV_nil 0 _, fun g hg => by simp [Value.ownBlock] at hg⟩, B0⟩
set_option maxRecDepth 100000 in
set_option maxHeartbeats 4000000 in
theorem readS (a : Option Addr) (n cap : Nat) (bs : List BkR) (x y : Int) (w : World) (ht : CR w a n bs) :
    Calls Try.prog 34 #[.agg #[.slice a n cap], .int .i64 x, .int .i64 y] w (RdA w (readD (bs.map BkR.D) x y)) := by
  have B0 : Below w.heap.size w (w.alloc (.cells #[.slice a n cap] 34)) := (Below.refl _ w).alloc (Nat.le_refl _) _
  have B1 : Below w.heap.size w ((w.alloc (.cells #[.slice a n cap] 34)).alloc (.cells #[] 5)) := B0.alloc B0.size _
  have hn1 := ht.n
  have hno : RdA w none (.returned (.tuple #[.slice (some ⟨w.heap.size + 1, 0, none⟩) 0 0, .bool false])) ((w.alloc (.cells #[.slice a n cap] 34)).alloc (.cells #[] 5)) := by
    refine ⟨⟨_, rfl, ?_, fun g hg => by simp [Value.ownBlock] at hg; omega⟩, B1⟩
    have := ownV_fresh (W := w.alloc (.cells #[.slice a n cap] 34))
    simpa using this
  have HNO : Hid _ := hno
  clear hno
  by_cases hx : 0 ≤ x ∧ x < (n : Int)
  · obtain ⟨k, rfl⟩ : ∃ k : Nat, x = (k : Int) := ⟨x.toNat, by omega⟩
    have hkn : k < n := by omega
    have hki : (k : Int) < (n : Int) := by omega
    have h1 : ¬ (k : Int) < 0 := by omega
    have h2 : ¬ (n : Int) ≤ (k : Int) := by omega
    obtain ⟨b, off, r, rfl, hlt, hrk, x3, hrp, htp⟩ := (ht.keep B0).some hkn
    obtain ⟨x0, x1, x2⟩ := x3
    have hpl := totP_len (r.ps.map PgR.D)
    simp only [List.length_map] at hpl
    by_cases hy : 0 ≤ y ∧ y < (r.ps.length : Int)
    · obtain ⟨j, rfl⟩ : ∃ j : Nat, y = (j : Int) := ⟨y.toNat, by omega⟩
      have hjn : j < r.ps.length := by omega
      have h3 : ¬ (j : Int) < 0 := by omega
      have h4 : ¬ (r.ps.length : Int) ≤ (j : Int) := by omega
      obtain ⟨p, hpj⟩ : ∃ p, r.ps[j]? = some p := ⟨_, List.getElem?_eq_getElem hjn⟩
      have hrd := readD_in hrk hpj
      obtain ⟨b2, off2, ha2, hlt2, hc2⟩ := hrp.lt (by intro h; rw [h] at hpj; simp at hpj)
      obtain ⟨⟨y0, y1⟩, hrz⟩ := hc2 j p hpj
      have htz := totP_at hpj
      rw [ha2] at x0
      have hjl : (j : Int) < (r.ps.length : Int) := by omega
      obtain ⟨n2, hn2⟩ : ∃ n2, r.ps.length = n2 := ⟨_, rfl⟩
      have hn2m : n2 ≤ 1048576 := by omega
      rw [hn2] at x0 hjl h4
      obtain ⟨u, hu⟩ : ∃ u, p.used = u := ⟨_, rfl⟩
      rw [hu] at y0 hrd
      obtain ⟨n3, hn3⟩ : ∃ n3, p.zs.length = n3 := ⟨_, rfl⟩
      rw [hn3] at y1 htz
      have hn3m : n3 ≤ 1048576 := by omega
      have hb2 : Below (w.alloc (.cells #[.slice (some ⟨b, off, none⟩) n cap] 34)).heap.size (w.alloc (.cells #[.slice (some ⟨b, off, none⟩) n cap] 34)) ((w.alloc (.cells #[.slice (some ⟨b, off, none⟩) n cap] 34)).alloc (.cells #[] 5)) := (Below.refl _ _).alloc (Nat.le_refl _) _
      have hrz1 := hrz.keep hb2
      have x0a := (hb2.cell (p := ⟨b, off + k * 3, none⟩) hlt).trans x0
      have y0a := (hb2.cell (p := ⟨b2, off2 + j * 2, none⟩) hlt2).trans y0
      have y1a := (hb2.cell (p := ⟨b2, off2 + j * 2 + 1, none⟩) hlt2).trans y1
      have hof := ownV_fresh (W := w.alloc (.cells #[.slice (some ⟨b, off, none⟩) n cap] 34))
      have hsz : (w.alloc (.cells #[.slice (some ⟨b, off, none⟩) n cap] 34)).heap.size = w.heap.size + 1 := by simp
      rw [hsz] at hof
      have happ := fun ty => app_bytes ((w.alloc (.cells #[.slice (some ⟨b, off, none⟩) n cap] 34)).alloc (.cells #[] 5)) (.slice (some ⟨w.heap.size + 1, 0, none⟩) 0 0) 0 [] p.a n3 p.cap p.zs hn3 (by omega) hof hrz1 ty
      have HB : Hid _ := B1
      have HP : Hid _ := happ
      have HZ : Hid (p.zs.length = n3) := hn3
      rw [hrd]
      generalize hGP : RdA w (if u = true then some p.zs else none) = P
      have HGP : Hid _ := hGP
      clear hrd hrk hpj ht B0 B1 hrp hc2 hrz hrz1 happ ha2 hu hn2 hn3 htz hGP htp hpl hof hb2 hsz
      go_enter Try.func34, Try.ntmps34
      cases u
      · go_wp2
        rw [← HGP.out]
        exact HNO.out
      · go_wp2_with (at_builtin; refine wpList_appAny _ rfl (.tmp 46) (.tmp 56) 45 rfl (.slice (some ⟨w.heap.size + 1, 0, none⟩) 0 0) (.slice p.a n3 p.cap) _ rfl rfl HP.out ?_; intro v' W' hap)
        rw [← HGP.out]
        have hbl := HB.out
        have hz := HZ.out
        have hbl2 : Below w.heap.size w W' := hbl.grown hap.gr hbl.size (by intro g hg; simp [Value.ownBlock] at hg; omega)
        refine ⟨⟨v', rfl, ?_, fun g hg => ?_⟩, hbl2⟩
        · have := hap.own
          rw [Nat.zero_add, List.nil_append, ← hz] at this
          exact this
        · have h5 := hbl.size
          rcases hap.at_ with h4 | h4
          · rw [hg] at h4; simp [Value.ownBlock] at h4; omega
          · rw [hg] at h4; simp at h4; simp at h5; omega
    · have hrd := readD_pg hrk hy
      rw [hrd]
      generalize hGP : RdA w none = P at HNO
      obtain ⟨n2, hn2⟩ : ∃ n2, r.ps.length = n2 := ⟨_, rfl⟩
      have hn2m : n2 ≤ 1048576 := by omega
      rw [hn2] at x0 hy
      clear hrd hrk ht hrp hGP hn2 hpl htp
      by_cases h3 : y < 0
      · go_enter Try.func34, Try.ntmps34
        go_wp2
        exact HNO.out
      · have h4 : (n2 : Int) ≤ y := by omega
        go_enter Try.func34, Try.ntmps34
        go_wp2
        exact HNO.out
  · have hrd : readD (bs.map BkR.D) x y = none := readD_bk (by simpa [ht.len] using hx)
    rw [hrd]
    generalize hGP : RdA w none = P at HNO
    clear hrd ht hGP
    by_cases h3 : x < 0
    · go_enter Try.func34, Try.ntmps34
      go_wp2
      exact HNO.out
    · have h4 : (n : Int) ≤ x := by omega
      go_enter Try.func34, Try.ntmps34
      go_wp2
      exact HNO.out
end
end Go.Proofs.Ytcocjffjhbpoeaa
