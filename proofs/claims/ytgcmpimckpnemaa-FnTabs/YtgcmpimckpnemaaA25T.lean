/-
  Joined: FnT4, FnTW.
-/
import Derived.Test.YtgcmpimckpnemaaA22T
import Derived.Test.YtgcmpimckpnemaaA23T
import Derived.Test.YtgcmpimckpnemaaA24T
import Derived.Deep.CutRange
namespace Go.Proofs.Ytgcmpimckpnemaa
section
open Go.RowKit
theorem wf_num {x : Int} (h : 0 ≤ x ∧ x ≤ 1001) : (Lit.int .i64 x).wf = true := by
  obtain ⟨k, rfl⟩ : ∃ k : Nat, x = (k : Int) := ⟨x.toNat, by omega⟩
  exact WalkArith.wf_i64 (by omega)
/-- A table that can be read, of few inodes with small numbers. -/
structure NT (W : World) (a : Option Addr) (n : Nat) (ds : List InoD) : Prop where
  ex : ∃ rs, TR W a n rs ∧ rs.map InoR.D = ds
  len : ds.length ≤ 100
  num : ∀ D ∈ ds, 0 ≤ D.ino ∧ D.ino ≤ 1001
  small : ∀ D ∈ ds, InoSmall D
theorem NT.keep {W W' : World} {a : Option Addr} {n : Nat} {ds : List InoD} (h : NT W a n ds) (hb : Below W.heap.size W W') : NT W' a n ds := by
  obtain ⟨rs, ht, e⟩ := h.ex
  exact ⟨⟨rs, ht.keep hb, e⟩, h.len, h.num, h.small⟩
theorem NT.wf {ds : List InoD} {rs : List InoR} (hn : ∀ D ∈ ds, 0 ≤ D.ino ∧ D.ino ≤ 1001) (e : rs.map InoR.D = ds) : ∀ r ∈ rs, (Lit.int .i64 r.D.ino).wf = true := fun r hr => wf_num (hn r.D (by rw [← e]; exact List.mem_map_of_mem hr))
/-- A table is answered. -/
def TabN (w : World) (nx : Int) (ds : List InoD) (e : Ending) (w' : World) : Prop := ∃ (a : Option Addr) (n c : Nat), e = .returned (.agg #[.slice a n c, .int .i64 nx]) ∧ NT w' a n ds ∧ Below w.heap.size w w'
theorem TabAt.tabN {w w' : World} {nx : Int} {ds : List InoD} {v : Value} (h : TabAt w nx ds v w') (hl : ds.length ≤ 100) (hn : ∀ D ∈ ds, 0 ≤ D.ino ∧ D.ino ≤ 1001) (hs : ∀ D ∈ ds, InoSmall D) : TabN w nx ds (.returned v) w' := by
  obtain ⟨a, n, c, rs, rfl, ht, e, hb⟩ := h.tr hs (by omega)
  exact ⟨a, n, c, rfl, ⟨⟨rs, ht, e⟩, hl, hn, hs⟩, hb⟩
theorem setD_num {ds : List InoD} {D : InoD} (h : ∀ E ∈ ds, 0 ≤ E.ino ∧ E.ino ≤ 1001) (hD : 0 ≤ D.ino ∧ D.ino ≤ 1001) : ∀ E ∈ setD ds D, 0 ≤ E.ino ∧ E.ino ≤ 1001 := fun E hE => by
  rcases setD_mem hE with hE | rfl
  · exact h E hE
  · exact hD
theorem nSet (a : Option Addr) (n cap : Nat) (nx : Int) (ds : List InoD) (D : InoD) (a1 a2 a3 : Option Addr) (c1 c2 c3 : Nat) (w : World) (h : NT w a n ds) (hl : ds.length ≤ 99) (hsx : InoSmall D) (hnx : 0 ≤ D.ino ∧ D.ino ≤ 1001) (hx : InoRd w D a1 a2 a3) :
    Calls Try.prog 9 #[.agg #[.slice a n cap, .int .i64 nx], .agg #[.int .i64 D.ino, .int .i64 D.kind, .int .i64 D.links, .slice a1 D.data.length c1, .slice a2 D.ents.length c2, .slice a3 D.attrs.length c3]] w fun e w' => TabN w nx (setD ds D) e w' := by
  obtain ⟨rs, ht, e⟩ := h.ex
  refine (setI a n cap nx rs D a1 a2 a3 c1 c2 c3 w ht.len ht.n (wf_num hnx) (NT.wf h.num e) ht.small hsx ht.rd hx).mono fun e' w' hp => ?_
  obtain ⟨v, rfl, hv⟩ := SetPost.tab hp
  rw [setD_eq, e] at hv
  have hv : TabAt w nx (setD ds D) v w' := hv
  exact hv.tabN (by have := setD_len ds D; omega) (setD_num h.num hnx) (setD_small h.small hsx)
theorem nSetS (a : Option Addr) (n cap : Nat) (nx : Int) (ds : List InoD) (D : InoD) (a1 a2 a3 : Option Addr) (c1 c2 c3 : Nat) (w : World) (h : NT w a n ds) (hl : ds.length ≤ 99) (hsx : InoSmall D) (hnx : 0 ≤ D.ino ∧ D.ino ≤ 1001) (hx : InoRd w D a1 a2 a3) :
    Calls Try.prog 14 #[.agg #[.slice a n cap, .int .i64 nx], .agg #[.int .i64 D.ino, .int .i64 D.kind, .int .i64 D.links, .slice a1 D.data.length c1, .slice a2 D.ents.length c2, .slice a3 D.attrs.length c3]] w fun e w' => TabN w nx (setD ds D) e w' := by
  obtain ⟨rs, ht, e⟩ := h.ex
  refine (setT a n cap nx rs D a1 a2 a3 c1 c2 c3 w ht hsx hx).mono fun e' w' hp => ?_
  obtain ⟨v, rfl, hv⟩ := hp
  rw [e] at hv
  exact hv.tabN (by have := setD_len ds D; omega) (setD_num h.num hnx) (setD_small h.small hsx)
theorem nDrop (a : Option Addr) (n cap : Nat) (nx x : Int) (ds : List InoD) (w : World) (h : NT w a n ds) (hnx : 0 ≤ x ∧ x ≤ 1001) :
    Calls Try.prog 11 #[.agg #[.slice a n cap, .int .i64 nx], .int .i64 x] w fun e w' => TabN w nx (dropD ds x) e w' := by
  obtain ⟨rs, ht, e⟩ := h.ex
  refine (dropI a n cap nx x rs w ht.len ht.n (wf_num hnx) (NT.wf h.num e) ht.small ht.rd).mono fun e' w' hp => ?_
  obtain ⟨v, rfl, hv⟩ := DropPost.tab hp
  rw [dropD_eq, e] at hv
  exact hv.tabN (Nat.le_trans (List.length_filter_le _ _) h.len) (fun E hE => h.num E (List.mem_filter.1 hE).1) (fun E hE => h.small E (List.mem_filter.1 hE).1)
/-- The inode of a number is answered. -/
def atE (ds : List InoD) (x : Int) : InoD := (look ds x).getD inoZ.D
def AtN (w : World) (E : InoD) (ok : Bool) (e : Ending) (w' : World) : Prop :=
  ∃ (b1 : Option Addr) (d1 : Nat) (b2 : Option Addr) (d2 : Nat) (b3 : Option Addr) (d3 : Nat), e = .returned (.tuple #[.agg #[.int .i64 E.ino, .int .i64 E.kind, .int .i64 E.links, .slice b1 E.data.length d1, .slice b2 E.ents.length d2, .slice b3 E.attrs.length d3], .bool ok]) ∧ InoG w' w.heap.size w'.heap.size E (.slice b1 E.data.length d1) (.slice b2 E.ents.length d2) (.slice b3 E.attrs.length d3) ∧ Below w.heap.size w w'
theorem atE_small {ds : List InoD} (h : ∀ D ∈ ds, InoSmall D) (x : Int) : InoSmall (atE ds x) := by
  unfold atE
  cases hl : look ds x with
  | none => exact ⟨by simp [inoZ], by simp [inoZ], by simp [inoZ], by simp [inoZ], by simp [inoZ]⟩
  | some E => exact h E (look_mem hl).1
theorem nAt (a : Option Addr) (n cap : Nat) (nx x : Int) (ds : List InoD) (E : InoD) (ok : Bool) (w : World) (h : NT w a n ds) (hnx : 0 ≤ x ∧ x ≤ 1001) (hE : atE ds x = E) (hok : (look ds x).isSome = ok) :
    Calls Try.prog 10 #[.agg #[.slice a n cap, .int .i64 nx], .int .i64 x] w fun e w' => AtN w E ok e w' := by
  obtain ⟨rs, ht, e⟩ := h.ex
  refine (inodeAtI a n cap nx x rs w ht.len (by have := ht.n; omega) (wf_num hnx) (NT.wf h.num e) ht.small ht.rd).mono fun e' w' hp => ?_
  obtain ⟨b1, d1, b2, d2, b3, d3, rfl, hG, hb⟩ := hp
  have he : atD rs x = E := by rw [atD_look, e]; exact hE
  have hk : atB rs x = ok := by rw [atB_look, e]; exact hok
  rw [he] at hG ⊢
  rw [hk]
  exact ⟨b1, d1, b2, d2, b3, d3, rfl, hG, hb⟩
/-- What is known in the loop: the table that was drawn, the inode, and the table without it. -/
structure FT (w W : World) (T X F : Nat) (a : Option Addr) (m c : Nat) (nx : Int) (ds : List InoD) (D : InoD) (a1 : Option Addr) (c1 : Nat) (a2 : Option Addr) (c2 : Nat) (a3 : Option Addr) (c3 : Nat) (fa : Option Addr) (fn fc : Nat) : Prop where
  b : Below w.heap.size w W
  zT : Blk W T 26 #[.slice a m c, .int .i64 nx]
  zX : Blk W X 30 #[.int .i64 D.ino, .int .i64 D.kind, .int .i64 D.links, .slice a1 D.data.length c1, .slice a2 D.ents.length c2, .slice a3 D.attrs.length c3]
  zF : Blk W F 26 #[.slice fa fn fc, .int .i64 nx]
  hT : NT W a m ds
  hX : InoRd W D a1 a2 a3
  hF : NT W fa fn (dropD (setD ds D) D.ino)
theorem FT.keep {w W W' : World} {T X F : Nat} {a : Option Addr} {m c : Nat} {nx : Int} {ds : List InoD} {D : InoD} {a1 : Option Addr} {c1 : Nat} {a2 : Option Addr} {c2 : Nat} {a3 : Option Addr} {c3 : Nat} {fa : Option Addr} {fn fc : Nat} (h : FT w W T X F a m c nx ds D a1 c1 a2 c2 a3 c3 fa fn fc) (hb : Below W.heap.size W W') : FT w W' T X F a m c nx ds D a1 c1 a2 c2 a3 c3 fa fn fc :=
  ⟨h.b.trans (hb.mono h.b.size), h.zT.keep hb, h.zX.keep hb, h.zF.keep hb, h.hT.keep hb, h.hX.keep hb, h.hF.keep hb⟩
theorem drop_set_look (ds : List InoD) (D : InoD) (y : Int) (h : y ≠ D.ino) : look (dropD (setD ds D) D.ino) y = look ds y := by
  rw [look_dropD, if_neg h, look_setD, if_neg h]
end

section
open Go.RowKit
theorem big_tab (a : Option Addr) (n cap : Nat) (w : World) : Calls Try.prog 7 #[.slice a n cap] w fun e w' => e = .returned (.bool (decide ((1048576 : Int) < (n : Int)))) ∧ w' = w := by
  go_enter Try.func7, Try.ntmps7
  go_wp2
  go_ret
  exact ⟨rfl, rfl⟩
theorem nSameTab (a a' : Option Addr) (n m cap cap' : Nat) (nx : Int) (ds : List InoD) (w : World) (h : NT w a n ds) (h' : NT w a' m ds) :
    Calls Try.prog 13 #[.agg #[.slice a n cap, .int .i64 nx], .agg #[.slice a' m cap', .int .i64 nx]] w fun e w' => e = .returned (.bool true) ∧ Below w.heap.size w w' := by
  obtain ⟨rs, ht, e⟩ := h.ex
  obtain ⟨ts, ht', e'⟩ := h'.ex
  refine (sameTabI a a' n m cap cap' nx nx rs ts w ht.len ht'.len (by have := ht.n; omega) (by have := ht'.n; omega) ht.small ht'.small ht.rd ht'.rd).mono fun e2 w' hp => ?_
  have : sameTabOf nx nx rs ts = true := by
    unfold sameTabOf
    rw [e, e', sameAll_self]
    simp
  rw [this] at hp
  exact hp
theorem nSameIno (E : InoD) (a1 a2 a3 b1 b2 b3 : Option Addr) (c1 c2 c3 d1 d2 d3 : Nat) (w : World) (hE : InoSmall E) (hr : InoRd w E a1 a2 a3) (hr' : InoRd w E b1 b2 b3) :
    Calls Try.prog 12 #[.agg #[.int .i64 E.ino, .int .i64 E.kind, .int .i64 E.links, .slice a1 E.data.length c1, .slice a2 E.ents.length c2, .slice a3 E.attrs.length c3], .agg #[.int .i64 E.ino, .int .i64 E.kind, .int .i64 E.links, .slice b1 E.data.length d1, .slice b2 E.ents.length d2, .slice b3 E.attrs.length d3]] w fun e w' => e = .returned (.bool true) ∧ Below w.heap.size w w' := by
  have h := sameI E E a1 a2 a3 b1 b2 b3 c1 c2 c3 d1 d2 d3 w hE hE hr hr'
  have : sameOf E E = true := by simp [sameOf]
  rw [this] at h
  exact h
set_option maxRecDepth 100000 in
set_option maxHeartbeats 8000000 in
theorem fnTabs_walk (a0 : Option Addr) (len0 cap0 : Nat) (zs : List Int) (w : World) (hn : zs.length = len0) (hr : Rd w a0 zs) (hb : Byt zs) :
    Calls Try.prog 3 #[.slice a0 len0 cap0] w fun e w' => e = .returned (.bool true) ∧ Below w.heap.size w w' := by
  by_cases hbig : 1048576 < len0
  · have hd : decide ((1048576 : Int) < (len0 : Int)) = true := by simp; omega
    go_enter Try.func3, Try.ntmps3
    go_wp2_with fail
    refine (big_tab a0 len0 cap0 w).mono ?_
    rintro e w1 ⟨rfl, hw⟩
    obtain rfl := hw.symm
    rw [hd]
    go_wp2
    go_ret
    exact ⟨rfl, Below.refl _ _⟩
  have hd : decide ((1048576 : Int) < (len0 : Int)) = false := by simp; omega
  have hcD := drawSetS a0 len0 cap0 zs w hn (by omega) hr hb
  clear hn hr hb
  go_enter Try.func3, Try.ntmps3
  go_wp2_with fail
  refine (big_tab a0 len0 cap0 w).mono ?_
  rintro e w1 ⟨rfl, hw⟩
  obtain rfl := hw.symm
  rw [hd]
  clear hd hbig
  go_wp2_with fail
  (with_reducible refine hcD.mono ?_)
  rintro e w1 ⟨g, N, m, c, nx, qs, D, a1, c1, a2, c2, a3, c3, rfl, hm, fq, hrd, hA, b1⟩
  clear hcD
  obtain ⟨ds, hds⟩ : ∃ ds, (qs.take m).map InoR.D = ds := ⟨_, rfl⟩
  obtain ⟨a, ha⟩ : ∃ a : Option Addr, some ⟨g, 0, none⟩ = a := ⟨_, rfl⟩
  have hT1 : NT w1 a m ds := by
    rw [← ha]
    refine ⟨⟨qs.take m, fq.tr hm, hds⟩, ?_, fun E hE => ?_, fun E hE => ?_⟩
    · rw [← hds, List.length_map, List.length_take]
      have := fq.n
      have := fq.len
      omega
    · rw [← hds] at hE
      obtain ⟨r, hr, rfl⟩ := List.mem_map.1 hE
      exact (fq.els r (List.mem_of_mem_take hr)).2.2
    · rw [← hds] at hE
      obtain ⟨r, hr, rfl⟩ := List.mem_map.1 hE
      exact (fq.els r (List.mem_of_mem_take hr)).2.1
  have hl40 : ds.length ≤ 40 := by
    rw [← hds, List.length_map, List.length_take]
    have := fq.n
    have := fq.len
    omega
  have hlm : Hid (ds.length = m) := by
    show _ = _
    rw [← hds, List.length_map, List.length_take]
    have := fq.len
    omega
  have hm40 : m ≤ 40 := by have := hlm.out; omega
  have hE1 : atE (setD ds D) D.ino = D := by unfold atE; rw [look_setD, if_pos rfl]; rfl
  have hk1 : (look (setD ds D) D.ino).isSome = true := by rw [look_setD, if_pos rfl]; rfl
  have hE2 : atE (dropD (setD ds D) D.ino) D.ino = inoZ.D := by unfold atE; rw [look_dropD, if_pos rfl]; rfl
  have hk2 : (look (dropD (setD ds D) D.ino) D.ino).isSome = false := by rw [look_dropD, if_pos rfl]; rfl
  have hsm := hA.sm.1
  have hnum := hA.num
  rw [ha]
  clear fq hds hA hm ha
  have bA : Below w1.heap.size w1 ((w1.alloc (.cells #[.slice a m c, .int .i64 nx] 26)).alloc (.cells #[.int .i64 D.ino, .int .i64 D.kind, .int .i64 D.links, .slice a1 D.data.length c1, .slice a2 D.ents.length c2, .slice a3 D.attrs.length c3] 30)) := ((Below.refl _ w1).alloc (Nat.le_refl _) _).alloc (by simp) _
  have zT : Blk ((w1.alloc (.cells #[.slice a m c, .int .i64 nx] 26)).alloc (.cells #[.int .i64 D.ino, .int .i64 D.kind, .int .i64 D.links, .slice a1 D.data.length c1, .slice a2 D.ents.length c2, .slice a3 D.attrs.length c3] 30)) w1.heap.size 26 #[.slice a m c, .int .i64 nx] := (Blk.new w1 _ _).alloc _
  have zX := Blk.new (w1.alloc (.cells #[.slice a m c, .int .i64 nx] 26)) 30 #[.int .i64 D.ino, .int .i64 D.kind, .int .i64 D.links, .slice a1 D.data.length c1, .slice a2 D.ents.length c2, .slice a3 D.attrs.length c3]
  simp only [World.size_alloc] at zX
  have hT2 := hT1.keep bA
  have hX2 := InoRd.keep hrd bA
  have B2 := b1.trans (bA.mono b1.size)
  go_wp2_with fail
  obtain ⟨W2, hW2⟩ : ∃ W, (w1.alloc (.cells #[.slice a m c, .int .i64 nx] 26)).alloc (.cells #[.int .i64 D.ino, .int .i64 D.kind, .int .i64 D.links, .slice a1 D.data.length c1, .slice a2 D.ents.length c2, .slice a3 D.attrs.length c3] 30) = W := ⟨_, rfl⟩
  rw [hW2] at bA zT zX hT2 hX2 B2 ⊢
  obtain ⟨T, hT⟩ : ∃ T, w1.heap.size = T := ⟨_, rfl⟩
  rw [hT] at zT zX ⊢
  obtain ⟨X, hX⟩ : ∃ X, T + 1 = X := ⟨_, rfl⟩
  rw [hX] at zX ⊢
  clear hW2 hT hX bA hT1 hrd b1
  (with_reducible refine (nSet a m c nx ds D a1 a2 a3 c1 c2 c3 W2 hT2 (by omega) hsm hnum hX2).mono ?_)
  rintro e w3 ⟨sa, sn, sc, rfl, hS3, b3⟩
  have bS : Below w3.heap.size w3 (w3.alloc (.cells #[.slice sa sn sc, .int .i64 nx] 26)) := (Below.refl _ w3).alloc (Nat.le_refl _) _
  have zS := Blk.new w3 26 #[.slice sa sn sc, .int .i64 nx]
  have zT3 := (zT.keep b3).keep bS
  have zX3 := (zX.keep b3).keep bS
  have hT3 := (hT2.keep b3).keep bS
  have hX3 := InoRd.keep (InoRd.keep hX2 b3) bS
  have hS4 := hS3.keep bS
  have B3 := (B2.trans (b3.mono B2.size)).trans (bS.mono (B2.trans (b3.mono B2.size)).size)
  clear zT zX hT2 hX2 hS3 b3 B2
  have x0 := zX3.cell 0
  simp at x0
  go_wp2_with fail
  obtain ⟨W3, hW3⟩ : ∃ W, w3.alloc (.cells #[.slice sa sn sc, .int .i64 nx] 26) = W := ⟨_, rfl⟩
  rw [hW3] at bS zS zT3 zX3 hT3 hX3 hS4 B3 x0 ⊢
  obtain ⟨S, hS⟩ : ∃ S, w3.heap.size = S := ⟨_, rfl⟩
  rw [hS] at zS ⊢
  clear hW3 hS bS
  (with_reducible refine (nAt sa sn sc nx D.ino (setD ds D) D true W3 hS4 hnum hE1 hk1).mono ?_)
  rintro e w4 ⟨y1, e1, y2, e2, y3, e3, rfl, gY, b4⟩
  have rY := gY.rds
  have bY : Below w4.heap.size w4 (w4.alloc (.cells #[.int .i64 D.ino, .int .i64 D.kind, .int .i64 D.links, .slice y1 D.data.length e1, .slice y2 D.ents.length e2, .slice y3 D.attrs.length e3] 30)) := (Below.refl _ w4).alloc (Nat.le_refl _) _
  have zY := Blk.new w4 30 #[.int .i64 D.ino, .int .i64 D.kind, .int .i64 D.links, .slice y1 D.data.length e1, .slice y2 D.ents.length e2, .slice y3 D.attrs.length e3]
  have zS4 := (zS.keep b4).keep bY
  have zT4 := (zT3.keep b4).keep bY
  have zX4 := (zX3.keep b4).keep bY
  have hT4 := (hT3.keep b4).keep bY
  have hX4 := InoRd.keep (InoRd.keep hX3 b4) bY
  have hS5 := (hS4.keep b4).keep bY
  have rY4 := rY.keep bY
  have B4 := (B3.trans (b4.mono B3.size)).trans (bY.mono (B3.trans (b4.mono B3.size)).size)
  clear zS zT3 zX3 hT3 hX3 hS4 b4 B3 x0 gY rY
  have x0 := zX4.cell 0
  have s0 := zS4.cell 0
  have s1 := zS4.cell 1
  simp at x0 s0 s1
  go_wp2_with fail
  obtain ⟨W4, hW4⟩ : ∃ W, w4.alloc (.cells #[.int .i64 D.ino, .int .i64 D.kind, .int .i64 D.links, .slice y1 D.data.length e1, .slice y2 D.ents.length e2, .slice y3 D.attrs.length e3] 30) = W := ⟨_, rfl⟩
  rw [hW4] at bY zY zS4 zT4 zX4 hT4 hX4 hS5 rY4 B4 x0 s0 s1 ⊢
  obtain ⟨Y, hY⟩ : ∃ Y, w4.heap.size = Y := ⟨_, rfl⟩
  rw [hY] at zY ⊢
  clear hW4 hY bY
  (with_reducible refine (nDrop sa sn sc nx D.ino (setD ds D) W4 hS5 hnum).mono ?_)
  rintro e w5 ⟨fa, fn, fc, rfl, hF5, b5⟩
  have bF : Below w5.heap.size w5 (w5.alloc (.cells #[.slice fa fn fc, .int .i64 nx] 26)) := (Below.refl _ w5).alloc (Nat.le_refl _) _
  have zF := Blk.new w5 26 #[.slice fa fn fc, .int .i64 nx]
  have zY5 := (zY.keep b5).keep bF
  have zS5 := (zS4.keep b5).keep bF
  have zT5 := (zT4.keep b5).keep bF
  have zX5 := (zX4.keep b5).keep bF
  have hT5 := (hT4.keep b5).keep bF
  have hX5 := InoRd.keep (InoRd.keep hX4 b5) bF
  have rY5 := InoRd.keep (InoRd.keep rY4 b5) bF
  have hS6 := (hS5.keep b5).keep bF
  have hF6 := hF5.keep bF
  have B5 := (B4.trans (b5.mono B4.size)).trans (bF.mono (B4.trans (b5.mono B4.size)).size)
  clear zY zS4 zT4 zX4 hT4 hX4 rY4 hS5 hF5 b5 B4 x0 s0 s1
  have x0 := zX5.cell 0
  simp at x0
  go_wp2_with fail
  obtain ⟨W5, hW5⟩ : ∃ W, w5.alloc (.cells #[.slice fa fn fc, .int .i64 nx] 26) = W := ⟨_, rfl⟩
  rw [hW5] at bF zF zY5 zS5 zT5 zX5 hT5 hX5 rY5 hS6 hF6 B5 x0 ⊢
  obtain ⟨F, hF⟩ : ∃ F, w5.heap.size = F := ⟨_, rfl⟩
  rw [hF] at zF ⊢
  clear hW5 hF bF
  (with_reducible refine (nAt fa fn fc nx D.ino (dropD (setD ds D) D.ino) inoZ.D false W5 hF6 hnum hE2 hk2).mono ?_)
  rintro e w6 ⟨o1, p1, o2, p2, o3, p3, rfl, _, b6⟩
  have bZ : Below w6.heap.size w6 (w6.alloc (.cells #[.int .i64 inoZ.D.ino, .int .i64 inoZ.D.kind, .int .i64 inoZ.D.links, .slice o1 inoZ.D.data.length p1, .slice o2 inoZ.D.ents.length p2, .slice o3 inoZ.D.attrs.length p3] 30)) := (Below.refl _ w6).alloc (Nat.le_refl _) _
  have zF7 := (zF.keep b6).keep bZ
  have zY7 := (zY5.keep b6).keep bZ
  have zS7 := (zS5.keep b6).keep bZ
  have zT7 := (zT5.keep b6).keep bZ
  have zX7 := (zX5.keep b6).keep bZ
  have hT7 := (hT5.keep b6).keep bZ
  have hX7 := InoRd.keep (InoRd.keep hX5 b6) bZ
  have rY7 := InoRd.keep (InoRd.keep rY5 b6) bZ
  have hS7 := (hS6.keep b6).keep bZ
  have hF7 := (hF6.keep b6).keep bZ
  have B7 := (B5.trans (b6.mono B5.size)).trans (bZ.mono (B5.trans (b6.mono B5.size)).size)
  clear zF zY5 zS5 zT5 zX5 hT5 hX5 rY5 hS6 hF6 b6 B5 x0
  go_upto_region 8 with fail
  obtain ⟨W7, hW7⟩ : ∃ W, w6.alloc (.cells #[.int .i64 inoZ.D.ino, .int .i64 inoZ.D.kind, .int .i64 inoZ.D.links, .slice o1 inoZ.D.data.length p1, .slice o2 inoZ.D.ents.length p2, .slice o3 inoZ.D.attrs.length p3] 30) = W := ⟨_, rfl⟩
  rw [hW7] at bZ zF7 zY7 zS7 zT7 zX7 hT7 hX7 rY7 hS7 hF7 B7 ⊢
  clear hW7 bZ

  have HK : Hid (∀ W : World, Below W7.heap.size W7 W → W.cell? ⟨X, 0, none⟩ = some (.int .i64 D.ino) ∧ W.cell? ⟨X, 1, none⟩ = some (.int .i64 D.kind) ∧ W.cell? ⟨X, 2, none⟩ = some (.int .i64 D.links) ∧ W.cell? ⟨X, 3, none⟩ = some (.slice a1 D.data.length c1) ∧ W.cell? ⟨X, 4, none⟩ = some (.slice a2 D.ents.length c2) ∧ W.cell? ⟨X, 5, none⟩ = some (.slice a3 D.attrs.length c3) ∧ W.cell? ⟨Y, 0, none⟩ = some (.int .i64 D.ino) ∧ W.cell? ⟨Y, 1, none⟩ = some (.int .i64 D.kind) ∧ W.cell? ⟨Y, 2, none⟩ = some (.int .i64 D.links) ∧ W.cell? ⟨Y, 3, none⟩ = some (.slice y1 D.data.length e1) ∧ W.cell? ⟨Y, 4, none⟩ = some (.slice y2 D.ents.length e2) ∧ W.cell? ⟨Y, 5, none⟩ = some (.slice y3 D.attrs.length e3) ∧ W.cell? ⟨S, 0, none⟩ = some (.slice sa sn sc) ∧ W.cell? ⟨S, 1, none⟩ = some (.int .i64 nx) ∧ W.cell? ⟨T, 0, none⟩ = some (.slice a m c) ∧ W.cell? ⟨T, 1, none⟩ = some (.int .i64 nx)) := fun W hW => ⟨(zX7.keep hW).cell 0, (zX7.keep hW).cell 1, (zX7.keep hW).cell 2, (zX7.keep hW).cell 3, (zX7.keep hW).cell 4, (zX7.keep hW).cell 5, (zY7.keep hW).cell 0, (zY7.keep hW).cell 1, (zY7.keep hW).cell 2, (zY7.keep hW).cell 3, (zY7.keep hW).cell 4, (zY7.keep hW).cell 5, (zS7.keep hW).cell 0, (zS7.keep hW).cell 1, (zT7.keep hW).cell 0, (zT7.keep hW).cell 1⟩
  obtain ⟨q0, q1, q2, q3, q4, q5, r0, r1, r2, r3, r4, r5, s0, s1, t0, t1⟩ := HK.out W7 (Below.refl _ _)
  have hFT : Hid (FT w W7 T X F a m c nx ds D a1 c1 a2 c2 a3 c3 fa fn fc) := ⟨B7, zT7, zX7, zF7, hT7, hX7, hF7⟩
  have hc1 := nSameIno D a1 a2 a3 y1 y2 y3 c1 c2 c3 e1 e2 e3 W7.drew hsm (hX7.keep (Below.refl _ _).drew) (rY7.keep (Below.refl _ _).drew)
  have HC2 : Hid _ := fun (W : World) (hW : Below W7.heap.size W7 W) => nSetS a m c nx ds D a1 a2 a3 c1 c2 c3 W (hT7.keep hW) (by omega) hsm hnum (hX7.keep hW)
  have HS7 : Hid _ := hS7
  clear B7 zT7 zX7 zF7 hT7 hX7 hF7 zY7 zS7 rY7 hS7
  have hnb : (nx != nx) = false := by simp
  have hnb' : (nx == nx) = true := by simp
  refine wp_region_noPanic ?_
  refine wp_region_held_drew (S := fun W : World => W.cell? ⟨X, 0, none⟩ = some (.int .i64 D.ino) ∧ W.cell? ⟨X, 1, none⟩ = some (.int .i64 D.kind) ∧ W.cell? ⟨X, 2, none⟩ = some (.int .i64 D.links) ∧ W.cell? ⟨X, 3, none⟩ = some (.slice a1 D.data.length c1) ∧ W.cell? ⟨X, 4, none⟩ = some (.slice a2 D.ents.length c2) ∧ W.cell? ⟨X, 5, none⟩ = some (.slice a3 D.attrs.length c3) ∧ W.cell? ⟨Y, 0, none⟩ = some (.int .i64 D.ino) ∧ W.cell? ⟨Y, 1, none⟩ = some (.int .i64 D.kind) ∧ W.cell? ⟨Y, 2, none⟩ = some (.int .i64 D.links) ∧ W.cell? ⟨Y, 3, none⟩ = some (.slice y1 D.data.length e1) ∧ W.cell? ⟨Y, 4, none⟩ = some (.slice y2 D.ents.length e2) ∧ W.cell? ⟨Y, 5, none⟩ = some (.slice y3 D.attrs.length e3) ∧ W.cell? ⟨S, 0, none⟩ = some (.slice sa sn sc) ∧ W.cell? ⟨S, 1, none⟩ = some (.int .i64 nx) ∧ W.cell? ⟨T, 0, none⟩ = some (.slice a m c) ∧ W.cell? ⟨T, 1, none⟩ = some (.int .i64 nx)) (by kernel_rfl) (by go_keep) (fun hS => ?_)
  refine wpAnyH_take (i := 0) (v := ?gv1) rfl (by kernel_rfl) (by kernel_rfl) (by kernel_rfl) (fun _ _ _ h => h) (Or.inl ⟨by kernel_rfl, ?gy1⟩) (by assumption) ?gr1
  case gy1 => (intro w' hSw; (try dsimp only at hSw); go_simp; (try with_reducible rfl))
  try simp only [Act.put, List.setIfInBounds_toArray, List.set_cons_zero, List.set_cons_succ, List.getElem_toArray, List.getElem_cons_zero]
  refine wpAnyH_take (i := 1) (v := ?gv2) rfl (by kernel_rfl) (by kernel_rfl) (by kernel_rfl) (fun _ _ _ h => h) (Or.inl ⟨by kernel_rfl, ?gy2⟩) (by assumption) ?gr2
  case gy2 => (intro w' hSw; (try dsimp only at hSw); go_simp; (try with_reducible rfl))
  try simp only [Act.put, List.setIfInBounds_toArray, List.set_cons_zero, List.set_cons_succ, List.getElem_toArray, List.getElem_cons_succ, List.getElem_cons_zero]
  refine wpAnyH_take (i := 2) (v := ?gv3) rfl (by kernel_rfl) (by kernel_rfl) (by kernel_rfl) (fun _ _ _ h => h) (Or.inl ⟨by kernel_rfl, ?gy3⟩) (by assumption) ?gr3
  case gy3 => (intro w' hSw; (try dsimp only at hSw); go_simp; (try with_reducible rfl))
  try simp only [Act.put, List.setIfInBounds_toArray, List.set_cons_zero, List.set_cons_succ, List.getElem_toArray, List.getElem_cons_succ, List.getElem_cons_zero]
  refine wpAnyH_take (i := 3) (v := ?gv4) rfl (by kernel_rfl) (by kernel_rfl) (by kernel_rfl) (fun _ _ _ h => h) (Or.inl ⟨by kernel_rfl, ?gy4⟩) (by assumption) ?gr4
  case gy4 => (intro w' hSw; (try dsimp only at hSw); go_simp; (try with_reducible rfl))
  try simp only [Act.put, List.setIfInBounds_toArray, List.set_cons_zero, List.set_cons_succ, List.getElem_toArray, List.getElem_cons_succ, List.getElem_cons_zero]
  refine wpAnyH_take (i := 4) (v := ?gv5) rfl (by kernel_rfl) (by kernel_rfl) (by kernel_rfl) (fun _ _ _ h => h) (Or.inl ⟨by kernel_rfl, ?gy5⟩) (by assumption) ?gr5
  case gy5 => (intro w' hSw; (try dsimp only at hSw); go_simp; (try with_reducible rfl))
  try simp only [Act.put, List.setIfInBounds_toArray, List.set_cons_zero, List.set_cons_succ, List.getElem_toArray, List.getElem_cons_succ, List.getElem_cons_zero]
  refine wpAnyH_ready (rs := [5]) (by kernel_rfl) (by simp) ?_
  refine AllReadyH.cons rfl (fun K hK => ?_) AllReadyH.nil
  go_simp
  go_at_call 12
  (with_reducible refine hc1.mono ?_)
  rintro e w8 ⟨rfl, b8⟩
  have B8 : Below W7.heap.size W7 w8 := (Below.refl _ W7).drew.trans b8
  clear hS
  dsimp only
  refine Shut.out hK _ _ (HK.out w8 B8) (fun hS => ?_)
  try simp only [Act.put, List.setIfInBounds_toArray, List.set_cons_zero, List.set_cons_succ, List.getElem_toArray, List.getElem_cons_succ, List.getElem_cons_zero]
  refine wpAnyH_take (i := 6) (v := ?gv6) rfl (by kernel_rfl) (by kernel_rfl) (by kernel_rfl) (fun _ _ _ h => h) (Or.inl ⟨by kernel_rfl, ?gy6⟩) (by assumption) ?gr6
  case gy6 => (intro w' hSw; (try dsimp only at hSw); go_simp; (try with_reducible rfl))
  try simp only [Act.put, List.setIfInBounds_toArray, List.set_cons_zero, List.set_cons_succ, List.getElem_toArray, List.getElem_cons_succ, List.getElem_cons_zero]
  refine wpAnyH_take (i := 7) (v := ?gv7) rfl (by kernel_rfl) (by kernel_rfl) (by kernel_rfl) (fun _ _ _ h => h) (Or.inl ⟨by kernel_rfl, ?gy7⟩) (by assumption) ?gr7
  case gy7 => (intro w' hSw; (try dsimp only at hSw); go_simp; (try with_reducible rfl))
  try simp only [Act.put, List.setIfInBounds_toArray, List.set_cons_zero, List.set_cons_succ, List.getElem_toArray, List.getElem_cons_succ, List.getElem_cons_zero]
  refine wpAnyH_take (i := 8) (v := ?gv8) rfl (by kernel_rfl) (by kernel_rfl) (by kernel_rfl) (fun _ _ _ h => h) (Or.inl ⟨by kernel_rfl, ?gy8⟩) (by assumption) ?gr8
  case gy8 => (intro w' hSw; (try dsimp only at hSw); go_simp; (try with_reducible rfl))
  try simp only [Act.put, List.setIfInBounds_toArray, List.set_cons_zero, List.set_cons_succ, List.getElem_toArray, List.getElem_cons_succ, List.getElem_cons_zero]
  refine wpAnyH_take (i := 9) (v := ?gv9) rfl (by kernel_rfl) (by kernel_rfl) (by kernel_rfl) (fun _ _ _ h => h) (Or.inl ⟨by kernel_rfl, ?gy9⟩) (by assumption) ?gr9
  case gy9 => (intro w' hSw; (try dsimp only at hSw); go_simp; (try with_reducible rfl))
  try simp only [Act.put, List.setIfInBounds_toArray, List.set_cons_zero, List.set_cons_succ, List.getElem_toArray, List.getElem_cons_succ, List.getElem_cons_zero]
  refine wpAnyH_take (i := 10) (v := ?gv10) rfl (by kernel_rfl) (by kernel_rfl) (by kernel_rfl) (fun _ _ _ h => h) (Or.inl ⟨by kernel_rfl, ?gy10⟩) (by assumption) ?gr10
  case gy10 => (intro w' hSw; (try dsimp only at hSw); go_simp; (try with_reducible rfl))
  try simp only [Act.put, List.setIfInBounds_toArray, List.set_cons_zero, List.set_cons_succ, List.getElem_toArray, List.getElem_cons_succ, List.getElem_cons_zero]
  refine wpAnyH_take (i := 11) (v := ?gv11) rfl (by kernel_rfl) (by kernel_rfl) (by kernel_rfl) (fun _ _ _ h => h) (Or.inl ⟨by kernel_rfl, ?gy11⟩) (by assumption) ?gr11
  case gy11 => (intro w' hSw; (try dsimp only at hSw); go_simp; (try with_reducible rfl))
  try simp only [Act.put, List.setIfInBounds_toArray, List.set_cons_zero, List.set_cons_succ, List.getElem_toArray, List.getElem_cons_succ, List.getElem_cons_zero]
  refine wpAnyH_take (i := 12) (v := ?gv12) rfl (by kernel_rfl) (by kernel_rfl) (by kernel_rfl) (fun _ _ _ h => h) (Or.inl ⟨by kernel_rfl, ?gy12⟩) (by assumption) ?gr12
  case gy12 => (intro w' hSw; (try dsimp only at hSw); go_simp; (try with_reducible rfl))
  try simp only [Act.put, List.setIfInBounds_toArray, List.set_cons_zero, List.set_cons_succ, List.getElem_toArray, List.getElem_cons_succ, List.getElem_cons_zero]
  refine wpAnyH_take (i := 13) (v := ?gv13) rfl (by kernel_rfl) (by kernel_rfl) (by kernel_rfl) (fun _ _ _ h => h) (Or.inl ⟨by kernel_rfl, ?gy13⟩) (by assumption) ?gr13
  case gy13 => (intro w' hSw; (try dsimp only at hSw); go_simp; (try with_reducible rfl))
  try simp only [Act.put, List.setIfInBounds_toArray, List.set_cons_zero, List.set_cons_succ, List.getElem_toArray, List.getElem_cons_succ, List.getElem_cons_zero]
  refine wpAnyH_take (i := 14) (v := ?gv14) rfl (by kernel_rfl) (by kernel_rfl) (by kernel_rfl) (fun _ _ _ h => h) (Or.inl ⟨by kernel_rfl, ?gy14⟩) (by assumption) ?gr14
  case gy14 => (intro w' hSw; (try dsimp only at hSw); go_simp; (try with_reducible rfl))
  try simp only [Act.put, List.setIfInBounds_toArray, List.set_cons_zero, List.set_cons_succ, List.getElem_toArray, List.getElem_cons_succ, List.getElem_cons_zero]
  refine wpAnyH_take (i := 15) (v := ?gv15) rfl (by kernel_rfl) (by kernel_rfl) (by kernel_rfl) (fun _ _ _ h => h) (Or.inl ⟨by kernel_rfl, ?gy15⟩) (by assumption) ?gr15
  case gy15 => (intro w' hSw; (try dsimp only at hSw); go_simp; (try with_reducible rfl))
  try simp only [Act.put, List.setIfInBounds_toArray, List.set_cons_zero, List.set_cons_succ, List.getElem_toArray, List.getElem_cons_succ, List.getElem_cons_zero]
  refine wpAnyH_take (i := 16) (v := ?gv16) rfl (by kernel_rfl) (by kernel_rfl) (by kernel_rfl) (fun _ _ _ h => h) (Or.inl ⟨by kernel_rfl, ?gy16⟩) (by assumption) ?gr16
  case gy16 => (intro w' hSw; (try dsimp only at hSw); go_simp; (try with_reducible rfl))
  try simp only [Act.put, List.setIfInBounds_toArray, List.set_cons_zero, List.set_cons_succ, List.getElem_toArray, List.getElem_cons_succ, List.getElem_cons_zero]
  refine wpAnyH_take (i := 17) (v := ?gv17) rfl (by kernel_rfl) (by kernel_rfl) (by kernel_rfl) (fun _ _ _ h => h) (Or.inl ⟨by kernel_rfl, ?gy17⟩) (by assumption) ?gr17
  case gy17 => (intro w' hSw; (try dsimp only at hSw); go_simp; (try with_reducible rfl))
  try simp only [Act.put, List.setIfInBounds_toArray, List.set_cons_zero, List.set_cons_succ, List.getElem_toArray, List.getElem_cons_succ, List.getElem_cons_zero]
  refine wpAnyH_take (i := 18) (v := ?gv18) rfl (by kernel_rfl) (by kernel_rfl) (by kernel_rfl) (fun _ _ _ h => h) (Or.inl ⟨by kernel_rfl, ?gy18⟩) (by assumption) ?gr18
  case gy18 => (intro w' hSw; (try dsimp only at hSw); go_simp; (try with_reducible rfl))
  try simp only [Act.put, List.setIfInBounds_toArray, List.set_cons_zero, List.set_cons_succ, List.getElem_toArray, List.getElem_cons_succ, List.getElem_cons_zero]
  refine wpAnyH_take (i := 19) (v := ?gv19) rfl (by kernel_rfl) (by kernel_rfl) (by kernel_rfl) (fun _ _ _ h => h) (Or.inl ⟨by kernel_rfl, ?gy19⟩) (by assumption) ?gr19
  case gy19 => (intro w' hSw; (try dsimp only at hSw); go_simp; (try with_reducible rfl))
  try simp only [Act.put, List.setIfInBounds_toArray, List.set_cons_zero, List.set_cons_succ, List.getElem_toArray, List.getElem_cons_succ, List.getElem_cons_zero]
  refine wpAnyH_take (i := 20) (v := ?gv20) rfl (by kernel_rfl) (by kernel_rfl) (by kernel_rfl) (fun _ _ _ h => h) (Or.inl ⟨by kernel_rfl, ?gy20⟩) (by assumption) ?gr20
  case gy20 => (intro w' hSw; (try dsimp only at hSw); go_simp; (try with_reducible rfl))
  try simp only [Act.put, List.setIfInBounds_toArray, List.set_cons_zero, List.set_cons_succ, List.getElem_toArray, List.getElem_cons_succ, List.getElem_cons_zero]
  refine wpAnyH_take (i := 21) (v := ?gv21) rfl (by kernel_rfl) (by kernel_rfl) (by kernel_rfl) (fun _ _ _ h => h) (Or.inl ⟨by kernel_rfl, ?gy21⟩) (by assumption) ?gr21
  case gy21 => (intro w' hSw; (try dsimp only at hSw); go_simp; (try with_reducible rfl))
  try simp only [Act.put, List.setIfInBounds_toArray, List.set_cons_zero, List.set_cons_succ, List.getElem_toArray, List.getElem_cons_succ, List.getElem_cons_zero]
  refine wpAnyH_ready (rs := [22]) (by kernel_rfl) (by simp) ?_
  refine AllReadyH.cons rfl (fun K hK => ?_) AllReadyH.nil
  go_simp
  go_at_call 14
  (with_reducible refine (HC2.out w8 B8).mono ?_)
  rintro e w9 ⟨ga, gn, gc, rfl, hG9, b9⟩
  have B9 : Below W7.heap.size W7 w9 := B8.trans (b9.mono B8.size)
  have hc3 := nSameTab sa ga sn gn sc gc nx (setD ds D) w9 (HS7.out.keep B9) hG9
  clear hS
  dsimp only
  refine Shut.out hK _ _ (HK.out w9 B9) (fun hS => ?_)
  try simp only [Act.put, List.setIfInBounds_toArray, List.set_cons_zero, List.set_cons_succ, List.getElem_toArray, List.getElem_cons_succ, List.getElem_cons_zero]
  refine wpAnyH_ready (rs := [23]) (by kernel_rfl) (by simp) ?_
  refine AllReadyH.cons rfl (fun K hK => ?_) AllReadyH.nil
  go_simp
  go_at_call 13
  (with_reducible refine hc3.mono ?_)
  rintro e w10 ⟨rfl, b10⟩
  have B10 : Below W7.heap.size W7 w10 := B9.trans (b10.mono B9.size)
  clear hS
  dsimp only
  refine Shut.out hK _ _ (HK.out w10 B10) (fun hS => ?_)
  try simp only [Act.put, List.setIfInBounds_toArray, List.set_cons_zero, List.set_cons_succ, List.getElem_toArray, List.getElem_cons_succ, List.getElem_cons_zero]
  refine wpAnyH_take (i := 24) (v := ?gv22) rfl (by kernel_rfl) (by kernel_rfl) (by kernel_rfl) (fun _ _ _ h => h) (Or.inl ⟨by kernel_rfl, ?gy22⟩) (by assumption) ?gr22
  case gy22 => (intro w' hSw; (try dsimp only at hSw); go_simp; (try with_reducible rfl))
  try simp only [Act.put, List.setIfInBounds_toArray, List.set_cons_zero, List.set_cons_succ, List.getElem_toArray, List.getElem_cons_succ, List.getElem_cons_zero]
  refine wpAnyH_take (i := 25) (v := ?gv23) rfl (by kernel_rfl) (by kernel_rfl) (by kernel_rfl) (fun _ _ _ h => h) (Or.inl ⟨by kernel_rfl, ?gy23⟩) (by assumption) ?gr23
  case gy23 => (intro w' hSw; (try dsimp only at hSw); go_simp; (try with_reducible rfl))
  try simp only [Act.put, List.setIfInBounds_toArray, List.set_cons_zero, List.set_cons_succ, List.getElem_toArray, List.getElem_cons_succ, List.getElem_cons_zero]
  refine wpAnyH_done (by kernel_rfl) (NoPanic.normal ?_) _
  clear q0 q1 q2 q3 q4 q5 r0 r1 r2 r3 r4 r5 s0 s1 t0 t1 HK hc1 HC2 HS7 hnb hnb'
  have hF0 := hFT.out.keep B10
  have HF0 : Hid _ := hF0
  have HSM : Hid _ := hsm
  clear hF0 hFT hc3 hG9 b8 b9 b10 B8 B9 B10 hE1 hk1 hE2 hk2 hl40 hsm hnum
  go_upto_region 10 with fail
  go_cut [11] from 16 to 69 (fun s wx => s = .int .i64 0 ∧ Hid (FT w wx T X F a m c nx ds D a1 c1 a2 c2 a3 c3 fa fn fc))
  case first =>
    go_wp2_with fail
    go_meet
    exact ⟨rfl, HF0⟩
  case rest =>
    obtain ⟨rfl, hF0⟩ := hcut
    obtain ⟨Wa, hwa⟩ : ∃ W, W = wc := ⟨_, rfl⟩
    subst hwa
    clear HF0
    go_wp2
    go_loopw [11] (fun i wr => ∃ k : Nat, k ≤ m ∧ i = .int .i64 k ∧ Hid (FT w wr T X F a m c nx ds D a1 c1 a2 c2 a3 c3 fa fn fc)) (fun i _ => m - (intOf i).toNat)
    case atStart => exact ⟨0, Nat.zero_le _, rfl, hF0⟩
    case round =>
      obtain ⟨k, hk, rfl, hft⟩ := hrel
      clear hF0
      have t0 := hft.out.zT.cell 0
      have t1 := hft.out.zT.cell 1
      simp at t0 t1
      by_cases hkm : k < m
      · have hki : (k : Int) < (m : Int) := by omega
        obtain ⟨rs, ht, hrs⟩ := hft.out.hT.ex
        obtain ⟨r, hrk⟩ : ∃ r, rs[k]? = some r := ⟨_, List.getElem?_eq_getElem (by rw [ht.len]; exact hkm)⟩
        have hrm : r.D ∈ ds := by rw [← hrs]; exact List.mem_map_of_mem (List.mem_of_getElem? hrk)
        obtain ⟨x, hx⟩ : ∃ x, r.D.ino = x := ⟨_, rfl⟩
        have hxn : 0 ≤ x ∧ x ≤ 1001 := by rw [← hx]; exact hft.out.hT.num r.D hrm
        obtain ⟨b, off, rfl, hlt, hcel⟩ := RdI.lt ht.rd (by intro h; rw [h] at hrk; simp at hrk)
        obtain ⟨x6, _⟩ := hcel k r hrk
        obtain ⟨e0, _, _, _, _, _⟩ := x6
        rw [hx] at e0
        have hok : (look ds x).isSome = true := by
          rw [← hx]
          exact List.find?_isSome.2 ⟨r.D, hrm, by simp⟩
        clear ht hrs hrk hrm hcel hx
        have HKE : Hid (∀ W : World, Below wr.heap.size wr W → W.cell? ⟨b, off + k * 6, none⟩ = some (.int .i64 x)) := fun W hW => (hW.cell (p := ⟨b, off + k * 6, none⟩) hlt).trans e0
        obtain ⟨E, hE⟩ : ∃ E, atE ds x = E := ⟨_, rfl⟩
        have hEs : InoSmall E := by rw [← hE]; exact atE_small hft.out.hT.small x
        have HXE : Hid _ := And.intro hE hok
        have hcA := fun (W : World) (hW : Below wr.heap.size wr W) => nAt (some ⟨b, off, none⟩) m c nx x ds E true W (hft.out.hT.keep hW) hxn hE hok
        have hA1 := hcA wr.drew (Below.refl _ _).drew
        have hA2 := hcA (wr.alloc (.cells #[.int .i64 0, .int .i64 0, .int .i64 0, .slice none 0 0, .slice none 0 0, .slice none 0 0] 30)).drew ((Below.refl _ _).alloc (Nat.le_refl _) _).drew
        have bN : Below wr.heap.size wr (wr.alloc (.cells #[.int .i64 0, .int .i64 0, .int .i64 0, .slice none 0 0, .slice none 0 0, .slice none 0 0] 30)) := (Below.refl _ wr).alloc (Nat.le_refl _) _
        have eA := HKE.out _ bN
        have zbA := hft.out.zT.alloc (.cells #[.int .i64 0, .int .i64 0, .int .i64 0, .slice none 0 0, .slice none 0 0, .slice none 0 0] 30)
        have ztA0 := zbA.cell 0
        have ztA1 := zbA.cell 1
        simp at ztA0 ztA1
        clear hcA bN zbA hE hok
        have HXN : Hid _ := hxn
        have HES : Hid _ := hEs
        clear hxn hEs
        have HKT : Hid (∀ W : World, Below wr.heap.size wr W → W.cell? ⟨T, 0, none⟩ = some (.slice (some ⟨b, off, none⟩) m c) ∧ W.cell? ⟨T, 1, none⟩ = some (.int .i64 nx) ∧ W.cell? ⟨b, off + k * 6, none⟩ = some (.int .i64 x)) := fun W hW => ⟨(hft.out.zT.keep hW).cell 0, (hft.out.zT.keep hW).cell 1, HKE.out W hW⟩
        have hTn : wr.heap.size ≠ T := by have := Blk.lt hft.out.zT; omega
        have hbn : wr.heap.size ≠ b := by omega
        clear eA ztA0 ztA1
        go_upto_region 13 with fail
        go_cut [12, 13] from 70 to 117 (fun p q wx => NXR wr E true p q wx)
        case first =>
          go_region_held3 (fun W : World => W.cell? ⟨T, 0, none⟩ = some (.slice (some ⟨b, off, none⟩) m c) ∧ W.cell? ⟨T, 1, none⟩ = some (.int .i64 nx) ∧ W.cell? ⟨b, off + k * 6, none⟩ = some (.int .i64 x)) (go_keep) (first
            | (go_at_call 10; (with_reducible refine hA1.mono ?_); rintro e w10 ⟨b1, d1, b2, d2, b3, d3, rfl, gA, bA⟩; have BA : Below wr.heap.size wr w10 := (Below.refl _ wr).drew.trans bA; obtain ⟨p0, p1, p2⟩ := HKT.out w10 BA; have zN := Blk.new w10 30 #[.int .i64 0, .int .i64 0, .int .i64 0, .slice none 0 0, .slice none 0 0, .slice none 0 0]; obtain ⟨n0, n1, n2, n3, n4, n5⟩ := zN.six; have f0 := zN.frozen 0; have f1 := zN.frozen 1; have f2 := zN.frozen 2; have f3 := zN.frozen 3; have f4 := zN.frozen 4; have f5 := zN.frozen 5)
            | (go_at_call 10; (with_reducible refine hA2.mono ?_); rintro e w10 ⟨b1, d1, b2, d2, b3, d3, rfl, gB, bB⟩; have BB : Below wr.heap.size wr w10 := ((Below.refl _ wr).alloc (Nat.le_refl _) _).drew.trans (bB.mono (by show _ ≤ (wr.alloc _).heap.size; simp)); obtain ⟨p0, p1, p2⟩ := HKT.out w10 BB; have zN := Blk.keep (Blk.drew (Blk.new wr 30 #[.int .i64 0, .int .i64 0, .int .i64 0, .slice none 0 0, .slice none 0 0, .slice none 0 0])) bB; obtain ⟨n0, n1, n2, n3, n4, n5⟩ := zN.six; have f0 := zN.frozen 0; have f1 := zN.frozen 1; have f2 := zN.frozen 2; have f3 := zN.frozen 3; have f4 := zN.frozen 4; have f5 := zN.frozen 5))
          all_goals (go_wp2_with fail; go_meet)
          all_goals first
            | (have q := gA; have h1 := nxrA (ok := true) (Below.refl _ wr) BA gA; exact h1)
            | (have h0 := gB.wider (B' := wr.heap.size + 1) (by show wr.heap.size + 1 ≤ (wr.alloc _).heap.size; simp) (Nat.le_refl _); have h2 := nxrB (ok := true) (Below.refl _ wr) (Nat.le_refl wr.heap.size) (.inl (Nat.lt_succ_self wr.heap.size)) BB zN h0; exact h2)
            | fail
        case rest =>
          obtain ⟨⟨A1, g1, h1, g2, h2, g3, h3, rfl, hA1', zA, rA⟩, rfl, bX⟩ := hcut
          obtain ⟨Wc, hwc⟩ : ∃ W, W = wc := ⟨_, rfl⟩
          subst hwc
          have hfc : Hid _ := hft.out.keep bX
          have HKC : Hid (∀ W : World, Below Wc.heap.size Wc W → W.cell? ⟨b, off + k * 6, none⟩ = some (.int .i64 x)) := fun W hW => HKE.out W (bX.trans (hW.mono bX.size))
          have hbx : Hid _ := bX
          have HBL : Hid (b < Wc.heap.size) := by show _ < _; have := bX.size; omega
          clear t0 t1 e0 hA1 hA2 hft HKE hA1' bX HKT hTn hbn
          have t0 := hfc.out.zT.cell 0
          have e0 := HKC.out Wc (Below.refl _ _)
          have l0 := hfc.out.zF.cell 0
          have l1 := hfc.out.zF.cell 1
          simp at t0 l0 l1
          obtain ⟨E', hE'⟩ : ∃ E', atE (dropD (setD ds D) D.ino) x = E' := ⟨_, rfl⟩
          obtain ⟨is, his⟩ : ∃ is, (look (dropD (setD ds D) D.ino) x).isSome = is := ⟨_, rfl⟩
          have hcB := fun (W : World) (hW : Below Wc.heap.size Wc W) => nAt fa fn fc nx x (dropD (setD ds D) D.ino) E' is W (hfc.out.hF.keep hW) HXN.out hE' his
          have hB1 := hcB Wc.drew (Below.refl _ _).drew
          have hB2 := hcB (Wc.alloc (.cells #[.int .i64 0, .int .i64 0, .int .i64 0, .slice none 0 0, .slice none 0 0, .slice none 0 0] 30)).drew ((Below.refl _ _).alloc (Nat.le_refl _) _).drew
          have bN : Below Wc.heap.size Wc (Wc.alloc (.cells #[.int .i64 0, .int .i64 0, .int .i64 0, .slice none 0 0, .slice none 0 0, .slice none 0 0] 30)) := (Below.refl _ Wc).alloc (Nat.le_refl _) _
          have eA := HKC.out _ bN
          have zbA := hfc.out.zT.alloc (.cells #[.int .i64 0, .int .i64 0, .int .i64 0, .slice none 0 0, .slice none 0 0, .slice none 0 0] 30)
          have zfA := hfc.out.zF.alloc (.cells #[.int .i64 0, .int .i64 0, .int .i64 0, .slice none 0 0, .slice none 0 0, .slice none 0 0] 30)
          have ztA0 := zbA.cell 0
          have zfA0 := zfA.cell 0
          have zfA1 := zfA.cell 1
          simp at ztA0 zfA0 zfA1
          clear hcB bN zbA zfA
          have HXI : Hid _ := And.intro hE' his
          clear hE' his
          have HZA : Hid _ := zA
          have HRA : Hid _ := rA
          clear zA rA
          have HKU : Hid (∀ W : World, Below Wc.heap.size Wc W → W.cell? ⟨F, 0, none⟩ = some (.slice fa fn fc) ∧ W.cell? ⟨F, 1, none⟩ = some (.int .i64 nx) ∧ W.cell? ⟨T, 0, none⟩ = some (.slice (some ⟨b, off, none⟩) m c) ∧ W.cell? ⟨b, off + k * 6, none⟩ = some (.int .i64 x)) := fun W hW => ⟨(hfc.out.zF.keep hW).cell 0, (hfc.out.zF.keep hW).cell 1, (hfc.out.zT.keep hW).cell 0, HKC.out W hW⟩
          have hTn : Wc.heap.size ≠ T := by have := Blk.lt hfc.out.zT; omega
          have hFn : Wc.heap.size ≠ F := by have := Blk.lt hfc.out.zF; omega
          have hbn : Wc.heap.size ≠ b := by have := HBL.out; omega
          clear eA ztA0 zfA0 zfA1
          go_upto_region 14 with fail
          go_cut [14, 15] from 70 to 117 (fun p q wx => NXR Wc E' is p q wx)
          case first =>
            go_region_held3 (fun W : World => W.cell? ⟨F, 0, none⟩ = some (.slice fa fn fc) ∧ W.cell? ⟨F, 1, none⟩ = some (.int .i64 nx) ∧ W.cell? ⟨T, 0, none⟩ = some (.slice (some ⟨b, off, none⟩) m c) ∧ W.cell? ⟨b, off + k * 6, none⟩ = some (.int .i64 x)) (go_keep) (first
              | (go_at_call 10; (with_reducible refine hB1.mono ?_); rintro e w10 ⟨b1, d1, b2, d2, b3, d3, rfl, gA, bA⟩; have BA : Below Wc.heap.size Wc w10 := (Below.refl _ Wc).drew.trans bA; obtain ⟨p0, p1, p2, p3⟩ := HKU.out w10 BA; have zN := Blk.new w10 30 #[.int .i64 0, .int .i64 0, .int .i64 0, .slice none 0 0, .slice none 0 0, .slice none 0 0]; obtain ⟨n0, n1, n2, n3, n4, n5⟩ := zN.six; have f0 := zN.frozen 0; have f1 := zN.frozen 1; have f2 := zN.frozen 2; have f3 := zN.frozen 3; have f4 := zN.frozen 4; have f5 := zN.frozen 5)
              | (go_at_call 10; (with_reducible refine hB2.mono ?_); rintro e w10 ⟨b1, d1, b2, d2, b3, d3, rfl, gB, bB⟩; have BB : Below Wc.heap.size Wc w10 := ((Below.refl _ Wc).alloc (Nat.le_refl _) _).drew.trans (bB.mono (by show _ ≤ (Wc.alloc _).heap.size; simp)); obtain ⟨p0, p1, p2, p3⟩ := HKU.out w10 BB; have zN := Blk.keep (Blk.drew (Blk.new Wc 30 #[.int .i64 0, .int .i64 0, .int .i64 0, .slice none 0 0, .slice none 0 0, .slice none 0 0])) bB; obtain ⟨n0, n1, n2, n3, n4, n5⟩ := zN.six; have f0 := zN.frozen 0; have f1 := zN.frozen 1; have f2 := zN.frozen 2; have f3 := zN.frozen 3; have f4 := zN.frozen 4; have f5 := zN.frozen 5))
            all_goals (go_wp2_with fail; go_meet)
            all_goals first
              | (have q := gA; have h1 := nxrA (ok := is) (Below.refl _ Wc) BA gA; exact h1)
              | (have h0 := gB.wider (B' := Wc.heap.size + 1) (by show Wc.heap.size + 1 ≤ (Wc.alloc _).heap.size; simp) (Nat.le_refl _); have h2 := nxrB (ok := is) (Below.refl _ Wc) (Nat.le_refl Wc.heap.size) (.inl (Nat.lt_succ_self Wc.heap.size)) BB zN h0; exact h2)
              | fail
          case rest =>
            obtain ⟨⟨A2, i1, j1, i2, j2, i3, j3, rfl, hA2', zB, rB⟩, rfl, bX⟩ := hcut
            obtain ⟨Wd, hwd⟩ : ∃ W, W = wc := ⟨_, rfl⟩
            subst hwd
            have hfd : Hid _ := hfc.out.keep bX
            have HKD : Hid (∀ W : World, Below Wd.heap.size Wd W → W.cell? ⟨b, off + k * 6, none⟩ = some (.int .i64 x)) := fun W hW => HKC.out W (bX.trans (hW.mono bX.size))
            have zA := Blk.keep HZA.out bX
            have rA := HRA.out.keep bX
            clear t0 e0 l0 l1 hB1 hB2 hfc HKC hA2' bX HZA HRA HKU hTn hFn hbn

            obtain ⟨hE, hok⟩ := HXE.out
            obtain ⟨hE', his⟩ := HXI.out
            have hEs := HES.out
            by_cases hxD : x = D.ino
            · have hne : (x != x) = false := by simp
              have hne' : (x == x) = true := by simp
              have HKF : Hid (∀ W : World, Below Wd.heap.size Wd W → W.cell? ⟨T, 0, none⟩ = some (.slice (some ⟨b, off, none⟩) m c) ∧ W.cell? ⟨b, off + k * 6, none⟩ = some (.int .i64 x) ∧ W.cell? ⟨X, 0, none⟩ = some (.int .i64 x)) := fun W hW => ⟨(hfd.out.zT.keep hW).cell 0, HKD.out W hW, by rw [hxD]; exact (hfd.out.zX.keep hW).cell 0⟩
              obtain ⟨t0, e0, x0⟩ := HKF.out Wd (Below.refl _ _)
              have hnx : Hid _ := hfd.out.keep (Below.refl _ Wd).drew
              clear hxD zA zB rA rB hfd hE hE' his hok HKD
              go_upto_region 15 with fail
              refine wp_region_noPanic ?_
              refine wp_region_held_drew (S := fun W : World => W.cell? ⟨T, 0, none⟩ = some (.slice (some ⟨b, off, none⟩) m c) ∧ W.cell? ⟨b, off + k * 6, none⟩ = some (.int .i64 x) ∧ W.cell? ⟨X, 0, none⟩ = some (.int .i64 x)) (by kernel_rfl) (by go_keep) (fun hS => ?_)
              refine wpAnyH_take (i := 0) (v := ?gv24) rfl (by kernel_rfl) (by kernel_rfl) (by kernel_rfl) (fun _ _ _ h => h) (Or.inl ⟨by kernel_rfl, ?gy24⟩) (by assumption) ?gr24
              case gy24 => (intro w' hSw; (try dsimp only at hSw); go_simp; (try with_reducible rfl))
              try simp only [Act.put, List.setIfInBounds_toArray, List.set_cons_zero, List.set_cons_succ, List.getElem_toArray, List.getElem_cons_zero]
              refine wpAnyH_take (i := 1) (v := ?gv25) rfl (by kernel_rfl) (by kernel_rfl) (by kernel_rfl) (fun _ _ _ h => h) (Or.inl ⟨by kernel_rfl, ?gy25⟩) (by assumption) ?gr25
              case gy25 => (intro w' hSw; (try dsimp only at hSw); go_simp; (try with_reducible rfl))
              try simp only [Act.put, List.setIfInBounds_toArray, List.set_cons_zero, List.set_cons_succ, List.getElem_toArray, List.getElem_cons_succ, List.getElem_cons_zero]
              refine wpAnyH_take (i := 2) (v := ?gv26) rfl (by kernel_rfl) (by kernel_rfl) (by kernel_rfl) (fun _ _ _ h => h) (Or.inl ⟨by kernel_rfl, ?gy26⟩) (by assumption) ?gr26
              case gy26 => (intro w' hSw; (try dsimp only at hSw); go_simp; (try with_reducible rfl))
              try simp only [Act.put, List.setIfInBounds_toArray, List.set_cons_zero, List.set_cons_succ, List.getElem_toArray, List.getElem_cons_succ, List.getElem_cons_zero]
              refine wpAnyH_take (i := 3) (v := ?gv27) rfl (by kernel_rfl) (by kernel_rfl) (by kernel_rfl) (fun _ _ _ h => h) (Or.inl ⟨by kernel_rfl, ?gy27⟩) (by assumption) ?gr27
              case gy27 => (intro w' hSw; (try dsimp only at hSw); go_simp; (try with_reducible rfl))
              try simp only [Act.put, List.setIfInBounds_toArray, List.set_cons_zero, List.set_cons_succ, List.getElem_toArray, List.getElem_cons_succ, List.getElem_cons_zero]
              refine wpAnyH_take (i := 4) (v := ?gv28) rfl (by kernel_rfl) (by kernel_rfl) (by kernel_rfl) (fun _ _ _ h => h) (Or.inl ⟨by kernel_rfl, ?gy28⟩) (by assumption) ?gr28
              case gy28 => (intro w' hSw; (try dsimp only at hSw); go_simp; (try with_reducible rfl))
              try simp only [Act.put, List.setIfInBounds_toArray, List.set_cons_zero, List.set_cons_succ, List.getElem_toArray, List.getElem_cons_succ, List.getElem_cons_zero]
              refine wpAnyH_take (i := 5) (v := ?gv29) rfl (by kernel_rfl) (by kernel_rfl) (by kernel_rfl) (fun _ _ _ h => h) (Or.inl ⟨by kernel_rfl, ?gy29⟩) (by assumption) ?gr29
              case gy29 => (intro w' hSw; (try dsimp only at hSw); go_simp; (try with_reducible rfl))
              try simp only [Act.put, List.setIfInBounds_toArray, List.set_cons_zero, List.set_cons_succ, List.getElem_toArray, List.getElem_cons_succ, List.getElem_cons_zero]
              refine wpAnyH_take (i := 6) (v := ?gv30) rfl (by kernel_rfl) (by kernel_rfl) (by kernel_rfl) (fun _ _ _ h => h) (Or.inl ⟨by kernel_rfl, ?gy30⟩) (by assumption) ?gr30
              case gy30 => (intro w' hSw; (try dsimp only at hSw); go_simp; (try with_reducible rfl))
              try simp only [Act.put, List.setIfInBounds_toArray, List.set_cons_zero, List.set_cons_succ, List.getElem_toArray, List.getElem_cons_succ, List.getElem_cons_zero]
              refine wpAnyH_take (i := 7) (v := ?gv31) rfl (by kernel_rfl) (by kernel_rfl) (by kernel_rfl) (fun _ _ _ h => h) (Or.inl ⟨by kernel_rfl, ?gy31⟩) (by assumption) ?gr31
              case gy31 => (intro w' hSw; (try dsimp only at hSw); go_simp; (try with_reducible rfl))
              try simp only [Act.put, List.setIfInBounds_toArray, List.set_cons_zero, List.set_cons_succ, List.getElem_toArray, List.getElem_cons_succ, List.getElem_cons_zero]
              refine wpAnyH_take (i := 8) (v := ?gv32) rfl (by kernel_rfl) (by kernel_rfl) (by kernel_rfl) (fun _ _ _ h => h) (Or.inl ⟨by kernel_rfl, ?gy32⟩) (by assumption) ?gr32
              case gy32 => (intro w' hSw; (try dsimp only at hSw); go_simp; (try with_reducible rfl))
              try simp only [Act.put, List.setIfInBounds_toArray, List.set_cons_zero, List.set_cons_succ, List.getElem_toArray, List.getElem_cons_succ, List.getElem_cons_zero]
              refine wpAnyH_take (i := 9) (v := ?gv33) rfl (by kernel_rfl) (by kernel_rfl) (by kernel_rfl) (fun _ _ _ h => h) (Or.inl ⟨by kernel_rfl, ?gy33⟩) (by assumption) ?gr33
              case gy33 => (intro w' hSw; (try dsimp only at hSw); go_simp; (try with_reducible rfl))
              try simp only [Act.put, List.setIfInBounds_toArray, List.set_cons_zero, List.set_cons_succ, List.getElem_toArray, List.getElem_cons_succ, List.getElem_cons_zero]
              refine wpAnyH_take (i := 10) (v := undef) rfl (by kernel_rfl) (by kernel_rfl) (by kernel_rfl) (fun _ _ _ h => h) (Or.inr ⟨by kernel_rfl, rfl⟩) (by assumption) ?_
              try simp only [Act.put, List.setIfInBounds_toArray, List.set_cons_zero, List.set_cons_succ, List.getElem_toArray, List.getElem_cons_succ, List.getElem_cons_zero]
              refine wpAnyH_take (i := 11) (v := undef) rfl (by kernel_rfl) (by kernel_rfl) (by kernel_rfl) (fun _ _ _ h => h) (Or.inr ⟨by kernel_rfl, rfl⟩) (by assumption) ?_
              try simp only [Act.put, List.setIfInBounds_toArray, List.set_cons_zero, List.set_cons_succ, List.getElem_toArray, List.getElem_cons_succ, List.getElem_cons_zero]
              refine wpAnyH_take (i := 12) (v := undef) rfl (by kernel_rfl) (by kernel_rfl) (by kernel_rfl) (fun _ _ _ h => h) (Or.inr ⟨by kernel_rfl, rfl⟩) (by assumption) ?_
              try simp only [Act.put, List.setIfInBounds_toArray, List.set_cons_zero, List.set_cons_succ, List.getElem_toArray, List.getElem_cons_succ, List.getElem_cons_zero]
              refine wpAnyH_take (i := 13) (v := undef) rfl (by kernel_rfl) (by kernel_rfl) (by kernel_rfl) (fun _ _ _ h => h) (Or.inr ⟨by kernel_rfl, rfl⟩) (by assumption) ?_
              try simp only [Act.put, List.setIfInBounds_toArray, List.set_cons_zero, List.set_cons_succ, List.getElem_toArray, List.getElem_cons_succ, List.getElem_cons_zero]
              refine wpAnyH_take (i := 14) (v := undef) rfl (by kernel_rfl) (by kernel_rfl) (by kernel_rfl) (fun _ _ _ h => h) (Or.inr ⟨by kernel_rfl, rfl⟩) (by assumption) ?_
              try simp only [Act.put, List.setIfInBounds_toArray, List.set_cons_zero, List.set_cons_succ, List.getElem_toArray, List.getElem_cons_succ, List.getElem_cons_zero]
              refine wpAnyH_take (i := 15) (v := undef) rfl (by kernel_rfl) (by kernel_rfl) (by kernel_rfl) (fun _ _ _ h => h) (Or.inr ⟨by kernel_rfl, rfl⟩) (by assumption) ?_
              try simp only [Act.put, List.setIfInBounds_toArray, List.set_cons_zero, List.set_cons_succ, List.getElem_toArray, List.getElem_cons_succ, List.getElem_cons_zero]
              refine wpAnyH_take (i := 16) (v := undef) rfl (by kernel_rfl) (by kernel_rfl) (by kernel_rfl) (fun _ _ _ h => h) (Or.inr ⟨by kernel_rfl, rfl⟩) (by assumption) ?_
              try simp only [Act.put, List.setIfInBounds_toArray, List.set_cons_zero, List.set_cons_succ, List.getElem_toArray, List.getElem_cons_succ, List.getElem_cons_zero]
              refine wpAnyH_take (i := 17) (v := undef) rfl (by kernel_rfl) (by kernel_rfl) (by kernel_rfl) (fun _ _ _ h => h) (Or.inr ⟨by kernel_rfl, rfl⟩) (by assumption) ?_
              try simp only [Act.put, List.setIfInBounds_toArray, List.set_cons_zero, List.set_cons_succ, List.getElem_toArray, List.getElem_cons_succ, List.getElem_cons_zero]
              refine wpAnyH_take (i := 18) (v := ?gv34) rfl (by kernel_rfl) (by kernel_rfl) (by kernel_rfl) (fun _ _ _ h => h) (Or.inl ⟨by kernel_rfl, ?gy34⟩) (by assumption) ?gr34
              case gy34 => (intro w' hSw; (try dsimp only at hSw); go_simp; (try with_reducible rfl))
              try simp only [Act.put, List.setIfInBounds_toArray, List.set_cons_zero, List.set_cons_succ, List.getElem_toArray, List.getElem_cons_succ, List.getElem_cons_zero]
              refine wpAnyH_done (by kernel_rfl) (NoPanic.normal ?_) _
              clear t0 e0 x0
              go_wp2
              go_roundw
              case rel => exact ⟨k + 1, by omega, by go_num, hnx⟩
              case measure => simp [intOf]; omega
            · obtain ⟨y, hy⟩ : ∃ y, D.ino = y := ⟨_, rfl⟩
              have hne : (x != y) = true := by rw [← hy]; simpa using hxD
              have hne' : (x == y) = false := by rw [← hy]; simpa using hxD
              have hEE : E' = E := by rw [← hE', ← hE]; unfold atE; rw [drop_set_look ds D x hxD]
              have his' : is = true := by rw [← his, drop_set_look ds D x hxD]; exact hok
              subst his'
              rw [hEE] at zB rB
              have HKF : Hid (∀ W : World, Below Wd.heap.size Wd W → W.cell? ⟨T, 0, none⟩ = some (.slice (some ⟨b, off, none⟩) m c) ∧ W.cell? ⟨b, off + k * 6, none⟩ = some (.int .i64 x) ∧ W.cell? ⟨X, 0, none⟩ = some (.int .i64 y) ∧ W.cell? ⟨A1, 0, none⟩ = some (.int .i64 E.ino) ∧ W.cell? ⟨A1, 1, none⟩ = some (.int .i64 E.kind) ∧ W.cell? ⟨A1, 2, none⟩ = some (.int .i64 E.links) ∧ W.cell? ⟨A1, 3, none⟩ = some (.slice g1 E.data.length h1) ∧ W.cell? ⟨A1, 4, none⟩ = some (.slice g2 E.ents.length h2) ∧ W.cell? ⟨A1, 5, none⟩ = some (.slice g3 E.attrs.length h3) ∧ W.cell? ⟨A2, 0, none⟩ = some (.int .i64 E.ino) ∧ W.cell? ⟨A2, 1, none⟩ = some (.int .i64 E.kind) ∧ W.cell? ⟨A2, 2, none⟩ = some (.int .i64 E.links) ∧ W.cell? ⟨A2, 3, none⟩ = some (.slice i1 E.data.length j1) ∧ W.cell? ⟨A2, 4, none⟩ = some (.slice i2 E.ents.length j2) ∧ W.cell? ⟨A2, 5, none⟩ = some (.slice i3 E.attrs.length j3)) := fun W hW => ⟨(hfd.out.zT.keep hW).cell 0, HKD.out W hW, by rw [← hy]; exact (hfd.out.zX.keep hW).cell 0, (zA.keep hW).cell 0, (zA.keep hW).cell 1, (zA.keep hW).cell 2, (zA.keep hW).cell 3, (zA.keep hW).cell 4, (zA.keep hW).cell 5, (zB.keep hW).cell 0, (zB.keep hW).cell 1, (zB.keep hW).cell 2, (zB.keep hW).cell 3, (zB.keep hW).cell 4, (zB.keep hW).cell 5⟩
              obtain ⟨t0, e0, x0, q0, q1, q2, q3, q4, q5, r0, r1, r2, r3, r4, r5⟩ := HKF.out Wd (Below.refl _ _)
              have hc1 := nSameIno E g1 g2 g3 i1 i2 i3 h1 h2 h3 j1 j2 j3 Wd.drew hEs (rA.keep (Below.refl _ _).drew) (rB.keep (Below.refl _ _).drew)
              have hnx : Hid _ := fun (W : World) (hW : Below Wd.heap.size Wd W) => hfd.out.keep hW
              clear hxD hy zA zB rA rB hfd hE hE' hEE his hok HKD
              go_upto_region 15 with fail
              refine wp_region_noPanic ?_
              refine wp_region_held_drew (S := fun W : World => W.cell? ⟨T, 0, none⟩ = some (.slice (some ⟨b, off, none⟩) m c) ∧ W.cell? ⟨b, off + k * 6, none⟩ = some (.int .i64 x) ∧ W.cell? ⟨X, 0, none⟩ = some (.int .i64 y) ∧ W.cell? ⟨A1, 0, none⟩ = some (.int .i64 E.ino) ∧ W.cell? ⟨A1, 1, none⟩ = some (.int .i64 E.kind) ∧ W.cell? ⟨A1, 2, none⟩ = some (.int .i64 E.links) ∧ W.cell? ⟨A1, 3, none⟩ = some (.slice g1 E.data.length h1) ∧ W.cell? ⟨A1, 4, none⟩ = some (.slice g2 E.ents.length h2) ∧ W.cell? ⟨A1, 5, none⟩ = some (.slice g3 E.attrs.length h3) ∧ W.cell? ⟨A2, 0, none⟩ = some (.int .i64 E.ino) ∧ W.cell? ⟨A2, 1, none⟩ = some (.int .i64 E.kind) ∧ W.cell? ⟨A2, 2, none⟩ = some (.int .i64 E.links) ∧ W.cell? ⟨A2, 3, none⟩ = some (.slice i1 E.data.length j1) ∧ W.cell? ⟨A2, 4, none⟩ = some (.slice i2 E.ents.length j2) ∧ W.cell? ⟨A2, 5, none⟩ = some (.slice i3 E.attrs.length j3)) (by kernel_rfl) (by go_keep) (fun hS => ?_)
              refine wpAnyH_take (i := 0) (v := ?gv35) rfl (by kernel_rfl) (by kernel_rfl) (by kernel_rfl) (fun _ _ _ h => h) (Or.inl ⟨by kernel_rfl, ?gy35⟩) (by assumption) ?gr35
              case gy35 => (intro w' hSw; (try dsimp only at hSw); go_simp; (try with_reducible rfl))
              try simp only [Act.put, List.setIfInBounds_toArray, List.set_cons_zero, List.set_cons_succ, List.getElem_toArray, List.getElem_cons_zero]
              refine wpAnyH_take (i := 1) (v := ?gv36) rfl (by kernel_rfl) (by kernel_rfl) (by kernel_rfl) (fun _ _ _ h => h) (Or.inl ⟨by kernel_rfl, ?gy36⟩) (by assumption) ?gr36
              case gy36 => (intro w' hSw; (try dsimp only at hSw); go_simp; (try with_reducible rfl))
              try simp only [Act.put, List.setIfInBounds_toArray, List.set_cons_zero, List.set_cons_succ, List.getElem_toArray, List.getElem_cons_succ, List.getElem_cons_zero]
              refine wpAnyH_take (i := 2) (v := ?gv37) rfl (by kernel_rfl) (by kernel_rfl) (by kernel_rfl) (fun _ _ _ h => h) (Or.inl ⟨by kernel_rfl, ?gy37⟩) (by assumption) ?gr37
              case gy37 => (intro w' hSw; (try dsimp only at hSw); go_simp; (try with_reducible rfl))
              try simp only [Act.put, List.setIfInBounds_toArray, List.set_cons_zero, List.set_cons_succ, List.getElem_toArray, List.getElem_cons_succ, List.getElem_cons_zero]
              refine wpAnyH_take (i := 3) (v := ?gv38) rfl (by kernel_rfl) (by kernel_rfl) (by kernel_rfl) (fun _ _ _ h => h) (Or.inl ⟨by kernel_rfl, ?gy38⟩) (by assumption) ?gr38
              case gy38 => (intro w' hSw; (try dsimp only at hSw); go_simp; (try with_reducible rfl))
              try simp only [Act.put, List.setIfInBounds_toArray, List.set_cons_zero, List.set_cons_succ, List.getElem_toArray, List.getElem_cons_succ, List.getElem_cons_zero]
              refine wpAnyH_take (i := 4) (v := ?gv39) rfl (by kernel_rfl) (by kernel_rfl) (by kernel_rfl) (fun _ _ _ h => h) (Or.inl ⟨by kernel_rfl, ?gy39⟩) (by assumption) ?gr39
              case gy39 => (intro w' hSw; (try dsimp only at hSw); go_simp; (try with_reducible rfl))
              try simp only [Act.put, List.setIfInBounds_toArray, List.set_cons_zero, List.set_cons_succ, List.getElem_toArray, List.getElem_cons_succ, List.getElem_cons_zero]
              refine wpAnyH_take (i := 5) (v := ?gv40) rfl (by kernel_rfl) (by kernel_rfl) (by kernel_rfl) (fun _ _ _ h => h) (Or.inl ⟨by kernel_rfl, ?gy40⟩) (by assumption) ?gr40
              case gy40 => (intro w' hSw; (try dsimp only at hSw); go_simp; (try with_reducible rfl))
              try simp only [Act.put, List.setIfInBounds_toArray, List.set_cons_zero, List.set_cons_succ, List.getElem_toArray, List.getElem_cons_succ, List.getElem_cons_zero]
              refine wpAnyH_take (i := 6) (v := ?gv41) rfl (by kernel_rfl) (by kernel_rfl) (by kernel_rfl) (fun _ _ _ h => h) (Or.inl ⟨by kernel_rfl, ?gy41⟩) (by assumption) ?gr41
              case gy41 => (intro w' hSw; (try dsimp only at hSw); go_simp; (try with_reducible rfl))
              try simp only [Act.put, List.setIfInBounds_toArray, List.set_cons_zero, List.set_cons_succ, List.getElem_toArray, List.getElem_cons_succ, List.getElem_cons_zero]
              refine wpAnyH_take (i := 7) (v := ?gv42) rfl (by kernel_rfl) (by kernel_rfl) (by kernel_rfl) (fun _ _ _ h => h) (Or.inl ⟨by kernel_rfl, ?gy42⟩) (by assumption) ?gr42
              case gy42 => (intro w' hSw; (try dsimp only at hSw); go_simp; (try with_reducible rfl))
              try simp only [Act.put, List.setIfInBounds_toArray, List.set_cons_zero, List.set_cons_succ, List.getElem_toArray, List.getElem_cons_succ, List.getElem_cons_zero]
              refine wpAnyH_take (i := 8) (v := ?gv43) rfl (by kernel_rfl) (by kernel_rfl) (by kernel_rfl) (fun _ _ _ h => h) (Or.inl ⟨by kernel_rfl, ?gy43⟩) (by assumption) ?gr43
              case gy43 => (intro w' hSw; (try dsimp only at hSw); go_simp; (try with_reducible rfl))
              try simp only [Act.put, List.setIfInBounds_toArray, List.set_cons_zero, List.set_cons_succ, List.getElem_toArray, List.getElem_cons_succ, List.getElem_cons_zero]
              refine wpAnyH_take (i := 9) (v := ?gv44) rfl (by kernel_rfl) (by kernel_rfl) (by kernel_rfl) (fun _ _ _ h => h) (Or.inl ⟨by kernel_rfl, ?gy44⟩) (by assumption) ?gr44
              case gy44 => (intro w' hSw; (try dsimp only at hSw); go_simp; (try with_reducible rfl))
              try simp only [Act.put, List.setIfInBounds_toArray, List.set_cons_zero, List.set_cons_succ, List.getElem_toArray, List.getElem_cons_succ, List.getElem_cons_zero]
              refine wpAnyH_take (i := 10) (v := ?gv45) rfl (by kernel_rfl) (by kernel_rfl) (by kernel_rfl) (fun _ _ _ h => h) (Or.inl ⟨by kernel_rfl, ?gy45⟩) (by assumption) ?gr45
              case gy45 => (intro w' hSw; (try dsimp only at hSw); go_simp; (try with_reducible rfl))
              try simp only [Act.put, List.setIfInBounds_toArray, List.set_cons_zero, List.set_cons_succ, List.getElem_toArray, List.getElem_cons_succ, List.getElem_cons_zero]
              refine wpAnyH_take (i := 11) (v := ?gv46) rfl (by kernel_rfl) (by kernel_rfl) (by kernel_rfl) (fun _ _ _ h => h) (Or.inl ⟨by kernel_rfl, ?gy46⟩) (by assumption) ?gr46
              case gy46 => (intro w' hSw; (try dsimp only at hSw); go_simp; (try with_reducible rfl))
              try simp only [Act.put, List.setIfInBounds_toArray, List.set_cons_zero, List.set_cons_succ, List.getElem_toArray, List.getElem_cons_succ, List.getElem_cons_zero]
              refine wpAnyH_take (i := 12) (v := ?gv47) rfl (by kernel_rfl) (by kernel_rfl) (by kernel_rfl) (fun _ _ _ h => h) (Or.inl ⟨by kernel_rfl, ?gy47⟩) (by assumption) ?gr47
              case gy47 => (intro w' hSw; (try dsimp only at hSw); go_simp; (try with_reducible rfl))
              try simp only [Act.put, List.setIfInBounds_toArray, List.set_cons_zero, List.set_cons_succ, List.getElem_toArray, List.getElem_cons_succ, List.getElem_cons_zero]
              refine wpAnyH_take (i := 13) (v := ?gv48) rfl (by kernel_rfl) (by kernel_rfl) (by kernel_rfl) (fun _ _ _ h => h) (Or.inl ⟨by kernel_rfl, ?gy48⟩) (by assumption) ?gr48
              case gy48 => (intro w' hSw; (try dsimp only at hSw); go_simp; (try with_reducible rfl))
              try simp only [Act.put, List.setIfInBounds_toArray, List.set_cons_zero, List.set_cons_succ, List.getElem_toArray, List.getElem_cons_succ, List.getElem_cons_zero]
              refine wpAnyH_take (i := 14) (v := ?gv49) rfl (by kernel_rfl) (by kernel_rfl) (by kernel_rfl) (fun _ _ _ h => h) (Or.inl ⟨by kernel_rfl, ?gy49⟩) (by assumption) ?gr49
              case gy49 => (intro w' hSw; (try dsimp only at hSw); go_simp; (try with_reducible rfl))
              try simp only [Act.put, List.setIfInBounds_toArray, List.set_cons_zero, List.set_cons_succ, List.getElem_toArray, List.getElem_cons_succ, List.getElem_cons_zero]
              refine wpAnyH_ready (rs := [15]) (by kernel_rfl) (by simp) ?_
              refine AllReadyH.cons rfl (fun K hK => ?_) AllReadyH.nil
              go_simp
              go_at_call 12
              (with_reducible refine hc1.mono ?_)
              rintro e w8 ⟨rfl, b8⟩
              have B8 : Below Wd.heap.size Wd w8 := (Below.refl _ Wd).drew.trans b8
              clear hS
              dsimp only
              refine Shut.out hK _ _ (HKF.out w8 B8) (fun hS => ?_)
              try simp only [Act.put, List.setIfInBounds_toArray, List.set_cons_zero, List.set_cons_succ, List.getElem_toArray, List.getElem_cons_succ, List.getElem_cons_zero]
              refine wpAnyH_take (i := 16) (v := ?gv50) rfl (by kernel_rfl) (by kernel_rfl) (by kernel_rfl) (fun _ _ _ h => h) (Or.inl ⟨by kernel_rfl, ?gy50⟩) (by assumption) ?gr50
              case gy50 => (intro w' hSw; (try dsimp only at hSw); go_simp; (try with_reducible rfl))
              try simp only [Act.put, List.setIfInBounds_toArray, List.set_cons_zero, List.set_cons_succ, List.getElem_toArray, List.getElem_cons_succ, List.getElem_cons_zero]
              refine wpAnyH_take (i := 17) (v := ?gv51) rfl (by kernel_rfl) (by kernel_rfl) (by kernel_rfl) (fun _ _ _ h => h) (Or.inl ⟨by kernel_rfl, ?gy51⟩) (by assumption) ?gr51
              case gy51 => (intro w' hSw; (try dsimp only at hSw); go_simp; (try with_reducible rfl))
              try simp only [Act.put, List.setIfInBounds_toArray, List.set_cons_zero, List.set_cons_succ, List.getElem_toArray, List.getElem_cons_succ, List.getElem_cons_zero]
              refine wpAnyH_take (i := 18) (v := ?gv52) rfl (by kernel_rfl) (by kernel_rfl) (by kernel_rfl) (fun _ _ _ h => h) (Or.inl ⟨by kernel_rfl, ?gy52⟩) (by assumption) ?gr52
              case gy52 => (intro w' hSw; (try dsimp only at hSw); go_simp; (try with_reducible rfl))
              try simp only [Act.put, List.setIfInBounds_toArray, List.set_cons_zero, List.set_cons_succ, List.getElem_toArray, List.getElem_cons_succ, List.getElem_cons_zero]
              refine wpAnyH_done (by kernel_rfl) (NoPanic.normal ?_) _
              clear t0 e0 x0 q0 q1 q2 q3 q4 q5 r0 r1 r2 r3 r4 r5 hc1
              go_wp2
              go_roundw
              case rel => exact ⟨k + 1, by omega, by go_num, hnx.out w8 B8⟩
              case measure => simp [intOf]; omega
      · have hki : ¬ (k : Int) < (m : Int) := by omega
        have hend : Hid (Below w.heap.size w wr) := hft.out.b
        go_wp2
        go_ret
        exact ⟨rfl, hend.out⟩
end
end Go.Proofs.Ytgcmpimckpnemaa
