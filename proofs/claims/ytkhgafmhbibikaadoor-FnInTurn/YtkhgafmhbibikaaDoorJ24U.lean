/-
  Joined: SzCh, FnExactEraseW.
-/
import Derived.Test.YtkhgafmhbibikaaDoorJ23U
import Derived.Test.YtkhgafmhbibikaaDoorJ22U
namespace Go.Proofs.YtkhgafmhbibikaaDoor
section
open Go.RowKit
set_option maxHeartbeats 1600000 in
theorem szPage_w (u : Bool) (a : Option Addr) (n cap x : Nat) (w : World) (hn : n ≤ maxLen) (hx : x ≤ 1048576) :
    Calls Tryd.prog 86 #[.agg #[.bool u, .slice a n cap], .int .i64 x] w fun e w' => SzQ x n True e ∧ Below w.heap.size w w' := by
  have B0 : Below w.heap.size w (w.alloc (.cells #[.bool u, .slice a n cap] 119)) := (Below.refl _ w).alloc (Nat.le_refl _) _
  have hcall := szByteS_w a n cap x (w.alloc (.cells #[.bool u, .slice a n cap] 119)) hn hx
  have HB : Hid _ := B0
  clear B0
  go_enter Tryd.func86, Tryd.ntmps86
  go_wp2_with fail
  refine hcall.mono ?_
  rintro e w1 ⟨(rfl | ⟨v, hv, rfl, hzz⟩), hb1⟩
  · go_wp2
    go_ret
    exact ⟨.inl rfl, HB.out.trans (hb1.mono HB.out.size)⟩
  · go_wp2
    go_ret
    exact ⟨.inr ⟨v, hv, rfl, trivial⟩, HB.out.trans (hb1.mono HB.out.size)⟩
set_option maxHeartbeats 1600000 in
theorem szPageS_w (a : Option Addr) (n cap x : Nat) (ps : List PgR) (w : World) (hn : ps.length = n) (hm : n ≤ maxLen) (hx : x ≤ 1048576) (hin : ∀ r ∈ ps, PgIn r) (hr : RdPs w a ps) :
    Calls Tryd.prog 77 #[.slice a n cap, .int .i64 x] w fun e w' => SzQ x (totP (ps.map PgR.D)) True e ∧ Below w.heap.size w w' := by
  unfold maxLen at hm
  by_cases h : x < n
  · have h1 : ((x : Int) - (n : Int)) < 0 := by omega
    go_enter Tryd.func77, Tryd.ntmps77
    go_wp2
    go_ret
    exact ⟨.inl rfl, Below.refl _ _⟩
  · have h1 : ¬ ((x : Int) - (n : Int)) < 0 := by omega
    by_cases h0 : n = 0
    · subst h0
      obtain rfl : ps = [] := List.length_eq_zero_iff.1 hn
      go_enter Tryd.func77, Tryd.ntmps77
      go_wp2
      refine wp_loop_rounds 1 ?_; rw [rounds_succ]
      go_wp2
      go_ret
      exact ⟨.inr ⟨x, by simp [totP], ret_int (by simp), trivial⟩, Below.refl _ _⟩
    · have hne : ps ≠ [] := by intro h; subst h; simp at hn; omega
      obtain ⟨b, off, rfl, hlt, hc⟩ := hr.lt hne
      clear hr hne
      have hn' : Hid (ps.length = n) := hn
      have HC : Hid _ := hc
      have HI : Hid _ := hin
      clear hn hc hin
      go_enter Tryd.func77, Tryd.ntmps77
      go_wp2
      go_loopw [1, 5] (fun l i wr => ∃ k y : Nat, k ≤ n ∧ i = .int .i64 k ∧ l = .int .i64 y ∧ Hid (y + (n - k) + totP ((ps.take k).map PgR.D) ≤ x) ∧ Below w.heap.size w wr) (fun _ i _ => n - (intOf i).toNat)
      case atStart => exact ⟨0, x - n, Nat.zero_le _, rfl, by go_num, by show _ ≤ _; simp [totP]; omega, Below.refl _ _⟩
      case round =>
        obtain ⟨k, y, hk, rfl, rfl, hy, hB⟩ := hrel
        by_cases hkn : k < n
        · have hkl : k < ps.length := by rw [hn'.out]; exact hkn
          have hki : (k : Int) < (n : Int) := by omega
          obtain ⟨r, hrk⟩ : ∃ r, ps[k]? = some r := ⟨_, List.getElem?_eq_getElem hkl⟩
          obtain ⟨x6, xr⟩ := HC.out k r hrk
          have hyo := hy.out
          have hcall := szPage_w r.used r.a r.zs.length r.cap y wr (HI.out r (List.mem_of_getElem? hrk)).len (by omega)
          have hcn : Hid (totP ((ps.take (k + 1)).map PgR.D) = totP ((ps.take k).map PgR.D) + (1 + r.zs.length)) := by show _ = _; rw [List.take_add_one, hrk]; simp [totP, PgR.D]
          obtain ⟨x0, x1⟩ := x6.keep hB hlt
          have hwz := hB.size
          obtain ⟨n1, hn1⟩ : ∃ n, r.zs.length = n := ⟨_, rfl⟩
          rw [hn1] at x1 hcall hcn
          clear x6 xr hn1 hrk hkl hyo
          go_wp2_with fail
          refine hcall.mono ?_
          rintro e w1 ⟨(rfl | ⟨v, hv, rfl, _⟩), hb1⟩
          · go_wp2
            go_ret
            exact ⟨.inl rfl, hB.trans (hb1.mono hwz)⟩
          · clear x0 x1 hcall
            go_wp2
            go_roundw
            case rel => exact ⟨k + 1, v, by omega, by go_num, rfl, by show _ ≤ _; have := hcn.out; have := hy.out; omega, hB.trans (hb1.mono hwz)⟩
            case measure => simp [intOf]; omega
        · have hki : ¬ (k : Int) < (n : Int) := by omega
          go_wp2
          go_ret
          have hyo := hy.out
          rw [List.take_of_length_le (by rw [hn'.out]; omega)] at hyo
          exact ⟨.inr ⟨y, by omega, rfl, trivial⟩, hB⟩
set_option maxHeartbeats 1600000 in
theorem szBlock_w (a : Option Addr) (n cap x : Nat) (wear : Int) (bad : Bool) (ps : List PgR) (w : World) (hn : ps.length = n) (hm : n ≤ maxLen) (hx : x ≤ 1048576) (hin : ∀ r ∈ ps, PgIn r) (hr : RdPs w a ps) :
    Calls Tryd.prog 56 #[.agg #[.slice a n cap, .int .i64 wear, .bool bad], .int .i64 x] w fun e w' => SzQ x (totP (ps.map PgR.D)) True e ∧ Below w.heap.size w w' := by
  have B0 : Below w.heap.size w (w.alloc (.cells #[.slice a n cap, .int .i64 wear, .bool bad] 82)) := (Below.refl _ w).alloc (Nat.le_refl _) _
  have hcall := szPageS_w a n cap x ps (w.alloc (.cells #[.slice a n cap, .int .i64 wear, .bool bad] 82)) hn hm hx hin (hr.keep B0)
  have HB : Hid _ := B0
  clear B0 hin hr hn
  go_enter Tryd.func56, Tryd.ntmps56
  go_wp2_with fail
  refine hcall.mono ?_
  rintro e w1 ⟨(rfl | ⟨v, hv, rfl, hzz⟩), hb1⟩
  · go_wp2
    go_ret
    exact ⟨.inl rfl, HB.out.trans (hb1.mono HB.out.size)⟩
  · go_wp2
    go_ret
    exact ⟨.inr ⟨v, hv, rfl, trivial⟩, HB.out.trans (hb1.mono HB.out.size)⟩
set_option maxHeartbeats 1600000 in
theorem szBlockS_w (a : Option Addr) (n cap x : Nat) (bs : List BkR) (w : World) (hn : bs.length = n) (hm : n ≤ maxLen) (hx : x ≤ 1048576) (hin : ∀ r ∈ bs, BkIn r) (hr : RdBs w a bs) :
    Calls Tryd.prog 30 #[.slice a n cap, .int .i64 x] w fun e w' => SzQ x (totB (bs.map BkR.D)) True e ∧ Below w.heap.size w w' := by
  unfold maxLen at hm
  by_cases h : x < n
  · have h1 : ((x : Int) - (n : Int)) < 0 := by omega
    go_enter Tryd.func30, Tryd.ntmps30
    go_wp2
    go_ret
    exact ⟨.inl rfl, Below.refl _ _⟩
  · have h1 : ¬ ((x : Int) - (n : Int)) < 0 := by omega
    by_cases h0 : n = 0
    · subst h0
      obtain rfl : bs = [] := List.length_eq_zero_iff.1 hn
      go_enter Tryd.func30, Tryd.ntmps30
      go_wp2
      refine wp_loop_rounds 1 ?_; rw [rounds_succ]
      go_wp2
      go_ret
      exact ⟨.inr ⟨x, by simp [totB], ret_int (by simp), trivial⟩, Below.refl _ _⟩
    · have hne : bs ≠ [] := by intro h; subst h; simp at hn; omega
      obtain ⟨b, off, rfl, hlt, hc⟩ := hr.lt hne
      clear hr hne
      have hn' : Hid (bs.length = n) := hn
      have HC : Hid _ := hc
      have HI : Hid _ := hin
      clear hn hc hin
      go_enter Tryd.func30, Tryd.ntmps30
      go_wp2
      go_loopw [1, 5] (fun l i wr => ∃ k y : Nat, k ≤ n ∧ i = .int .i64 k ∧ l = .int .i64 y ∧ Hid (y + (n - k) + totB ((bs.take k).map BkR.D) ≤ x) ∧ Below w.heap.size w wr) (fun _ i _ => n - (intOf i).toNat)
      case atStart => exact ⟨0, x - n, Nat.zero_le _, rfl, by go_num, by show _ ≤ _; simp [totB]; omega, Below.refl _ _⟩
      case round =>
        obtain ⟨k, y, hk, rfl, rfl, hy, hB⟩ := hrel
        by_cases hkn : k < n
        · have hkl : k < bs.length := by rw [hn'.out]; exact hkn
          have hki : (k : Int) < (n : Int) := by omega
          obtain ⟨r, hrk⟩ : ∃ r, bs[k]? = some r := ⟨_, List.getElem?_eq_getElem hkl⟩
          obtain ⟨x6, xr⟩ := HC.out k r hrk
          have hyo := hy.out
          have hri := HI.out r (List.mem_of_getElem? hrk)
          have hcall := szBlock_w r.a r.ps.length r.cap y r.wear r.bad r.ps wr rfl hri.len (by omega) hri.ps (xr.keep hB)
          have hcn : Hid (totB ((bs.take (k + 1)).map BkR.D) = totB ((bs.take k).map BkR.D) + (1 + totP (r.ps.map PgR.D))) := by show _ = _; rw [List.take_add_one, hrk]; simp [totB, BkR.D]
          obtain ⟨x0, x1, x2⟩ := x6.keep hB hlt
          have hwz := hB.size
          obtain ⟨n1, hn1⟩ : ∃ n, r.ps.length = n := ⟨_, rfl⟩
          obtain ⟨n2, hn2⟩ : ∃ n, totP (r.ps.map PgR.D) = n := ⟨_, rfl⟩
          rw [hn1] at x0 hcall
          rw [hn2] at hcall hcn
          clear x6 xr hn1 hn2 hrk hkl hyo hri
          go_wp2_with fail
          refine hcall.mono ?_
          rintro e w1 ⟨(rfl | ⟨v, hv, rfl, _⟩), hb1⟩
          · go_wp2
            go_ret
            exact ⟨.inl rfl, hB.trans (hb1.mono hwz)⟩
          · clear x0 x1 x2 hcall
            go_wp2
            go_roundw
            case rel => exact ⟨k + 1, v, by omega, by go_num, rfl, by show _ ≤ _; have := hcn.out; have := hy.out; omega, hB.trans (hb1.mono hwz)⟩
            case measure => simp [intOf]; omega
        · have hki : ¬ (k : Int) < (n : Int) := by omega
          go_wp2
          go_ret
          have hyo := hy.out
          rw [List.take_of_length_le (by rw [hn'.out]; omega)] at hyo
          exact ⟨.inr ⟨y, by omega, rfl, trivial⟩, hB⟩
set_option maxHeartbeats 1600000 in
theorem szChip_w (a : Option Addr) (n cap x : Nat) (bs : List BkR) (w : World) (hn : bs.length = n) (hm : n ≤ maxLen) (hx : x ≤ 1048576) (hin : ∀ r ∈ bs, BkIn r) (hr : RdBs w a bs) :
    Calls Tryd.prog 8 #[.agg #[.slice a n cap], .int .i64 x] w fun e w' => SzQ x (totB (bs.map BkR.D)) True e ∧ Below w.heap.size w w' := by
  have B0 : Below w.heap.size w (w.alloc (.cells #[.slice a n cap] 24)) := (Below.refl _ w).alloc (Nat.le_refl _) _
  have hcall := szBlockS_w a n cap x bs (w.alloc (.cells #[.slice a n cap] 24)) hn hm hx hin (hr.keep B0)
  have HB : Hid _ := B0
  clear B0 hin hr hn
  go_enter Tryd.func8, Tryd.ntmps8
  go_wp2_with fail
  refine hcall.mono ?_
  rintro e w1 ⟨(rfl | ⟨v, hv, rfl, hzz⟩), hb1⟩
  · go_wp2
    go_ret
    exact ⟨.inl rfl, HB.out.trans (hb1.mono HB.out.size)⟩
  · go_wp2
    go_ret
    exact ⟨.inr ⟨v, hv, rfl, trivial⟩, HB.out.trans (hb1.mono HB.out.size)⟩
end

section
open Go.RowKit
theorem totB_setL : ∀ (ds : List BkD) (k : Nat) (b' : BkD), totB (ds.set k b') ≤ totB ds + 1 + totP b'.ps
  | [], _, _ => by simp [totB]
  | d :: ds, 0, b' => by rw [List.set_cons_zero, totB_cons, totB_cons]; omega
  | d :: ds, k + 1, b' => by
    have := totB_setL ds k b'
    rw [List.set_cons_succ, totB_cons, totB_cons]
    omega
theorem eraseD_len (ok : Bool) (ds : List BkD) (x : Int) : (eraseD ok ds x).length = ds.length := by
  unfold eraseD
  split
  · unfold eraseAt; split <;> simp
  · rfl
theorem eraseD_tot (ok : Bool) (ds : List BkD) (x : Int) : totB (eraseD ok ds x) ≤ totB ds + 9 := by
  unfold eraseD
  split
  · unfold eraseAt
    split
    · rename_i b _
      have := totB_setL ds x.toNat ⟨List.replicate 8 ⟨false, []⟩, b.wear + 1, b.bad⟩
      have h8 : totP (List.replicate 8 (⟨false, []⟩ : PgD)) = 8 := rfl
      simp only [h8] at this
      omega
    · omega
  · omega
set_option maxRecDepth 100000 in
set_option maxHeartbeats 16000000 in
theorem walkFnExactErase (a : Option Addr) (cap : Nat) (bs : List BkR) (x0 : Int) (w : World) (hm : bs.length ≤ maxLen) (hi : ∀ r ∈ bs, BkIn r) (hr : RdBs w a bs) (_hwx : (Lit.int .i64 x0).wf = true) (hg : EtCell w) :
    Calls Tryd.prog 4 #[.agg #[.slice a bs.length cap], .int .i64 x0] w fun e w' => e = .returned (.bool true) ∧ Below w.heap.size w w' := by
  obtain ⟨n, hn⟩ : ∃ n, bs.length = n := ⟨_, rfl⟩
  rw [hn] at hm ⊢
  have B0 : Below w.heap.size w (w.alloc (.cells #[.slice a n cap] 24)) := (Below.refl _ w).alloc (Nat.le_refl _) _
  have z0 := Blk.new w 24 #[.slice a n cap]
  go_enter Tryd.func4, Tryd.ntmps4
  go_wp2_with fail
  obtain ⟨W0, hW0⟩ : ∃ W, w.alloc (.cells #[.slice a n cap] 24) = W := ⟨_, rfl⟩
  rw [hW0] at B0 z0 ⊢
  clear hW0
  refine (szChip_w a n cap 1048576 bs W0 hn hm (by omega) hi (hr.keep B0)).mono ?_
  rintro e w1 ⟨hsz, b1⟩
  have B1 := B0.trans (b1.mono B0.size)
  have z1 := z0.keep b1
  rcases hsz with rfl | ⟨x, hx, rfl, _⟩
  · go_wp2
    go_ret
    exact ⟨rfl, B1⟩
  have hx0 : ¬ (x : Int) < 0 := by omega
  have htot : Hid (totB (bs.map BkR.D) ≤ 1048576) := by show _ ≤ _; omega
  have HN : Hid ((bs.map BkR.D).length = n) := by show _ = _; simp [hn]
  have CA : Hid (∀ (W : World), RdBs W a bs → _) := fun (W : World) (h : RdBs W a bs) => toChip_any a n cap bs W hn htot.out h
  obtain ⟨dE, hdE⟩ : ∃ d, eraseD (chipOkB (bs.map BkR.D)) (bs.map BkR.D) x0 = d := ⟨_, rfl⟩
  obtain ⟨code, hcode⟩ : ∃ c, codeE (chipOkB (bs.map BkR.D)) (bs.map BkR.D) x0 = c := ⟨_, rfl⟩
  have HE : Hid (dE.length = n) := by show _ = _; rw [← hdE, eraseD_len]; exact HN.out
  have HT : Hid (totB dE ≤ 1048585) := by show _ ≤ _; rw [← hdE]; have := eraseD_tot (chipOkB (bs.map BkR.D)) (bs.map BkR.D) x0; have := htot.out; omega
  have cS : ∀ (W : World) (B g : Nat) (ts : List BkR), NewBs W B (.slice (some ⟨g, 0, none⟩) n n) (bs.map BkR.D) ts → Calls Tryd.prog 18 #[.agg #[.slice (some ⟨g, 0, none⟩) n n], .int .i64 x0] W fun e w' => ∃ a c qs, e = .returned (.tuple #[.agg #[.slice a n c], .int .i64 code]) ∧ NewBs w' W.heap.size (.slice a n c) dE qs ∧ Below W.heap.size W w' := fun W B g ts h => by
    have := eraseS (some ⟨g, 0, none⟩) n n ts x0 W ⟨by rw [h.len, HN.out], by rw [h.D]; exact htot.out, h.rd⟩
    rw [h.D, hdE, hcode] at this
    exact this.mono fun e w' hA => by
      obtain ⟨a, m, c, qs, e1, e2, e3, e4⟩ := hA
      have : m = n := by rw [← e3, e2.len, HE.out]
      subst this
      exact ⟨a, c, qs, e1, e2, e4⟩
  have cI : ∀ (W : World) (B g : Nat) (ts : List BkR), EtCell W → NewBs W B (.slice (some ⟨g, 0, none⟩) n n) (bs.map BkR.D) ts → Calls Tryd.prog 19 #[.agg #[.slice (some ⟨g, 0, none⟩) n n], .int .i64 x0] W fun e w' => ∃ a c qs, e = .returned (.tuple #[.agg #[.slice a n c], .int .i64 code]) ∧ NewBs w' W.heap.size (.slice a n c) dE qs ∧ Below W.heap.size W w' := fun W B g ts hE h => by
    have := eraseI (some ⟨g, 0, none⟩) n n ts x0 W ⟨by rw [h.len, HN.out], by rw [h.D]; exact htot.out, h.rd⟩ hE
    rw [h.D, hdE, hcode] at this
    exact this.mono fun e w' hA => by
      obtain ⟨a, m, c, qs, e1, e2, e3, e4⟩ := hA
      have : m = n := by rw [← e3, e2.len, HE.out]
      subst this
      exact ⟨a, c, qs, e1, e2, e4⟩
  have hcb : Hid (∀ ts : List BkR, ts.map BkR.D = bs.map BkR.D → 1 + cBs ts ≤ 9999990) := fun ts h => by
    have := cBs_le ts
    rw [h] at this
    have h2 := htot.out
    omega
  have hcbE : Hid (∀ ts : List BkR, ts.map BkR.D = dE → 1 + cBs ts ≤ 9999990) := fun ts h => by
    have := cBs_le ts
    rw [h] at this
    have h2 := HT.out
    omega
  have CS : Hid _ := cS
  have CI : Hid _ := cI
  have HG : Hid (EtCell w) := hg
  have HRA : Hid (RdBs w a bs) := hr
  have hoo : (code != code) = false := by simp
  clear cS cI hr hn hi hm B0 z0 b1 hdE hcode hg
  have q0 := z1.cell 0
  simp at q0
  obtain ⟨G0, hG0⟩ : ∃ G, w.heap.size = G := ⟨_, rfl⟩
  have hG0' : Hid (w.heap.size = G0) := hG0
  rw [hG0] at z1 q0 ⊢
  go_wp2_with fail
  refine (CA.out w1 (RdBs.keep HRA.out B1)).mono ?_
  rintro e w2 ⟨gA, tA, rfl, qA, b2⟩
  have B2 := B1.trans (b2.mono B1.size)
  have z2 := z1.keep b2
  have hz2 := z2.lt
  clear q0 z1 b2
  go_wp2_with fail
  refine (CS.out w2 _ gA tA qA).mono ?_
  rintro e w3 ⟨aS, cpS, tS, rfl, qS, b3⟩
  have B3 := B2.trans (b3.mono B2.size)
  have z3 := z2.keep b3
  have b3' : Below w3.heap.size w3 (w3.alloc (.cells #[.slice aS n cpS] 29)) := (Below.refl _ w3).alloc (Nat.le_refl _) _
  have s3 := Blk.new w3 29 #[.slice aS n cpS]
  have q0 := (z3.keep b3').cell 0
  simp at q0
  clear qA z2 b3
  go_wp2_with fail
  obtain ⟨W3, hW3⟩ : ∃ W, w3.alloc (.cells #[.slice aS n cpS] 29) = W := ⟨_, rfl⟩
  rw [hW3] at b3' s3 q0 ⊢
  clear hW3
  obtain ⟨GS, hGS⟩ : ∃ G, w3.heap.size = G := ⟨_, rfl⟩
  have hSl : Hid (∀ g ∈ fpBs (.slice aS n cpS) tS, G0 < g ∧ g < GS) := fun g hg => by
    have h1 := qS.new g hg
    have h2 := qS.own.lt g hg
    exact ⟨by omega, by omega⟩
  rw [hGS] at s3 ⊢
  have hG0S : G0 < GS := by have := z3.lt; omega
  have B3' := B3.trans (b3'.mono B3.size)
  have z3' := z3.keep b3'
  have qS3 := qS.keep b3'
  have hGS3 := s3.lt
  clear qS z3 b3' B3 hGS
  refine (CA.out W3 (RdBs.keep HRA.out B3')).mono ?_
  rintro e w4 ⟨gB, tB, rfl, qB, b4⟩
  have B4 := B3'.trans (b4.mono B3'.size)
  have z4 := z3'.keep b4
  have s4 := s3.keep b4
  have qS4 := qS3.keep b4
  have b5 : Below w4.heap.size w4 (w4.alloc (.cells #[.slice (some ⟨gB, 0, none⟩) n n] 29)) := (Below.refl _ w4).alloc (Nat.le_refl _) _
  have m5 := Blk.new w4 29 #[.slice (some ⟨gB, 0, none⟩) n n]
  clear q0 z3' b4 qS3 s3 B3'
  go_wp2_with fail
  obtain ⟨W5, hW5⟩ : ∃ W, w4.alloc (.cells #[.slice (some ⟨gB, 0, none⟩) n n] 29) = W := ⟨_, rfl⟩
  rw [hW5] at b5 m5 ⊢
  clear hW5
  obtain ⟨G4, hG4⟩ : ∃ G, w4.heap.size = G := ⟨_, rfl⟩
  have hBl : Hid (∀ g ∈ fpBs (.slice (some ⟨gB, 0, none⟩) n n) tB, GS < g ∧ g < G4) := fun g hg => by
    have h1 := qB.new g hg
    have h2 := qB.own.lt g hg
    exact ⟨by omega, by omega⟩
  rw [hG4] at m5 ⊢
  have hGS4 : GS < G4 := by have := s4.lt; omega
  have B5 := B4.trans (b5.mono B4.size)
  have z5 := z4.keep b5
  have s5 := s4.keep b5
  have qS5 := qS4.keep b5
  have qB5 := qB.keep b5
  have hG45 := m5.lt
  clear qB z4 s4 b5 qS4 B4 hG4
  refine (CI.out W5 _ gB tB (HG.out.keep B5) qB5).mono ?_
  rintro e w6 ⟨aI, cpI, tI, rfl, qI, b6⟩
  have B6 := B5.trans (b6.mono B5.size)
  have z6 := z5.keep b6
  have s6 := s5.keep b6
  have m6 := m5.keep b6
  have qB6 := qB5.keep b6
  have qS6 := qS5.keep b6
  have b6' : Below w6.heap.size w6 (w6.alloc (.cells #[.slice aI n cpI] 29)) := (Below.refl _ w6).alloc (Nat.le_refl _) _
  have i6 := Blk.new w6 29 #[.slice aI n cpI]
  have s0 := (s6.keep b6').cell 0
  simp at s0
  clear qB5 z5 m5 b6 qS5 s5 B5
  go_wp2_with fail
  obtain ⟨W6, hW6⟩ : ∃ W, w6.alloc (.cells #[.slice aI n cpI] 29) = W := ⟨_, rfl⟩
  rw [hW6] at b6' i6 s0 ⊢
  clear hW6 s0
  obtain ⟨GI, hGI⟩ : ∃ G, w6.heap.size = G := ⟨_, rfl⟩
  have hIl : Hid (∀ g ∈ fpBs (.slice aI n cpI) tI, G4 < g ∧ g < GI) := fun g hg => by
    have h1 := qI.new g hg
    have h2 := qI.own.lt g hg
    exact ⟨by omega, by omega⟩
  rw [hGI] at i6 ⊢
  have hG4I : G4 < GI := by have := m6.lt; omega
  have B6' := B6.trans (b6'.mono B6.size)
  have z6' := z6.keep b6'
  have s6' := s6.keep b6'
  have m6' := m6.keep b6'
  have qB6' := qB6.keep b6'
  have qS6' := qS6.keep b6'
  have qI6' := qI.keep b6'
  clear qB6 z6 m6 b6' qS6 s6 B6 qI hGI
  refine (eqNew HE.out (Nat.le_trans HT.out (by omega)) qI6' qS6').mono ?_
  rintro e w7 ⟨rfl, b7⟩
  have B7 := B6'.trans (b7.mono B6'.size)
  have z7 := z6'.keep b7
  have s7 := s6'.keep b7
  have m7 := m6'.keep b7
  have i7 := i6.keep b7
  have qB7 := qB6'.keep b7
  have qS7 := qS6'.keep b7
  have qI7 := qI6'.keep b7
  clear qB6' z6' m6' b7 qS6' s6' B6' qI6' i6
  have q0 := z7.cell 0
  have p0 := m7.cell 0
  simp at q0 p0
  have r7 := RdBs.keep HRA.out B7.drew
  have b7d := (Below.refl w7.heap.size w7).drew
  have qB7d := qB7.keep b7d
  have m7d := m7.keep b7d
  have HC7 : Hid (NewBs w7.drew W3.heap.size (.slice (some ⟨gB, 0, none⟩) n n) (bs.map BkR.D) tB ∧ NewBs w7.drew w2.heap.size (.slice aS n cpS) dE tS ∧ NewBs w7.drew W5.heap.size (.slice aI n cpI) dE tI ∧ Blk w7.drew G0 24 #[.slice a n cap] ∧ Blk w7.drew GS 29 #[.slice aS n cpS] ∧ Blk w7.drew G4 29 #[.slice (some ⟨gB, 0, none⟩) n n] ∧ Blk w7.drew GI 29 #[.slice aI n cpI] ∧ Below w.heap.size w w7.drew) := ⟨qB7d, qS7.keep b7d, qI7.keep b7d, z7.keep b7d, s7.keep b7d, m7d, i7.keep b7d, B7.drew⟩
  clear qB7 z7 m7 b7d B7 qS7 qI7 s7 i7
  go_wp2
  go_region_with (first
    | (go_at_call 10; (with_reducible refine (CA.out _ r7).mono ?_); rintro e wA ⟨gC, tC, rfl, qC, b9⟩; have qAA := qB7d.keep b9; have t0 := (m7d.keep b9).cell 0; simp at t0)
    | (go_at_call 13; refine (eqNew HN.out (Nat.le_trans htot.out (by omega)) qAA qC).mono ?_; rintro e w8 ⟨rfl, b10⟩))
  all_goals
    have b11 := b9.trans (b10.mono b9.size)
    obtain ⟨qB8, qS8, qI8, z8, s8, m8, i8, B8⟩ := HC7.out
    replace qB8 := qB8.keep b11
    replace qS8 := qS8.keep b11
    replace qI8 := qI8.keep b11
    replace z8 := z8.keep b11
    replace s8 := s8.keep b11
    replace m8 := m8.keep b11
    replace i8 := i8.keep b11
    replace B8 := B8.trans (b11.mono B8.size)
    clear b9 b10 b11 qC qAA r7 qB7d m7d q0 p0 HC7
    try clear t0
    have p0 := m8.cell 0
    simp at p0
    go_wp2_with fail
    have hcbo := hcb.out tB qB8.D
    refine (markCh_any (.slice (some ⟨gB, 0, none⟩) n n) 1 tB w8 (Nat.le_refl _) hcbo qB8.own qB8.nd).mono ?_
    rintro e w9 ⟨rfl, _, sv9⟩
    have qS9 := qS8.svs sv9 (fun g hg hf => by have := hSl.out g hg; have := hBl.out g hf; omega)
    have qI9 := qI8.svs sv9 (fun g hg hf => by have := hIl.out g hg; have := hBl.out g hf; omega)
    have z9 := Blk.svs z8 sv9 (fun hf => by have := hBl.out G0 hf; omega)
    have s9 := Blk.svs s8 sv9 (fun hf => by have := hBl.out GS hf; omega)
    have i9 := Blk.svs i8 sv9 (fun hf => by have := hBl.out GI hf; omega)
    have B9 : Below w.heap.size w w9 := Below.svs B8 sv9 (fun g hg => by have := hBl.out g hg; have := hG0'.out; omega) (Nat.le_refl _)
    obtain ⟨Q, hQ⟩ : ∃ Q, 1 + cBs tB = Q := ⟨_, rfl⟩
    rw [hQ]
    have hQ0 : ¬ (Q : Int) < 0 := by omega
    clear hQ hcbo sv9 qS8 qI8 z8 s8 m8 i8 B8 qB8 p0
    have s0 := s9.cell 0
    have i0 := i9.cell 0
    simp at s0 i0
    go_wp2_with fail
    refine (eqNew HE.out (Nat.le_trans HT.out (by omega)) qI9 qS9).mono ?_
    rintro e w10 ⟨rfl, b10⟩
    have qS10 := qS9.keep b10
    have qI10 := qI9.keep b10
    have z10 := z9.keep b10
    have s10 := s9.keep b10
    have i10 := i9.keep b10
    have B10 := B9.trans (b10.mono B9.size)
    clear qS9 qI9 z9 s9 i9 B9 b10 s0 i0
    have i0 := i10.cell 0
    simp at i0
    have hcbI := hcbE.out tI qI10.D
    go_wp2_with fail
    refine (markCh_any (.slice aI n cpI) 1 tI w10 (Nat.le_refl _) hcbI qI10.own qI10.nd).mono ?_
    rintro e w11 ⟨rfl, oI, sv11⟩
    have qS11 := qS10.svs sv11 (fun g hg hf => by have := hSl.out g hg; have := hIl.out g hf; omega)
    have z11 := Blk.svs z10 sv11 (fun hf => by have := hIl.out G0 hf; omega)
    have s11 := Blk.svs s10 sv11 (fun hf => by have := hIl.out GS hf; omega)
    have i11 := Blk.svs i10 sv11 (fun hf => by have := hIl.out GI hf; omega)
    have B11 : Below w.heap.size w w11 := Below.svs B10 sv11 (fun g hg => by have := hIl.out g hg; have := hG0'.out; omega) (Nat.le_refl _)
    obtain ⟨M, hM⟩ : ∃ M, 1 + cBs tI = M := ⟨_, rfl⟩
    have CH : Hid (∀ W : World, OwnBs W (.slice aI n cpI) (mkBs 1 tI) → Calls Tryd.prog 17 #[.agg #[.slice aI n cpI], .int .i64 1] W fun e w' => e = .returned (.int .i64 (M : Int)) ∧ Below W.heap.size W w') := fun W h => by
      have := heldCh_any (.slice aI n cpI) 1 tI W (Nat.le_refl _) hcbI h
      rw [hM] at this
      exact this
    rw [hM]
    have hM0 : ¬ (M : Int) < 0 := by omega
    have hMM : ((M : Int) != (M : Int)) = false := by simp
    clear hM hcbI sv11 qS10 qI10 z10 s10 i10 B10 i0
    have i0 := i11.cell 0
    simp at i0
    go_wp2_with fail
    refine (CH.out w11 oI).mono ?_
    rintro e w12 ⟨rfl, b12⟩
    have qS12 := qS11.keep b12
    have oI12 := oI.keep b12
    have z12 := z11.keep b12
    have s12 := s11.keep b12
    have i12 := i11.keep b12
    have B12 := B11.trans (b12.mono B11.size)
    clear qS11 oI z11 s11 i11 B11 b12 i0
    have q0 := z12.cell 0
    simp at q0
    go_wp2_with fail
    refine (CA.out w12 (RdBs.keep HRA.out B12)).mono ?_
    rintro e w13 ⟨gD, tD, rfl, qD, b13⟩
    have qS13 := qS12.keep b13
    have oI13 := oI12.keep b13
    have s13 := s12.keep b13
    have i13 := i12.keep b13
    have B13 := B12.trans (b13.mono B12.size)
    clear qS12 oI12 z12 s12 i12 B12 b13 q0
    go_wp2_with fail
    refine (CI.out w13 _ gD tD (HG.out.keep B13) qD).mono ?_
    rintro e w14 ⟨aJ, cpJ, tJ, rfl, qJ, b14⟩
    have qS14 := qS13.keep b14
    have oI14 := oI13.keep b14
    have s14 := s13.keep b14
    have i14 := i13.keep b14
    have B14 := B13.trans (b14.mono B13.size)
    have b15 : Below w14.heap.size w14 (w14.alloc (.cells #[.slice aJ n cpJ] 29)) := (Below.refl _ w14).alloc (Nat.le_refl _) _
    have s0 := (s14.keep b15).cell 0
    simp at s0
    clear qS13 oI13 s13 i13 B13 b14 qD
    go_wp2_with fail
    obtain ⟨W15, hW15⟩ : ∃ W, w14.alloc (.cells #[.slice aJ n cpJ] 29) = W := ⟨_, rfl⟩
    rw [hW15] at b15 s0 ⊢
    clear hW15 s0
    have qS15 := qS14.keep b15
    have qJ15 := qJ.keep b15
    have oI15 := oI14.keep b15
    have i15 := i14.keep b15
    have B15 := B14.trans (b15.mono B14.size)
    clear qS14 qJ oI14 s14 i14 B14 b15
    refine (eqNew HE.out (Nat.le_trans HT.out (by omega)) qJ15 qS15).mono ?_
    rintro e w16 ⟨rfl, b16⟩
    have oI16 := oI15.keep b16
    have i16 := i15.keep b16
    have B16 := B15.trans (b16.mono B15.size)
    clear qS15 qJ15 oI15 i15 B15 b16
    have i0 := i16.cell 0
    simp at i0
    go_wp2_with fail
    refine (CH.out w16 oI16).mono ?_
    rintro e w17 ⟨rfl, b17⟩
    have B17 := B16.trans (b17.mono B16.size)
    clear oI16 i16 B16 b17 i0
    go_wp2
    go_ret
    rw [← hG0'.out]
    exact ⟨rfl, B17⟩
end
end Go.Proofs.YtkhgafmhbibikaaDoor
