/-
  Joined: MarkTab, ToJ, TabNew.
-/
import Derived.Test.YtnfplimhhjpbkaaGreatDoorJ09T
import Derived.Test.YtnfplimhhjpbkaaGreatDoorJ07T
namespace Go.Proofs.YtnfplimhhjpbkaaGreatDoor
section
open Go.RowKit
/-- An inode of a row, and the interval of blocks that its lists lie in. -/
structure InoJ where
  r : InoR
  lo : Nat
  hi : Nat
def InoJ.v1 (j : InoJ) : Value := .slice j.r.a1 j.r.D.data.length j.r.c1
def InoJ.v2 (j : InoJ) : Value := .slice j.r.a2 j.r.D.ents.length j.r.c2
def InoJ.v3 (j : InoJ) : Value := .slice j.r.a3 j.r.D.attrs.length j.r.c3
def InoJ.G (w : World) (j : InoJ) : Prop := InoG w j.lo j.hi j.r.D j.v1 j.v2 j.v3
def InoJ.M (w : World) (j : InoJ) (k : Nat) : Prop := InoGM w j.lo j.hi k j.r.D.data.length j.r.D.ents.length j.r.D.attrs.length j.v1 j.v2 j.v3
def InoJ.cost (j : InoJ) : Nat := 3 + j.r.D.data.length + 2 * j.r.D.ents.length + 2 * j.r.D.attrs.length
/-- The number that the marks of the i-th begin with. -/
def qAt (k0 : Nat) (js : List InoJ) (i : Nat) : Nat := k0 + ((js.take i).map InoJ.cost).sum
theorem qAt_zero (k0 : Nat) (js : List InoJ) : qAt k0 js 0 = k0 := by simp [qAt]
theorem qAt_succ (k0 : Nat) {js : List InoJ} {i : Nat} {j : InoJ} (h : js[i]? = some j) : qAt k0 js (i + 1) = qAt k0 js i + j.cost := by
  unfold qAt
  rw [List.take_add_one, h]
  simp
  omega
theorem qAt_le (k0 : Nat) (js : List InoJ) {i i' : Nat} (h : i ≤ i') : qAt k0 js i ≤ qAt k0 js i' := by
  induction i' with
  | zero => obtain rfl := (show i = 0 by omega); exact Nat.le_refl _
  | succ m ih =>
    rcases (show i ≤ m ∨ i = m + 1 by omega) with h1 | rfl
    · refine Nat.le_trans (ih h1) ?_
      cases hj : js[m]? with
      | none =>
        unfold qAt
        rw [List.take_add_one, hj]
        simp
      | some j => rw [qAt_succ k0 hj]; omega
    · exact Nat.le_refl _
def InoR.mkd (r : InoR) (q : Nat) : InoR := { r with D := { r.D with ino := (q : Int), kind := ((q + 1 : Nat) : Int), links := ((q + 2 : Nat) : Int) } }
/-- The row behind k rounds. -/
def rowM (k0 : Nat) (js : List InoJ) (k : Nat) : List InoR := js.mapIdx fun i j => if i < k then j.r.mkd (qAt k0 js i) else j.r
theorem rowM_len (k0 : Nat) (js : List InoJ) (k : Nat) : (rowM k0 js k).length = js.length := by simp [rowM]
theorem rowM_at (k0 : Nat) {js : List InoJ} (k : Nat) {i : Nat} {j : InoJ} (h : js[i]? = some j) : (rowM k0 js k)[i]? = some (if i < k then j.r.mkd (qAt k0 js i) else j.r) := by simp [rowM, h]
theorem rowM_zero (k0 : Nat) (js : List InoJ) : rowM k0 js 0 = js.map InoJ.r := by
  apply List.ext_getElem?
  intro i
  simp [rowM]
theorem rowM_set (k0 : Nat) {js : List InoJ} {k : Nat} {j : InoJ} (h : js[k]? = some j) : (rowM k0 js k).set k (j.r.mkd (qAt k0 js k)) = rowM k0 js (k + 1) := by
  apply List.ext_getElem?
  intro i
  by_cases e : k = i
  · subst e
    have hk := (List.getElem?_eq_some_iff.1 h).1
    rw [List.getElem?_set_self (by rw [rowM_len]; exact hk), rowM_at k0 (k + 1) h, if_pos (by omega)]
  · rw [List.getElem?_set_ne e]
    cases hi : js[i]? with
    | none => rw [List.getElem?_eq_none (by rw [rowM_len]; exact List.getElem?_eq_none_iff.1 hi), List.getElem?_eq_none (by rw [rowM_len]; exact List.getElem?_eq_none_iff.1 hi)]
    | some j' =>
      rw [rowM_at k0 k hi, rowM_at k0 (k + 1) hi]
      by_cases h1 : i < k
      · rw [if_pos h1, if_pos (by omega)]
      · rw [if_neg h1, if_neg (by omega)]
theorem iv_set3 (rs : List InoR) (i q : Nat) (r : InoR) (h : rs[i]? = some r) : (((iv rs).set (i * 6) (.int .i64 (q : Int))).set (i * 6 + 1) (.int .i64 ((q + 1 : Nat) : Int))).set (i * 6 + 2) (.int .i64 ((q + 2 : Nat) : Int)) = iv (rs.set i (r.mkd q)) := by
  induction rs generalizing i with
  | nil => simp at h
  | cons p rs ih =>
    cases i with
    | zero =>
      simp at h
      subst h
      simp [iv_cons, InoR.six, InoR.mkd]
    | succ i =>
      have hl := six_length p
      have e : ∀ (l : List Value) (m : Nat) (x : Value), (p.six ++ l).set ((i + 1) * 6 + m) x = p.six ++ l.set (i * 6 + m) x := fun l m x => by
        rw [List.set_append_right _ _ (by rw [hl]; omega), hl, show (i + 1) * 6 + m - 6 = i * 6 + m by omega]
      have e0 : ∀ (l : List Value) (x : Value), (p.six ++ l).set ((i + 1) * 6) x = p.six ++ l.set (i * 6) x := fun l x => e l 0 x
      rw [iv_cons, e0, e, e, List.set_cons_succ, iv_cons, ih i (by simpa using h)]
theorem ownI_three {w : World} {g n cap : Nat} {rs : List InoR} (h : OwnI w g n cap rs) (k q : Nat) (r : InoR) (hr : rs[k]? = some r) : OwnI (((w.setCell ⟨g, k * 6, none⟩ (.int .i64 (q : Int))).setCell ⟨g, k * 6 + 1, none⟩ (.int .i64 ((q + 1 : Nat) : Int))).setCell ⟨g, k * 6 + 2, none⟩ (.int .i64 ((q + 2 : Nat) : Int))) g n cap (rs.set k (r.mkd q)) := by
  have s0 := (World.ownsRow.stored h (k * 6) (.int .i64 (q : Int))).1
  have s1 := (World.ownsRow.stored s0 (k * 6 + 1) (.int .i64 ((q + 1 : Nat) : Int))).1
  have s2 := (World.ownsRow.stored s1 (k * 6 + 2) (.int .i64 ((q + 2 : Nat) : Int))).1
  rw [iv_set3 rs k q r hr] at s2
  exact s2
theorem OwnI.outs {w w' : World} {g n cap B T : Nat} {rs : List InoR} (h : OwnI w g n cap rs) (k : Out B T w w') (hg : g < B ∨ T ≤ g) : OwnI w' g n cap rs := by
  have hlt := h.lt
  refine ⟨h.1, ?_⟩
  rcases h.2 with ⟨h', _⟩ | ⟨g', cap', cur, h', hb', hgg, rest⟩
  · simp at h'
  · refine .inr ⟨g', cap', cur, h', hb', ?_, rest⟩
    simp only [Value.slice.injEq, Option.some.injEq, Addr.mk.injEq, and_true, true_and] at h'
    obtain ⟨rfl, rfl⟩ := h'
    rw [k.block g hlt hg]
    exact hgg
theorem InoJ.G.outs {w w' : World} {B T : Nat} {j : InoJ} (h : j.G w) (hT : j.hi ≤ w.heap.size) (k : Out B T w w') (hd : j.hi ≤ B ∨ T ≤ j.lo) : j.G w' := InoG.outs h hT k hd
theorem InoJ.M.outs {w w' : World} {B T q : Nat} {j : InoJ} (h : j.M w q) (hT : j.hi ≤ w.heap.size) (k : Out B T w w') (hd : j.hi ≤ B ∨ T ≤ j.lo) : j.M w' q := InoGM.kept h fun b h1 h2 => k.block b (by omega) (by omega)
/-- The intervals are apart, and apart from the row's block; all of it lies from Lo up to Hi. -/
structure ApJ (g Lo Hi : Nat) (js : List InoJ) : Prop where
  apart : ∀ (i i' : Nat) (j j' : InoJ), js[i]? = some j → js[i']? = some j' → i ≠ i' → j.hi ≤ j'.lo ∨ j'.hi ≤ j.lo
  row : ∀ (i : Nat) (j : InoJ), js[i]? = some j → g < j.lo ∨ j.hi ≤ g
  within : ∀ (i : Nat) (j : InoJ), js[i]? = some j → Lo ≤ j.lo ∧ j.hi ≤ Hi
  rowIn : Lo ≤ g ∧ g < Hi
/-- A row of inodes, behind k rounds of marking. -/
structure TabL (w W : World) (g n cap Lo Hi k0 : Nat) (js : List InoJ) (k : Nat) : Prop where
  row : OwnI W g n cap (rowM k0 js k)
  old : ∀ (i : Nat) (j : InoJ), js[i]? = some j → k ≤ i → j.G W
  new : ∀ (i : Nat) (j : InoJ), js[i]? = some j → i < k → j.M W (qAt k0 js i + 3)
  out : Out Lo Hi w W
set_option maxRecDepth 100000 in
set_option maxHeartbeats 4000000 in
theorem markInodeS_any (g n cap Lo Hi k0 : Nat) (js : List InoJ) (w : World) (hn : js.length = n) (hk0 : 1 ≤ k0) (hs : n ≤ 2000000) (hq : qAt k0 js n ≤ 9999990) (hap : ApJ g Lo Hi js) (hH : Hi ≤ w.heap.size) (hown : OwnI w g n cap (js.map InoJ.r)) (hG : ∀ (i : Nat) (j : InoJ), js[i]? = some j → j.G w) :
    Calls Tryz.prog 95 #[.slice (some ⟨g, 0, none⟩) n cap, .int .i64 k0] w fun e w' => e = .returned (.int .i64 ((qAt k0 js n : Nat) : Int)) ∧ TabL w w' g n cap Lo Hi k0 js n := by
  have hL0 : TabL w w g n cap Lo Hi k0 js 0 := ⟨by rw [rowM_zero]; exact hown, fun i j h _ => hG i j h, fun i j _ h => by omega, Out.refl _ _ _⟩
  have hq0 : (k0 : Int) = ((qAt k0 js 0 : Nat) : Int) := by rw [qAt_zero]
  have HAP : Hid _ := hap
  have hn' : Hid (js.length = n) := hn
  clear hown hG hap hn
  rw [hq0]
  go_enter Tryz.func95, Tryz.ntmps95
  go_wp2
  go_loopw [1, 5] (fun q i wr => ∃ k : Nat, k ≤ n ∧ i = .int .i64 k ∧ q = .int .i64 ((qAt k0 js k : Nat) : Int) ∧ TabL w wr g n cap Lo Hi k0 js k) (fun _ i _ => n - (intOf i).toNat)
  case atStart => exact ⟨0, Nat.zero_le _, rfl, rfl, hL0⟩
  case round =>
    obtain ⟨k, hk, rfl, rfl, hL⟩ := hrel
    by_cases hkn : k < n
    · have hki : (k : Int) < (n : Int) := by omega
      obtain ⟨j, hjk⟩ : ∃ j, js[k]? = some j := ⟨_, List.getElem?_eq_getElem (by rw [hn'.out]; exact hkn)⟩
      have hqs := qAt_succ k0 hjk
      have hqn := qAt_le k0 js (show k + 1 ≤ n by omega)
      have hqk0 := qAt_le k0 js (Nat.zero_le k)
      rw [qAt_zero] at hqk0
      have hcost : j.cost = 3 + j.r.D.data.length + 2 * j.r.D.ents.length + 2 * j.r.D.attrs.length := rfl
      have hrw := HAP.out.row k j hjk
      have hwi := HAP.out.within k j hjk
      have hri := HAP.out.rowIn
      have hrk : (rowM k0 js k)[k]? = some j.r := by rw [rowM_at k0 k hjk, if_neg (by omega)]
      have hsz := hL.out.size
      obtain ⟨x0, x1, x2, x3, x4, x5⟩ := hL.row.six k j.r hrk
      have f0 := hL.row.frozen (k * 6)
      have f1 := hL.row.frozen (k * 6 + 1)
      have f2 := hL.row.frozen (k * 6 + 2)
      obtain ⟨q, hqq⟩ : ∃ q, qAt k0 js k = q := ⟨_, rfl⟩
      have hqq' : Hid _ := hqq
      rw [hqq] at hqs hqk0 ⊢
      have HL : Hid _ := hL
      obtain ⟨n1, h1⟩ : ∃ n, j.r.D.data.length = n := ⟨_, rfl⟩
      obtain ⟨n2, h2⟩ : ∃ n, j.r.D.ents.length = n := ⟨_, rfl⟩
      obtain ⟨n3, h3⟩ : ∃ n, j.r.D.attrs.length = n := ⟨_, rfl⟩
      rw [h1, h2, h3] at hcost
      rw [h1] at x3
      rw [h2] at x4
      rw [h3] at x5
      have H123 : Hid (j.r.D.data.length = n1 ∧ j.r.D.ents.length = n2 ∧ j.r.D.attrs.length = n3) := ⟨h1, h2, h3⟩
      clear hqq hL hL0 h1 h2 h3
      go_wp2_with fail
      have ho3 : OwnI (((wr.setCell ⟨g, k * 6, none⟩ (.int .i64 (q : Int))).setCell ⟨g, k * 6 + 1, none⟩ (.int .i64 ((q : Int) + 1))).setCell ⟨g, k * 6 + 2, none⟩ (.int .i64 ((q : Int) + 1 + 1))) g n cap (rowM k0 js (k + 1)) := by
        have := ownI_three HL.out.row k q j.r hrk
        rw [← hqq'.out, rowM_set k0 hjk, hqq'.out] at this
        push_cast at this
        exact this
      have o3 : Out g (g + 1) wr (((wr.setCell ⟨g, k * 6, none⟩ (.int .i64 (q : Int))).setCell ⟨g, k * 6 + 1, none⟩ (.int .i64 ((q : Int) + 1))).setCell ⟨g, k * 6 + 2, none⟩ (.int .i64 ((q : Int) + 1 + 1))) := Out.gr (gr_more (gr_more (gr_setC wr g (k * 6) _) (k * 6 + 1) _) (k * 6 + 2) _) (fun m hm => by simp at hm; omega)
      obtain ⟨W3, hW3⟩ : ∃ W, ((wr.setCell ⟨g, k * 6, none⟩ (.int .i64 (q : Int))).setCell ⟨g, k * 6 + 1, none⟩ (.int .i64 ((q : Int) + 1))).setCell ⟨g, k * 6 + 2, none⟩ (.int .i64 ((q : Int) + 1 + 1)) = W := ⟨_, rfl⟩
      rw [hW3] at ho3 o3 ⊢
      clear hW3 x0 x1 x2 x3 x4 x5 f0 f1 f2
      have hGj := (HL.out.old k j hjk (Nat.le_refl _)).outs (by omega) o3 (by omega)
      have hs3 := o3.size
      obtain ⟨p1, p2, p3, p4, pw⟩ := hGj
      have hv1 : j.v1 = .slice j.r.a1 n1 j.r.c1 := by unfold InoJ.v1; rw [H123.out.1]
      have hv2 : j.v2 = .slice j.r.a2 n2 j.r.c2 := by unfold InoJ.v2; rw [H123.out.2.1]
      have hv3 : j.v3 = .slice j.r.a3 n3 j.r.c3 := by unfold InoJ.v3; rw [H123.out.2.2]
      rw [H123.out.1] at p1
      have p1 := OwnV.rowB p1
      rw [H123.out.2.1] at p3
      rw [H123.out.2.2] at p4
      have hlt : ∀ m, j.v1.ownBlock = some m ∨ j.v2.ownBlock = some m ∨ j.v3.ownBlock = some m → m < wr.heap.size := fun m hm => by have := (pw m hm).2; omega
      have y6 := ho3.six k (j.r.mkd q) (by rw [rowM_at k0 (k + 1) hjk, if_pos (by omega), hqq'.out])
      have y4 : W3.cell? ⟨g, k * 6 + 4, none⟩ = some j.v2 := y6.c4
      rw [show (q : Int) + 1 + 1 + 1 = ((q + 3 : Nat) : Int) by omega, ← hv1]
      refine (markBG j.v1 n1 (q + 3) j.r.D.data W3 (by omega) (by omega) p1).mono ?_
      rintro e w1 ⟨rfl, m1, g1⟩
      have hs1 := g1.size
      have o1 : Out j.lo j.hi W3 w1 := Out.gr g1 (fun m hm => pw m (.inl hm))
      have s3 : OwnQ 86 w1 j.v2 n2 (eP j.r.D.ents) := q_block p3 fun m hm => gr_block g1 (by have := hlt m (.inr (.inl hm)); omega) (fun e => rowB_ne p1 p3 (by decide) e hm)
      have s4 : OwnQ 89 w1 j.v3 n3 (aP j.r.D.attrs) := q_block p4 fun m hm => gr_block g1 (by have := hlt m (.inr (.inr hm)); omega) (fun e => rowB_ne p1 p4 (by decide) e hm)
      have r1 := ho3.outs o1 (by omega)
      have z4 : w1.cell? ⟨g, k * 6 + 4, none⟩ = some j.v2 := (r1.six k (j.r.mkd q) (by rw [rowM_at k0 (k + 1) hjk, if_pos (by omega), hqq'.out])).c4
      obtain ⟨qq, hqq2⟩ : ∃ x, q + 3 + n1 = x := ⟨_, rfl⟩
      rw [hqq2]
      rw [hv2] at z4
      clear y6 y4
      go_wp2_with fail
      rw [← hv2]
      refine (markE_any j.v2 n2 qq (eP j.r.D.ents) w1 (by omega) (by omega) s3).mono ?_
      rintro e w2 ⟨rfl, m2, g2⟩
      have hs2 := g2.size
      have o2 : Out j.lo j.hi w1 w2 := Out.gr g2 (fun m hm => pw m (.inr (.inl hm)))
      have t1 : RowB w2 j.v1 n1 (marksG (q + 3) n1) := m1.block fun m hm => gr_block g2 (by have := hlt m (.inl hm); omega) (fun e => rowB_ne m1 s3 (by decide) hm e)
      have t4 : OwnQ 89 w2 j.v3 n3 (aP j.r.D.attrs) := q_block s4 fun m hm => gr_block g2 (by have := hlt m (.inr (.inr hm)); omega) (fun e => row_ne s3 s4 (by decide) e hm)
      have r2 := r1.outs o2 (by omega)
      have z5 : w2.cell? ⟨g, k * 6 + 5, none⟩ = some j.v3 := (r2.six k (j.r.mkd q) (by rw [rowM_at k0 (k + 1) hjk, if_pos (by omega), hqq'.out])).c5
      obtain ⟨qr, hqr⟩ : ∃ x, qq + 2 * n2 = x := ⟨_, rfl⟩
      rw [hqr]
      rw [hv3] at z5
      clear z4
      go_wp2_with fail
      rw [← hv3]
      refine (markA_any j.v3 n3 qr (aP j.r.D.attrs) w2 (by omega) (by omega) t4).mono ?_
      rintro e w3 ⟨rfl, m3, g3⟩
      have o3' : Out j.lo j.hi w2 w3 := Out.gr g3 (fun m hm => pw m (.inr (.inr hm)))
      have u1 : RowB w3 j.v1 n1 (marksG (q + 3) n1) := t1.block fun m hm => gr_block g3 (by have := hlt m (.inl hm); omega) (fun e => rowB_ne t1 t4 (by decide) hm e)
      have u2 : OwnQ 86 w3 j.v2 n2 ((List.range n2).map (mE qq)) := q_block m2 fun m hm => gr_block g3 (by have := hlt m (.inr (.inl hm)); omega) (fun e => row_ne t4 m2 (by decide) e hm)
      have r3 := r2.outs o3' (by omega)
      have oA : Out j.lo j.hi W3 w3 := o1.trans (o2.trans o3')
      have hM : j.M w3 (q + 3) := by
        unfold InoJ.M
        rw [H123.out.1, H123.out.2.1, H123.out.2.2]
        exact ⟨u1, by rw [hqq2]; exact u2, by rw [hqq2, hqr]; exact m3, pw⟩
      have hL' : TabL w w3 g n cap Lo Hi k0 js (k + 1) := by
        refine ⟨r3, fun i j' hj' hi => ?_, fun i j' hj' hi => ?_, ?_⟩
        · have ha := HAP.out.apart k i j j' hjk hj' (by omega)
          have hr' := HAP.out.row i j' hj'
          have hw' := HAP.out.within i j' hj'
          exact ((HL.out.old i j' hj' (by omega)).outs (by omega) o3 (by omega)).outs (by omega) oA (by omega)
        · rcases (show i < k ∨ i = k by omega) with hi' | rfl
          · have ha := HAP.out.apart k i j j' hjk hj' (by omega)
            have hr' := HAP.out.row i j' hj'
            have hw' := HAP.out.within i j' hj'
            exact ((HL.out.new i j' hj' hi').outs (by omega) o3 (by omega)).outs (by omega) oA (by omega)
          · rw [hjk] at hj'
            simp at hj'
            subst hj'
            rw [hqq'.out]
            exact hM
        · exact HL.out.out.trans ((o3.wider (by omega) (by omega)).trans (oA.wider (by omega) (by omega)))
      have hqe : qr + 2 * n3 = qAt k0 js (k + 1) := by rw [qAt_succ k0 hjk, hqq'.out]; omega
      clear z5
      go_wp2
      go_roundw
      case rel => exact ⟨k + 1, by omega, by go_num, by rw [← hqe]; exact val_int (by push_cast; omega), hL'⟩
      case measure => simp [intOf]; omega
    · have hki : ¬ (k : Int) < (n : Int) := by omega
      obtain rfl : k = n := by omega
      have HL : Hid _ := hL
      clear hL hL0
      go_wp2
      go_ret
      exact ⟨rfl, HL.out⟩
set_option maxRecDepth 100000 in
set_option maxHeartbeats 4000000 in
theorem heldInodeS_any (w0 : World) (g n cap Lo Hi k0 : Nat) (js : List InoJ) (w : World) (hn : js.length = n) (hk0 : 1 ≤ k0) (hs : n ≤ 2000000) (hq : qAt k0 js n ≤ 9999990) (hap : ApJ g Lo Hi js) (_ : Hi ≤ w.heap.size) (hT : TabL w0 w g n cap Lo Hi k0 js n) :
    Calls Tryz.prog 96 #[.slice (some ⟨g, 0, none⟩) n cap, .int .i64 k0] w fun e w' => e = .returned (.int .i64 ((qAt k0 js n : Nat) : Int)) ∧ Below w.heap.size w w' := by
  have hq0 : (k0 : Int) = ((qAt k0 js 0 : Nat) : Int) := by rw [qAt_zero]
  have HAP : Hid _ := hap
  have HT : Hid _ := hT
  have hn' : Hid (js.length = n) := hn
  have hgl := hT.row.lt
  clear hT hap hn
  rw [hq0]
  go_enter Tryz.func96, Tryz.ntmps96
  go_wp2
  go_loopw [1, 5] (fun q i wr => ∃ k : Nat, k ≤ n ∧ i = .int .i64 k ∧ q = .int .i64 ((qAt k0 js k : Nat) : Int) ∧ Below w.heap.size w wr) (fun _ i _ => n - (intOf i).toNat)
  case atStart => exact ⟨0, Nat.zero_le _, rfl, rfl, Below.refl _ _⟩
  case round =>
    obtain ⟨k, hk, rfl, rfl, hB⟩ := hrel
    by_cases hkn : k < n
    · have hki : (k : Int) < (n : Int) := by omega
      obtain ⟨j, hjk⟩ : ∃ j, js[k]? = some j := ⟨_, List.getElem?_eq_getElem (by rw [hn'.out]; exact hkn)⟩
      have hqs := qAt_succ k0 hjk
      have hqn := qAt_le k0 js (show k + 1 ≤ n by omega)
      have hqk0 := qAt_le k0 js (Nat.zero_le k)
      rw [qAt_zero] at hqk0
      have hcost : j.cost = 3 + j.r.D.data.length + 2 * j.r.D.ents.length + 2 * j.r.D.attrs.length := rfl
      have hwi := HAP.out.within k j hjk
      have hsz := hB.size
      have hrow := (HT.out.row.keep hB).six k (j.r.mkd (qAt k0 js k)) (by rw [rowM_at k0 n hjk, if_pos (by omega)])
      have hMj := HT.out.new k j hjk hkn
      obtain ⟨q, hqq⟩ : ∃ q, qAt k0 js k = q := ⟨_, rfl⟩
      rw [hqq] at hqs hqk0 hrow hMj ⊢
      have hcell : ∀ W : World, Below w.heap.size w W → SixA W g (k * 6) (j.r.mkd q) := fun W hW => by
        have := (HT.out.row.keep hW).six k (j.r.mkd (qAt k0 js k)) (by rw [rowM_at k0 n hjk, if_pos (by omega)])
        rw [hqq] at this
        exact this
      have HC : Hid _ := hcell
      obtain ⟨p1, p3, p4, _⟩ := hMj
      obtain ⟨n1, h1⟩ : ∃ n, j.r.D.data.length = n := ⟨_, rfl⟩
      obtain ⟨n2, h2⟩ : ∃ n, j.r.D.ents.length = n := ⟨_, rfl⟩
      obtain ⟨n3, h3⟩ : ∃ n, j.r.D.attrs.length = n := ⟨_, rfl⟩
      rw [h1, h2, h3] at hcost
      rw [h1] at p1
      rw [h1, h2] at p3
      rw [h1, h2, h3] at p4
      have hv1 : j.v1 = .slice j.r.a1 n1 j.r.c1 := by unfold InoJ.v1; rw [h1]
      have hv2 : j.v2 = .slice j.r.a2 n2 j.r.c2 := by unfold InoJ.v2; rw [h2]
      have hv3 : j.v3 = .slice j.r.a3 n3 j.r.c3 := by unfold InoJ.v3; rw [h3]
      have hkb : ∀ {v : Value} {W : World}, Below w.heap.size w W → RowB w v n1 (marksG (q + 3) n1) → RowB W v n1 (marksG (q + 3) n1) := fun hW h => h.block fun m hm => hW.block m (h.at_ hm).1
      have P1 := hkb hB p1
      have y0 : wr.cell? ⟨g, k * 6, none⟩ = some (.int .i64 (q : Int)) := hrow.c0
      have y1 : wr.cell? ⟨g, k * 6 + 1, none⟩ = some (.int .i64 ((q : Int) + 1)) := by have := hrow.c1; unfold InoR.mkd at this; push_cast at this; exact this
      have y2 : wr.cell? ⟨g, k * 6 + 2, none⟩ = some (.int .i64 ((q : Int) + 1 + 1)) := by have := hrow.c2; unfold InoR.mkd at this; push_cast at this; rw [this]
      have y3 : wr.cell? ⟨g, k * 6 + 3, none⟩ = some (.slice j.r.a1 n1 j.r.c1) := by rw [← h1]; exact hrow.c3
      have b0 : ((q : Int) != (q : Int)) = false := by simp
      have b1 : ((q : Int) + 1 != (q : Int) + 1) = false := by simp
      have b2 : ((q : Int) + 1 + 1 != (q : Int) + 1 + 1) = false := by simp
      clear hrow hcell hkb
      go_wp2_with fail
      rw [show (q : Int) + 1 + 1 + 1 = ((q + 3 : Nat) : Int) by omega, ← hv1]
      refine (heldBG j.v1 n1 (q + 3) wr (by omega) (by omega) P1).mono ?_
      rintro e w1 ⟨rfl, hw⟩
      obtain rfl := hw.symm
      have y4 : wr.cell? ⟨g, k * 6 + 4, none⟩ = some (.slice j.r.a2 n2 j.r.c2) := by rw [← h2]; exact (HC.out wr hB).c4
      obtain ⟨qq, hqq2⟩ : ∃ x, q + 3 + n1 = x := ⟨_, rfl⟩
      rw [hqq2] at p3 p4 ⊢
      have hqq0 : ¬ (qq : Int) < 0 := by omega
      clear y0 y1 y2 y3 P1
      go_wp2_with fail
      rw [← hv2]
      refine (heldE_any j.v2 n2 qq wr (by omega) (by omega) (p3.keep hB)).mono ?_
      rintro e w2 ⟨rfl, t2⟩
      have B2 := hB.trans (t2.mono hsz)
      have y5 : w2.cell? ⟨g, k * 6 + 5, none⟩ = some (.slice j.r.a3 n3 j.r.c3) := by rw [← h3]; exact (HC.out w2 B2).c5
      obtain ⟨qr, hqr⟩ : ∃ x, qq + 2 * n2 = x := ⟨_, rfl⟩
      rw [hqr] at p4 ⊢
      have hqr0 : ¬ (qr : Int) < 0 := by omega
      clear y4
      go_wp2_with fail
      rw [← hv3]
      refine (heldA_any j.v3 n3 qr w2 (by omega) (by omega) (p4.keep B2)).mono ?_
      rintro e w3 ⟨rfl, t3⟩
      have B3 := B2.trans (t3.mono B2.size)
      obtain ⟨qs, hqs2⟩ : ∃ x, qr + 2 * n3 = x := ⟨_, rfl⟩
      rw [hqs2]
      have hqs0 : ¬ (qs : Int) < 0 := by omega
      have hqe : Hid (qs = qAt k0 js (k + 1)) := by show _ = _; rw [qAt_succ k0 hjk, hqq]; omega
      clear y5 p1 p3 p4 hqs hcost
      go_wp2
      go_roundw
      case rel => exact ⟨k + 1, by omega, by go_num, by rw [← hqe.out], B3⟩
      case measure => simp [intOf]; omega
    · have hki : ¬ (k : Int) < (n : Int) := by omega
      obtain rfl : k = n := by omega
      go_wp2
      go_ret
      exact ⟨rfl, hB⟩
end

section
open Go.RowKit
/-- Inodes whose lists lie in intervals behind B, one behind the other. -/
structure JsQ (w : World) (B : Nat) (js : List InoJ) : Prop where
  G : ∀ (i : Nat) (j : InoJ), js[i]? = some j → j.G w
  lo : ∀ (i : Nat) (j : InoJ), js[i]? = some j → B ≤ j.lo ∧ j.lo ≤ j.hi ∧ j.hi ≤ w.heap.size
  ord : ∀ (i i' : Nat) (j j' : InoJ), i < i' → js[i]? = some j → js[i']? = some j' → j.hi ≤ j'.lo
theorem JsQ.nil (w : World) (B : Nat) : JsQ w B [] := ⟨fun i j h => by simp at h, fun i j h => by simp at h, fun i i' j j' _ h => by simp at h⟩
theorem JsQ.keep {w w' : World} {B : Nat} {js : List InoJ} (h : JsQ w B js) (hb : Below w.heap.size w w') : JsQ w' B js :=
  ⟨fun i j e => InoG.keep (h.G i j e) (h.lo i j e).2.2 hb, fun i j e => by have := h.lo i j e; have := hb.size; omega, h.ord⟩
theorem JsQ.gr {w w' : World} {B g : Nat} {js : List InoJ} (h : JsQ w B js) (k : w.grownBy w' (some g)) (hg : g < B) : JsQ w' B js :=
  ⟨fun i j e => InoG.kept (h.G i j e) (fun b h1 h2 => k.block b (by have := h.lo i j e; omega) (by have := h.lo i j e; simp; omega)), fun i j e => by have := h.lo i j e; have := k.size; omega, h.ord⟩
theorem JsQ.snoc {w w' : World} {B : Nat} {js : List InoJ} {r : InoR} (h : JsQ w B js) (hb : Below w.heap.size w w') (hB : B ≤ w.heap.size) (hG : (⟨r, w.heap.size, w'.heap.size⟩ : InoJ).G w') : JsQ w' B (js ++ [⟨r, w.heap.size, w'.heap.size⟩]) := by
  have hk := h.keep hb
  have hs := hb.size
  have hc : ∀ (i : Nat) (j : InoJ), (js ++ [⟨r, w.heap.size, w'.heap.size⟩])[i]? = some j → (i < js.length ∧ js[i]? = some j) ∨ (i = js.length ∧ j = ⟨r, w.heap.size, w'.heap.size⟩) := by
    intro i j e
    by_cases hi : i < js.length
    · rw [List.getElem?_append_left hi] at e
      exact .inl ⟨hi, e⟩
    · rw [List.getElem?_append_right (by omega)] at e
      by_cases hz : i - js.length = 0
      · rw [hz] at e
        simp at e
        exact .inr ⟨by omega, e.symm⟩
      · rw [List.getElem?_eq_none (by simp; omega)] at e
        simp at e
  refine ⟨fun i j e => ?_, fun i j e => ?_, fun i i' j j' hii e e' => ?_⟩
  · rcases hc i j e with ⟨_, e⟩ | ⟨_, rfl⟩
    · exact hk.G i j e
    · exact hG
  · rcases hc i j e with ⟨_, e⟩ | ⟨_, rfl⟩
    · exact hk.lo i j e
    · exact ⟨hB, hs, Nat.le_refl _⟩
  · rcases hc i' j' e' with ⟨h1, e'⟩ | ⟨h1, rfl⟩
    · rcases hc i j e with ⟨_, e⟩ | ⟨h2, _⟩
      · exact hk.ord i i' j j' hii e e'
      · omega
    · rcases hc i j e with ⟨_, e⟩ | ⟨h2, _⟩
      · exact (h.lo i j e).2.2
      · omega
theorem JsQ.ap {w : World} {B g Lo : Nat} {js : List InoJ} (h : JsQ w B js) (hg : g < B) (hL : Lo ≤ g) (hw : g < w.heap.size) : ApJ g Lo w.heap.size js :=
  ⟨fun i i' j j' e e' hne => by
    rcases Nat.lt_or_gt_of_ne hne with hl | hl
    · exact .inl (h.ord i i' j j' hl e e')
    · exact .inr (h.ord i' i j' j hl e' e),
  fun i j e => .inl (by have := h.lo i j e; omega), fun i j e => by have := h.lo i j e; omega, ⟨hL, hw⟩⟩
theorem inoOwn_G {w : World} {B : Nat} {D : InoD} {g1 g2 g3 : Nat} (h : InoOwn w D g1 D.data.length g2 D.ents.length g3 D.attrs.length) (h1 : B ≤ g1) (h2 : B ≤ g2) (h3 : B ≤ g3) : (⟨⟨D, some ⟨g1, 0, none⟩, D.data.length, some ⟨g2, 0, none⟩, D.ents.length, some ⟨g3, 0, none⟩, D.attrs.length⟩, B, w.heap.size⟩ : InoJ).G w := by
  refine ⟨h.data, h.byt, h.ents, h.attrs, fun g hg => ?_⟩
  have l1 := (World.ownsRow.lt h.data g1 rfl).2
  have l2 := (World.ownsRow.lt h.ents g2 rfl).2
  have l3 := (World.ownsRow.lt h.attrs g3 rfl).2
  simp [InoJ.v1, InoJ.v2, InoJ.v3, Value.ownBlock] at hg
  dsimp only
  omega
set_option maxHeartbeats 3200000 in
theorem toInodeS_j (a : Option Addr) (n cap : Nat) (rs : List InoR) (w : World) (hn : rs.length = n) (hs : n ≤ 1048576) (hsm : ∀ r ∈ rs, InoSmall r.D) (hr : RdI w a rs) :
    Calls Tryz.prog 93 #[.slice a n cap] w fun e w' => ∃ js, e = .returned (.slice (some ⟨w.heap.size, 0, none⟩) n n) ∧ Cpd w' (w.heap.size + 1) rs (js.map InoJ.r) ∧ OwnI w' w.heap.size n n (js.map InoJ.r) ∧ JsQ w' (w.heap.size + 1) js ∧ Below w.heap.size w w' := by
  obtain ⟨i0, hi, hz0, hz1, hz2⟩ := info_parts Tryz.infoInode
  have hm : n ≤ maxLen := by unfold maxLen; omega
  have hby : i0.bytes * n ≤ 281474976710656 := by rw [hz2]; omega
  by_cases h0 : n = 0
  · subst h0
    obtain rfl : rs = [] := List.length_eq_zero_iff.1 hn
    go_enter Tryz.func93, Tryz.ntmps93
    go_wp2_with (at_make; refine wpList_make_full _ rfl (.tmp 6) (.tmp 6) 24 rfl 0 66 i0 (.agg #[.int .i64 0, .int .i64 0, .int .i64 0, .slice none 0 0, .slice none 0 0, .slice none 0 0]) 6 Tryz.underlying24 hi hz0 hz1 .i64 .i64 _ _ 0 rfl rfl rfl rfl hby hm (Nat.zero_le _) ?_; intro w1 hown hgrow)
    refine wp_loop_rounds 1 ?_; rw [rounds_succ]
    go_wp2
    go_ret
    exact ⟨[], rfl, ⟨rfl, fun r hr => by simp at hr⟩, made_ownI hown, JsQ.nil _ _, (Below.refl _ _).grown hgrow (Nat.le_refl _) (by simp)⟩
  · obtain ⟨b, off, rfl, hlt, hc⟩ := hr.lt (by intro h; subst h; simp at hn; omega)
    have hn' : Hid (rs.length = n) := hn
    have HC : Hid _ := hc
    have HS : Hid _ := hsm
    clear hr hn hc hsm
    go_enter Tryz.func93, Tryz.ntmps93
    go_wp2_with (at_make; refine wpList_make_full _ rfl (.tmp 6) (.tmp 6) 24 rfl 0 66 i0 (.agg #[.int .i64 0, .int .i64 0, .int .i64 0, .slice none 0 0, .slice none 0 0, .slice none 0 0]) 6 Tryz.underlying24 hi hz0 hz1 .i64 .i64 _ _ n rfl rfl rfl rfl hby hm (Nat.zero_le _) ?_; intro w1 hown hgrow)
    have ho := made_ownI hown
    have hB : Below w.heap.size w w1 := (Below.refl _ _).grown hgrow (Nat.le_refl _) (by simp)
    clear hown hgrow
    go_loopw [4] (fun i wr => ∃ (k : Nat) (js : List InoJ), k ≤ n ∧ i = .int .i64 k ∧ js.length = k ∧ Hid (Cpd wr (w.heap.size + 1) (rs.take k) (js.map InoJ.r)) ∧ OwnI wr w.heap.size n n (js.map InoJ.r ++ List.replicate (n - k) inoZ) ∧ Hid (JsQ wr (w.heap.size + 1) js) ∧ Below w.heap.size w wr) (fun i _ => n - (intOf i).toNat)
    case atStart => exact ⟨0, [], Nat.zero_le _, rfl, rfl, ⟨rfl, fun r hr => by simp at hr⟩, ho, JsQ.nil _ _, hB⟩
    case round =>
      obtain ⟨k, js, hk, rfl, htj, hcp, hown, hjs, hbel⟩ := hrel
      obtain ⟨ts, hts⟩ : ∃ l, js.map InoJ.r = l := ⟨_, rfl⟩
      have htk : ts.length = k := by rw [← hts, List.length_map]; exact htj
      have HTS : Hid _ := hts
      rw [hts] at hcp hown
      clear hts
      clear ho hB
      by_cases hkn : k < n
      · have hkl : k < rs.length := by rw [hn'.out]; exact hkn
        have hki : (k : Int) < (n : Int) := by omega
        obtain ⟨r, hrk⟩ : ∃ r, rs[k]? = some r := ⟨_, List.getElem?_eq_getElem hkl⟩
        obtain ⟨x6, xr⟩ := HC.out k r hrk
        have hsr := HS.out r (List.mem_of_getElem? hrk)
        have hcall := toInode_any r.D r.a1 r.a2 r.a3 r.c1 r.c2 r.c3 wr hsr.data hsr.ents hsr.attrs (xr.keep hbel)
        have hmid := set_mid ts
        obtain ⟨x0, x1, x2, x3, x4, x5⟩ := x6.keep hbel hlt
        have hrD : Hid ((rs.take (k + 1)).map InoR.D = (rs.take k).map InoR.D ++ [r.D]) := by
          show _ = _
          rw [List.take_add_one, hrk]
          simp
        obtain ⟨D, hDr⟩ : ∃ D, r.D = D := ⟨_, rfl⟩
        rw [hDr] at x0 x1 x2 x3 x4 x5 hcall hrD
        obtain ⟨n1, hn1⟩ : ∃ n, D.data.length = n := ⟨_, rfl⟩
        obtain ⟨n2, hn2⟩ : ∃ n, D.ents.length = n := ⟨_, rfl⟩
        obtain ⟨n3, hn3⟩ : ∃ n, D.attrs.length = n := ⟨_, rfl⟩
        unfold inoV at hcall
        rw [hn1] at x3 hcall
        rw [hn2] at x4 hcall
        rw [hn3] at x5 hcall
        have HN : Hid (D.data.length = n1 ∧ D.ents.length = n2 ∧ D.attrs.length = n3) := ⟨hn1, hn2, hn3⟩
        have hwz := hbel.size
        clear x6 xr hsr hn1 hn2 hn3 hrk hkl hDr
        go_wp2_with fail
        refine hcall.mono ?_
        rintro e w1 ⟨g1, g2, g3, rfl, hg1, hg2, hg3, hio, hb1⟩
        have ho1 := hown.keep hb1
        have hlc := ho1.lt
        have hq : OwnI w1 w.heap.size n n (ts ++ List.replicate (n - k) inoZ) := ho1
        have hzk : (ts ++ List.replicate (n - k) inoZ)[k]? = some inoZ := by
          rw [List.getElem?_append_right (by omega), htk, Nat.sub_self, List.getElem?_replicate, if_pos (by omega)]
        obtain ⟨q0, q1, q2, q3, q4, q5⟩ := ho1.six k inoZ hzk
        have f0 := ho1.frozen (k * 6)
        have f1 := ho1.frozen (k * 6 + 1)
        have f2 := ho1.frozen (k * 6 + 2)
        have f3 := ho1.frozen (k * 6 + 3)
        have f4 := ho1.frozen (k * 6 + 4)
        have f5 := ho1.frozen (k * 6 + 5)
        have hst := ownI_stored ho1 k hkn ⟨D, some ⟨g1, 0, none⟩, n1, some ⟨g2, 0, none⟩, n2, some ⟨g3, 0, none⟩, n3⟩
        rw [show (ts ++ List.replicate (n - k) inoZ).set k ⟨D, some ⟨g1, 0, none⟩, n1, some ⟨g2, 0, none⟩, n2, some ⟨g3, 0, none⟩, n3⟩ = (ts ++ [⟨D, some ⟨g1, 0, none⟩, n1, some ⟨g2, 0, none⟩, n2, some ⟨g3, 0, none⟩, n3⟩]) ++ List.replicate (n - (k + 1)) inoZ by rw [← htk, set_mid ts _ _ _ (by omega), htk, show n - k - 1 = n - (k + 1) by omega]] at hst
        dsimp only at hst
        rw [HN.out.1, HN.out.2.1, HN.out.2.2] at hst
        have hbel1 : Below w.heap.size w w1 := hbel.trans (hb1.mono hwz)
        have hgr := six_gr w1 w.heap.size (k * 6) (.int .i64 D.ino) (.int .i64 D.kind) (.int .i64 D.links) (.slice (some ⟨g1, 0, none⟩) n1 n1) (.slice (some ⟨g2, 0, none⟩) n2 n2) (.slice (some ⟨g3, 0, none⟩) n3 n3)
        have hbel' := hbel1.grown hgr hbel1.size (by intro g hg; simp at hg; omega)
        have hg0 : w.heap.size + 1 ≤ g1 := by have := hown.lt; omega
        have hcp' : Hid (Cpd ((((((w1.setCell ⟨w.heap.size, k * 6, none⟩ (.int .i64 D.ino)).setCell ⟨w.heap.size, k * 6 + 1, none⟩ (.int .i64 D.kind)).setCell ⟨w.heap.size, k * 6 + 2, none⟩ (.int .i64 D.links)).setCell ⟨w.heap.size, k * 6 + 3, none⟩ (.slice (some ⟨g1, 0, none⟩) n1 n1)).setCell ⟨w.heap.size, k * 6 + 4, none⟩ (.slice (some ⟨g2, 0, none⟩) n2 n2)).setCell ⟨w.heap.size, k * 6 + 5, none⟩ (.slice (some ⟨g3, 0, none⟩) n3 n3)) (w.heap.size + 1) (rs.take (k + 1)) (ts ++ [⟨D, some ⟨g1, 0, none⟩, n1, some ⟨g2, 0, none⟩, n2, some ⟨g3, 0, none⟩, n3⟩])) := by
          refine ⟨by rw [hrD.out, List.map_append, hcp.out.1]; rfl, fun q hq => ?_⟩
          simp only [List.mem_append, List.mem_singleton] at hq
          rcases hq with hq | rfl
          · exact ((hcp.out.2 q hq).keep hb1).kept hgr (by omega)
          · refine InoR.own.kept (w := w1) ⟨g1, g2, g3, rfl, rfl, rfl, hg0, by omega, by omega, ?_⟩ hgr (by omega)
            exact hio
        have hjs' : Hid (JsQ ((((((w1.setCell ⟨w.heap.size, k * 6, none⟩ (.int .i64 D.ino)).setCell ⟨w.heap.size, k * 6 + 1, none⟩ (.int .i64 D.kind)).setCell ⟨w.heap.size, k * 6 + 2, none⟩ (.int .i64 D.links)).setCell ⟨w.heap.size, k * 6 + 3, none⟩ (.slice (some ⟨g1, 0, none⟩) n1 n1)).setCell ⟨w.heap.size, k * 6 + 4, none⟩ (.slice (some ⟨g2, 0, none⟩) n2 n2)).setCell ⟨w.heap.size, k * 6 + 5, none⟩ (.slice (some ⟨g3, 0, none⟩) n3 n3)) (w.heap.size + 1) (js ++ [⟨⟨D, some ⟨g1, 0, none⟩, n1, some ⟨g2, 0, none⟩, n2, some ⟨g3, 0, none⟩, n3⟩, wr.heap.size, w1.heap.size⟩])) := JsQ.gr (JsQ.snoc hjs.out hb1 (by have := hown.lt; omega) (by have := HN.out; obtain ⟨e1, e2, e3⟩ := this; subst e1 e2 e3; exact inoOwn_G hio hg1 (by omega) (by omega))) hgr (by omega)
        have hl' : (ts ++ [⟨D, some ⟨g1, 0, none⟩, n1, some ⟨g2, 0, none⟩, n2, some ⟨g3, 0, none⟩, n3⟩] : List InoR).length = k + 1 := by simp [htk]
        clear hown hbel hcp hjs ho1 hb1 hbel1 hgr hio hcall hq hzk
        unfold inoZ at q0 q1 q2 q3 q4 q5
        dsimp only at q0 q1 q2 q3 q4 q5
        go_wp2
        go_roundw
        case rel => exact ⟨k + 1, js ++ [⟨⟨D, some ⟨g1, 0, none⟩, n1, some ⟨g2, 0, none⟩, n2, some ⟨g3, 0, none⟩, n3⟩, wr.heap.size, w1.heap.size⟩], by omega, by go_num, by simp [htj], by rw [List.map_append, HTS.out]; exact hcp', by rw [List.map_append, HTS.out]; exact hst, hjs', hbel'⟩
        case measure => simp [intOf]; omega
      · go_wp2
        go_ret
        obtain rfl : k = n := by omega
        have := hcp.out
        rw [List.take_of_length_le (by rw [hn'.out]; omega)] at this
        rw [Nat.sub_self, List.replicate_zero, List.append_nil] at hown
        exact ⟨js, rfl, by rw [HTS.out]; exact this, by rw [HTS.out]; exact hown, hjs.out, hbel⟩
set_option maxHeartbeats 1600000 in
theorem toTab_j (a : Option Addr) (n cap : Nat) (nx : Int) (rs : List InoR) (w : World) (hn : rs.length = n) (hs : n ≤ 1048576) (hsm : ∀ r ∈ rs, InoSmall r.D) (hr : RdI w a rs) :
    Calls Tryz.prog 43 #[.agg #[.slice a n cap, .int .i64 nx]] w fun e w' => ∃ g js, e = .returned (.agg #[.slice (some ⟨g, 0, none⟩) n n, .int .i64 nx]) ∧ TabQ w' w.heap.size g n rs (js.map InoJ.r) ∧ JsQ w' (g + 1) js ∧ Below w.heap.size w w' := by
  have B0 : Below w.heap.size w (((w.alloc (.cells #[.slice a n cap, .int .i64 nx] 49)).alloc (.cells #[.slice none 0 0, .int .i64 0] 26)).alloc (.cells #[.slice none 0 0, .int .i64 0] 26)) := (((Below.refl _ w).alloc (Nat.le_refl _) _).alloc (by simp) _).alloc (by simp; omega) _
  have z0 : Blk (((w.alloc (.cells #[.slice a n cap, .int .i64 nx] 49)).alloc (.cells #[.slice none 0 0, .int .i64 0] 26)).alloc (.cells #[.slice none 0 0, .int .i64 0] 26)) w.heap.size 49 #[.slice a n cap, .int .i64 nx] := ((Blk.new w 49 _).alloc _).alloc _
  have z1 := (Blk.new (w.alloc (.cells #[.slice a n cap, .int .i64 nx] 49)) 26 #[.slice none 0 0, .int .i64 0]).alloc (.cells #[.slice none 0 0, .int .i64 0] 26)
  have z2 := Blk.new ((w.alloc (.cells #[.slice a n cap, .int .i64 nx] 49)).alloc (.cells #[.slice none 0 0, .int .i64 0] 26)) 26 #[.slice none 0 0, .int .i64 0]
  have hs0 : (((w.alloc (.cells #[.slice a n cap, .int .i64 nx] 49)).alloc (.cells #[.slice none 0 0, .int .i64 0] 26)).alloc (.cells #[.slice none 0 0, .int .i64 0] 26)).heap.size = w.heap.size + 1 + 1 + 1 := by simp
  simp only [World.size_alloc] at z1 z2
  have hcall := toInodeS_j a n cap rs _ hn hs hsm (hr.keep B0)
  have HNR : Hid _ := hn
  clear hsm hr hn
  go_enter Tryz.func43, Tryz.ntmps43
  go_wp2_with fail
  refine hcall.mono ?_
  rintro e w1 ⟨js, rfl, hcp, ho, hjs, hb1⟩
  have B1 := B0.trans (hb1.mono B0.size)
  have y0 := z0.keep hb1
  have y1 := z1.keep hb1
  have y2 := z2.keep hb1
  rw [hs0] at hcp ho hjs ⊢
  clear z0 z1 z2 hcall hb1 B0
  obtain ⟨H, hH⟩ : ∃ H, w.heap.size = H := ⟨_, rfl⟩
  rw [hH] at y0 y1 y2 hcp ho hjs B1 ⊢
  have x0 := y0.cell 1
  have x2 := y2.cell 0
  have x3 := y2.cell 1
  have f2 := y2.frozen 0
  have f3 := y2.frozen 1
  have u2 := (y2.set 0 (.slice (some ⟨H + 1 + 1 + 1, 0, none⟩) n n)).set 1 (.int .i64 nx)
  have u1 := (y1.other (B' := H + 1 + 1) (by omega) 0 (.slice (some ⟨H + 1 + 1 + 1, 0, none⟩) n n)).other (B' := H + 1 + 1) (by omega) 1 (.int .i64 nx)
  have c10 := u1.cell 0
  have c11 := u1.cell 1
  have f10 := u1.frozen 0
  have f11 := u1.frozen 1
  have d0 := ((u1.set 0 (.slice (some ⟨H + 1 + 1 + 1, 0, none⟩) n n)).set 1 (.int .i64 nx)).cell 0
  have d1 := ((u1.set 0 (.slice (some ⟨H + 1 + 1 + 1, 0, none⟩) n n)).set 1 (.int .i64 nx)).cell 1
  have c20 := u2.cell 0
  have c21 := u2.cell 1
  simp at x0 x2 x3 c10 c11 d0 d1 c20 c21
  have HF : Hid (Cpd w1 (H + 1 + 1 + 1 + 1) rs (js.map InoJ.r) ∧ OwnI w1 (H + 1 + 1 + 1) n n (js.map InoJ.r) ∧ JsQ w1 (H + 1 + 1 + 1 + 1) js ∧ Below H w w1) := ⟨hcp, ho, hjs, B1⟩
  clear hcp ho hjs B1 y0 y1 y2 u1 u2
  go_wp2
  refine bodyPost_ret (v := .agg #[.slice (some ⟨H + 1 + 1 + 1, 0, none⟩) n n, .int .i64 nx]) (by simp [results, Tryz.f43, go_sem, d0, d1]) rfl ?_
  obtain ⟨hcp, ho, hjs, B1⟩ := HF.out
  have k1 := gr_setC w1 (H + 1 + 1) 0 (.slice (some ⟨H + 1 + 1 + 1, 0, none⟩) n n)
  have k2 := gr_setC (w1.setCell ⟨H + 1 + 1, 0, none⟩ (.slice (some ⟨H + 1 + 1 + 1, 0, none⟩) n n)) (H + 1 + 1) 1 (.int .i64 nx)
  have k3 := gr_setC ((w1.setCell ⟨H + 1 + 1, 0, none⟩ (.slice (some ⟨H + 1 + 1 + 1, 0, none⟩) n n)).setCell ⟨H + 1 + 1, 1, none⟩ (.int .i64 nx)) (H + 1) 0 (.slice (some ⟨H + 1 + 1 + 1, 0, none⟩) n n)
  have k4 := gr_setC (((w1.setCell ⟨H + 1 + 1, 0, none⟩ (.slice (some ⟨H + 1 + 1 + 1, 0, none⟩) n n)).setCell ⟨H + 1 + 1, 1, none⟩ (.int .i64 nx)).setCell ⟨H + 1, 0, none⟩ (.slice (some ⟨H + 1 + 1 + 1, 0, none⟩) n n)) (H + 1) 1 (.int .i64 nx)
  refine ⟨H + 1 + 1 + 1, js, rfl, ⟨by omega, HNR.out, ⟨hcp.1, fun r hr => ((((hcp.2 r hr).kept k1 (by omega)).kept k2 (by omega)).kept k3 (by omega)).kept k4 (by omega)⟩, (((ho.kept k1 (by omega)).kept k2 (by omega)).kept k3 (by omega)).kept k4 (by omega)⟩, (((hjs.gr k1 (by omega)).gr k2 (by omega)).gr k3 (by omega)).gr k4 (by omega), ?_⟩
  rw [hH]
  exact (((B1.setCell (p := ⟨H + 1 + 1, 0, none⟩) (by simp only; omega) _).setCell (p := ⟨H + 1 + 1, 1, none⟩) (by simp only; omega) _).setCell (p := ⟨H + 1, 0, none⟩) (by simp only; omega) _).setCell (p := ⟨H + 1, 1, none⟩) (by simp only; omega) _
end

section
open Go.RowKit
theorem OwnI.rds {w : World} {g n cap : Nat} {rs : List InoR} (h : OwnI w g n cap rs) (hr : ∀ r ∈ rs, r.rd w) : RdI w (some ⟨g, 0, none⟩) rs :=
  .inr ⟨g, 0, rfl, fun i r hi => by
    rw [Nat.zero_add]
    exact ⟨h.six i r hi, hr r (List.mem_of_getElem? hi)⟩⟩
theorem TabL.keep {w W W' : World} {g n cap Lo Hi k0 k : Nat} {js : List InoJ} (h : TabL w W g n cap Lo Hi k0 js k) (hap : ApJ g Lo Hi js) (hH : Hi ≤ W.heap.size) (hb : Below W.heap.size W W') : TabL w W' g n cap Lo Hi k0 js k :=
  ⟨h.row.keep hb, fun i j hj hi => InoG.keep (h.old i j hj hi) (Nat.le_trans (hap.within i j hj).2 hH) hb, fun i j hj hi => InoGM.keep (h.new i j hj hi) (Nat.le_trans (hap.within i j hj).2 hH) hb, h.out.trans (Below.out hb Lo Hi)⟩
theorem TabL.from {w0 w W : World} {g n cap Lo Hi k0 k : Nat} {js : List InoJ} (h : TabL w W g n cap Lo Hi k0 js k) (k' : Out Lo Hi w0 w) : TabL w0 W g n cap Lo Hi k0 js k := ⟨h.row, h.old, h.new, k'.trans h.out⟩
set_option maxHeartbeats 800000 in
theorem markTab_any (nx : Int) (g n cap Lo Hi k0 : Nat) (js : List InoJ) (w : World) (hn : js.length = n) (hk0 : 1 ≤ k0) (hs : n ≤ 2000000) (hq : qAt k0 js n ≤ 9999990) (hap : ApJ g Lo Hi js) (hH : Hi ≤ w.heap.size) (hown : OwnI w g n cap (js.map InoJ.r)) (hG : ∀ (i : Nat) (j : InoJ), js[i]? = some j → j.G w) :
    Calls Tryz.prog 45 #[.agg #[.slice (some ⟨g, 0, none⟩) n cap, .int .i64 nx], .int .i64 k0] w fun e w' => e = .returned (.int .i64 ((qAt k0 js n : Nat) : Int)) ∧ TabL w w' g n cap Lo Hi k0 js n := by
  have b0 : Below w.heap.size w (w.alloc (.cells #[.slice (some ⟨g, 0, none⟩) n cap, .int .i64 nx] 26)) := (Below.refl _ w).alloc (Nat.le_refl _) _
  have hc := markInodeS_any g n cap Lo Hi k0 js (w.alloc (.cells #[.slice (some ⟨g, 0, none⟩) n cap, .int .i64 nx] 26)) hn hk0 hs hq hap (Nat.le_trans hH b0.size) (hown.keep b0) (fun i j h => InoG.keep (hG i j h) (Nat.le_trans (hap.within i j h).2 hH) b0)
  have HB : Hid _ := b0
  generalize qAt k0 js n = q at hc hq ⊢
  clear hown hG hap b0
  go_enter Tryz.func45, Tryz.ntmps45
  go_wp2_with fail
  refine hc.mono ?_
  rintro e w1 ⟨rfl, hT⟩
  have HT : Hid _ := hT
  clear hT hc
  go_wp2
  go_ret
  exact ⟨rfl, TabL.from HT.out (Below.out HB.out Lo Hi)⟩
set_option maxHeartbeats 800000 in
theorem heldTab_any (w0 : World) (nx : Int) (g n cap Lo Hi k0 : Nat) (js : List InoJ) (w : World) (hn : js.length = n) (hk0 : 1 ≤ k0) (hs : n ≤ 2000000) (hq : qAt k0 js n ≤ 9999990) (hap : ApJ g Lo Hi js) (hH : Hi ≤ w.heap.size) (hT : TabL w0 w g n cap Lo Hi k0 js n) :
    Calls Tryz.prog 46 #[.agg #[.slice (some ⟨g, 0, none⟩) n cap, .int .i64 nx], .int .i64 k0] w fun e w' => e = .returned (.int .i64 ((qAt k0 js n : Nat) : Int)) ∧ Below w.heap.size w w' := by
  have b0 : Below w.heap.size w (w.alloc (.cells #[.slice (some ⟨g, 0, none⟩) n cap, .int .i64 nx] 26)) := (Below.refl _ w).alloc (Nat.le_refl _) _
  have hc := heldInodeS_any w0 g n cap Lo Hi k0 js (w.alloc (.cells #[.slice (some ⟨g, 0, none⟩) n cap, .int .i64 nx] 26)) hn hk0 hs hq hap (Nat.le_trans hH b0.size) (hT.keep hap hH b0)
  have HB : Hid _ := b0
  generalize qAt k0 js n = q at hc hq ⊢
  have hq0 : ¬ (q : Int) < 0 := by omega
  clear hT hap b0
  go_enter Tryz.func46, Tryz.ntmps46
  go_wp2_with fail
  refine hc.mono ?_
  rintro e w1 ⟨rfl, b1⟩
  go_wp2
  go_ret
  exact ⟨rfl, HB.out.trans (b1.mono HB.out.size)⟩
end
end Go.Proofs.YtnfplimhhjpbkaaGreatDoor
