/-
  The laws' marks in a row of inodes whose lists lie in intervals of blocks that are apart.
-/
import Derived.Test.YtnadeelnjhollaaGreatToTabV
import Derived.Test.YtnadeelnjhollaaGreatMKV
namespace Go.Proofs.YtnadeelnjhollaaGreat
open Go.RowKit
/-- An inode of a row, and the interval of blocks that its lists lie in. -/
structure InoJ where
  r : InoR
  lo : Nat
  hi : Nat
def InoJ.v1 (j : InoJ) : Value := .slice j.r.a1 j.r.D.data.length j.r.c1
def InoJ.v2 (j : InoJ) : Value := .slice j.r.a2 j.r.D.ents.length j.r.c2
def InoJ.v3 (j : InoJ) : Value := .slice j.r.a3 j.r.D.attrs.length j.r.c3
def InoJ.G (w : World) (j : InoJ) : Prop := InoG w j.lo j.hi j.r.D j.v1 j.v2 j.v3
def InoJ.M (w : World) (j : InoJ) (k : Nat) : Prop := InoGM w j.lo j.hi k j.r.D.data.length j.r.D.ents.length j.r.D.attrs.length j.v1 j.v2 j.v3
def InoJ.cost (j : InoJ) : Nat := 3 + j.r.D.data.length + 2 * j.r.D.ents.length + 2 * j.r.D.attrs.length
/-- The number that the marks of the i-th begin with. -/
def qAt (k0 : Nat) (js : List InoJ) (i : Nat) : Nat := k0 + ((js.take i).map InoJ.cost).sum
theorem qAt_zero (k0 : Nat) (js : List InoJ) : qAt k0 js 0 = k0 := by simp [qAt]
theorem qAt_succ (k0 : Nat) {js : List InoJ} {i : Nat} {j : InoJ} (h : js[i]? = some j) : qAt k0 js (i + 1) = qAt k0 js i + j.cost := by
  unfold qAt
  rw [List.take_add_one, h]
  simp
  omega
theorem qAt_le (k0 : Nat) (js : List InoJ) {i i' : Nat} (h : i ≤ i') : qAt k0 js i ≤ qAt k0 js i' := by
  induction i' with
  | zero => obtain rfl := (show i = 0 by omega); exact Nat.le_refl _
  | succ m ih =>
    rcases (show i ≤ m ∨ i = m + 1 by omega) with h1 | rfl
    · refine Nat.le_trans (ih h1) ?_
      cases hj : js[m]? with
      | none =>
        unfold qAt
        rw [List.take_add_one, hj]
        simp
      | some j => rw [qAt_succ k0 hj]; omega
    · exact Nat.le_refl _
def InoR.mkd (r : InoR) (q : Nat) : InoR := { r with D := { r.D with ino := (q : Int), kind := ((q + 1 : Nat) : Int), links := ((q + 2 : Nat) : Int) } }
/-- The row behind k rounds. -/
def rowM (k0 : Nat) (js : List InoJ) (k : Nat) : List InoR := js.mapIdx fun i j => if i < k then j.r.mkd (qAt k0 js i) else j.r
theorem rowM_len (k0 : Nat) (js : List InoJ) (k : Nat) : (rowM k0 js k).length = js.length := by simp [rowM]
theorem rowM_at (k0 : Nat) {js : List InoJ} (k : Nat) {i : Nat} {j : InoJ} (h : js[i]? = some j) : (rowM k0 js k)[i]? = some (if i < k then j.r.mkd (qAt k0 js i) else j.r) := by simp [rowM, h]
theorem rowM_zero (k0 : Nat) (js : List InoJ) : rowM k0 js 0 = js.map InoJ.r := by
  apply List.ext_getElem?
  intro i
  simp [rowM]
theorem rowM_set (k0 : Nat) {js : List InoJ} {k : Nat} {j : InoJ} (h : js[k]? = some j) : (rowM k0 js k).set k (j.r.mkd (qAt k0 js k)) = rowM k0 js (k + 1) := by
  apply List.ext_getElem?
  intro i
  by_cases e : k = i
  · subst e
    have hk := (List.getElem?_eq_some_iff.1 h).1
    rw [List.getElem?_set_self (by rw [rowM_len]; exact hk), rowM_at k0 (k + 1) h, if_pos (by omega)]
  · rw [List.getElem?_set_ne e]
    cases hi : js[i]? with
    | none => rw [List.getElem?_eq_none (by rw [rowM_len]; exact List.getElem?_eq_none_iff.1 hi), List.getElem?_eq_none (by rw [rowM_len]; exact List.getElem?_eq_none_iff.1 hi)]
    | some j' =>
      rw [rowM_at k0 k hi, rowM_at k0 (k + 1) hi]
      by_cases h1 : i < k
      · rw [if_pos h1, if_pos (by omega)]
      · rw [if_neg h1, if_neg (by omega)]
theorem iv_set3 (rs : List InoR) (i q : Nat) (r : InoR) (h : rs[i]? = some r) : (((iv rs).set (i * 6) (.int .i64 (q : Int))).set (i * 6 + 1) (.int .i64 ((q + 1 : Nat) : Int))).set (i * 6 + 2) (.int .i64 ((q + 2 : Nat) : Int)) = iv (rs.set i (r.mkd q)) := by
  induction rs generalizing i with
  | nil => simp at h
  | cons p rs ih =>
    cases i with
    | zero =>
      simp at h
      subst h
      simp [iv_cons, InoR.six, InoR.mkd]
    | succ i =>
      have hl := six_length p
      have e : ∀ (l : List Value) (m : Nat) (x : Value), (p.six ++ l).set ((i + 1) * 6 + m) x = p.six ++ l.set (i * 6 + m) x := fun l m x => by
        rw [List.set_append_right _ _ (by rw [hl]; omega), hl, show (i + 1) * 6 + m - 6 = i * 6 + m by omega]
      have e0 : ∀ (l : List Value) (x : Value), (p.six ++ l).set ((i + 1) * 6) x = p.six ++ l.set (i * 6) x := fun l x => e l 0 x
      rw [iv_cons, e0, e, e, List.set_cons_succ, iv_cons, ih i (by simpa using h)]
theorem ownI_three {w : World} {g n cap : Nat} {rs : List InoR} (h : OwnI w g n cap rs) (k q : Nat) (r : InoR) (hr : rs[k]? = some r) : OwnI (((w.setCell ⟨g, k * 6, none⟩ (.int .i64 (q : Int))).setCell ⟨g, k * 6 + 1, none⟩ (.int .i64 ((q + 1 : Nat) : Int))).setCell ⟨g, k * 6 + 2, none⟩ (.int .i64 ((q + 2 : Nat) : Int))) g n cap (rs.set k (r.mkd q)) := by
  have s0 := (World.ownsRow.stored h (k * 6) (.int .i64 (q : Int))).1
  have s1 := (World.ownsRow.stored s0 (k * 6 + 1) (.int .i64 ((q + 1 : Nat) : Int))).1
  have s2 := (World.ownsRow.stored s1 (k * 6 + 2) (.int .i64 ((q + 2 : Nat) : Int))).1
  rw [iv_set3 rs k q r hr] at s2
  exact s2
theorem OwnI.outs {w w' : World} {g n cap B T : Nat} {rs : List InoR} (h : OwnI w g n cap rs) (k : Out B T w w') (hg : g < B ∨ T ≤ g) : OwnI w' g n cap rs := by
  have hlt := h.lt
  refine ⟨h.1, ?_⟩
  rcases h.2 with ⟨h', _⟩ | ⟨g', cap', cur, h', hb', hgg, rest⟩
  · simp at h'
  · refine .inr ⟨g', cap', cur, h', hb', ?_, rest⟩
    simp only [Value.slice.injEq, Option.some.injEq, Addr.mk.injEq, and_true, true_and] at h'
    obtain ⟨rfl, rfl⟩ := h'
    rw [k.block g hlt hg]
    exact hgg
theorem InoJ.G.outs {w w' : World} {B T : Nat} {j : InoJ} (h : j.G w) (hT : j.hi ≤ w.heap.size) (k : Out B T w w') (hd : j.hi ≤ B ∨ T ≤ j.lo) : j.G w' := InoG.outs h hT k hd
theorem InoJ.M.outs {w w' : World} {B T q : Nat} {j : InoJ} (h : j.M w q) (hT : j.hi ≤ w.heap.size) (k : Out B T w w') (hd : j.hi ≤ B ∨ T ≤ j.lo) : j.M w' q := InoGM.kept h fun b h1 h2 => k.block b (by omega) (by omega)
/-- The intervals are apart, and apart from the row's block; all of it lies from Lo up to Hi. -/
structure ApJ (g Lo Hi : Nat) (js : List InoJ) : Prop where
  apart : ∀ (i i' : Nat) (j j' : InoJ), js[i]? = some j → js[i']? = some j' → i ≠ i' → j.hi ≤ j'.lo ∨ j'.hi ≤ j.lo
  row : ∀ (i : Nat) (j : InoJ), js[i]? = some j → g < j.lo ∨ j.hi ≤ g
  within : ∀ (i : Nat) (j : InoJ), js[i]? = some j → Lo ≤ j.lo ∧ j.hi ≤ Hi
  rowIn : Lo ≤ g ∧ g < Hi
/-- A row of inodes, behind k rounds of marking. -/
structure TabL (w W : World) (g n cap Lo Hi k0 : Nat) (js : List InoJ) (k : Nat) : Prop where
  row : OwnI W g n cap (rowM k0 js k)
  old : ∀ (i : Nat) (j : InoJ), js[i]? = some j → k ≤ i → j.G W
  new : ∀ (i : Nat) (j : InoJ), js[i]? = some j → i < k → j.M W (qAt k0 js i + 3)
  out : Out Lo Hi w W
set_option maxRecDepth 100000 in
set_option maxHeartbeats 4000000 in
theorem markInodeS_any (g n cap Lo Hi k0 : Nat) (js : List InoJ) (w : World) (hn : js.length = n) (hk0 : 1 ≤ k0) (hs : n ≤ 2000000) (hq : qAt k0 js n ≤ 9999990) (hap : ApJ g Lo Hi js) (hH : Hi ≤ w.heap.size) (hown : OwnI w g n cap (js.map InoJ.r)) (hG : ∀ (i : Nat) (j : InoJ), js[i]? = some j → j.G w) :
    Calls Tryz.prog 29 #[.slice (some ⟨g, 0, none⟩) n cap, .int .i64 k0] w fun e w' => e = .returned (.int .i64 ((qAt k0 js n : Nat) : Int)) ∧ TabL w w' g n cap Lo Hi k0 js n := by
  have hL0 : TabL w w g n cap Lo Hi k0 js 0 := ⟨by rw [rowM_zero]; exact hown, fun i j h _ => hG i j h, fun i j _ h => by omega, Out.refl _ _ _⟩
  have hq0 : (k0 : Int) = ((qAt k0 js 0 : Nat) : Int) := by rw [qAt_zero]
  have HAP : Hid _ := hap
  have hn' : Hid (js.length = n) := hn
  clear hown hG hap hn
  rw [hq0]
  go_enter Tryz.func29, Tryz.ntmps29
  go_wp2
  go_loopw [1, 5] (fun q i wr => ∃ k : Nat, k ≤ n ∧ i = .int .i64 k ∧ q = .int .i64 ((qAt k0 js k : Nat) : Int) ∧ TabL w wr g n cap Lo Hi k0 js k) (fun _ i _ => n - (intOf i).toNat)
  case atStart => exact ⟨0, Nat.zero_le _, rfl, rfl, hL0⟩
  case round =>
    obtain ⟨k, hk, rfl, rfl, hL⟩ := hrel
    by_cases hkn : k < n
    · have hki : (k : Int) < (n : Int) := by omega
      obtain ⟨j, hjk⟩ : ∃ j, js[k]? = some j := ⟨_, List.getElem?_eq_getElem (by rw [hn'.out]; exact hkn)⟩
      have hqs := qAt_succ k0 hjk
      have hqn := qAt_le k0 js (show k + 1 ≤ n by omega)
      have hqk0 := qAt_le k0 js (Nat.zero_le k)
      rw [qAt_zero] at hqk0
      have hcost : j.cost = 3 + j.r.D.data.length + 2 * j.r.D.ents.length + 2 * j.r.D.attrs.length := rfl
      have hrw := HAP.out.row k j hjk
      have hwi := HAP.out.within k j hjk
      have hri := HAP.out.rowIn
      have hrk : (rowM k0 js k)[k]? = some j.r := by rw [rowM_at k0 k hjk, if_neg (by omega)]
      have hsz := hL.out.size
      obtain ⟨x0, x1, x2, x3, x4, x5⟩ := hL.row.six k j.r hrk
      have f0 := hL.row.frozen (k * 6)
      have f1 := hL.row.frozen (k * 6 + 1)
      have f2 := hL.row.frozen (k * 6 + 2)
      obtain ⟨q, hqq⟩ : ∃ q, qAt k0 js k = q := ⟨_, rfl⟩
      have hqq' : Hid _ := hqq
      rw [hqq] at hqs hqk0 ⊢
      have HL : Hid _ := hL
      obtain ⟨n1, h1⟩ : ∃ n, j.r.D.data.length = n := ⟨_, rfl⟩
      obtain ⟨n2, h2⟩ : ∃ n, j.r.D.ents.length = n := ⟨_, rfl⟩
      obtain ⟨n3, h3⟩ : ∃ n, j.r.D.attrs.length = n := ⟨_, rfl⟩
      rw [h1, h2, h3] at hcost
      rw [h1] at x3
      rw [h2] at x4
      rw [h3] at x5
      have H123 : Hid (j.r.D.data.length = n1 ∧ j.r.D.ents.length = n2 ∧ j.r.D.attrs.length = n3) := ⟨h1, h2, h3⟩
      clear hqq hL hL0 h1 h2 h3
      go_wp2_with fail
      have ho3 : OwnI (((wr.setCell ⟨g, k * 6, none⟩ (.int .i64 (q : Int))).setCell ⟨g, k * 6 + 1, none⟩ (.int .i64 ((q : Int) + 1))).setCell ⟨g, k * 6 + 2, none⟩ (.int .i64 ((q : Int) + 1 + 1))) g n cap (rowM k0 js (k + 1)) := by
        have := ownI_three HL.out.row k q j.r hrk
        rw [← hqq'.out, rowM_set k0 hjk, hqq'.out] at this
        push_cast at this
        exact this
      have o3 : Out g (g + 1) wr (((wr.setCell ⟨g, k * 6, none⟩ (.int .i64 (q : Int))).setCell ⟨g, k * 6 + 1, none⟩ (.int .i64 ((q : Int) + 1))).setCell ⟨g, k * 6 + 2, none⟩ (.int .i64 ((q : Int) + 1 + 1))) := Out.gr (gr_more (gr_more (gr_setC wr g (k * 6) _) (k * 6 + 1) _) (k * 6 + 2) _) (fun m hm => by simp at hm; omega)
      obtain ⟨W3, hW3⟩ : ∃ W, ((wr.setCell ⟨g, k * 6, none⟩ (.int .i64 (q : Int))).setCell ⟨g, k * 6 + 1, none⟩ (.int .i64 ((q : Int) + 1))).setCell ⟨g, k * 6 + 2, none⟩ (.int .i64 ((q : Int) + 1 + 1)) = W := ⟨_, rfl⟩
      rw [hW3] at ho3 o3 ⊢
      clear hW3 x0 x1 x2 x3 x4 x5 f0 f1 f2
      have hGj := (HL.out.old k j hjk (Nat.le_refl _)).outs (by omega) o3 (by omega)
      have hs3 := o3.size
      obtain ⟨p1, p2, p3, p4, pw⟩ := hGj
      have hv1 : j.v1 = .slice j.r.a1 n1 j.r.c1 := by unfold InoJ.v1; rw [H123.out.1]
      have hv2 : j.v2 = .slice j.r.a2 n2 j.r.c2 := by unfold InoJ.v2; rw [H123.out.2.1]
      have hv3 : j.v3 = .slice j.r.a3 n3 j.r.c3 := by unfold InoJ.v3; rw [H123.out.2.2]
      rw [H123.out.1] at p1
      have p1 := OwnV.rowB p1
      rw [H123.out.2.1] at p3
      rw [H123.out.2.2] at p4
      have hlt : ∀ m, j.v1.ownBlock = some m ∨ j.v2.ownBlock = some m ∨ j.v3.ownBlock = some m → m < wr.heap.size := fun m hm => by have := (pw m hm).2; omega
      have y6 := ho3.six k (j.r.mkd q) (by rw [rowM_at k0 (k + 1) hjk, if_pos (by omega), hqq'.out])
      have y4 : W3.cell? ⟨g, k * 6 + 4, none⟩ = some j.v2 := y6.c4
      rw [show (q : Int) + 1 + 1 + 1 = ((q + 3 : Nat) : Int) by omega, ← hv1]
      refine (markBG j.v1 n1 (q + 3) j.r.D.data W3 (by omega) (by omega) p1).mono ?_
      rintro e w1 ⟨rfl, m1, g1⟩
      have hs1 := g1.size
      have o1 : Out j.lo j.hi W3 w1 := Out.gr g1 (fun m hm => pw m (.inl hm))
      have s3 : OwnQ 60 w1 j.v2 n2 (eP j.r.D.ents) := q_block p3 fun m hm => gr_block g1 (by have := hlt m (.inr (.inl hm)); omega) (fun e => rowB_ne p1 p3 (by decide) e hm)
      have s4 : OwnQ 48 w1 j.v3 n3 (aP j.r.D.attrs) := q_block p4 fun m hm => gr_block g1 (by have := hlt m (.inr (.inr hm)); omega) (fun e => rowB_ne p1 p4 (by decide) e hm)
      have r1 := ho3.outs o1 (by omega)
      have z4 : w1.cell? ⟨g, k * 6 + 4, none⟩ = some j.v2 := (r1.six k (j.r.mkd q) (by rw [rowM_at k0 (k + 1) hjk, if_pos (by omega), hqq'.out])).c4
      obtain ⟨qq, hqq2⟩ : ∃ x, q + 3 + n1 = x := ⟨_, rfl⟩
      rw [hqq2]
      rw [hv2] at z4
      clear y6 y4
      go_wp2_with fail
      rw [← hv2]
      refine (markE_any j.v2 n2 qq (eP j.r.D.ents) w1 (by omega) (by omega) s3).mono ?_
      rintro e w2 ⟨rfl, m2, g2⟩
      have hs2 := g2.size
      have o2 : Out j.lo j.hi w1 w2 := Out.gr g2 (fun m hm => pw m (.inr (.inl hm)))
      have t1 : RowB w2 j.v1 n1 (marksG (q + 3) n1) := m1.block fun m hm => gr_block g2 (by have := hlt m (.inl hm); omega) (fun e => rowB_ne m1 s3 (by decide) hm e)
      have t4 : OwnQ 48 w2 j.v3 n3 (aP j.r.D.attrs) := q_block s4 fun m hm => gr_block g2 (by have := hlt m (.inr (.inr hm)); omega) (fun e => row_ne s3 s4 (by decide) e hm)
      have r2 := r1.outs o2 (by omega)
      have z5 : w2.cell? ⟨g, k * 6 + 5, none⟩ = some j.v3 := (r2.six k (j.r.mkd q) (by rw [rowM_at k0 (k + 1) hjk, if_pos (by omega), hqq'.out])).c5
      obtain ⟨qr, hqr⟩ : ∃ x, qq + 2 * n2 = x := ⟨_, rfl⟩
      rw [hqr]
      rw [hv3] at z5
      clear z4
      go_wp2_with fail
      rw [← hv3]
      refine (markA_any j.v3 n3 qr (aP j.r.D.attrs) w2 (by omega) (by omega) t4).mono ?_
      rintro e w3 ⟨rfl, m3, g3⟩
      have o3' : Out j.lo j.hi w2 w3 := Out.gr g3 (fun m hm => pw m (.inr (.inr hm)))
      have u1 : RowB w3 j.v1 n1 (marksG (q + 3) n1) := t1.block fun m hm => gr_block g3 (by have := hlt m (.inl hm); omega) (fun e => rowB_ne t1 t4 (by decide) hm e)
      have u2 : OwnQ 60 w3 j.v2 n2 ((List.range n2).map (mE qq)) := q_block m2 fun m hm => gr_block g3 (by have := hlt m (.inr (.inl hm)); omega) (fun e => row_ne t4 m2 (by decide) e hm)
      have r3 := r2.outs o3' (by omega)
      have oA : Out j.lo j.hi W3 w3 := o1.trans (o2.trans o3')
      have hM : j.M w3 (q + 3) := by
        unfold InoJ.M
        rw [H123.out.1, H123.out.2.1, H123.out.2.2]
        exact ⟨u1, by rw [hqq2]; exact u2, by rw [hqq2, hqr]; exact m3, pw⟩
      have hL' : TabL w w3 g n cap Lo Hi k0 js (k + 1) := by
        refine ⟨r3, fun i j' hj' hi => ?_, fun i j' hj' hi => ?_, ?_⟩
        · have ha := HAP.out.apart k i j j' hjk hj' (by omega)
          have hr' := HAP.out.row i j' hj'
          have hw' := HAP.out.within i j' hj'
          exact ((HL.out.old i j' hj' (by omega)).outs (by omega) o3 (by omega)).outs (by omega) oA (by omega)
        · rcases (show i < k ∨ i = k by omega) with hi' | rfl
          · have ha := HAP.out.apart k i j j' hjk hj' (by omega)
            have hr' := HAP.out.row i j' hj'
            have hw' := HAP.out.within i j' hj'
            exact ((HL.out.new i j' hj' hi').outs (by omega) o3 (by omega)).outs (by omega) oA (by omega)
          · rw [hjk] at hj'
            simp at hj'
            subst hj'
            rw [hqq'.out]
            exact hM
        · exact HL.out.out.trans ((o3.wider (by omega) (by omega)).trans (oA.wider (by omega) (by omega)))
      have hqe : qr + 2 * n3 = qAt k0 js (k + 1) := by rw [qAt_succ k0 hjk, hqq'.out]; omega
      clear z5
      go_wp2
      go_roundw
      case rel => exact ⟨k + 1, by omega, by go_num, by rw [← hqe]; exact val_int (by push_cast; omega), hL'⟩
      case measure => simp [intOf]; omega
    · have hki : ¬ (k : Int) < (n : Int) := by omega
      obtain rfl : k = n := by omega
      have HL : Hid _ := hL
      clear hL hL0
      go_wp2
      go_ret
      exact ⟨rfl, HL.out⟩
end Go.Proofs.YtnadeelnjhollaaGreat
