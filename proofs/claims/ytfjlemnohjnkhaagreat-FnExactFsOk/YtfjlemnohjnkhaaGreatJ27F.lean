/-
  Joined: Reach, Links, Paths.
-/
import Derived.Test.YtfjlemnohjnkhaaGreatNext7F
namespace Go.Proofs.YtfjlemnohjnkhaaGreat
section
open Go.RowKit
set_option maxRecDepth 100000 in
set_option maxHeartbeats 4000000 in
theorem reachedS (a : Option Addr) (n cap : Nat) (nx : Int) (rs : List InoR) (w : World) (ht : TR w a n rs) :
    Calls Tryz.prog 43 #[.agg #[.slice a n cap, .int .i64 nx]] w fun e w' => ∃ a' c', e = .returned (.slice a' (reachD (rs.map InoR.D)).length c') ∧ RdV w' a' (iV (reachD (rs.map InoR.D))) ∧ Below w.heap.size w w' := by
  have B0 : Below w.heap.size w ((w.alloc (.cells #[.slice a n cap, .int .i64 nx] 47)).alloc (.cells #[] 3)) := ((Below.refl _ w).alloc (Nat.le_refl _) _).alloc (by simp) _
  have z0 := (Blk.new w 47 #[.slice a n cap, .int .i64 nx]).alloc (.cells #[] 3)
  have oE := empty_row (w.alloc (.cells #[.slice a n cap, .int .i64 nx] 47)) w.heap.size 3 1 (by simp)
  simp only [World.size_alloc] at oE
  obtain ⟨ds, hds⟩ : ∃ ds, rs.map InoR.D = ds := ⟨_, rfl⟩
  rw [hds]
  have HDS : Hid _ := hds
  have hdn : Hid (ds.length = n) := by show _ = _; rw [← hds, List.length_map, ht.len]
  have hn1 := ht.n
  have HT0 := ht.keep B0
  have HTW : Hid _ := ht
  obtain ⟨R, hR⟩ : ∃ R, reachD ds = R := ⟨_, rfl⟩
  rw [hR]
  have HR : Hid (reachD ds = R) := hR
  clear ht hds hR
  go_enter Tryz.func43, Tryz.ntmps43
  go_wp2_with fail
  obtain ⟨W0, hW0⟩ : ∃ W, (w.alloc (.cells #[.slice a n cap, .int .i64 nx] 47)).alloc (.cells #[] 3) = W := ⟨_, rfl⟩
  rw [hW0] at B0 z0 HT0 oE ⊢
  clear hW0
  have hcL := l4At_any a n cap nx 1 rs W0 HT0.len (by omega) HT0.rd
  cases hl : (look ds 1).isSome with
  | false =>
    have hl' : look ds 1 = none := by simpa using hl
    rw [atN_none (by rw [HDS.out]; exact hl')] at hcL
    have hRn : R = [] := by
      have := HR.out
      unfold reachD at this
      rw [hl] at this
      exact this.symm
    subst hRn
    have HB0 : Hid _ := B0
    clear HT0 z0 hl hl' B0 oE
    (with_reducible refine hcL.mono ?_)
    rintro e w1 ⟨rfl, b1⟩
    clear hcL
    have HD : Hid (RdV w1 (some ⟨w.heap.size + 1, 0, none⟩) (iV []) ∧ Below w.heap.size w w1) := ⟨.inl rfl, HB0.out.trans (b1.mono HB0.out.size)⟩
    go_wp2
    go_ret
    first | exact ⟨_, _, rfl, HD.out⟩ | exact ⟨_, ⟨_, rfl⟩, HD.out⟩
  | true =>
    obtain ⟨D, hD⟩ := Option.isSome_iff_exists.1 hl
    obtain ⟨pp, _, hf, _, _, hpl⟩ := lookD_some (rs := rs) (by rw [HDS.out]; exact hD)
    have hN : atN rs 1 = (pp : Int) := by unfold atN; rw [hf]
    rw [hN] at hcL
    have hge : ¬ (pp : Int) < 0 := by omega
    have hRn : Hid (reachN ds n = R) := by
      have := HR.out
      unfold reachD at this
      rw [hl, hdn.out] at this
      exact this
    have HI : Hid (∀ k, InTab ds (reachN ds k)) := fun k => InTab.reach hl k
    obtain ⟨i0, hi, hz0, hz1, hz2⟩ := info_parts Tryz.info3
    have HT : Hid _ := HT0
    have HZ : Hid _ := z0
    have HB0 : Hid _ := B0
    clear HT0 z0 B0 hl hD hf hN hpl HR
    (with_reducible refine hcL.mono ?_)
    rintro e w1 ⟨rfl, b1⟩
    clear hcL
    have hB1 : Below w.heap.size w w1 := HB0.out.trans (b1.mono HB0.out.size)
    have oE1 := row_keep6 oE b1
    go_wp2_with (at_builtin; refine wpList_app1 (w1.alloc (.cells #[.int .i64 1] 3)) rfl (.tmp 10) (.tmp 11) 80 3 rfl Tryz.underlying80 i0 (.int .i64 0) 8 hi hz0 hz1 hz2 rfl (by omega) w.heap.size (w.heap.size + 1) 0 0 [] rfl (World.ownsRow.alloc oE1 _) w1.heap.size (.int .i64 1) rfl (Blk.new w1 3 #[.int .i64 1] |>.cell 0) rfl (by omega) (by have := hB1.size; simp; omega) (w1.heap.size + 1) (by simp) ?_; intro g2 c2 W2 o2 hg2 hat2)
    have hb2 : Below w.heap.size w W2 := by
      have h2 := hB1.alloc hB1.size (.cells #[.int .i64 1] 3)
      exact h2.grown hg2 h2.size (fun m hm => by simp at hm; omega)
    have zW2 : Blk W2 w.heap.size 47 #[.slice a n cap, .int .i64 nx] := ((Blk.keep HZ.out b1).alloc _).kept hg2 (by omega)
    have l2 : RdV W2 (some ⟨g2, 0, none⟩) (iV (reachN ds 0)) := rowV_rd o2
    clear o2 hg2 hat2 oE1 oE b1 hB1 hi hz0 hz1 hz2 HT HZ
    go_loopw [3, 4] (fun l i wr => ∃ (k : Nat) (la : Option Addr) (ln lc : Nat), k ≤ n ∧ i = .int .i64 k ∧ l = .slice la ln lc ∧ (reachN ds k).length = ln ∧ RdV wr la (iV (reachN ds k)) ∧ Blk wr w.heap.size 47 #[.slice a n cap, .int .i64 nx] ∧ Below w.heap.size w wr) (fun _ i _ => n - (intOf i).toNat)
    case atStart => exact ⟨0, some ⟨g2, 0, none⟩, 1, c2, Nat.zero_le _, rfl, rfl, rfl, l2, zW2, hb2⟩
    case round =>
      obtain ⟨k, la, ln, lc, hk, rfl, rfl, hln, hrl, hz, hB⟩ := hrel
      clear l2 zW2 hb2
      have t0 := hz.cell 0
      have t1 := hz.cell 1
      simp at t0 t1
      by_cases hkn : k < n
      · have hki : (k : Int) < (n : Int) := by omega
        have hcN := l7NextS a n cap nx rs la ln lc (reachN ds k) wr (HTW.out.keep hB) hln hrl (by rw [HDS.out]; exact HI.out k)
        rw [HDS.out] at hcN
        have hZ : Hid _ := hz
        clear hz hrl
        go_wp2_with fail
        (with_reducible refine hcN.mono ?_)
        rintro e w2 ⟨a', c', rfl, hr2, b2⟩
        clear hcN t0 t1
        go_wp2
        go_roundw
        case rel => exact ⟨k + 1, a', _, c', by omega, by go_num, rfl, rfl, hr2, Blk.keep hZ.out b2, hB.trans (b2.mono hB.size)⟩
        case measure => simp [intOf]; omega
      · have hki : ¬ (k : Int) < (n : Int) := by omega
        have hkn' : k = n := by omega
        have hRk : reachN ds k = R := by rw [hkn']; exact hRn.out
        rw [hRk] at hrl hln
        subst hln
        have HD : Hid (RdV wr la (iV R) ∧ Below w.heap.size w wr) := ⟨hrl, hB⟩
        clear hrl hB hz hRk hkn'
        go_wp2
        go_ret
        first | exact ⟨_, _, rfl, HD.out⟩ | exact ⟨_, ⟨_, rfl⟩, HD.out⟩
end

section
open Go.RowKit
theorem linksIn_le (D : InoD) (x : Int) : linksIn D x ≤ D.ents.length := by
  unfold linksIn
  split
  · exact List.length_filter_le _ _
  · omega
def cntE (es : List (ByteArray × Int)) (x : Int) : Nat := (es.filter fun e => e.2 == x).length
theorem cntE_snoc (es : List (ByteArray × Int)) (x : Int) (k : Nat) (q : ByteArray × Int) (h : es[k]? = some q) : cntE (es.take (k + 1)) x = cntE (es.take k) x + (if q.2 = x then 1 else 0) := by
  unfold cntE
  rw [List.take_add_one, h, List.filter_append, List.length_append]
  by_cases hq : q.2 = x
  · simp [hq]
  · have : (q.2 == x) = false := by simpa using hq
    simp [this, hq]
theorem linksD_snoc (ds : List InoD) (x : Int) (k : Nat) (D : InoD) (h : ds[k]? = some D) : linksD (ds.take (k + 1)) x = linksD (ds.take k) x + linksIn D x := by
  unfold linksD
  rw [List.take_add_one, h]
  simp
set_option maxRecDepth 100000 in
set_option maxHeartbeats 4000000 in
theorem linksS (a : Option Addr) (n cap : Nat) (nx x : Int) (rs : List InoR) (w : World) (ht : TR w a n rs) :
    Calls Tryz.prog 44 #[.agg #[.slice a n cap, .int .i64 nx], .int .i64 x] w fun e w' => e = .returned (.int .i64 (linksD (rs.map InoR.D) x : Nat)) ∧ Below w.heap.size w w' := by
  have B0 : Below w.heap.size w (w.alloc (.cells #[.slice a n cap, .int .i64 nx] 47)) := (Below.refl _ w).alloc (Nat.le_refl _) _
  have z0 := Blk.new w 47 #[.slice a n cap, .int .i64 nx]
  have ht0 := ht.keep B0
  have HB : Hid _ := B0
  have HT : Hid _ := ht0
  have hln : Hid (rs.length = n) := ht.len
  have hn1 := ht.n
  obtain ⟨R, hR⟩ : ∃ R, linksD (rs.map InoR.D) x = R := ⟨_, rfl⟩
  rw [hR]
  have HR : Hid _ := hR
  clear ht ht0 hR B0
  go_enter Tryz.func44, Tryz.ntmps44
  go_wp2
  obtain ⟨W0, hW0⟩ : ∃ W, w.alloc (.cells #[.slice a n cap, .int .i64 nx] 47) = W := ⟨_, rfl⟩
  rw [hW0] at z0 HB HT ⊢
  have t0 := z0.cell 0
  simp at t0
  clear hW0 z0
  go_loop [5, 6] (fun c i => ∃ k m : Nat, k ≤ n ∧ i = .int .i64 k ∧ c = .int .i64 m ∧ m ≤ k * 1048576 ∧ Hid (linksD ((rs.map InoR.D).take k) x = m)) (fun _ i => n - (intOf i).toNat)
  case atStart => exact ⟨0, 0, Nat.zero_le _, rfl, rfl, Nat.zero_le _, rfl⟩
  case round =>
    obtain ⟨k, m, hk, rfl, rfl, hm, hlk⟩ := hrel
    by_cases hkn : k < n
    · have hki : (k : Int) < (n : Int) := by omega
      have hk0 : (0 : Int) ≤ (k : Int) := by omega
      obtain ⟨r, hrk⟩ : ∃ r, rs[k]? = some r := ⟨_, List.getElem?_eq_getElem (by rw [hln.out]; exact hkn)⟩
      obtain ⟨b, off, rfl, hlt, hc⟩ := RdI.lt HT.out.rd (by intro h; rw [h] at hrk; simp at hrk)
      obtain ⟨x6, xr⟩ := hc k r hrk
      have hsm := HT.out.small r (List.mem_of_getElem? hrk)
      have hes := hsm.ents
      have hnx : Hid (∀ q : Nat, q = linksIn r.D x → linksD ((rs.map InoR.D).take (k + 1)) x = m + q) := by
        intro q hq
        rw [linksD_snoc _ _ _ r.D (by simp [hrk]), hlk.out, hq]
      have hle := linksIn_le r.D x
      obtain ⟨es, hes'⟩ : ∃ es, r.D.ents = es := ⟨_, rfl⟩
      have hre : RdP W0 r.a2 (eP es) := by rw [← hes']; exact xr.ents
      have y1 := x6.c1
      have y4 := x6.c4
      rw [hes'] at y4 hes hle
      have hli : Hid (linksIn r.D x = if r.D.kind = 2 then cntE es x else 0) := by show _ = _; unfold linksIn cntE; rw [hes']
      obtain ⟨n2, hn2⟩ : ∃ n2, es.length = n2 := ⟨_, rfl⟩
      rw [hn2] at y4 hes hle
      have HN : Hid _ := hn2
      have HE : Hid _ := hre
      generalize r.D.kind = i2 at y1 hli
      clear hc x6 xr hsm hrk hlk hes' hn2 hre
      by_cases hk2 : i2 = 2
      · subst hk2
        have hlq : Hid (linksIn r.D x = cntE es x) := by show _ = _; rw [hli.out, if_pos rfl]
        go_wp2
        go_loop [5, 7] (fun c j => ∃ p q : Nat, p ≤ n2 ∧ j = .int .i64 p ∧ c = .int .i64 ((m + q : Nat) : Int) ∧ q ≤ p ∧ Hid (cntE (es.take p) x = q)) (fun _ j => n2 - (intOf j).toNat)
        case atStart => exact ⟨0, 0, Nat.zero_le _, rfl, rfl, Nat.zero_le _, rfl⟩
        case round =>
          obtain ⟨p, q, hp, rfl, rfl, hq, hcq⟩ := hrel
          by_cases hpn : p < n2
          · have hpi : (p : Int) < (n2 : Int) := by omega
            have hp0 : (0 : Int) ≤ (p : Int) := by omega
            have hpl : p < es.length := by rw [HN.out]; exact hpn
            obtain ⟨eb, eo, hea, helt, hec⟩ := RdP.lt HE.out (by intro h; have := congrArg List.length h; rw [eP_length] at this; simp at this; rw [this] at hpl; simp at hpl)
            have hx := hec p (by rw [eP_length]; exact hpl)
            rw [eP_at es p hpl] at hx
            obtain ⟨zn, hz⟩ : ∃ z, es[p].1 = z := ⟨_, rfl⟩
            obtain ⟨u, hu⟩ : ∃ u, es[p].2 = u := ⟨_, rfl⟩
            have hsn := cntE_snoc es x p es[p] (List.getElem?_eq_getElem hpl)
            rw [hz, hu] at hx
            rw [hu, hcq.out] at hsn
            obtain ⟨x1, x2⟩ := hx
            dsimp only at x1 x2
            rw [hea] at y4
            clear hec hz hu hcq
            by_cases hux : u = x
            · have hub : (u == x) = true := by simp [hux]
              have hs1 : Hid (cntE (es.take (p + 1)) x = q + 1) := by show _ = _; rw [hsn, if_pos hux]
              subst hux
              clear hsn
              go_wp2
              go_round
              case rel => exact ⟨p + 1, q + 1, by omega, by go_num, by go_num, by omega, hs1⟩
              case measure => simp [intOf]; omega
            · have hub : (u == x) = false := by simpa using hux
              have hs1 : Hid (cntE (es.take (p + 1)) x = q) := by show _ = _; rw [hsn, if_neg hux]; rfl
              clear hsn
              go_wp2
              go_round
              case rel => exact ⟨p + 1, q, by omega, by go_num, by go_num, by omega, hs1⟩
              case measure => simp [intOf]; omega
          · have hpi : ¬ (p : Int) < (n2 : Int) := by omega
            have hfin : Hid (linksD ((rs.map InoR.D).take (k + 1)) x = m + q) := by
              refine hnx.out q ?_
              rw [hlq.out, ← hcq.out, List.take_of_length_le (by rw [HN.out]; omega)]
            go_wp2
            go_round
            case rel => exact ⟨k + 1, m + q, by omega, by go_num, by go_num, by omega, hfin⟩
            case measure => simp [intOf]; omega
      · have hkb : (i2 == 2) = false := by simpa using hk2
        have hfin : Hid (linksD ((rs.map InoR.D).take (k + 1)) x = m) := by
          have := hnx.out 0 (by rw [hli.out, if_neg hk2])
          show _ = _
          simpa using this
        go_wp2
        refine wp_loop_rounds 1 ?_; rw [rounds_succ]
        by_cases h0 : (0 : Int) < (n2 : Int)
        · go_wp2
          go_round
          case rel => exact ⟨k + 1, m, by omega, by go_num, rfl, Nat.le_trans hm (Nat.mul_le_mul_right _ (Nat.le_succ k)), hfin⟩
          case measure => simp [intOf]; omega
        · go_wp2
          go_round
          case rel => exact ⟨k + 1, m, by omega, by go_num, rfl, Nat.le_trans hm (Nat.mul_le_mul_right _ (Nat.le_succ k)), hfin⟩
          case measure => simp [intOf]; omega
    · have hki : ¬ (k : Int) < (n : Int) := by omega
      have hend : Hid ((m : Int) = (R : Int)) := by
        have h1 := hlk.out
        rw [List.take_of_length_le (by rw [List.length_map, hln.out]; omega), HR.out] at h1
        show _ = _
        rw [h1]
      go_wp2
      go_ret
      exact ⟨ret_int hend.out, HB.out⟩
end

section
open Go.RowKit
theorem ok_parts {D : InoD} (h : inoOk D = true) : 0 ≤ D.links ∧ (D.links = 0 ↔ D.ino = 1) ∧ entsOk D.ents = true ∧ kindR D = true ∧ D.data.length ≤ 100 ∧ attsOk D.attrs = true := by
  unfold inoOk at h
  simp only [Bool.and_eq_true, decide_eq_true_eq] at h
  obtain ⟨⟨⟨⟨⟨⟨_, h1⟩, h2⟩, h3⟩, h4⟩, h5⟩, h6⟩ := h
  refine ⟨h1.1, ?_, h4, h6, h3, h5⟩
  have := beq_iff_eq.1 h2
  constructor
  · intro e
    rw [e] at this
    simpa using this.symm
  · intro e
    rw [e] at this
    simpa using this
/-- The paths below a number, to a depth. -/
def sub (p : ByteArray) (e : ByteArray × Int) : ByteArray := p ++ (⟨#[47]⟩ : ByteArray) ++ e.1
end
end Go.Proofs.YtfjlemnohjnkhaaGreat
