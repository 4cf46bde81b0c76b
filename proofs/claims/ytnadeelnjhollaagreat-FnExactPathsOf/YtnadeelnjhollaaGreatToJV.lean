/-
  A table of the laws, copied; the copies' lists lie in intervals of blocks that are apart.
-/
import Derived.Test.YtnadeelnjhollaaGreatTabWV
import Derived.Test.YtnadeelnjhollaaGreatMarkTabV
namespace Go.Proofs.YtnadeelnjhollaaGreat
open Go.RowKit
/-- Inodes whose lists lie in intervals behind B, one behind the other. -/
structure JsQ (w : World) (B : Nat) (js : List InoJ) : Prop where
  G : ∀ (i : Nat) (j : InoJ), js[i]? = some j → j.G w
  lo : ∀ (i : Nat) (j : InoJ), js[i]? = some j → B ≤ j.lo ∧ j.lo ≤ j.hi ∧ j.hi ≤ w.heap.size
  ord : ∀ (i i' : Nat) (j j' : InoJ), i < i' → js[i]? = some j → js[i']? = some j' → j.hi ≤ j'.lo
theorem JsQ.nil (w : World) (B : Nat) : JsQ w B [] := ⟨fun i j h => by simp at h, fun i j h => by simp at h, fun i i' j j' _ h => by simp at h⟩
theorem JsQ.keep {w w' : World} {B : Nat} {js : List InoJ} (h : JsQ w B js) (hb : Below w.heap.size w w') : JsQ w' B js :=
  ⟨fun i j e => InoG.keep (h.G i j e) (h.lo i j e).2.2 hb, fun i j e => by have := h.lo i j e; have := hb.size; omega, h.ord⟩
theorem JsQ.gr {w w' : World} {B g : Nat} {js : List InoJ} (h : JsQ w B js) (k : w.grownBy w' (some g)) (hg : g < B) : JsQ w' B js :=
  ⟨fun i j e => InoG.kept (h.G i j e) (fun b h1 h2 => k.block b (by have := h.lo i j e; omega) (by have := h.lo i j e; simp; omega)), fun i j e => by have := h.lo i j e; have := k.size; omega, h.ord⟩
theorem JsQ.snoc {w w' : World} {B : Nat} {js : List InoJ} {r : InoR} (h : JsQ w B js) (hb : Below w.heap.size w w') (hB : B ≤ w.heap.size) (hG : (⟨r, w.heap.size, w'.heap.size⟩ : InoJ).G w') : JsQ w' B (js ++ [⟨r, w.heap.size, w'.heap.size⟩]) := by
  have hk := h.keep hb
  have hs := hb.size
  have hc : ∀ (i : Nat) (j : InoJ), (js ++ [⟨r, w.heap.size, w'.heap.size⟩])[i]? = some j → (i < js.length ∧ js[i]? = some j) ∨ (i = js.length ∧ j = ⟨r, w.heap.size, w'.heap.size⟩) := by
    intro i j e
    by_cases hi : i < js.length
    · rw [List.getElem?_append_left hi] at e
      exact .inl ⟨hi, e⟩
    · rw [List.getElem?_append_right (by omega)] at e
      by_cases hz : i - js.length = 0
      · rw [hz] at e
        simp at e
        exact .inr ⟨by omega, e.symm⟩
      · rw [List.getElem?_eq_none (by simp; omega)] at e
        simp at e
  refine ⟨fun i j e => ?_, fun i j e => ?_, fun i i' j j' hii e e' => ?_⟩
  · rcases hc i j e with ⟨_, e⟩ | ⟨_, rfl⟩
    · exact hk.G i j e
    · exact hG
  · rcases hc i j e with ⟨_, e⟩ | ⟨_, rfl⟩
    · exact hk.lo i j e
    · exact ⟨hB, hs, Nat.le_refl _⟩
  · rcases hc i' j' e' with ⟨h1, e'⟩ | ⟨h1, rfl⟩
    · rcases hc i j e with ⟨_, e⟩ | ⟨h2, _⟩
      · exact hk.ord i i' j j' hii e e'
      · omega
    · rcases hc i j e with ⟨_, e⟩ | ⟨h2, _⟩
      · exact (h.lo i j e).2.2
      · omega
theorem JsQ.ap {w : World} {B g Lo : Nat} {js : List InoJ} (h : JsQ w B js) (hg : g < B) (hL : Lo ≤ g) (hw : g < w.heap.size) : ApJ g Lo w.heap.size js :=
  ⟨fun i i' j j' e e' hne => by
    rcases Nat.lt_or_gt_of_ne hne with hl | hl
    · exact .inl (h.ord i i' j j' hl e e')
    · exact .inr (h.ord i' i j' j hl e' e),
  fun i j e => .inl (by have := h.lo i j e; omega), fun i j e => by have := h.lo i j e; omega, ⟨hL, hw⟩⟩
theorem inoOwn_G {w : World} {B : Nat} {D : InoD} {g1 g2 g3 : Nat} (h : InoOwn w D g1 D.data.length g2 D.ents.length g3 D.attrs.length) (h1 : B ≤ g1) (h2 : B ≤ g2) (h3 : B ≤ g3) : (⟨⟨D, some ⟨g1, 0, none⟩, D.data.length, some ⟨g2, 0, none⟩, D.ents.length, some ⟨g3, 0, none⟩, D.attrs.length⟩, B, w.heap.size⟩ : InoJ).G w := by
  refine ⟨h.data, h.byt, h.ents, h.attrs, fun g hg => ?_⟩
  have l1 := (World.ownsRow.lt h.data g1 rfl).2
  have l2 := (World.ownsRow.lt h.ents g2 rfl).2
  have l3 := (World.ownsRow.lt h.attrs g3 rfl).2
  simp [InoJ.v1, InoJ.v2, InoJ.v3, Value.ownBlock] at hg
  dsimp only
  omega
set_option maxHeartbeats 3200000 in
theorem toInodeS_j (a : Option Addr) (n cap : Nat) (rs : List InoR) (w : World) (hn : rs.length = n) (hs : n ≤ 1048576) (hsm : ∀ r ∈ rs, InoSmall r.D) (hr : RdI w a rs) :
    Calls Tryz.prog 24 #[.slice a n cap] w fun e w' => ∃ js, e = .returned (.slice (some ⟨w.heap.size, 0, none⟩) n n) ∧ Cpd w' (w.heap.size + 1) rs (js.map InoJ.r) ∧ OwnI w' w.heap.size n n (js.map InoJ.r) ∧ JsQ w' (w.heap.size + 1) js ∧ Below w.heap.size w w' := by
  obtain ⟨i0, hi, hz0, hz1, hz2⟩ := info_parts Tryz.infoInode
  have hm : n ≤ maxLen := by unfold maxLen; omega
  have hby : i0.bytes * n ≤ 281474976710656 := by rw [hz2]; omega
  by_cases h0 : n = 0
  · subst h0
    obtain rfl : rs = [] := List.length_eq_zero_iff.1 hn
    go_enter Tryz.func24, Tryz.ntmps24
    go_wp2_with (at_make; refine wpList_make_full _ rfl (.tmp 6) (.tmp 6) 28 rfl 0 46 i0 (.agg #[.int .i64 0, .int .i64 0, .int .i64 0, .slice none 0 0, .slice none 0 0, .slice none 0 0]) 6 Tryz.underlying28 hi hz0 hz1 .i64 .i64 _ _ 0 rfl rfl rfl rfl hby hm (Nat.zero_le _) ?_; intro w1 hown hgrow)
    refine wp_loop_rounds 1 ?_; rw [rounds_succ]
    go_wp2
    go_ret
    exact ⟨[], rfl, ⟨rfl, fun r hr => by simp at hr⟩, made_ownI hown, JsQ.nil _ _, (Below.refl _ _).grown hgrow (Nat.le_refl _) (by simp)⟩
  · obtain ⟨b, off, rfl, hlt, hc⟩ := hr.lt (by intro h; subst h; simp at hn; omega)
    have hn' : Hid (rs.length = n) := hn
    have HC : Hid _ := hc
    have HS : Hid _ := hsm
    clear hr hn hc hsm
    go_enter Tryz.func24, Tryz.ntmps24
    go_wp2_with (at_make; refine wpList_make_full _ rfl (.tmp 6) (.tmp 6) 28 rfl 0 46 i0 (.agg #[.int .i64 0, .int .i64 0, .int .i64 0, .slice none 0 0, .slice none 0 0, .slice none 0 0]) 6 Tryz.underlying28 hi hz0 hz1 .i64 .i64 _ _ n rfl rfl rfl rfl hby hm (Nat.zero_le _) ?_; intro w1 hown hgrow)
    have ho := made_ownI hown
    have hB : Below w.heap.size w w1 := (Below.refl _ _).grown hgrow (Nat.le_refl _) (by simp)
    clear hown hgrow
    go_loopw [4] (fun i wr => ∃ (k : Nat) (js : List InoJ), k ≤ n ∧ i = .int .i64 k ∧ js.length = k ∧ Hid (Cpd wr (w.heap.size + 1) (rs.take k) (js.map InoJ.r)) ∧ OwnI wr w.heap.size n n (js.map InoJ.r ++ List.replicate (n - k) inoZ) ∧ Hid (JsQ wr (w.heap.size + 1) js) ∧ Below w.heap.size w wr) (fun i _ => n - (intOf i).toNat)
    case atStart => exact ⟨0, [], Nat.zero_le _, rfl, rfl, ⟨rfl, fun r hr => by simp at hr⟩, ho, JsQ.nil _ _, hB⟩
    case round =>
      obtain ⟨k, js, hk, rfl, htj, hcp, hown, hjs, hbel⟩ := hrel
      obtain ⟨ts, hts⟩ : ∃ l, js.map InoJ.r = l := ⟨_, rfl⟩
      have htk : ts.length = k := by rw [← hts, List.length_map]; exact htj
      have HTS : Hid _ := hts
      rw [hts] at hcp hown
      clear hts
      clear ho hB
      by_cases hkn : k < n
      · have hkl : k < rs.length := by rw [hn'.out]; exact hkn
        have hki : (k : Int) < (n : Int) := by omega
        obtain ⟨r, hrk⟩ : ∃ r, rs[k]? = some r := ⟨_, List.getElem?_eq_getElem hkl⟩
        obtain ⟨x6, xr⟩ := HC.out k r hrk
        have hsr := HS.out r (List.mem_of_getElem? hrk)
        have hcall := toInode_any r.D r.a1 r.a2 r.a3 r.c1 r.c2 r.c3 wr hsr.data hsr.ents hsr.attrs (xr.keep hbel)
        have hmid := set_mid ts
        obtain ⟨x0, x1, x2, x3, x4, x5⟩ := x6.keep hbel hlt
        have hrD : Hid ((rs.take (k + 1)).map InoR.D = (rs.take k).map InoR.D ++ [r.D]) := by
          show _ = _
          rw [List.take_add_one, hrk]
          simp
        obtain ⟨D, hDr⟩ : ∃ D, r.D = D := ⟨_, rfl⟩
        rw [hDr] at x0 x1 x2 x3 x4 x5 hcall hrD
        obtain ⟨n1, hn1⟩ : ∃ n, D.data.length = n := ⟨_, rfl⟩
        obtain ⟨n2, hn2⟩ : ∃ n, D.ents.length = n := ⟨_, rfl⟩
        obtain ⟨n3, hn3⟩ : ∃ n, D.attrs.length = n := ⟨_, rfl⟩
        unfold inoV at hcall
        rw [hn1] at x3 hcall
        rw [hn2] at x4 hcall
        rw [hn3] at x5 hcall
        have HN : Hid (D.data.length = n1 ∧ D.ents.length = n2 ∧ D.attrs.length = n3) := ⟨hn1, hn2, hn3⟩
        have hwz := hbel.size
        clear x6 xr hsr hn1 hn2 hn3 hrk hkl hDr
        go_wp2_with fail
        refine hcall.mono ?_
        rintro e w1 ⟨g1, g2, g3, rfl, hg1, hg2, hg3, hio, hb1⟩
        have ho1 := hown.keep hb1
        have hlc := ho1.lt
        have hq : OwnI w1 w.heap.size n n (ts ++ List.replicate (n - k) inoZ) := ho1
        have hzk : (ts ++ List.replicate (n - k) inoZ)[k]? = some inoZ := by
          rw [List.getElem?_append_right (by omega), htk, Nat.sub_self, List.getElem?_replicate, if_pos (by omega)]
        obtain ⟨q0, q1, q2, q3, q4, q5⟩ := ho1.six k inoZ hzk
        have f0 := ho1.frozen (k * 6)
        have f1 := ho1.frozen (k * 6 + 1)
        have f2 := ho1.frozen (k * 6 + 2)
        have f3 := ho1.frozen (k * 6 + 3)
        have f4 := ho1.frozen (k * 6 + 4)
        have f5 := ho1.frozen (k * 6 + 5)
        have hst := ownI_stored ho1 k hkn ⟨D, some ⟨g1, 0, none⟩, n1, some ⟨g2, 0, none⟩, n2, some ⟨g3, 0, none⟩, n3⟩
        rw [show (ts ++ List.replicate (n - k) inoZ).set k ⟨D, some ⟨g1, 0, none⟩, n1, some ⟨g2, 0, none⟩, n2, some ⟨g3, 0, none⟩, n3⟩ = (ts ++ [⟨D, some ⟨g1, 0, none⟩, n1, some ⟨g2, 0, none⟩, n2, some ⟨g3, 0, none⟩, n3⟩]) ++ List.replicate (n - (k + 1)) inoZ by rw [← htk, set_mid ts _ _ _ (by omega), htk, show n - k - 1 = n - (k + 1) by omega]] at hst
        dsimp only at hst
        rw [HN.out.1, HN.out.2.1, HN.out.2.2] at hst
        have hbel1 : Below w.heap.size w w1 := hbel.trans (hb1.mono hwz)
        have hgr := six_gr w1 w.heap.size (k * 6) (.int .i64 D.ino) (.int .i64 D.kind) (.int .i64 D.links) (.slice (some ⟨g1, 0, none⟩) n1 n1) (.slice (some ⟨g2, 0, none⟩) n2 n2) (.slice (some ⟨g3, 0, none⟩) n3 n3)
        have hbel' := hbel1.grown hgr hbel1.size (by intro g hg; simp at hg; omega)
        have hg0 : w.heap.size + 1 ≤ g1 := by have := hown.lt; omega
        have hcp' : Hid (Cpd ((((((w1.setCell ⟨w.heap.size, k * 6, none⟩ (.int .i64 D.ino)).setCell ⟨w.heap.size, k * 6 + 1, none⟩ (.int .i64 D.kind)).setCell ⟨w.heap.size, k * 6 + 2, none⟩ (.int .i64 D.links)).setCell ⟨w.heap.size, k * 6 + 3, none⟩ (.slice (some ⟨g1, 0, none⟩) n1 n1)).setCell ⟨w.heap.size, k * 6 + 4, none⟩ (.slice (some ⟨g2, 0, none⟩) n2 n2)).setCell ⟨w.heap.size, k * 6 + 5, none⟩ (.slice (some ⟨g3, 0, none⟩) n3 n3)) (w.heap.size + 1) (rs.take (k + 1)) (ts ++ [⟨D, some ⟨g1, 0, none⟩, n1, some ⟨g2, 0, none⟩, n2, some ⟨g3, 0, none⟩, n3⟩])) := by
          refine ⟨by rw [hrD.out, List.map_append, hcp.out.1]; rfl, fun q hq => ?_⟩
          simp only [List.mem_append, List.mem_singleton] at hq
          rcases hq with hq | rfl
          · exact ((hcp.out.2 q hq).keep hb1).kept hgr (by omega)
          · refine InoR.own.kept (w := w1) ⟨g1, g2, g3, rfl, rfl, rfl, hg0, by omega, by omega, ?_⟩ hgr (by omega)
            exact hio
        have hjs' : Hid (JsQ ((((((w1.setCell ⟨w.heap.size, k * 6, none⟩ (.int .i64 D.ino)).setCell ⟨w.heap.size, k * 6 + 1, none⟩ (.int .i64 D.kind)).setCell ⟨w.heap.size, k * 6 + 2, none⟩ (.int .i64 D.links)).setCell ⟨w.heap.size, k * 6 + 3, none⟩ (.slice (some ⟨g1, 0, none⟩) n1 n1)).setCell ⟨w.heap.size, k * 6 + 4, none⟩ (.slice (some ⟨g2, 0, none⟩) n2 n2)).setCell ⟨w.heap.size, k * 6 + 5, none⟩ (.slice (some ⟨g3, 0, none⟩) n3 n3)) (w.heap.size + 1) (js ++ [⟨⟨D, some ⟨g1, 0, none⟩, n1, some ⟨g2, 0, none⟩, n2, some ⟨g3, 0, none⟩, n3⟩, wr.heap.size, w1.heap.size⟩])) := JsQ.gr (JsQ.snoc hjs.out hb1 (by have := hown.lt; omega) (by have := HN.out; obtain ⟨e1, e2, e3⟩ := this; subst e1 e2 e3; exact inoOwn_G hio hg1 (by omega) (by omega))) hgr (by omega)
        have hl' : (ts ++ [⟨D, some ⟨g1, 0, none⟩, n1, some ⟨g2, 0, none⟩, n2, some ⟨g3, 0, none⟩, n3⟩] : List InoR).length = k + 1 := by simp [htk]
        clear hown hbel hcp hjs ho1 hb1 hbel1 hgr hio hcall hq hzk
        unfold inoZ at q0 q1 q2 q3 q4 q5
        dsimp only at q0 q1 q2 q3 q4 q5
        go_wp2
        go_roundw
        case rel => exact ⟨k + 1, js ++ [⟨⟨D, some ⟨g1, 0, none⟩, n1, some ⟨g2, 0, none⟩, n2, some ⟨g3, 0, none⟩, n3⟩, wr.heap.size, w1.heap.size⟩], by omega, by go_num, by simp [htj], by rw [List.map_append, HTS.out]; exact hcp', by rw [List.map_append, HTS.out]; exact hst, hjs', hbel'⟩
        case measure => simp [intOf]; omega
      · go_wp2
        go_ret
        obtain rfl : k = n := by omega
        have := hcp.out
        rw [List.take_of_length_le (by rw [hn'.out]; omega)] at this
        rw [Nat.sub_self, List.replicate_zero, List.append_nil] at hown
        exact ⟨js, rfl, by rw [HTS.out]; exact this, by rw [HTS.out]; exact hown, hjs.out, hbel⟩
set_option maxHeartbeats 1600000 in
theorem toTab_j (a : Option Addr) (n cap : Nat) (nx : Int) (rs : List InoR) (w : World) (hn : rs.length = n) (hs : n ≤ 1048576) (hsm : ∀ r ∈ rs, InoSmall r.D) (hr : RdI w a rs) :
    Calls Tryz.prog 7 #[.agg #[.slice a n cap, .int .i64 nx]] w fun e w' => ∃ g js, e = .returned (.agg #[.slice (some ⟨g, 0, none⟩) n n, .int .i64 nx]) ∧ TabQ w' w.heap.size g n rs (js.map InoJ.r) ∧ JsQ w' (g + 1) js ∧ Below w.heap.size w w' := by
  have B0 : Below w.heap.size w (((w.alloc (.cells #[.slice a n cap, .int .i64 nx] 24)).alloc (.cells #[.slice none 0 0, .int .i64 0] 30)).alloc (.cells #[.slice none 0 0, .int .i64 0] 30)) := (((Below.refl _ w).alloc (Nat.le_refl _) _).alloc (by simp) _).alloc (by simp; omega) _
  have z0 : Blk (((w.alloc (.cells #[.slice a n cap, .int .i64 nx] 24)).alloc (.cells #[.slice none 0 0, .int .i64 0] 30)).alloc (.cells #[.slice none 0 0, .int .i64 0] 30)) w.heap.size 24 #[.slice a n cap, .int .i64 nx] := ((Blk.new w 24 _).alloc _).alloc _
  have z1 := (Blk.new (w.alloc (.cells #[.slice a n cap, .int .i64 nx] 24)) 30 #[.slice none 0 0, .int .i64 0]).alloc (.cells #[.slice none 0 0, .int .i64 0] 30)
  have z2 := Blk.new ((w.alloc (.cells #[.slice a n cap, .int .i64 nx] 24)).alloc (.cells #[.slice none 0 0, .int .i64 0] 30)) 30 #[.slice none 0 0, .int .i64 0]
  have hs0 : (((w.alloc (.cells #[.slice a n cap, .int .i64 nx] 24)).alloc (.cells #[.slice none 0 0, .int .i64 0] 30)).alloc (.cells #[.slice none 0 0, .int .i64 0] 30)).heap.size = w.heap.size + 1 + 1 + 1 := by simp
  simp only [World.size_alloc] at z1 z2
  have hcall := toInodeS_j a n cap rs _ hn hs hsm (hr.keep B0)
  have HNR : Hid _ := hn
  clear hsm hr hn
  go_enter Tryz.func7, Tryz.ntmps7
  go_wp2_with fail
  refine hcall.mono ?_
  rintro e w1 ⟨js, rfl, hcp, ho, hjs, hb1⟩
  have B1 := B0.trans (hb1.mono B0.size)
  have y0 := z0.keep hb1
  have y1 := z1.keep hb1
  have y2 := z2.keep hb1
  rw [hs0] at hcp ho hjs ⊢
  clear z0 z1 z2 hcall hb1 B0
  obtain ⟨H, hH⟩ : ∃ H, w.heap.size = H := ⟨_, rfl⟩
  rw [hH] at y0 y1 y2 hcp ho hjs B1 ⊢
  have x0 := y0.cell 1
  have x2 := y2.cell 0
  have x3 := y2.cell 1
  have f2 := y2.frozen 0
  have f3 := y2.frozen 1
  have u2 := (y2.set 0 (.slice (some ⟨H + 1 + 1 + 1, 0, none⟩) n n)).set 1 (.int .i64 nx)
  have u1 := (y1.other (B' := H + 1 + 1) (by omega) 0 (.slice (some ⟨H + 1 + 1 + 1, 0, none⟩) n n)).other (B' := H + 1 + 1) (by omega) 1 (.int .i64 nx)
  have c10 := u1.cell 0
  have c11 := u1.cell 1
  have f10 := u1.frozen 0
  have f11 := u1.frozen 1
  have d0 := ((u1.set 0 (.slice (some ⟨H + 1 + 1 + 1, 0, none⟩) n n)).set 1 (.int .i64 nx)).cell 0
  have d1 := ((u1.set 0 (.slice (some ⟨H + 1 + 1 + 1, 0, none⟩) n n)).set 1 (.int .i64 nx)).cell 1
  have c20 := u2.cell 0
  have c21 := u2.cell 1
  simp at x0 x2 x3 c10 c11 d0 d1 c20 c21
  have HF : Hid (Cpd w1 (H + 1 + 1 + 1 + 1) rs (js.map InoJ.r) ∧ OwnI w1 (H + 1 + 1 + 1) n n (js.map InoJ.r) ∧ JsQ w1 (H + 1 + 1 + 1 + 1) js ∧ Below H w w1) := ⟨hcp, ho, hjs, B1⟩
  clear hcp ho hjs B1 y0 y1 y2 u1 u2
  go_wp2
  refine bodyPost_ret (v := .agg #[.slice (some ⟨H + 1 + 1 + 1, 0, none⟩) n n, .int .i64 nx]) (by simp [results, Tryz.f7, go_sem, d0, d1]) rfl ?_
  obtain ⟨hcp, ho, hjs, B1⟩ := HF.out
  have k1 := gr_setC w1 (H + 1 + 1) 0 (.slice (some ⟨H + 1 + 1 + 1, 0, none⟩) n n)
  have k2 := gr_setC (w1.setCell ⟨H + 1 + 1, 0, none⟩ (.slice (some ⟨H + 1 + 1 + 1, 0, none⟩) n n)) (H + 1 + 1) 1 (.int .i64 nx)
  have k3 := gr_setC ((w1.setCell ⟨H + 1 + 1, 0, none⟩ (.slice (some ⟨H + 1 + 1 + 1, 0, none⟩) n n)).setCell ⟨H + 1 + 1, 1, none⟩ (.int .i64 nx)) (H + 1) 0 (.slice (some ⟨H + 1 + 1 + 1, 0, none⟩) n n)
  have k4 := gr_setC (((w1.setCell ⟨H + 1 + 1, 0, none⟩ (.slice (some ⟨H + 1 + 1 + 1, 0, none⟩) n n)).setCell ⟨H + 1 + 1, 1, none⟩ (.int .i64 nx)).setCell ⟨H + 1, 0, none⟩ (.slice (some ⟨H + 1 + 1 + 1, 0, none⟩) n n)) (H + 1) 1 (.int .i64 nx)
  refine ⟨H + 1 + 1 + 1, js, rfl, ⟨by omega, HNR.out, ⟨hcp.1, fun r hr => ((((hcp.2 r hr).kept k1 (by omega)).kept k2 (by omega)).kept k3 (by omega)).kept k4 (by omega)⟩, (((ho.kept k1 (by omega)).kept k2 (by omega)).kept k3 (by omega)).kept k4 (by omega)⟩, (((hjs.gr k1 (by omega)).gr k2 (by omega)).gr k3 (by omega)).gr k4 (by omega), ?_⟩
  rw [hH]
  exact (((B1.setCell (p := ⟨H + 1 + 1, 0, none⟩) (by simp only; omega) _).setCell (p := ⟨H + 1 + 1, 1, none⟩) (by simp only; omega) _).setCell (p := ⟨H + 1, 0, none⟩) (by simp only; omega) _).setCell (p := ⟨H + 1, 1, none⟩) (by simp only; omega) _
end Go.Proofs.YtnadeelnjhollaaGreat
