/-
  Joined: ToJ, TabNew, Fresh, CopyS, DropQ.
-/
import Derived.Test.YtmfimoccemgoiaaGreatDoorJ06B
import Derived.Deep.AppendSrc
namespace Go.Proofs.YtmfimoccemgoiaaGreatDoor
section
open Go.RowKit
/-- Inodes whose lists lie in intervals behind B, one behind the other. -/
structure JsQ (w : World) (B : Nat) (js : List InoJ) : Prop where
  G : ∀ (i : Nat) (j : InoJ), js[i]? = some j → j.G w
  lo : ∀ (i : Nat) (j : InoJ), js[i]? = some j → B ≤ j.lo ∧ j.lo ≤ j.hi ∧ j.hi ≤ w.heap.size
  ord : ∀ (i i' : Nat) (j j' : InoJ), i < i' → js[i]? = some j → js[i']? = some j' → j.hi ≤ j'.lo
theorem JsQ.nil (w : World) (B : Nat) : JsQ w B [] := ⟨fun i j h => by simp at h, fun i j h => by simp at h, fun i i' j j' _ h => by simp at h⟩
theorem JsQ.keep {w w' : World} {B : Nat} {js : List InoJ} (h : JsQ w B js) (hb : Below w.heap.size w w') : JsQ w' B js :=
  ⟨fun i j e => InoG.keep (h.G i j e) (h.lo i j e).2.2 hb, fun i j e => by have := h.lo i j e; have := hb.size; omega, h.ord⟩
theorem JsQ.gr {w w' : World} {B g : Nat} {js : List InoJ} (h : JsQ w B js) (k : w.grownBy w' (some g)) (hg : g < B) : JsQ w' B js :=
  ⟨fun i j e => InoG.kept (h.G i j e) (fun b h1 h2 => k.block b (by have := h.lo i j e; omega) (by have := h.lo i j e; simp; omega)), fun i j e => by have := h.lo i j e; have := k.size; omega, h.ord⟩
theorem JsQ.snoc {w w' : World} {B : Nat} {js : List InoJ} {r : InoR} (h : JsQ w B js) (hb : Below w.heap.size w w') (hB : B ≤ w.heap.size) (hG : (⟨r, w.heap.size, w'.heap.size⟩ : InoJ).G w') : JsQ w' B (js ++ [⟨r, w.heap.size, w'.heap.size⟩]) := by
  have hk := h.keep hb
  have hs := hb.size
  have hc : ∀ (i : Nat) (j : InoJ), (js ++ [⟨r, w.heap.size, w'.heap.size⟩])[i]? = some j → (i < js.length ∧ js[i]? = some j) ∨ (i = js.length ∧ j = ⟨r, w.heap.size, w'.heap.size⟩) := by
    intro i j e
    by_cases hi : i < js.length
    · rw [List.getElem?_append_left hi] at e
      exact .inl ⟨hi, e⟩
    · rw [List.getElem?_append_right (by omega)] at e
      by_cases hz : i - js.length = 0
      · rw [hz] at e
        simp at e
        exact .inr ⟨by omega, e.symm⟩
      · rw [List.getElem?_eq_none (by simp; omega)] at e
        simp at e
  refine ⟨fun i j e => ?_, fun i j e => ?_, fun i i' j j' hii e e' => ?_⟩
  · rcases hc i j e with ⟨_, e⟩ | ⟨_, rfl⟩
    · exact hk.G i j e
    · exact hG
  · rcases hc i j e with ⟨_, e⟩ | ⟨_, rfl⟩
    · exact hk.lo i j e
    · exact ⟨hB, hs, Nat.le_refl _⟩
  · rcases hc i' j' e' with ⟨h1, e'⟩ | ⟨h1, rfl⟩
    · rcases hc i j e with ⟨_, e⟩ | ⟨h2, _⟩
      · exact hk.ord i i' j j' hii e e'
      · omega
    · rcases hc i j e with ⟨_, e⟩ | ⟨h2, _⟩
      · exact (h.lo i j e).2.2
      · omega
theorem JsQ.ap {w : World} {B g Lo : Nat} {js : List InoJ} (h : JsQ w B js) (hg : g < B) (hL : Lo ≤ g) (hw : g < w.heap.size) : ApJ g Lo w.heap.size js :=
  ⟨fun i i' j j' e e' hne => by
    rcases Nat.lt_or_gt_of_ne hne with hl | hl
    · exact .inl (h.ord i i' j j' hl e e')
    · exact .inr (h.ord i' i j' j hl e' e),
  fun i j e => .inl (by have := h.lo i j e; omega), fun i j e => by have := h.lo i j e; omega, ⟨hL, hw⟩⟩
theorem inoOwn_G {w : World} {B : Nat} {D : InoD} {g1 g2 g3 : Nat} (h : InoOwn w D g1 D.data.length g2 D.ents.length g3 D.attrs.length) (h1 : B ≤ g1) (h2 : B ≤ g2) (h3 : B ≤ g3) : (⟨⟨D, some ⟨g1, 0, none⟩, D.data.length, some ⟨g2, 0, none⟩, D.ents.length, some ⟨g3, 0, none⟩, D.attrs.length⟩, B, w.heap.size⟩ : InoJ).G w := by
  refine ⟨h.data, h.byt, h.ents, h.attrs, fun g hg => ?_⟩
  have l1 := (World.ownsRow.lt h.data g1 rfl).2
  have l2 := (World.ownsRow.lt h.ents g2 rfl).2
  have l3 := (World.ownsRow.lt h.attrs g3 rfl).2
  simp [InoJ.v1, InoJ.v2, InoJ.v3, Value.ownBlock] at hg
  dsimp only
  omega
set_option maxHeartbeats 3200000 in
theorem toInodeS_j (a : Option Addr) (n cap : Nat) (rs : List InoR) (w : World) (hn : rs.length = n) (hs : n ≤ 1048576) (hsm : ∀ r ∈ rs, InoSmall r.D) (hr : RdI w a rs) :
    Calls Tryz.prog 60 #[.slice a n cap] w fun e w' => ∃ js, e = .returned (.slice (some ⟨w.heap.size, 0, none⟩) n n) ∧ Cpd w' (w.heap.size + 1) rs (js.map InoJ.r) ∧ OwnI w' w.heap.size n n (js.map InoJ.r) ∧ JsQ w' (w.heap.size + 1) js ∧ Below w.heap.size w w' := by
  obtain ⟨i0, hi, hz0, hz1, hz2⟩ := info_parts Tryz.infoInode
  have hm : n ≤ maxLen := by unfold maxLen; omega
  have hby : i0.bytes * n ≤ 281474976710656 := by rw [hz2]; omega
  by_cases h0 : n = 0
  · subst h0
    obtain rfl : rs = [] := List.length_eq_zero_iff.1 hn
    go_enter Tryz.func60, Tryz.ntmps60
    go_wp2_with (at_make; refine wpList_make_full _ rfl (.tmp 6) (.tmp 6) 26 rfl 0 68 i0 (.agg #[.int .i64 0, .int .i64 0, .int .i64 0, .slice none 0 0, .slice none 0 0, .slice none 0 0]) 6 Tryz.underlying26 hi hz0 hz1 .i64 .i64 _ _ 0 rfl rfl rfl rfl hby hm (Nat.zero_le _) ?_; intro w1 hown hgrow)
    refine wp_loop_rounds 1 ?_; rw [rounds_succ]
    go_wp2
    go_ret
    exact ⟨[], rfl, ⟨rfl, fun r hr => by simp at hr⟩, made_ownI hown, JsQ.nil _ _, (Below.refl _ _).grown hgrow (Nat.le_refl _) (by simp)⟩
  · obtain ⟨b, off, rfl, hlt, hc⟩ := hr.lt (by intro h; subst h; simp at hn; omega)
    have hn' : Hid (rs.length = n) := hn
    have HC : Hid _ := hc
    have HS : Hid _ := hsm
    clear hr hn hc hsm
    go_enter Tryz.func60, Tryz.ntmps60
    go_wp2_with (at_make; refine wpList_make_full _ rfl (.tmp 6) (.tmp 6) 26 rfl 0 68 i0 (.agg #[.int .i64 0, .int .i64 0, .int .i64 0, .slice none 0 0, .slice none 0 0, .slice none 0 0]) 6 Tryz.underlying26 hi hz0 hz1 .i64 .i64 _ _ n rfl rfl rfl rfl hby hm (Nat.zero_le _) ?_; intro w1 hown hgrow)
    have ho := made_ownI hown
    have hB : Below w.heap.size w w1 := (Below.refl _ _).grown hgrow (Nat.le_refl _) (by simp)
    clear hown hgrow
    go_loopw [4] (fun i wr => ∃ (k : Nat) (js : List InoJ), k ≤ n ∧ i = .int .i64 k ∧ js.length = k ∧ Hid (Cpd wr (w.heap.size + 1) (rs.take k) (js.map InoJ.r)) ∧ OwnI wr w.heap.size n n (js.map InoJ.r ++ List.replicate (n - k) inoZ) ∧ Hid (JsQ wr (w.heap.size + 1) js) ∧ Below w.heap.size w wr) (fun i _ => n - (intOf i).toNat)
    case atStart => exact ⟨0, [], Nat.zero_le _, rfl, rfl, ⟨rfl, fun r hr => by simp at hr⟩, ho, JsQ.nil _ _, hB⟩
    case round =>
      obtain ⟨k, js, hk, rfl, htj, hcp, hown, hjs, hbel⟩ := hrel
      obtain ⟨ts, hts⟩ : ∃ l, js.map InoJ.r = l := ⟨_, rfl⟩
      have htk : ts.length = k := by rw [← hts, List.length_map]; exact htj
      have HTS : Hid _ := hts
      rw [hts] at hcp hown
      clear hts
      clear ho hB
      by_cases hkn : k < n
      · have hkl : k < rs.length := by rw [hn'.out]; exact hkn
        have hki : (k : Int) < (n : Int) := by omega
        obtain ⟨r, hrk⟩ : ∃ r, rs[k]? = some r := ⟨_, List.getElem?_eq_getElem hkl⟩
        obtain ⟨x6, xr⟩ := HC.out k r hrk
        have hsr := HS.out r (List.mem_of_getElem? hrk)
        have hcall := toInode_any r.D r.a1 r.a2 r.a3 r.c1 r.c2 r.c3 wr hsr.data hsr.ents hsr.attrs (xr.keep hbel)
        have hmid := set_mid ts
        obtain ⟨x0, x1, x2, x3, x4, x5⟩ := x6.keep hbel hlt
        have hrD : Hid ((rs.take (k + 1)).map InoR.D = (rs.take k).map InoR.D ++ [r.D]) := by
          show _ = _
          rw [List.take_add_one, hrk]
          simp
        obtain ⟨D, hDr⟩ : ∃ D, r.D = D := ⟨_, rfl⟩
        rw [hDr] at x0 x1 x2 x3 x4 x5 hcall hrD
        obtain ⟨n1, hn1⟩ : ∃ n, D.data.length = n := ⟨_, rfl⟩
        obtain ⟨n2, hn2⟩ : ∃ n, D.ents.length = n := ⟨_, rfl⟩
        obtain ⟨n3, hn3⟩ : ∃ n, D.attrs.length = n := ⟨_, rfl⟩
        unfold inoV at hcall
        rw [hn1] at x3 hcall
        rw [hn2] at x4 hcall
        rw [hn3] at x5 hcall
        have HN : Hid (D.data.length = n1 ∧ D.ents.length = n2 ∧ D.attrs.length = n3) := ⟨hn1, hn2, hn3⟩
        have hwz := hbel.size
        clear x6 xr hsr hn1 hn2 hn3 hrk hkl hDr
        go_wp2_with fail
        refine hcall.mono ?_
        rintro e w1 ⟨g1, g2, g3, rfl, hg1, hg2, hg3, hio, hb1⟩
        have ho1 := hown.keep hb1
        have hlc := ho1.lt
        have hq : OwnI w1 w.heap.size n n (ts ++ List.replicate (n - k) inoZ) := ho1
        have hzk : (ts ++ List.replicate (n - k) inoZ)[k]? = some inoZ := by
          rw [List.getElem?_append_right (by omega), htk, Nat.sub_self, List.getElem?_replicate, if_pos (by omega)]
        obtain ⟨q0, q1, q2, q3, q4, q5⟩ := ho1.six k inoZ hzk
        have f0 := ho1.frozen (k * 6)
        have f1 := ho1.frozen (k * 6 + 1)
        have f2 := ho1.frozen (k * 6 + 2)
        have f3 := ho1.frozen (k * 6 + 3)
        have f4 := ho1.frozen (k * 6 + 4)
        have f5 := ho1.frozen (k * 6 + 5)
        have hst := ownI_stored ho1 k hkn ⟨D, some ⟨g1, 0, none⟩, n1, some ⟨g2, 0, none⟩, n2, some ⟨g3, 0, none⟩, n3⟩
        rw [show (ts ++ List.replicate (n - k) inoZ).set k ⟨D, some ⟨g1, 0, none⟩, n1, some ⟨g2, 0, none⟩, n2, some ⟨g3, 0, none⟩, n3⟩ = (ts ++ [⟨D, some ⟨g1, 0, none⟩, n1, some ⟨g2, 0, none⟩, n2, some ⟨g3, 0, none⟩, n3⟩]) ++ List.replicate (n - (k + 1)) inoZ by rw [← htk, set_mid ts _ _ _ (by omega), htk, show n - k - 1 = n - (k + 1) by omega]] at hst
        dsimp only at hst
        rw [HN.out.1, HN.out.2.1, HN.out.2.2] at hst
        have hbel1 : Below w.heap.size w w1 := hbel.trans (hb1.mono hwz)
        have hgr := six_gr w1 w.heap.size (k * 6) (.int .i64 D.ino) (.int .i64 D.kind) (.int .i64 D.links) (.slice (some ⟨g1, 0, none⟩) n1 n1) (.slice (some ⟨g2, 0, none⟩) n2 n2) (.slice (some ⟨g3, 0, none⟩) n3 n3)
        have hbel' := hbel1.grown hgr hbel1.size (by intro g hg; simp at hg; omega)
        have hg0 : w.heap.size + 1 ≤ g1 := by have := hown.lt; omega
        have hcp' : Hid (Cpd ((((((w1.setCell ⟨w.heap.size, k * 6, none⟩ (.int .i64 D.ino)).setCell ⟨w.heap.size, k * 6 + 1, none⟩ (.int .i64 D.kind)).setCell ⟨w.heap.size, k * 6 + 2, none⟩ (.int .i64 D.links)).setCell ⟨w.heap.size, k * 6 + 3, none⟩ (.slice (some ⟨g1, 0, none⟩) n1 n1)).setCell ⟨w.heap.size, k * 6 + 4, none⟩ (.slice (some ⟨g2, 0, none⟩) n2 n2)).setCell ⟨w.heap.size, k * 6 + 5, none⟩ (.slice (some ⟨g3, 0, none⟩) n3 n3)) (w.heap.size + 1) (rs.take (k + 1)) (ts ++ [⟨D, some ⟨g1, 0, none⟩, n1, some ⟨g2, 0, none⟩, n2, some ⟨g3, 0, none⟩, n3⟩])) := by
          refine ⟨by rw [hrD.out, List.map_append, hcp.out.1]; rfl, fun q hq => ?_⟩
          simp only [List.mem_append, List.mem_singleton] at hq
          rcases hq with hq | rfl
          · exact ((hcp.out.2 q hq).keep hb1).kept hgr (by omega)
          · refine InoR.own.kept (w := w1) ⟨g1, g2, g3, rfl, rfl, rfl, hg0, by omega, by omega, ?_⟩ hgr (by omega)
            exact hio
        have hjs' : Hid (JsQ ((((((w1.setCell ⟨w.heap.size, k * 6, none⟩ (.int .i64 D.ino)).setCell ⟨w.heap.size, k * 6 + 1, none⟩ (.int .i64 D.kind)).setCell ⟨w.heap.size, k * 6 + 2, none⟩ (.int .i64 D.links)).setCell ⟨w.heap.size, k * 6 + 3, none⟩ (.slice (some ⟨g1, 0, none⟩) n1 n1)).setCell ⟨w.heap.size, k * 6 + 4, none⟩ (.slice (some ⟨g2, 0, none⟩) n2 n2)).setCell ⟨w.heap.size, k * 6 + 5, none⟩ (.slice (some ⟨g3, 0, none⟩) n3 n3)) (w.heap.size + 1) (js ++ [⟨⟨D, some ⟨g1, 0, none⟩, n1, some ⟨g2, 0, none⟩, n2, some ⟨g3, 0, none⟩, n3⟩, wr.heap.size, w1.heap.size⟩])) := JsQ.gr (JsQ.snoc hjs.out hb1 (by have := hown.lt; omega) (by have := HN.out; obtain ⟨e1, e2, e3⟩ := this; subst e1 e2 e3; exact inoOwn_G hio hg1 (by omega) (by omega))) hgr (by omega)
        have hl' : (ts ++ [⟨D, some ⟨g1, 0, none⟩, n1, some ⟨g2, 0, none⟩, n2, some ⟨g3, 0, none⟩, n3⟩] : List InoR).length = k + 1 := by simp [htk]
        clear hown hbel hcp hjs ho1 hb1 hbel1 hgr hio hcall hq hzk
        unfold inoZ at q0 q1 q2 q3 q4 q5
        dsimp only at q0 q1 q2 q3 q4 q5
        go_wp2
        go_roundw
        case rel => exact ⟨k + 1, js ++ [⟨⟨D, some ⟨g1, 0, none⟩, n1, some ⟨g2, 0, none⟩, n2, some ⟨g3, 0, none⟩, n3⟩, wr.heap.size, w1.heap.size⟩], by omega, by go_num, by simp [htj], by rw [List.map_append, HTS.out]; exact hcp', by rw [List.map_append, HTS.out]; exact hst, hjs', hbel'⟩
        case measure => simp [intOf]; omega
      · go_wp2
        go_ret
        obtain rfl : k = n := by omega
        have := hcp.out
        rw [List.take_of_length_le (by rw [hn'.out]; omega)] at this
        rw [Nat.sub_self, List.replicate_zero, List.append_nil] at hown
        exact ⟨js, rfl, by rw [HTS.out]; exact this, by rw [HTS.out]; exact hown, hjs.out, hbel⟩
set_option maxHeartbeats 1600000 in
theorem toTab_j (a : Option Addr) (n cap : Nat) (nx : Int) (rs : List InoR) (w : World) (hn : rs.length = n) (hs : n ≤ 1048576) (hsm : ∀ r ∈ rs, InoSmall r.D) (hr : RdI w a rs) :
    Calls Tryz.prog 17 #[.agg #[.slice a n cap, .int .i64 nx]] w fun e w' => ∃ g js, e = .returned (.agg #[.slice (some ⟨g, 0, none⟩) n n, .int .i64 nx]) ∧ TabQ w' w.heap.size g n rs (js.map InoJ.r) ∧ JsQ w' (g + 1) js ∧ Below w.heap.size w w' := by
  have B0 : Below w.heap.size w (((w.alloc (.cells #[.slice a n cap, .int .i64 nx] 24)).alloc (.cells #[.slice none 0 0, .int .i64 0] 28)).alloc (.cells #[.slice none 0 0, .int .i64 0] 28)) := (((Below.refl _ w).alloc (Nat.le_refl _) _).alloc (by simp) _).alloc (by simp; omega) _
  have z0 : Blk (((w.alloc (.cells #[.slice a n cap, .int .i64 nx] 24)).alloc (.cells #[.slice none 0 0, .int .i64 0] 28)).alloc (.cells #[.slice none 0 0, .int .i64 0] 28)) w.heap.size 24 #[.slice a n cap, .int .i64 nx] := ((Blk.new w 24 _).alloc _).alloc _
  have z1 := (Blk.new (w.alloc (.cells #[.slice a n cap, .int .i64 nx] 24)) 28 #[.slice none 0 0, .int .i64 0]).alloc (.cells #[.slice none 0 0, .int .i64 0] 28)
  have z2 := Blk.new ((w.alloc (.cells #[.slice a n cap, .int .i64 nx] 24)).alloc (.cells #[.slice none 0 0, .int .i64 0] 28)) 28 #[.slice none 0 0, .int .i64 0]
  have hs0 : (((w.alloc (.cells #[.slice a n cap, .int .i64 nx] 24)).alloc (.cells #[.slice none 0 0, .int .i64 0] 28)).alloc (.cells #[.slice none 0 0, .int .i64 0] 28)).heap.size = w.heap.size + 1 + 1 + 1 := by simp
  simp only [World.size_alloc] at z1 z2
  have hcall := toInodeS_j a n cap rs _ hn hs hsm (hr.keep B0)
  have HNR : Hid _ := hn
  clear hsm hr hn
  go_enter Tryz.func17, Tryz.ntmps17
  go_wp2_with fail
  refine hcall.mono ?_
  rintro e w1 ⟨js, rfl, hcp, ho, hjs, hb1⟩
  have B1 := B0.trans (hb1.mono B0.size)
  have y0 := z0.keep hb1
  have y1 := z1.keep hb1
  have y2 := z2.keep hb1
  rw [hs0] at hcp ho hjs ⊢
  clear z0 z1 z2 hcall hb1 B0
  obtain ⟨H, hH⟩ : ∃ H, w.heap.size = H := ⟨_, rfl⟩
  rw [hH] at y0 y1 y2 hcp ho hjs B1 ⊢
  have x0 := y0.cell 1
  have x2 := y2.cell 0
  have x3 := y2.cell 1
  have f2 := y2.frozen 0
  have f3 := y2.frozen 1
  have u2 := (y2.set 0 (.slice (some ⟨H + 1 + 1 + 1, 0, none⟩) n n)).set 1 (.int .i64 nx)
  have u1 := (y1.other (B' := H + 1 + 1) (by omega) 0 (.slice (some ⟨H + 1 + 1 + 1, 0, none⟩) n n)).other (B' := H + 1 + 1) (by omega) 1 (.int .i64 nx)
  have c10 := u1.cell 0
  have c11 := u1.cell 1
  have f10 := u1.frozen 0
  have f11 := u1.frozen 1
  have d0 := ((u1.set 0 (.slice (some ⟨H + 1 + 1 + 1, 0, none⟩) n n)).set 1 (.int .i64 nx)).cell 0
  have d1 := ((u1.set 0 (.slice (some ⟨H + 1 + 1 + 1, 0, none⟩) n n)).set 1 (.int .i64 nx)).cell 1
  have c20 := u2.cell 0
  have c21 := u2.cell 1
  simp at x0 x2 x3 c10 c11 d0 d1 c20 c21
  have HF : Hid (Cpd w1 (H + 1 + 1 + 1 + 1) rs (js.map InoJ.r) ∧ OwnI w1 (H + 1 + 1 + 1) n n (js.map InoJ.r) ∧ JsQ w1 (H + 1 + 1 + 1 + 1) js ∧ Below H w w1) := ⟨hcp, ho, hjs, B1⟩
  clear hcp ho hjs B1 y0 y1 y2 u1 u2
  go_wp2
  refine bodyPost_ret (v := .agg #[.slice (some ⟨H + 1 + 1 + 1, 0, none⟩) n n, .int .i64 nx]) (by simp [results, Tryz.f17, go_sem, d0, d1]) rfl ?_
  obtain ⟨hcp, ho, hjs, B1⟩ := HF.out
  have k1 := gr_setC w1 (H + 1 + 1) 0 (.slice (some ⟨H + 1 + 1 + 1, 0, none⟩) n n)
  have k2 := gr_setC (w1.setCell ⟨H + 1 + 1, 0, none⟩ (.slice (some ⟨H + 1 + 1 + 1, 0, none⟩) n n)) (H + 1 + 1) 1 (.int .i64 nx)
  have k3 := gr_setC ((w1.setCell ⟨H + 1 + 1, 0, none⟩ (.slice (some ⟨H + 1 + 1 + 1, 0, none⟩) n n)).setCell ⟨H + 1 + 1, 1, none⟩ (.int .i64 nx)) (H + 1) 0 (.slice (some ⟨H + 1 + 1 + 1, 0, none⟩) n n)
  have k4 := gr_setC (((w1.setCell ⟨H + 1 + 1, 0, none⟩ (.slice (some ⟨H + 1 + 1 + 1, 0, none⟩) n n)).setCell ⟨H + 1 + 1, 1, none⟩ (.int .i64 nx)).setCell ⟨H + 1, 0, none⟩ (.slice (some ⟨H + 1 + 1 + 1, 0, none⟩) n n)) (H + 1) 1 (.int .i64 nx)
  refine ⟨H + 1 + 1 + 1, js, rfl, ⟨by omega, HNR.out, ⟨hcp.1, fun r hr => ((((hcp.2 r hr).kept k1 (by omega)).kept k2 (by omega)).kept k3 (by omega)).kept k4 (by omega)⟩, (((ho.kept k1 (by omega)).kept k2 (by omega)).kept k3 (by omega)).kept k4 (by omega)⟩, (((hjs.gr k1 (by omega)).gr k2 (by omega)).gr k3 (by omega)).gr k4 (by omega), ?_⟩
  rw [hH]
  exact (((B1.setCell (p := ⟨H + 1 + 1, 0, none⟩) (by simp only; omega) _).setCell (p := ⟨H + 1 + 1, 1, none⟩) (by simp only; omega) _).setCell (p := ⟨H + 1, 0, none⟩) (by simp only; omega) _).setCell (p := ⟨H + 1, 1, none⟩) (by simp only; omega) _
end

section
open Go.RowKit
theorem OwnI.rds {w : World} {g n cap : Nat} {rs : List InoR} (h : OwnI w g n cap rs) (hr : ∀ r ∈ rs, r.rd w) : RdI w (some ⟨g, 0, none⟩) rs :=
  .inr ⟨g, 0, rfl, fun i r hi => by
    rw [Nat.zero_add]
    exact ⟨h.six i r hi, hr r (List.mem_of_getElem? hi)⟩⟩
theorem TabL.keep {w W W' : World} {g n cap Lo Hi k0 k : Nat} {js : List InoJ} (h : TabL w W g n cap Lo Hi k0 js k) (hap : ApJ g Lo Hi js) (hH : Hi ≤ W.heap.size) (hb : Below W.heap.size W W') : TabL w W' g n cap Lo Hi k0 js k :=
  ⟨h.row.keep hb, fun i j hj hi => InoG.keep (h.old i j hj hi) (Nat.le_trans (hap.within i j hj).2 hH) hb, fun i j hj hi => InoGM.keep (h.new i j hj hi) (Nat.le_trans (hap.within i j hj).2 hH) hb, h.out.trans (Below.out hb Lo Hi)⟩
theorem TabL.from {w0 w W : World} {g n cap Lo Hi k0 k : Nat} {js : List InoJ} (h : TabL w W g n cap Lo Hi k0 js k) (k' : Out Lo Hi w0 w) : TabL w0 W g n cap Lo Hi k0 js k := ⟨h.row, h.old, h.new, k'.trans h.out⟩
set_option maxHeartbeats 800000 in
theorem markTab_any (nx : Int) (g n cap Lo Hi k0 : Nat) (js : List InoJ) (w : World) (hn : js.length = n) (hk0 : 1 ≤ k0) (hs : n ≤ 2000000) (hq : qAt k0 js n ≤ 9999990) (hap : ApJ g Lo Hi js) (hH : Hi ≤ w.heap.size) (hown : OwnI w g n cap (js.map InoJ.r)) (hG : ∀ (i : Nat) (j : InoJ), js[i]? = some j → j.G w) :
    Calls Tryz.prog 20 #[.agg #[.slice (some ⟨g, 0, none⟩) n cap, .int .i64 nx], .int .i64 k0] w fun e w' => e = .returned (.int .i64 ((qAt k0 js n : Nat) : Int)) ∧ TabL w w' g n cap Lo Hi k0 js n := by
  have b0 : Below w.heap.size w (w.alloc (.cells #[.slice (some ⟨g, 0, none⟩) n cap, .int .i64 nx] 28)) := (Below.refl _ w).alloc (Nat.le_refl _) _
  have hc := markInodeS_any g n cap Lo Hi k0 js (w.alloc (.cells #[.slice (some ⟨g, 0, none⟩) n cap, .int .i64 nx] 28)) hn hk0 hs hq hap (Nat.le_trans hH b0.size) (hown.keep b0) (fun i j h => InoG.keep (hG i j h) (Nat.le_trans (hap.within i j h).2 hH) b0)
  have HB : Hid _ := b0
  generalize qAt k0 js n = q at hc hq ⊢
  clear hown hG hap b0
  go_enter Tryz.func20, Tryz.ntmps20
  go_wp2_with fail
  refine hc.mono ?_
  rintro e w1 ⟨rfl, hT⟩
  have HT : Hid _ := hT
  clear hT hc
  go_wp2
  go_ret
  exact ⟨rfl, TabL.from HT.out (Below.out HB.out Lo Hi)⟩
set_option maxHeartbeats 800000 in
theorem heldTab_any (w0 : World) (nx : Int) (g n cap Lo Hi k0 : Nat) (js : List InoJ) (w : World) (hn : js.length = n) (hk0 : 1 ≤ k0) (hs : n ≤ 2000000) (hq : qAt k0 js n ≤ 9999990) (hap : ApJ g Lo Hi js) (hH : Hi ≤ w.heap.size) (hT : TabL w0 w g n cap Lo Hi k0 js n) :
    Calls Tryz.prog 21 #[.agg #[.slice (some ⟨g, 0, none⟩) n cap, .int .i64 nx], .int .i64 k0] w fun e w' => e = .returned (.int .i64 ((qAt k0 js n : Nat) : Int)) ∧ Below w.heap.size w w' := by
  have b0 : Below w.heap.size w (w.alloc (.cells #[.slice (some ⟨g, 0, none⟩) n cap, .int .i64 nx] 28)) := (Below.refl _ w).alloc (Nat.le_refl _) _
  have hc := heldInodeS_any w0 g n cap Lo Hi k0 js (w.alloc (.cells #[.slice (some ⟨g, 0, none⟩) n cap, .int .i64 nx] 28)) hn hk0 hs hq hap (Nat.le_trans hH b0.size) (hT.keep hap hH b0)
  have HB : Hid _ := b0
  generalize qAt k0 js n = q at hc hq ⊢
  have hq0 : ¬ (q : Int) < 0 := by omega
  clear hT hap b0
  go_enter Tryz.func21, Tryz.ntmps21
  go_wp2_with fail
  refine hc.mono ?_
  rintro e w1 ⟨rfl, b1⟩
  go_wp2
  go_ret
  exact ⟨rfl, HB.out.trans (b1.mono HB.out.size)⟩
end

section
open Go.RowKit
/-- What is appended to a fresh empty list is a list of its own. -/
theorem run_fresh (W : World) (B : Nat) (t ty e : TypeId) (i : TypeInfo) (z : Value) (size bytes : Nat) (ht : Tryz.prog.underlying t = some (.slice e)) (hi : Tryz.prog.info? e = some i) (hz : i.zero = some z) (hsize : i.size = size) (hby : i.bytes = bytes) (hzs : z.cells.size = size) (hsz : 0 < size)
    (g : Nat) (hB : B ≤ g) (hown : W.ownsRow B e size (.slice (some ⟨g, 0, none⟩) 0 0) 0 []) (a : Option Addr) (m c : Nat) (news : List Value) (hl : news.length = m * size) (hnews : news = [] ∨ ∃ ad, a = some ad ∧ ∀ j u, news[j]? = some u → W.cell? (ad.add j) = some u) (ha : m = 0 → a = none ∨ ∃ ad, a = some ad)
    (h1 : ∀ u ∈ news, u.oneCell' = true) (h63 : m ≤ 8000000) (hb64 : bytes ≤ 64) :
    ∃ g' c' W', (Builtin.append_ #[t, t] ty #[.slice (some ⟨g, 0, none⟩) 0 0, .slice a m c]).run Tryz.prog W = .ok (.slice (some ⟨g', 0, none⟩) m c') W' ∧ W'.ownsRow B e size (.slice (some ⟨g', 0, none⟩) m c') m news ∧ B ≤ g' ∧ g' < W'.heap.size ∧ Below W.heap.size W W' := by
  have hglt : g < W.heap.size := (World.ownsRow.lt hown g rfl).2
  by_cases h0 : m = 0
  · subst h0
    obtain rfl : news = [] := List.length_eq_zero_iff.1 (by simpa using hl)
    have hsrc : Src Tryz.prog i.size t (.slice a 0 c) 0 [] W := by
      rcases ha rfl with rfl | ⟨ad, rfl⟩
      · exact Src.ofNil W ht c
      · exact Src.ofSlice W ht ad 0 c [] (by simp) (fun j u hj => by simp at hj) (fun u hu => by simp at hu)
    have hr := run_append_room_src W t t ty e i ht hi g 0 0 0 (.slice a 0 c) 0 [] hsrc (Nat.le_refl _) (fun j hj => by simp at hj) (fun j hj => by simp at hj)
    refine ⟨g, 0, W, ?_, hown, hB, hglt, Below.refl _ _⟩
    rw [hr]
    rfl
  · have hne : news ≠ [] := fun e => by rw [e] at hl; have := Nat.mul_pos (show 0 < m by omega) hsz; simp only [List.length_nil] at hl; omega
    rcases hnews with e | ⟨ad, rfl, hn⟩
    · exact absurd e hne
    · obtain ⟨v', w', hr, h2, _, _, _⟩ := run_append_own_at (P := Tryz.prog) W B t ty e i z size bytes ht hi hz hsize hby hzs hsz _ 0 [] hown ad m c news hl hn h1 (by unfold maxLen; omega) (by have : (0 + m) * bytes ≤ 8000000 * 64 := Nat.mul_le_mul (by omega) hb64; omega) (by omega)
      have hsrc : Src Tryz.prog i.size t (.slice (some ad) m c) m news W := Src.ofSlice W ht ad m c news (by rw [hsize]; exact hl) hn h1
      have hcap : Builtin.nextslicecap (0 + m) 0 = m := by
        unfold Builtin.nextslicecap
        simp
        omega
      have hr2 := run_append_grow_src W t t ty e i z ht hi hz (some ⟨g, 0, none⟩) 0 0 [] (run_firstCells_some W.drew i.size 0 ⟨g, 0, none⟩ 0 0 [] (by simp) (fun j u hj => by simp at hj)) (.slice (some ad) m c) m news hsrc (by omega) (by omega) (by rw [hcap, hby]; have : m * bytes ≤ 8000000 * 64 := Nat.mul_le_mul h63 hb64; omega)
      rw [hr2] at hr
      simp only [Result.ok.injEq] at hr
      obtain ⟨rfl, rfl⟩ := hr
      rw [Nat.zero_add, List.nil_append] at h2
      refine ⟨W.heap.size, _, _, by rw [hr2]; simp only [Nat.zero_add, List.nil_append], h2, by omega, (World.ownsRow.lt h2 _ rfl).2, (Below.refl _ W).drew.alloc (Nat.le_refl _) _⟩
/-- The append at the operation. -/
theorem wpList_fresh (W : World) {ops : Array Oper} {rest : List Oper} {o : Oper} {a : Act} {Q : Exit → Act → World → Prop} (hgd : o.guard = none) (s x : Operand) (t : TypeId)
    (ho : o.op = .call { callee := .builtin .append, args := #[s, x], argTypes := #[t, t] }) (B : Nat) (g : Nat) (ad : Option Addr) (m c : Nat) (e : TypeId) (size : Nat) (news : List Value)
    (hs : a.eval s = .slice (some ⟨g, 0, none⟩) 0 0) (hx : a.eval x = .slice ad m c)
    (hr : ∀ ty, ∃ g' c' W', (Builtin.append_ #[t, t] ty #[.slice (some ⟨g, 0, none⟩) 0 0, .slice ad m c]).run Tryz.prog W = .ok (.slice (some ⟨g', 0, none⟩) m c') W' ∧ W'.ownsRow B e size (.slice (some ⟨g', 0, none⟩) m c') m news ∧ B ≤ g' ∧ g' < W'.heap.size ∧ Below W.heap.size W W')
    (h : ∀ g' c' W', W'.ownsRow B e size (.slice (some ⟨g', 0, none⟩) m c') m news → B ≤ g' → g' < W'.heap.size → Below W.heap.size W W' → wpList Tryz.prog ops Q rest (a.put o.dst (.slice (some ⟨g', 0, none⟩) m c')) W') :
    wpList Tryz.prog ops Q (o :: rest) a W := by
  refine wpList_plain hgd fun K hK => ?_
  obtain ⟨g', c', W', h1, h2, h3, h4, h5⟩ := hr o.type
  unfold Oper.wp execOp
  simp only [ho, resolve, invoke, builtin, Sem.run_bind, Sem.run_pure, Result.andThen_ok, List.map_toArray, List.map_cons, List.map_nil, hs, hx, h1]
  exact hK _ _ (h g' c' W' h2 h3 h4 h5)
/-- The three kinds of lists. -/
theorem fresh_bytes (W : World) (B g : Nat) (a : Option Addr) (n c : Nat) (zs : List Int) (hn : zs.length = n) (hs : n ≤ 8000000) (hB : B ≤ g) (hown : W.ownsRow B 5 1 (.slice (some ⟨g, 0, none⟩) 0 0) 0 []) (hr : Rd W a zs) (ty : TypeId) :
    ∃ g' c' W', (Builtin.append_ #[37, 37] ty #[.slice (some ⟨g, 0, none⟩) 0 0, .slice a n c]).run Tryz.prog W = .ok (.slice (some ⟨g', 0, none⟩) n c') W' ∧ W'.ownsRow B 5 1 (.slice (some ⟨g', 0, none⟩) n c') n (zs.map (Value.int .u8)) ∧ B ≤ g' ∧ g' < W'.heap.size ∧ Below W.heap.size W W' := by
  obtain ⟨i0, hi, hz0, hz1, hz2⟩ := info_parts Tryz.info5
  refine run_fresh W B 37 ty 5 i0 (.int .u8 0) 1 1 Tryz.underlying37 hi hz0 hz1 hz2 rfl (by omega) g hB hown a n c (zs.map (Value.int .u8)) (by simp [hn]) ?_ (fun _ => by cases a with | none => exact .inl rfl | some ad => exact .inr ⟨ad, rfl⟩) (fun u hu => by obtain ⟨z, _, rfl⟩ := List.mem_map.1 hu; rfl) hs (by omega)
  rcases hr with rfl | ⟨b, off, rfl, hc⟩
  · exact .inl rfl
  · refine .inr ⟨_, rfl, fun j u hj => ?_⟩
    simp only [List.getElem?_map] at hj
    by_cases hjm : j < zs.length
    · have := hc j hjm
      rw [show (⟨b, off, none⟩ : Addr).add j = ⟨b, off + j, none⟩ by simp [Addr.add], this]
      rw [List.getElem?_eq_getElem hjm] at hj
      simpa [List.getElem?_eq_getElem hjm] using hj
    · rw [List.getElem?_eq_none (by omega)] at hj
      simp at hj
theorem fresh_pairs (W : World) (B g : Nat) (t e : TypeId) (i : TypeInfo) (z : Value) (bytes : Nat) (ht : Tryz.prog.underlying t = some (.slice e)) (hi : Tryz.prog.info? e = some i) (hz : i.zero = some z) (hsize : i.size = 2) (hby : i.bytes = bytes) (hzs : z.cells.size = 2) (hb64 : bytes ≤ 64) (a : Option Addr) (n c : Nat) (ps : List VP) (hn : ps.length = n) (hs : n ≤ 8000000) (hone : ∀ p ∈ ps, p.1.oneCell' = true ∧ p.2.oneCell' = true) (hB : B ≤ g) (hown : W.ownsRow B e 2 (.slice (some ⟨g, 0, none⟩) 0 0) 0 []) (hr : RdP W a ps) (ty : TypeId) :
    ∃ g' c' W', (Builtin.append_ #[t, t] ty #[.slice (some ⟨g, 0, none⟩) 0 0, .slice a n c]).run Tryz.prog W = .ok (.slice (some ⟨g', 0, none⟩) n c') W' ∧ W'.ownsRow B e 2 (.slice (some ⟨g', 0, none⟩) n c') n (pv ps) ∧ B ≤ g' ∧ g' < W'.heap.size ∧ Below W.heap.size W W' := by
  refine run_fresh W B t ty e i z 2 bytes ht hi hz hsize hby hzs (by omega) g hB hown a n c (pv ps) (by rw [pv_length, hn]) ?_ (fun _ => by cases a with | none => exact .inl rfl | some ad => exact .inr ⟨ad, rfl⟩) ?_ hs hb64
  · rcases hr with rfl | ⟨b, off, rfl, hc⟩
    · exact .inl rfl
    · refine .inr ⟨_, rfl, fun j u hj => ?_⟩
      have hjl : j < (pv ps).length := (List.getElem?_eq_some_iff.1 hj).1
      rw [pv_length] at hjl
      obtain ⟨p1, p2⟩ := pv_at ps (j / 2) (by omega)
      obtain ⟨q1, q2⟩ := hc (j / 2) (by omega)
      rw [show (⟨b, off, none⟩ : Addr).add j = ⟨b, off + j, none⟩ by simp [Addr.add]]
      rcases (show j = j / 2 * 2 ∨ j = j / 2 * 2 + 1 by omega) with e | e
      · rw [e] at hj ⊢
        rw [p1] at hj
        rw [q1]
        exact hj
      · rw [e] at hj ⊢
        rw [p2] at hj
        rw [← Nat.add_assoc, q2]
        exact hj
  · intro u hu
    unfold pv at hu
    obtain ⟨p, hp, hu⟩ := List.mem_flatMap.1 hu
    simp at hu
    rcases hu with rfl | rfl
    · exact (hone p hp).1
    · exact (hone p hp).2
theorem eP_one (es : List (ByteArray × Int)) : ∀ p ∈ eP es, p.1.oneCell' = true ∧ p.2.oneCell' = true := by
  intro p hp
  obtain ⟨e, _, rfl⟩ := List.mem_map.1 hp
  exact ⟨rfl, rfl⟩
theorem aP_one (es : List (ByteArray × ByteArray)) : ∀ p ∈ aP es, p.1.oneCell' = true ∧ p.2.oneCell' = true := by
  intro p hp
  obtain ⟨e, _, rfl⟩ := List.mem_map.1 hp
  exact ⟨rfl, rfl⟩
theorem empty_row (W : World) (B : Nat) (e : TypeId) (s : Nat) (hB : B ≤ W.heap.size) : (W.alloc (.cells #[] e)).ownsRow B e s (.slice (some ⟨W.heap.size, 0, none⟩) 0 0) 0 [] :=
  ⟨by simp, .inr ⟨W.heap.size, 0, #[], rfl, hB, heap_alloc_new W _, Nat.le_refl _, Nat.zero_le _, by simp, by simp⟩⟩
end

section
open Go.RowKit
/-- What a copy of an inode is: the same data, in lists of the call's own. -/
def CopyPost (w : World) (D : InoD) (e : Ending) (w' : World) : Prop :=
  ∃ (b1 : Option Addr) (d1 : Nat) (b2 : Option Addr) (d2 : Nat) (b3 : Option Addr) (d3 : Nat), e = .returned (.agg #[.int .i64 D.ino, .int .i64 D.kind, .int .i64 D.links, .slice b1 D.data.length d1, .slice b2 D.ents.length d2, .slice b3 D.attrs.length d3]) ∧
    InoG w' w.heap.size w'.heap.size D (.slice b1 D.data.length d1) (.slice b2 D.ents.length d2) (.slice b3 D.attrs.length d3) ∧ Below w.heap.size w w'
/-- Three boxes and what has been copied so far, while an inode is copied. -/
structure CX (w W : World) (xs os : Array Value) : Prop where
  below : Below w.heap.size w W
  x : Blk W w.heap.size 68 xs
  res : Blk W (w.heap.size + 1) 68 #[.int .i64 0, .int .i64 0, .int .i64 0, .slice none 0 0, .slice none 0 0, .slice none 0 0]
  o : Blk W (w.heap.size + 1 + 1) 68 os
theorem CX.keep {w W W' : World} {xs os : Array Value} (h : CX w W xs os) (hb : Below W.heap.size W W') : CX w W' xs os := ⟨h.below.trans (hb.mono h.below.size), h.x.keep hb, h.res.keep hb, h.o.keep hb⟩
theorem CX.set {w W : World} {xs os : Array Value} (h : CX w W xs os) (j : Nat) (v : Value) : CX w (W.setCell ⟨w.heap.size + 1 + 1, j, none⟩ v) xs (os.setIfInBounds j v) :=
  ⟨h.below.setCell (p := ⟨w.heap.size + 1 + 1, j, none⟩) (by simp only; omega) v, h.x.other (by omega) j v, h.res.other (by omega) j v, h.o.set j v⟩
theorem raw_below {B : Nat} {e : TypeId} {w w' : World} {v : Value} {s n : Nat} {xs : List Value} (h : w.ownsRow B e s v n xs) (hb : Below w.heap.size w w') : w'.ownsRow B e s v n xs := by
  refine ⟨h.1, ?_⟩
  rcases h.2 with h' | ⟨g', cap', cur, h', hb', hgg, rest⟩
  · exact .inl h'
  · exact .inr ⟨g', cap', cur, h', hb', (hb.block g' (Array.getElem?_eq_some_iff.1 hgg).1).trans hgg, rest⟩
theorem row_zero' {B : Nat} {w : World} {e : TypeId} {s n : Nat} {v : Value} {xs : List Value} (h : w.ownsRow B e s v n xs) : w.ownsRow 0 e s v n xs := by
  refine ⟨h.1, ?_⟩
  rcases h.2 with h' | ⟨g, cap, cur, h', _, rest⟩
  · exact .inl h'
  · exact .inr ⟨g, cap, cur, h', Nat.zero_le _, rest⟩
theorem KpT.trans' {W W1 W' : World} {ts : List TypeId} (h : KpT W W1 ts) (k : KpT W1 W' ts) : KpT W W' ts := fun B cur t fr hB ht => by
  have e := h B cur t fr hB ht
  rw [k B cur t fr (e.trans hB) ht, e]
theorem KpT6 {W : World} {H : Nat} {xs : Array Value} (h : Blk W H 68 xs) (v0 v1 v2 v3 v4 v5 : Value) : KpT W ((((((W.setCell ⟨H, 0, none⟩ v0).setCell ⟨H, 1, none⟩ v1).setCell ⟨H, 2, none⟩ v2).setCell ⟨H, 3, none⟩ v3).setCell ⟨H, 4, none⟩ v4).setCell ⟨H, 5, none⟩ v5) [5, 89, 75] :=
  (((((KpT.grown (gr_setC _ H 0 v0) h (by decide)).trans' (KpT.grown (gr_setC _ H 1 v1) (h.set 0 v0) (by decide))).trans' (KpT.grown (gr_setC _ H 2 v2) ((h.set 0 v0).set 1 v1) (by decide))).trans' (KpT.grown (gr_setC _ H 3 v3) (((h.set 0 v0).set 1 v1).set 2 v2) (by decide))).trans' (KpT.grown (gr_setC _ H 4 v4) ((((h.set 0 v0).set 1 v1).set 2 v2).set 3 v3) (by decide))).trans' (KpT.grown (gr_setC _ H 5 v5) (((((h.set 0 v0).set 1 v1).set 2 v2).set 3 v3).set 4 v4) (by decide))
set_option maxRecDepth 100000 in
set_option maxHeartbeats 4000000 in
theorem l3Copy_any (D : InoD) (a1 a2 a3 : Option Addr) (c1 c2 c3 : Nat) (w : World) (hsm : InoSmall D) (hr : InoRd w D a1 a2 a3) :
    Calls Tryz.prog 121 #[.agg #[.int .i64 D.ino, .int .i64 D.kind, .int .i64 D.links, .slice a1 D.data.length c1, .slice a2 D.ents.length c2, .slice a3 D.attrs.length c3]] w fun e w' => CopyPost w D e w' := by
  obtain ⟨n1, h1⟩ : ∃ n, D.data.length = n := ⟨_, rfl⟩
  obtain ⟨n2, h2⟩ : ∃ n, D.ents.length = n := ⟨_, rfl⟩
  obtain ⟨n3, h3⟩ : ∃ n, D.attrs.length = n := ⟨_, rfl⟩
  have hp : Hid (∀ (e : Ending) (w' : World) (b1 : Option Addr) (d1 : Nat) (b2 : Option Addr) (d2 : Nat) (b3 : Option Addr) (d3 : Nat), e = .returned (.agg #[.int .i64 D.ino, .int .i64 D.kind, .int .i64 D.links, .slice b1 n1 d1, .slice b2 n2 d2, .slice b3 n3 d3]) → InoG w' w.heap.size w'.heap.size D (.slice b1 n1 d1) (.slice b2 n2 d2) (.slice b3 n3 d3) → Below w.heap.size w w' → CopyPost w D e w') := by
    intro e w' b1 d1 b2 d2 b3 d3 he hg hb
    refine ⟨b1, d1, b2, d2, b3, d3, ?_, ?_, hb⟩
    · rw [h1, h2, h3]; exact he
    · rw [h1, h2, h3]; exact hg
  obtain ⟨r1, rb, r2, r3⟩ := hr
  obtain ⟨s1, s2, s3, _, _⟩ := hsm
  rw [h1] at s1
  rw [h2] at s2
  rw [h3] at s3
  have H1 : Hid (D.data.length = n1 ∧ D.ents.length = n2 ∧ D.attrs.length = n3) := ⟨h1, h2, h3⟩
  rw [h1, h2, h3]
  generalize CopyPost w D = P at hp ⊢
  obtain ⟨i1, hi1⟩ : ∃ n, D.ino = n := ⟨_, rfl⟩
  obtain ⟨i2, hi2⟩ : ∃ n, D.kind = n := ⟨_, rfl⟩
  obtain ⟨i3, hi3⟩ : ∃ n, D.links = n := ⟨_, rfl⟩
  rw [hi1, hi2, hi3] at hp ⊢
  clear h1 h2 h3 hi1 hi2 hi3
  obtain ⟨ie, hie, ze0, ze1, ze2⟩ := info_parts Tryz.infoEnt
  obtain ⟨ia, hia, za0, za1, za2⟩ := info_parts Tryz.infoAttr
  have cx0 : CX w (((w.alloc (.cells #[.int .i64 i1, .int .i64 i2, .int .i64 i3, .slice a1 n1 c1, .slice a2 n2 c2, .slice a3 n3 c3] 68)).alloc (.cells #[.int .i64 0, .int .i64 0, .int .i64 0, .slice none 0 0, .slice none 0 0, .slice none 0 0] 68)).alloc (.cells #[.int .i64 i1, .int .i64 i2, .int .i64 i3, .slice a1 n1 c1, .slice a2 n2 c2, .slice a3 n3 c3] 68)) #[.int .i64 i1, .int .i64 i2, .int .i64 i3, .slice a1 n1 c1, .slice a2 n2 c2, .slice a3 n3 c3] #[.int .i64 i1, .int .i64 i2, .int .i64 i3, .slice a1 n1 c1, .slice a2 n2 c2, .slice a3 n3 c3] := by
    have hz1 : Blk (((w.alloc (.cells #[.int .i64 i1, .int .i64 i2, .int .i64 i3, .slice a1 n1 c1, .slice a2 n2 c2, .slice a3 n3 c3] 68)).alloc (.cells #[.int .i64 0, .int .i64 0, .int .i64 0, .slice none 0 0, .slice none 0 0, .slice none 0 0] 68)).alloc (.cells #[.int .i64 i1, .int .i64 i2, .int .i64 i3, .slice a1 n1 c1, .slice a2 n2 c2, .slice a3 n3 c3] 68)) w.heap.size 68 #[.int .i64 i1, .int .i64 i2, .int .i64 i3, .slice a1 n1 c1, .slice a2 n2 c2, .slice a3 n3 c3] := ((Blk.new w _ _).alloc _).alloc _
    have hz2 := (Blk.new (w.alloc (.cells #[.int .i64 i1, .int .i64 i2, .int .i64 i3, .slice a1 n1 c1, .slice a2 n2 c2, .slice a3 n3 c3] 68)) 68 #[.int .i64 0, .int .i64 0, .int .i64 0, .slice none 0 0, .slice none 0 0, .slice none 0 0]).alloc (.cells #[.int .i64 i1, .int .i64 i2, .int .i64 i3, .slice a1 n1 c1, .slice a2 n2 c2, .slice a3 n3 c3] 68)
    have hz3 := Blk.new ((w.alloc (.cells #[.int .i64 i1, .int .i64 i2, .int .i64 i3, .slice a1 n1 c1, .slice a2 n2 c2, .slice a3 n3 c3] 68)).alloc (.cells #[.int .i64 0, .int .i64 0, .int .i64 0, .slice none 0 0, .slice none 0 0, .slice none 0 0] 68)) 68 #[.int .i64 i1, .int .i64 i2, .int .i64 i3, .slice a1 n1 c1, .slice a2 n2 c2, .slice a3 n3 c3]
    simp only [World.size_alloc] at hz2 hz3
    exact ⟨(((Below.refl _ w).alloc (Nat.le_refl _) _).alloc (by simp) _).alloc (by simp; omega) _, hz1, hz2, hz3⟩
  go_enter Tryz.func121, Tryz.ntmps121
  go_upto_region 2 with fail
  obtain ⟨W0, hW0⟩ : ∃ W, ((w.alloc (.cells #[.int .i64 i1, .int .i64 i2, .int .i64 i3, .slice a1 n1 c1, .slice a2 n2 c2, .slice a3 n3 c3] 68)).alloc (.cells #[.int .i64 0, .int .i64 0, .int .i64 0, .slice none 0 0, .slice none 0 0, .slice none 0 0] 68)).alloc (.cells #[.int .i64 i1, .int .i64 i2, .int .i64 i3, .slice a1 n1 c1, .slice a2 n2 c2, .slice a3 n3 c3] 68) = W := ⟨_, rfl⟩
  rw [hW0] at cx0 ⊢
  clear hW0
  -- list 1
  have bE1 : Below W0.heap.size W0 (W0.alloc (.cells #[] 5)) := (Below.refl _ W0).alloc (Nat.le_refl _) _
  have cxE1 := cx0.keep bE1
  have hf1 := fun ty => fresh_bytes (W0.alloc (.cells #[] 5)) w.heap.size W0.heap.size a1 n1 c1 D.data H1.out.1 (by omega) cx0.below.size (empty_row W0 w.heap.size 5 1 cx0.below.size) (r1.keep cxE1.below) ty
  have x1 := cxE1.x.cell 3
  simp at x1
  have hsz1 := cx0.below.size
  go_upto_region 3 with (at_builtin; refine wpList_fresh (W0.alloc (.cells #[] 5)) rfl (.tmp 5) (.tmp 7) 37 rfl w.heap.size W0.heap.size a1 n1 c1 5 1 (D.data.map (Value.int .u8)) rfl rfl hf1 ?_; intro g1 d1 V1 o1 hB1 hl1 b1; have cxV1 := cxE1.keep b1; have y1 := cxV1.o.cell 3; have f1 := cxV1.o.frozen 3; simp at y1; clear x1)
  have cx1 : CX w (V1.setCell ⟨w.heap.size + 1 + 1, 3, none⟩ (.slice (some ⟨g1, 0, none⟩) n1 d1)) #[.int .i64 i1, .int .i64 i2, .int .i64 i3, .slice a1 n1 c1, .slice a2 n2 c2, .slice a3 n3 c3] #[.int .i64 i1, .int .i64 i2, .int .i64 i3, .slice (some ⟨g1, 0, none⟩) n1 d1, .slice a2 n2 c2, .slice a3 n3 c3] := cxV1.set 3 _
  have bb1 := bE1.trans (b1.mono bE1.size)
  have gs1 := gr_setC V1 (w.heap.size + 1 + 1) 3 (.slice (some ⟨g1, 0, none⟩) n1 d1)
  have hne1 : g1 ≠ w.heap.size + 1 + 1 := fun e => (by subst e; obtain ⟨_, cur, hc⟩ := row_at o1 (g := w.heap.size + 1 + 1) rfl; have := cxV1.o; rw [show V1.heap[w.heap.size + 1 + 1]? = _ from this] at hc; simp at hc)
  have q11 := row_kept o1 gs1 (fun m hm h => by simp [Value.ownBlock] at hm h; omega)
  obtain ⟨W1, hW1⟩ : ∃ W, V1.setCell ⟨w.heap.size + 1 + 1, 3, none⟩ (.slice (some ⟨g1, 0, none⟩) n1 d1) = W := ⟨_, rfl⟩
  rw [hW1] at cx1 q11 ⊢
  have hss1 := bb1.size
  clear hW1 cxV1 cxE1 bE1 y1 f1 hf1 o1 gs1 b1 bb1
  have bE2 : Below W1.heap.size W1 (W1.alloc (.cells #[] 89)) := (Below.refl _ W1).alloc (Nat.le_refl _) _
  have cxE2 := cx1.keep bE2
  have hf2 := fun ty => fresh_pairs (W1.alloc (.cells #[] 89)) w.heap.size W1.heap.size 65 89 ie _ 24 Tryz.underlying65 hie ze0 ze1 ze2 rfl (by omega) a2 n2 c2 (eP D.ents) (by rw [eP_length]; exact H1.out.2.1) (by omega) (eP_one _) cx1.below.size (empty_row W1 w.heap.size 89 2 cx1.below.size) (r2.keep cxE2.below) ty
  have x2 := cxE2.x.cell 4
  simp at x2
  have hsz2 := cx1.below.size
  go_upto_region 4 with (at_builtin; refine wpList_fresh (W1.alloc (.cells #[] 89)) rfl (.tmp 10) (.tmp 12) 65 rfl w.heap.size W1.heap.size a2 n2 c2 89 2 (pv (eP D.ents)) rfl rfl hf2 ?_; intro g2 d2 V2 o2 hB2 hl2 b2; have cxV2 := cxE2.keep b2; have y2 := cxV2.o.cell 4; have f2 := cxV2.o.frozen 4; simp at y2; clear x2)
  have cx2 : CX w (V2.setCell ⟨w.heap.size + 1 + 1, 4, none⟩ (.slice (some ⟨g2, 0, none⟩) n2 d2)) #[.int .i64 i1, .int .i64 i2, .int .i64 i3, .slice a1 n1 c1, .slice a2 n2 c2, .slice a3 n3 c3] #[.int .i64 i1, .int .i64 i2, .int .i64 i3, .slice (some ⟨g1, 0, none⟩) n1 d1, .slice (some ⟨g2, 0, none⟩) n2 d2, .slice a3 n3 c3] := cxV2.set 4 _
  have bb2 := bE2.trans (b2.mono bE2.size)
  have gs2 := gr_setC V2 (w.heap.size + 1 + 1) 4 (.slice (some ⟨g2, 0, none⟩) n2 d2)
  have hne2 : g2 ≠ w.heap.size + 1 + 1 := fun e => (by subst e; obtain ⟨_, cur, hc⟩ := row_at o2 (g := w.heap.size + 1 + 1) rfl; have := cxV2.o; rw [show V2.heap[w.heap.size + 1 + 1]? = _ from this] at hc; simp at hc)
  have q22 := row_kept o2 gs2 (fun m hm h => by simp [Value.ownBlock] at hm h; omega)
  have q12 := row_kept (raw_below q11 bb2) gs2 (fun m hm h => by simp [Value.ownBlock] at hm h; omega)
  obtain ⟨W2, hW2⟩ : ∃ W, V2.setCell ⟨w.heap.size + 1 + 1, 4, none⟩ (.slice (some ⟨g2, 0, none⟩) n2 d2) = W := ⟨_, rfl⟩
  rw [hW2] at cx2 q12 q22 ⊢
  have hss2 := bb2.size
  clear hW2 cxV2 cxE2 bE2 y2 f2 hf2 o2 gs2 b2 bb2
  have bE3 : Below W2.heap.size W2 (W2.alloc (.cells #[] 75)) := (Below.refl _ W2).alloc (Nat.le_refl _) _
  have cxE3 := cx2.keep bE3
  have hf3 := fun ty => fresh_pairs (W2.alloc (.cells #[] 75)) w.heap.size W2.heap.size 66 75 ia _ 32 Tryz.underlying66 hia za0 za1 za2 rfl (by omega) a3 n3 c3 (aP D.attrs) (by rw [aP_length]; exact H1.out.2.2) (by omega) (aP_one _) cx2.below.size (empty_row W2 w.heap.size 75 2 cx2.below.size) (r3.keep cxE3.below) ty
  have x3 := cxE3.x.cell 5
  simp at x3
  have hsz3 := cx2.below.size
  go_upto_region 5 with (at_builtin; refine wpList_fresh (W2.alloc (.cells #[] 75)) rfl (.tmp 15) (.tmp 17) 66 rfl w.heap.size W2.heap.size a3 n3 c3 75 2 (pv (aP D.attrs)) rfl rfl hf3 ?_; intro g3 d3 V3 o3 hB3 hl3 b3; have cxV3 := cxE3.keep b3; have y3 := cxV3.o.cell 5; have f3 := cxV3.o.frozen 5; simp at y3; clear x3)
  have cx3 : CX w (V3.setCell ⟨w.heap.size + 1 + 1, 5, none⟩ (.slice (some ⟨g3, 0, none⟩) n3 d3)) #[.int .i64 i1, .int .i64 i2, .int .i64 i3, .slice a1 n1 c1, .slice a2 n2 c2, .slice a3 n3 c3] #[.int .i64 i1, .int .i64 i2, .int .i64 i3, .slice (some ⟨g1, 0, none⟩) n1 d1, .slice (some ⟨g2, 0, none⟩) n2 d2, .slice (some ⟨g3, 0, none⟩) n3 d3] := cxV3.set 5 _
  have bb3 := bE3.trans (b3.mono bE3.size)
  have gs3 := gr_setC V3 (w.heap.size + 1 + 1) 5 (.slice (some ⟨g3, 0, none⟩) n3 d3)
  have hne3 : g3 ≠ w.heap.size + 1 + 1 := fun e => (by subst e; obtain ⟨_, cur, hc⟩ := row_at o3 (g := w.heap.size + 1 + 1) rfl; have := cxV3.o; rw [show V3.heap[w.heap.size + 1 + 1]? = _ from this] at hc; simp at hc)
  have q33 := row_kept o3 gs3 (fun m hm h => by simp [Value.ownBlock] at hm h; omega)
  have q13 := row_kept (raw_below q12 bb3) gs3 (fun m hm h => by simp [Value.ownBlock] at hm h; omega)
  have q23 := row_kept (raw_below q22 bb3) gs3 (fun m hm h => by simp [Value.ownBlock] at hm h; omega)
  obtain ⟨W3, hW3⟩ : ∃ W, V3.setCell ⟨w.heap.size + 1 + 1, 5, none⟩ (.slice (some ⟨g3, 0, none⟩) n3 d3) = W := ⟨_, rfl⟩
  rw [hW3] at cx3 q13 q23 q33 ⊢
  have hss3 := bb3.size
  clear hW3 cxV3 cxE3 bE3 y3 f3 hf3 o3 gs3 b3 bb3
  obtain ⟨x0, x1, x2, x3, x4, x5⟩ := cx3.o.six
  obtain ⟨t0, t1, t2, t3, t4, t5⟩ := cx3.res.six
  have fz0 := cx3.res.frozen 0
  have fz1 := cx3.res.frozen 1
  have fz2 := cx3.res.frozen 2
  have fz3 := cx3.res.frozen 3
  have fz4 := cx3.res.frozen 4
  have fz5 := cx3.res.frozen 5
  have HG : Hid _ := cx3
  have HQ : Hid _ := And.intro q13 (And.intro q23 q33)
  have hl33 : g1 < W3.heap.size ∧ g2 < W3.heap.size ∧ g3 < W3.heap.size := ⟨(World.ownsRow.lt q13 g1 rfl).2, (World.ownsRow.lt q23 g2 rfl).2, (World.ownsRow.lt q33 g3 rfl).2⟩
  clear cx0 cx1 cx2 cx3 q11 q12 q22 q13 q23 q33 hie ze0 ze1 ze2 hia za0 za1 za2 r1 r2 r3
  go_wp2
  have zf := (((((HG.out.res.set 0 (.int .i64 i1)).set 1 (.int .i64 i2)).set 2 (.int .i64 i3)).set 3 (.slice (some ⟨g1, 0, none⟩) n1 d1)).set 4 (.slice (some ⟨g2, 0, none⟩) n2 d2)).set 5 (.slice (some ⟨g3, 0, none⟩) n3 d3)
  have dd0 := zf.cell 0
  have dd1 := zf.cell 1
  have dd2 := zf.cell 2
  have dd3 := zf.cell 3
  have dd4 := zf.cell 4
  have dd5 := zf.cell 5
  simp at dd0 dd1 dd2 dd3 dd4 dd5
  refine bodyPost_ret (v := .agg #[.int .i64 i1, .int .i64 i2, .int .i64 i3, .slice (some ⟨g1, 0, none⟩) n1 d1, .slice (some ⟨g2, 0, none⟩) n2 d2, .slice (some ⟨g3, 0, none⟩) n3 d3]) (by simp [results, Tryz.f121, go_sem, dd0, dd1, dd2, dd3, dd4, dd5]) rfl ?_
  have kF := KpT6 HG.out.res (.int .i64 i1) (.int .i64 i2) (.int .i64 i3) (.slice (some ⟨g1, 0, none⟩) n1 d1) (.slice (some ⟨g2, 0, none⟩) n2 d2) (.slice (some ⟨g3, 0, none⟩) n3 d3)
  have u1 := row_kp HQ.out.1 kF (by decide)
  have u2 := row_kp HQ.out.2.1 kF (by decide)
  have u3 := row_kp HQ.out.2.2 kF (by decide)
  refine hp.out _ _ _ _ _ _ _ _ rfl ⟨by rw [H1.out.1]; exact row_zero' u1, rb, by rw [H1.out.2.1]; exact row_zero' u2, by rw [H1.out.2.2]; exact row_zero' u3, ?_⟩ ?_
  · intro m hm
    simp [Value.ownBlock] at hm
    simp only [World.setCell, Array.size_modify]
    omega
  · exact ((((((HG.out.below.setCell (p := ⟨w.heap.size + 1, 0, none⟩) (by simp only; omega) _).setCell (p := ⟨w.heap.size + 1, 1, none⟩) (by simp only; omega) _).setCell (p := ⟨w.heap.size + 1, 2, none⟩) (by simp only; omega) _).setCell (p := ⟨w.heap.size + 1, 3, none⟩) (by simp only; omega) _).setCell (p := ⟨w.heap.size + 1, 4, none⟩) (by simp only; omega) _).setCell (p := ⟨w.heap.size + 1, 5, none⟩) (by simp only; omega) _)
end

section
open Go.RowKit
theorem JsQ.grO {w w' : World} {B : Nat} {js : List InoJ} {g? : Option Nat} (h : JsQ w B js) (k : w.grownBy w' g?) (ha : ∀ g, g? = some g → ∀ (i : Nat) (j : InoJ), js[i]? = some j → g < j.lo ∨ j.hi ≤ g) : JsQ w' B js :=
  ⟨fun i j e => InoG.kept (h.G i j e) (fun b h1 h2 => k.block b (by have := h.lo i j e; omega) (fun q => by have := ha b q.symm i j e; omega)), fun i j e => by have := h.lo i j e; have := k.size; omega, h.ord⟩
/-- Copies of rs, in a row v that may be nil, all at or behind B. -/
structure DQT (B : Nat) (W : World) (v : Value) (rs : List InoR) (js : List InoJ) : Prop where
  ds : (js.map InoJ.r).map InoR.D = rs.map InoR.D
  row : W.ownsRow B 68 6 v js.length (iv (js.map InoJ.r))
  jq : JsQ W B js
  ap : ∀ g, v.ownBlock = some g → ∀ (i : Nat) (j : InoJ), js[i]? = some j → g < j.lo ∨ j.hi ≤ g
theorem row_keep6 {B : Nat} {e : TypeId} {s n : Nat} {W W' : World} {v : Value} {xs : List Value} (h : W.ownsRow B e s v n xs) (hb : Below W.heap.size W W') : W'.ownsRow B e s v n xs := row_kp h (KpT.below hb [e]) (by simp)
theorem DQT.nil (B : Nat) (W : World) : DQT B W (.slice none 0 0) [] [] := ⟨rfl, ⟨rfl, .inl ⟨rfl, rfl⟩⟩, JsQ.nil _ _, fun g h => by simp [Value.ownBlock] at h⟩
theorem DQT.keep {B : Nat} {W W' : World} {v : Value} {rs : List InoR} {js : List InoJ} (h : DQT B W v rs js) (hb : Below W.heap.size W W') : DQT B W' v rs js := ⟨h.ds, row_keep6 h.row hb, h.jq.keep hb, h.ap⟩
theorem DQT.setX {B : Nat} {W : World} {v : Value} {rs : List InoR} {js : List InoJ} (h : DQT B W v rs js) {X : Nat} (hX : X < B) (i : Nat) (u : Value) : DQT B (W.setCell ⟨X, i, none⟩ u) v rs js :=
  ⟨h.ds, row_kept h.row (gr_setC W X i u) (fun m hm e => by have := (World.ownsRow.lt h.row m hm).1; simp at e; omega), h.jq.gr (gr_setC W X i u) hX, h.ap⟩
theorem DQT.len {B : Nat} {W : World} {v : Value} {rs : List InoR} {js : List InoJ} (h : DQT B W v rs js) : js.length = rs.length := by have := congrArg List.length h.ds; simpa using this
/-- One more copy. -/
theorem DQT.app {B : Nat} {W W1 W2 : World} {v : Value} {rs : List InoR} {js : List InoJ} (h : DQT B W v rs js) (hB : B ≤ W.heap.size) (hb : Below W.heap.size W W1) (r r' : InoR) (hD : r'.D = r.D) (hG : (⟨r', W.heap.size, W1.heap.size⟩ : InoJ).G W1) (o : Obj) (hg : (W1.alloc o).grownBy W2 v.ownBlock) (g n c : Nat) (hn : n = js.length + 1) (ho : W2.ownsRow B 68 6 (.slice (some ⟨g, 0, none⟩) n c) n (iv (js.map InoJ.r) ++ r'.six)) (hat : v.ownBlock = some g ∨ g = W1.heap.size + 1) :
    DQT B W2 (.slice (some ⟨g, 0, none⟩) n c) (rs ++ [r]) (js ++ [⟨r', W.heap.size, W1.heap.size⟩]) := by
  subst hn
  have hv : ∀ m, v.ownBlock = some m → m < W.heap.size := fun m hm => (World.ownsRow.lt h.row m hm).2
  have hs := hb.size
  have hc : ∀ (i : Nat) (j : InoJ), (js ++ [⟨r', W.heap.size, W1.heap.size⟩])[i]? = some j → js[i]? = some j ∨ j = ⟨r', W.heap.size, W1.heap.size⟩ := by
    intro i j e
    by_cases hi : i < js.length
    · rw [List.getElem?_append_left hi] at e
      exact .inl e
    · rw [List.getElem?_append_right (by omega)] at e
      by_cases hz : i - js.length = 0
      · rw [hz] at e
        simp at e
        exact .inr e.symm
      · rw [List.getElem?_eq_none (by simp; omega)] at e
        simp at e
  have hap : ∀ m, v.ownBlock = some m → ∀ (i : Nat) (j : InoJ), (js ++ [⟨r', W.heap.size, W1.heap.size⟩])[i]? = some j → m < j.lo ∨ j.hi ≤ m := by
    intro m hm i j e
    rcases hc i j e with e | rfl
    · exact h.ap m hm i j e
    · exact .inl (hv m hm)
  have hj := ((h.jq.snoc hb hB hG).keep ((Below.refl _ W1).alloc (Nat.le_refl _) o)).grO hg hap
  refine ⟨?_, ?_, hj, fun m hm i j e => ?_⟩
  · rw [List.map_append, List.map_append, h.ds, List.map_append]
    simp [hD]
  · rw [List.length_append, List.map_append, iv_append]
    simpa [iv] using ho
  · simp [Value.ownBlock] at hm
    subst hm
    rcases hat with ha | rfl
    · exact hap g ha i j e
    · rcases hc i j e with e | rfl
      · have := h.jq.lo i j e
        exact .inr (by omega)
      · exact .inr (by dsimp only; omega)
theorem six_one (r : InoR) : ∀ u ∈ r.six, u.oneCell' = true := by
  intro u hu
  simp [InoR.six] at hu
  rcases hu with rfl | rfl | rfl | rfl | rfl | rfl <;> rfl
theorem six_news (W : World) (r : InoR) (t : TypeId) : ∀ j u, r.six[j]? = some u → (W.alloc (.cells #[.int .i64 r.D.ino, .int .i64 r.D.kind, .int .i64 r.D.links, .slice r.a1 r.D.data.length r.c1, .slice r.a2 r.D.ents.length r.c2, .slice r.a3 r.D.attrs.length r.c3] t)).cell? ((⟨W.heap.size, 0, none⟩ : Addr).add j) = some u :=
  World.news_of_block (Blk.new W t _)
end
end Go.Proofs.YtmfimoccemgoiaaGreatDoor
