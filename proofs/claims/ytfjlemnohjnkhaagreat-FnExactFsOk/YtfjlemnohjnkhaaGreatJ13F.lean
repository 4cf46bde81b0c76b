/-
  Joined: EqFs, ToFs, VolAt.
-/
import Derived.Test.YtfjlemnohjnkhaaGreatJ12F
namespace Go.Proofs.YtfjlemnohjnkhaaGreat
section
open Go.RowKit
/-- The same data, in other places. -/
structure SameV (r t : VolR) : Prop where
  id : t.id = r.id
  name : t.name = r.name
  ro : t.ro = r.ro
  limit : t.limit = r.limit
  nx : t.nx = r.nx
  rs : t.rs.map InoR.D = r.rs.map InoR.D
theorem SameV.of {r t : VolR} (h : t.D = r.D) : SameV r t := by
  unfold VolR.D at h
  simp only [VolD.mk.injEq] at h
  exact ⟨h.1, h.2.1, h.2.2.1, h.2.2.2.1, h.2.2.2.2.1, h.2.2.2.2.2⟩
theorem SameV.len {r t : VolR} (h : SameV r t) : t.rs.length = r.rs.length := by
  have := congrArg List.length h.rs
  simpa using this
set_option maxHeartbeats 1600000 in
theorem eqVol_same (r t : VolR) (w : World) (h : SameV r t) (hs : VolSmall r) (hr : r.rd w) (hr' : t.rd w) :
    Calls Tryz.prog 53 #[r.v, t.v] w fun e w' => e = .returned (.bool true) ∧ Below w.heap.size w w' := by
  have hl := h.len
  obtain ⟨id, name, ro, limit, a, cap, nx, rs⟩ := r
  obtain ⟨id', name', ro', limit', a', cap', nx', rs'⟩ := t
  obtain ⟨h1, h2, h3, h4, h5, h6⟩ := h
  unfold VolR.v
  unfold VolR.rd at hr hr'
  dsimp only at h1 h2 h3 h4 h5 h6 hr hr' hl ⊢
  subst h1 h2 h3 h4 h5
  obtain ⟨n, hn⟩ : ∃ n, rs.length = n := ⟨_, rfl⟩
  rw [hn] at hl
  rw [hn, hl]
  have B0 : Below w.heap.size w ((w.alloc (.cells #[.int .i64 id', .string name', .bool ro', .int .i64 limit', .slice a n cap, .int .i64 nx'] 49)).alloc (.cells #[.int .i64 id', .string name', .bool ro', .int .i64 limit', .slice a' n cap', .int .i64 nx'] 49)) := ((Below.refl _ w).alloc (Nat.le_refl _) _).alloc (by simp) _
  have z0 := (Blk.new w 49 #[.int .i64 id', .string name', .bool ro', .int .i64 limit', .slice a n cap, .int .i64 nx']).alloc (.cells #[.int .i64 id', .string name', .bool ro', .int .i64 limit', .slice a' n cap', .int .i64 nx'] 49)
  have z1 := Blk.new (w.alloc (.cells #[.int .i64 id', .string name', .bool ro', .int .i64 limit', .slice a n cap, .int .i64 nx'] 49)) 49 #[.int .i64 id', .string name', .bool ro', .int .i64 limit', .slice a' n cap', .int .i64 nx']
  simp only [World.size_alloc] at z1
  have hm : n ≤ 4000000 := by have := hs.len; dsimp only at this; omega
  have hcall := eqTab_same a a' n cap cap' nx' rs rs' _ hn hm h6 hs.ino (hr.keep B0) (hr'.keep B0)
  have hid : (id' != id') = false := by simp
  have hli : (limit' != limit') = false := by simp
  have hro : (ro' != ro') = false := by simp
  have hnm : (name'.toList == name'.toList) = true := by simp
  have hnn : (name'.toList != name'.toList) = false := by simp
  obtain ⟨q0, q1, q2, q3, q4, q5⟩ : _ ∧ _ ∧ _ ∧ _ ∧ _ ∧ _ := ⟨z0.cell 0, z0.cell 1, z0.cell 2, z0.cell 3, z0.cell 4, z0.cell 5⟩
  obtain ⟨p0, p1, p2, p3, p4, p5⟩ : _ ∧ _ ∧ _ ∧ _ ∧ _ ∧ _ := ⟨z1.cell 0, z1.cell 1, z1.cell 2, z1.cell 3, z1.cell 4, z1.cell 5⟩
  simp at q0 q1 q2 q3 q4 q5 p0 p1 p2 p3 p4 p5
  have HB : Hid _ := B0
  clear h6 hs hr hr' hn hl hm z0 z1 B0
  go_enter Tryz.func53, Tryz.ntmps53
  go_wp2_with fail
  refine hcall.mono ?_
  rintro e w1 ⟨rfl, hb1⟩
  clear q0 q1 q2 q3 q4 q5 p0 p1 p2 p3 p4 p5 hcall
  go_wp2
  go_ret
  exact ⟨rfl, HB.out.trans (hb1.mono HB.out.size)⟩
set_option maxHeartbeats 3200000 in
theorem eqVolS_same (a a' : Option Addr) (n cap cap' : Nat) (vs us : List VolR) (w : World) (hn : vs.length = n) (hs : n ≤ 4000000) (hD : us.map VolR.D = vs.map VolR.D) (hsm : ∀ r ∈ vs, VolSmall r) (hr : RdVo w a vs) (hr' : RdVo w a' us) :
    Calls Tryz.prog 29 #[.slice a n cap, .slice a' n cap'] w fun e w' => e = .returned (.bool true) ∧ Below w.heap.size w w' := by
  have hnt : us.length = n := by have := congrArg List.length hD; simp at this; omega
  by_cases h0 : n = 0
  · subst h0
    go_enter Tryz.func29, Tryz.ntmps29
    go_wp2
    refine wp_loop_rounds 1 ?_; rw [rounds_succ]
    go_wp2
    go_ret
    exact ⟨rfl, Below.refl _ _⟩
  · obtain ⟨b, off, rfl, hlt, hc⟩ := hr.lt (by intro h; subst h; simp at hn; omega)
    obtain ⟨b', off', rfl, hlt', hc'⟩ := hr'.lt (by intro h; subst h; simp at hnt; omega)
    have hn' : Hid (vs.length = n) := hn
    have HC : Hid _ := hc
    have HC' : Hid _ := hc'
    have HS : Hid _ := hsm
    have HD : Hid _ := hD
    clear hr hr' hn hc hc' hsm hD hnt
    go_enter Tryz.func29, Tryz.ntmps29
    go_wp2
    go_loopw [5] (fun i wr => ∃ k : Nat, k ≤ n ∧ i = .int .i64 k ∧ Below w.heap.size w wr) (fun i _ => n - (intOf i).toNat)
    case atStart => exact ⟨0, Nat.zero_le _, rfl, Below.refl _ _⟩
    case round =>
      obtain ⟨k, hk, rfl, hB⟩ := hrel
      by_cases hkn : k < n
      · have hkl : k < vs.length := by rw [hn'.out]; exact hkn
        have hki : (k : Int) < (n : Int) := by omega
        obtain ⟨r, hrk⟩ : ∃ r, vs[k]? = some r := ⟨_, List.getElem?_eq_getElem hkl⟩
        obtain ⟨t, htk, hrt⟩ : ∃ t, us[k]? = some t ∧ t.D = r.D := by
          have := congrArg (fun l => l[k]?) HD.out
          simp only [List.getElem?_map, hrk, Option.map_some] at this
          cases ht : us[k]? with
          | none => rw [ht] at this; simp at this
          | some t => rw [ht] at this; simp at this; exact ⟨t, rfl, this⟩
        obtain ⟨x6, xr⟩ := HC.out k r hrk
        obtain ⟨y6, yr⟩ := HC'.out k t htk
        have hcd := eqVol_same r t wr.drew (SameV.of hrt) (HS.out r (List.mem_of_getElem? hrk)) (xr.keep hB.drew) (yr.keep hB.drew)
        obtain ⟨x0, x1, x2, x3, x4, x5⟩ := x6.keep hB hlt
        obtain ⟨y0, y1, y2, y3, y4, y5⟩ := y6.keep hB hlt'
        unfold VolR.v at hcd
        have hwz := hB.size
        obtain ⟨id, name, ro, limit, a, cap, nx, rs⟩ := r
        obtain ⟨id', name', ro', limit', a', cap', nx', rs'⟩ := t
        dsimp only at x0 x1 x2 x3 x4 x5 y0 y1 y2 y3 y4 y5 hcd
        obtain ⟨n1, hn1⟩ : ∃ n, rs.length = n := ⟨_, rfl⟩
        obtain ⟨n2, hn2⟩ : ∃ n, rs'.length = n := ⟨_, rfl⟩
        rw [hn1] at x4 hcd
        rw [hn2] at y4 hcd
        clear x6 y6 xr yr hn1 hn2 hrk htk hrt hkl
        go_wp2
        go_region_with ((go_at_call 53; (with_reducible refine hcd.mono ?_); rintro e w1 ⟨rfl, hb1⟩))
        all_goals go_wp2
        all_goals go_roundw
        all_goals first
          | (case rel => exact ⟨k + 1, by omega, by go_num, hB.drew.trans (hb1.mono hwz)⟩)
          | (case measure => simp [intOf]; omega)
      · have hki : ¬ (k : Int) < (n : Int) := by omega
        go_wp2
        go_ret
        exact ⟨rfl, hB⟩
set_option maxHeartbeats 800000 in
theorem eqFs_same (a a' : Option Addr) (n cap cap' : Nat) (nx : Int) (vs us : List VolR) (w : World) (hn : vs.length = n) (hs : n ≤ 4000000) (hD : us.map VolR.D = vs.map VolR.D) (hsm : ∀ r ∈ vs, VolSmall r) (hr : RdVo w a vs) (hr' : RdVo w a' us) :
    Calls Tryz.prog 9 #[.agg #[.slice a n cap, .int .i64 nx], .agg #[.slice a' n cap', .int .i64 nx]] w fun e w' => e = .returned (.bool true) ∧ Below w.heap.size w w' := by
  have B0 : Below w.heap.size w ((w.alloc (.cells #[.slice a n cap, .int .i64 nx] 29)).alloc (.cells #[.slice a' n cap', .int .i64 nx] 29)) := ((Below.refl _ w).alloc (Nat.le_refl _) _).alloc (by simp) _
  have z0 := (Blk.new w 29 #[.slice a n cap, .int .i64 nx]).alloc (.cells #[.slice a' n cap', .int .i64 nx] 29)
  have z1 := Blk.new (w.alloc (.cells #[.slice a n cap, .int .i64 nx] 29)) 29 #[.slice a' n cap', .int .i64 nx]
  simp only [World.size_alloc] at z1
  have hcall := eqVolS_same a a' n cap cap' vs us _ hn hs hD hsm (hr.keep B0) (hr'.keep B0)
  clear hD hsm hr hr' hn
  go_enter Tryz.func9, Tryz.ntmps9
  go_wp2_with fail
  refine hcall.mono ?_
  rintro e w1 ⟨rfl, hb1⟩
  have B1 := B0.trans (hb1.mono B0.size)
  have c0 := (z0.keep hb1).cell 1
  have c1 := (z1.keep hb1).cell 1
  simp at c0 c1
  clear hcall z0 z1 hb1
  go_wp2
  go_ret
  exact ⟨rfl, B1⟩
end

section
open Go.RowKit
theorem Tryz.infoVol : (Tryz.prog.info? 49).map (fun i => (i.zero, i.size, i.bytes)) = some (some (.agg #[.int .i64 0, .string ⟨#[]⟩, .bool false, .int .i64 0, .slice none 0 0, .int .i64 0]), 6, 72) := by kernel_rfl
/-- The table of a volume is a row of the call's own, at or behind B, and so are its inodes' lists. -/
def VolR.own (w : World) (B : Nat) (r : VolR) : Prop := ∃ g, r.a = some ⟨g, 0, none⟩ ∧ B ≤ g ∧ OwnI w g r.rs.length r.rs.length r.rs ∧ ∀ q ∈ r.rs, q.own w (g + 1)
theorem VolR.own.rd {w : World} {B : Nat} {r : VolR} (h : r.own w B) : r.rd w := by
  obtain ⟨g, h1, _, h2, h3⟩ := h
  unfold VolR.rd
  rw [h1]
  exact h2.rd h3
theorem VolR.own.keep {w w' : World} {B : Nat} {r : VolR} (h : r.own w B) (hb : Below w.heap.size w w') : r.own w' B := by
  obtain ⟨g, h1, h2, h3, h4⟩ := h
  exact ⟨g, h1, h2, h3.keep hb, fun q hq => (h4 q hq).keep hb⟩
theorem VolR.own.kept {w w' : World} {B g : Nat} {r : VolR} (h : r.own w B) (hg : w.grownBy w' (some g)) (hlt : g < B) : r.own w' B := by
  obtain ⟨g', h1, h2, h3, h4⟩ := h
  exact ⟨g', h1, h2, h3.kept hg (by omega), fun q hq => (h4 q hq).kept hg (by omega)⟩
theorem OwnVo.rd {w : World} {g n cap B : Nat} {vs : List VolR} (h : OwnVo w g n cap vs) (ho : ∀ r ∈ vs, r.own w B) : RdVo w (some ⟨g, 0, none⟩) vs :=
  .inr ⟨g, 0, rfl, fun i r hi => by
    rw [Nat.zero_add]
    exact ⟨h.six i r hi, (ho r (List.mem_of_getElem? hi)).rd⟩⟩
set_option maxRecDepth 100000 in
set_option maxHeartbeats 3200000 in
theorem toVol_any (r : VolR) (w : World) (hs : VolSmall r) (hr : r.rd w) :
    Calls Tryz.prog 46 #[r.v] w fun e w' => ∃ t : VolR, e = .returned t.v ∧ t.D = r.D ∧ t.own w' w.heap.size ∧ Below w.heap.size w w' := by
  obtain ⟨id, name, ro, limit, a, cap, nx, rs⟩ := r
  obtain ⟨_, h5, h6⟩ := hs
  unfold VolR.v VolR.D
  unfold VolR.rd at hr
  dsimp only at h5 h6 hr ⊢
  obtain ⟨n, hn⟩ : ∃ n, rs.length = n := ⟨_, rfl⟩
  rw [hn] at h5 ⊢
  have B0 : Below w.heap.size w (((w.alloc (.cells #[.int .i64 id, .string name, .bool ro, .int .i64 limit, .slice a n cap, .int .i64 nx] 79)).alloc (.cells #[.int .i64 0, .string ⟨#[]⟩, .bool false, .int .i64 0, .slice none 0 0, .int .i64 0] 49)).alloc (.cells #[.int .i64 0, .string ⟨#[]⟩, .bool false, .int .i64 0, .slice none 0 0, .int .i64 0] 49)) := (((Below.refl _ w).alloc (Nat.le_refl _) _).alloc (by simp) _).alloc (by simp; omega) _
  have z0 := ((Blk.new w 79 #[.int .i64 id, .string name, .bool ro, .int .i64 limit, .slice a n cap, .int .i64 nx]).alloc (.cells #[.int .i64 0, .string ⟨#[]⟩, .bool false, .int .i64 0, .slice none 0 0, .int .i64 0] 49)).alloc (.cells #[.int .i64 0, .string ⟨#[]⟩, .bool false, .int .i64 0, .slice none 0 0, .int .i64 0] 49)
  have z1 := (Blk.new (w.alloc (.cells #[.int .i64 id, .string name, .bool ro, .int .i64 limit, .slice a n cap, .int .i64 nx] 79)) 49 #[.int .i64 0, .string ⟨#[]⟩, .bool false, .int .i64 0, .slice none 0 0, .int .i64 0]).alloc (.cells #[.int .i64 0, .string ⟨#[]⟩, .bool false, .int .i64 0, .slice none 0 0, .int .i64 0] 49)
  have z2 := Blk.new ((w.alloc (.cells #[.int .i64 id, .string name, .bool ro, .int .i64 limit, .slice a n cap, .int .i64 nx] 79)).alloc (.cells #[.int .i64 0, .string ⟨#[]⟩, .bool false, .int .i64 0, .slice none 0 0, .int .i64 0] 49)) 49 #[.int .i64 0, .string ⟨#[]⟩, .bool false, .int .i64 0, .slice none 0 0, .int .i64 0]
  simp only [World.size_alloc] at z1 z2
  have hsz : (((w.alloc (.cells #[.int .i64 id, .string name, .bool ro, .int .i64 limit, .slice a n cap, .int .i64 nx] 79)).alloc (.cells #[.int .i64 0, .string ⟨#[]⟩, .bool false, .int .i64 0, .slice none 0 0, .int .i64 0] 49)).alloc (.cells #[.int .i64 0, .string ⟨#[]⟩, .bool false, .int .i64 0, .slice none 0 0, .int .i64 0] 49)).heap.size = w.heap.size + 1 + 1 + 1 := by simp
  have HR : Hid _ := hr
  have HN : Hid _ := hn
  have H6 : Hid _ := h6
  clear hr hn h6
  obtain ⟨H, hH⟩ : ∃ H, w.heap.size = H := ⟨_, rfl⟩
  obtain ⟨x0, x1, x2, x3, x4, x5⟩ : _ ∧ _ ∧ _ ∧ _ ∧ _ ∧ _ := ⟨z0.cell 0, z0.cell 1, z0.cell 2, z0.cell 3, z0.cell 4, z0.cell 5⟩
  obtain ⟨y0, y1, y2, y3, y4, y5⟩ : _ ∧ _ ∧ _ ∧ _ ∧ _ ∧ _ := ⟨z2.cell 0, z2.cell 1, z2.cell 2, z2.cell 3, z2.cell 4, z2.cell 5⟩
  obtain ⟨f0, f1, f2, f3⟩ : _ ∧ _ ∧ _ ∧ _ := ⟨z2.frozen 0, z2.frozen 1, z2.frozen 2, z2.frozen 3⟩
  simp at x0 x1 x2 x3 x4 x5 y0 y1 y2 y3 y4 y5
  go_enter Tryz.func46, Tryz.ntmps46
  go_wp2_with fail
  clear x0 x1 x2 x3 x4 x5 y0 y1 y2 y3 y4 y5 f0 f1 f2 f3
  have B1 : Below w.heap.size w (((w.alloc (.cells #[.int .i64 id, .string name, .bool ro, .int .i64 limit, .slice a n cap, .int .i64 nx] 79)).alloc (.cells #[.int .i64 0, .string ⟨#[]⟩, .bool false, .int .i64 0, .slice none 0 0, .int .i64 0] 49)).alloc (.cells #[.int .i64 id, .string name, .bool ro, .int .i64 limit, .slice none 0 0, .int .i64 0] 49)) := (((Below.refl _ w).alloc (Nat.le_refl _) _).alloc (by simp) _).alloc (by simp; omega) _
  have u0 := ((Blk.new w 79 #[.int .i64 id, .string name, .bool ro, .int .i64 limit, .slice a n cap, .int .i64 nx]).alloc (.cells #[.int .i64 0, .string ⟨#[]⟩, .bool false, .int .i64 0, .slice none 0 0, .int .i64 0] 49)).alloc (.cells #[.int .i64 id, .string name, .bool ro, .int .i64 limit, .slice none 0 0, .int .i64 0] 49)
  have u1 := (Blk.new (w.alloc (.cells #[.int .i64 id, .string name, .bool ro, .int .i64 limit, .slice a n cap, .int .i64 nx] 79)) 49 #[.int .i64 0, .string ⟨#[]⟩, .bool false, .int .i64 0, .slice none 0 0, .int .i64 0]).alloc (.cells #[.int .i64 id, .string name, .bool ro, .int .i64 limit, .slice none 0 0, .int .i64 0] 49)
  have u2 := Blk.new ((w.alloc (.cells #[.int .i64 id, .string name, .bool ro, .int .i64 limit, .slice a n cap, .int .i64 nx] 79)).alloc (.cells #[.int .i64 0, .string ⟨#[]⟩, .bool false, .int .i64 0, .slice none 0 0, .int .i64 0] 49)) 49 #[.int .i64 id, .string name, .bool ro, .int .i64 limit, .slice none 0 0, .int .i64 0]
  simp only [World.size_alloc] at u1 u2
  have hs1 : (((w.alloc (.cells #[.int .i64 id, .string name, .bool ro, .int .i64 limit, .slice a n cap, .int .i64 nx] 79)).alloc (.cells #[.int .i64 0, .string ⟨#[]⟩, .bool false, .int .i64 0, .slice none 0 0, .int .i64 0] 49)).alloc (.cells #[.int .i64 id, .string name, .bool ro, .int .i64 limit, .slice none 0 0, .int .i64 0] 49)).heap.size = w.heap.size + 1 + 1 + 1 := by simp
  obtain ⟨W1, hW1⟩ : ∃ W, (((w.alloc (.cells #[.int .i64 id, .string name, .bool ro, .int .i64 limit, .slice a n cap, .int .i64 nx] 79)).alloc (.cells #[.int .i64 0, .string ⟨#[]⟩, .bool false, .int .i64 0, .slice none 0 0, .int .i64 0] 49)).alloc (.cells #[.int .i64 id, .string name, .bool ro, .int .i64 limit, .slice none 0 0, .int .i64 0] 49)) = W := ⟨_, rfl⟩
  rw [hW1] at u0 u1 u2 B1 hs1 ⊢
  rw [hH] at u0 u1 u2 B1 hs1
  clear hW1 z0 z1 z2 B0 hsz
  have hcall := toTab_any a n cap nx rs W1 HN.out h5 H6.out (RdI.keep HR.out (by rw [hH]; exact B1))
  refine hcall.mono ?_
  rintro e w2 ⟨g, ts, rfl, hg, hcp, ho, b2⟩
  have hn2 : ts.length = n := ho.len
  rw [hs1] at hg
  have v0 := u0.keep b2
  have v1 := u1.keep b2
  have v2 := u2.keep b2
  have B2 := B1.trans (b2.mono (by rw [hs1]; omega))
  obtain ⟨y0, y1, y2, y3, y4, y5⟩ : _ ∧ _ ∧ _ ∧ _ ∧ _ ∧ _ := ⟨v2.cell 0, v2.cell 1, v2.cell 2, v2.cell 3, v2.cell 4, v2.cell 5⟩
  obtain ⟨f4, f5⟩ : _ ∧ _ := ⟨v2.frozen 4, v2.frozen 5⟩
  have s2 := (v2.set 4 (.slice (some ⟨g, 0, none⟩) n n)).set 5 (.int .i64 nx)
  have s1 := (v1.other (B' := H + 1 + 1) (by omega) 4 (.slice (some ⟨g, 0, none⟩) n n)).other (B' := H + 1 + 1) (by omega) 5 (.int .i64 nx)
  obtain ⟨c0, c1, c2, c3, c4, c5⟩ : _ ∧ _ ∧ _ ∧ _ ∧ _ ∧ _ := ⟨s2.cell 0, s2.cell 1, s2.cell 2, s2.cell 3, s2.cell 4, s2.cell 5⟩
  obtain ⟨p0, p1, p2, p3, p4, p5⟩ : _ ∧ _ ∧ _ ∧ _ ∧ _ ∧ _ := ⟨s1.cell 0, s1.cell 1, s1.cell 2, s1.cell 3, s1.cell 4, s1.cell 5⟩
  obtain ⟨q0, q1, q2, q3, q4, q5⟩ : _ ∧ _ ∧ _ ∧ _ ∧ _ ∧ _ := ⟨s1.frozen 0, s1.frozen 1, s1.frozen 2, s1.frozen 3, s1.frozen 4, s1.frozen 5⟩
  have e1 := (((((s1.set 0 (.int .i64 id)).set 1 (.string name)).set 2 (.bool ro)).set 3 (.int .i64 limit)).set 4 (.slice (some ⟨g, 0, none⟩) n n)).set 5 (.int .i64 nx)
  obtain ⟨d0, d1, d2, d3, d4, d5⟩ : _ ∧ _ ∧ _ ∧ _ ∧ _ ∧ _ := ⟨e1.cell 0, e1.cell 1, e1.cell 2, e1.cell 3, e1.cell 4, e1.cell 5⟩
  simp at y0 y1 y2 y3 y4 y5 c0 c1 c2 c3 c4 c5 p0 p1 p2 p3 p4 p5 d0 d1 d2 d3 d4 d5
  have HO : Hid (∃ t : VolR, (⟨id, name, ro, limit, some ⟨g, 0, none⟩, n, nx, ts⟩ : VolR) = t ∧ t.own w2 (H + 1 + 1 + 1)) := ⟨_, rfl, g, rfl, hg, by dsimp only; rw [hn2]; exact ho, fun q hq => hcp.2 q hq⟩
  have HB2 : Hid _ := B2
  have HD : Hid _ := hcp.1
  have HL : Hid _ := hn2
  clear hcall hcp ho b2 u0 u1 u2 v0 v1 v2 s1 s2 e1 B1 B2 hn2 hs1 h5
  go_wp2
  refine bodyPost_ret (v := .agg #[.int .i64 id, .string name, .bool ro, .int .i64 limit, .slice (some ⟨g, 0, none⟩) n n, .int .i64 nx]) (by simp [results, Tryz.f46, go_sem, d0, d1, d2, d3, d4, d5]) rfl ?_
  obtain ⟨t, rfl, ht⟩ := HO.out
  refine ⟨⟨id, name, ro, limit, some ⟨g, 0, none⟩, n, nx, ts⟩, by dsimp only; rw [HL.out], by dsimp only; rw [HD.out], ?_, ?_⟩
  · have k := fun (W : World) (j i : Nat) (v : Value) => gr_setC W j i v
    have ht' : VolR.own w2 (H + 1 + 1 + 1) _ := ht
    have := ((((((((ht'.kept (k _ (H + 1 + 1) 4 (.slice (some ⟨g, 0, none⟩) n n)) (by omega)).kept (k _ (H + 1 + 1) 5 (.int .i64 nx)) (by omega)).kept (k _ (H + 1) 0 (.int .i64 id)) (by omega)).kept (k _ (H + 1) 1 (.string name)) (by omega)).kept (k _ (H + 1) 2 (.bool ro)) (by omega)).kept (k _ (H + 1) 3 (.int .i64 limit)) (by omega)).kept (k _ (H + 1) 4 (.slice (some ⟨g, 0, none⟩) n n)) (by omega)).kept (k _ (H + 1) 5 (.int .i64 nx)) (by omega))
    obtain ⟨g', a1, a2, a3, a4⟩ := this
    exact ⟨g', a1, by omega, a3, a4⟩
  · have B := HB2.out
    have s : ∀ (W : World) (j i : Nat) (v : Value), H ≤ j → Below H w W → Below H w (W.setCell ⟨j, i, none⟩ v) := fun W j i v hj hb => hb.setCell (p := ⟨j, i, none⟩) hj v
    rw [hH]
    exact s _ _ _ _ (by omega) (s _ _ _ _ (by omega) (s _ _ _ _ (by omega) (s _ _ _ _ (by omega) (s _ _ _ _ (by omega) (s _ _ _ _ (by omega) (s _ _ _ _ (by omega) (s _ _ _ _ (by omega) B)))))))
/-- What a copy of a row of volumes is. -/
def CpdV (w : World) (B : Nat) (vs us : List VolR) : Prop := us.map VolR.D = vs.map VolR.D ∧ ∀ r ∈ us, r.own w B
theorem CpdV.keep {w w' : World} {B : Nat} {vs us : List VolR} (h : CpdV w B vs us) (hb : Below w.heap.size w w') : CpdV w' B vs us := ⟨h.1, fun r hr => (h.2 r hr).keep hb⟩
set_option maxHeartbeats 3200000 in
theorem toVolS_any (a : Option Addr) (n cap : Nat) (vs : List VolR) (w : World) (hn : vs.length = n) (hs : n ≤ 1048576) (hsm : ∀ r ∈ vs, VolSmall r) (hr : RdVo w a vs) :
    Calls Tryz.prog 23 #[.slice a n cap] w fun e w' => ∃ us, e = .returned (.slice (some ⟨w.heap.size, 0, none⟩) n n) ∧ CpdV w' (w.heap.size + 1) vs us ∧ OwnVo w' w.heap.size n n us ∧ Below w.heap.size w w' := by
  obtain ⟨i0, hi, hz0, hz1, hz2⟩ := info_parts Tryz.infoVol
  have hm : n ≤ maxLen := by unfold maxLen; omega
  have hby : i0.bytes * n ≤ 281474976710656 := by rw [hz2]; omega
  by_cases h0 : n = 0
  · subst h0
    obtain rfl : vs = [] := List.length_eq_zero_iff.1 hn
    go_enter Tryz.func23, Tryz.ntmps23
    go_wp2_with (at_make; refine wpList_make_full _ rfl (.tmp 6) (.tmp 6) 27 rfl 0 49 i0 (.agg #[.int .i64 0, .string ⟨#[]⟩, .bool false, .int .i64 0, .slice none 0 0, .int .i64 0]) 6 Tryz.underlying27 hi hz0 hz1 .i64 .i64 _ _ 0 rfl rfl rfl rfl hby hm (Nat.zero_le _) ?_; intro w1 hown hgrow)
    refine wp_loop_rounds 1 ?_; rw [rounds_succ]
    go_wp2
    go_ret
    exact ⟨[], rfl, ⟨rfl, fun r hr => by simp at hr⟩, made_ownVo hown, (Below.refl _ _).grown hgrow (Nat.le_refl _) (by simp)⟩
  · obtain ⟨b, off, rfl, hlt, hc⟩ := hr.lt (by intro h; subst h; simp at hn; omega)
    have hn' : Hid (vs.length = n) := hn
    have HC : Hid _ := hc
    have HS : Hid _ := hsm
    clear hr hn hc hsm
    go_enter Tryz.func23, Tryz.ntmps23
    go_wp2_with (at_make; refine wpList_make_full _ rfl (.tmp 6) (.tmp 6) 27 rfl 0 49 i0 (.agg #[.int .i64 0, .string ⟨#[]⟩, .bool false, .int .i64 0, .slice none 0 0, .int .i64 0]) 6 Tryz.underlying27 hi hz0 hz1 .i64 .i64 _ _ n rfl rfl rfl rfl hby hm (Nat.zero_le _) ?_; intro w1 hown hgrow)
    have ho := made_ownVo hown
    have hB : Below w.heap.size w w1 := (Below.refl _ _).grown hgrow (Nat.le_refl _) (by simp)
    clear hown hgrow
    go_loopw [4] (fun i wr => ∃ (k : Nat) (us : List VolR), k ≤ n ∧ i = .int .i64 k ∧ us.length = k ∧ Hid (CpdV wr (w.heap.size + 1) (vs.take k) us) ∧ OwnVo wr w.heap.size n n (us ++ List.replicate (n - k) volZ) ∧ Below w.heap.size w wr) (fun i _ => n - (intOf i).toNat)
    case atStart => exact ⟨0, [], Nat.zero_le _, rfl, rfl, ⟨rfl, fun r hr => by simp at hr⟩, ho, hB⟩
    case round =>
      obtain ⟨k, us, hk, rfl, htk, hcp, hown, hbel⟩ := hrel
      clear ho hB
      by_cases hkn : k < n
      · have hkl : k < vs.length := by rw [hn'.out]; exact hkn
        have hki : (k : Int) < (n : Int) := by omega
        obtain ⟨r, hrk⟩ : ∃ r, vs[k]? = some r := ⟨_, List.getElem?_eq_getElem hkl⟩
        obtain ⟨x6, xr⟩ := HC.out k r hrk
        have hcall := toVol_any r wr (HS.out r (List.mem_of_getElem? hrk)) (xr.keep hbel)
        obtain ⟨x0, x1, x2, x3, x4, x5⟩ := x6.keep hbel hlt
        have hrD : Hid ((vs.take (k + 1)).map VolR.D = (vs.take k).map VolR.D ++ [r.D]) := by
          show _ = _
          rw [List.take_add_one, hrk]
          simp
        unfold VolR.v at hcall
        obtain ⟨rD, hrd⟩ : ∃ d, r.D = d := ⟨_, rfl⟩
        rw [hrd] at hcall hrD
        obtain ⟨id, name, ro, limit, ra, rc, nx, rr⟩ := r
        dsimp only at x0 x1 x2 x3 x4 x5 hcall
        obtain ⟨n1, hn1⟩ : ∃ n, rr.length = n := ⟨_, rfl⟩
        rw [hn1] at x4 hcall
        have hwz := hbel.size
        clear x6 xr hn1 hrk hkl hrd
        go_wp2_with fail
        refine hcall.mono ?_
        rintro e w1 ⟨t, rfl, htD, hto, hb1⟩
        have ho1 := hown.keep hb1
        have hlc := ho1.lt
        have hzk : (us ++ List.replicate (n - k) volZ)[k]? = some volZ := by
          rw [List.getElem?_append_right (by omega), htk, Nat.sub_self, List.getElem?_replicate, if_pos (by omega)]
        obtain ⟨q0, q1, q2, q3, q4, q5⟩ := ho1.six k volZ hzk
        have f0 := ho1.frozen (k * 6)
        have f1 := ho1.frozen (k * 6 + 1)
        have f2 := ho1.frozen (k * 6 + 2)
        have f3 := ho1.frozen (k * 6 + 3)
        have f4 := ho1.frozen (k * 6 + 4)
        have f5 := ho1.frozen (k * 6 + 5)
        have hst := ownVo_stored ho1 k hkn t
        rw [show (us ++ List.replicate (n - k) volZ).set k t = (us ++ [t]) ++ List.replicate (n - (k + 1)) volZ by rw [← htk, set_mid us _ _ _ (by omega), htk, show n - k - 1 = n - (k + 1) by omega]] at hst
        have hbel1 : Below w.heap.size w w1 := hbel.trans (hb1.mono hwz)
        have hgr := six_gr w1 w.heap.size (k * 6) (.int .i64 t.id) (.string t.name) (.bool t.ro) (.int .i64 t.limit) (.slice t.a t.rs.length t.cap) (.int .i64 t.nx)
        have hbel' := hbel1.grown hgr hbel1.size (by intro g hg; simp at hg; omega)
        have hlw := hown.lt
        have hcp' : Hid (CpdV ((((((w1.setCell ⟨w.heap.size, k * 6, none⟩ (.int .i64 t.id)).setCell ⟨w.heap.size, k * 6 + 1, none⟩ (.string t.name)).setCell ⟨w.heap.size, k * 6 + 2, none⟩ (.bool t.ro)).setCell ⟨w.heap.size, k * 6 + 3, none⟩ (.int .i64 t.limit)).setCell ⟨w.heap.size, k * 6 + 4, none⟩ (.slice t.a t.rs.length t.cap)).setCell ⟨w.heap.size, k * 6 + 5, none⟩ (.int .i64 t.nx)) (w.heap.size + 1) (vs.take (k + 1)) (us ++ [t])) := by
          refine ⟨by rw [hrD.out, List.map_append, hcp.out.1, ← htD]; rfl, fun q hq => ?_⟩
          simp only [List.mem_append, List.mem_singleton] at hq
          rcases hq with hq | rfl
          · exact ((hcp.out.2 q hq).keep hb1).kept hgr (by omega)
          · refine VolR.own.kept (w := w1) ?_ hgr (by omega)
            obtain ⟨g, h1, h2, h3, h4⟩ := hto
            exact ⟨g, h1, by omega, h3, h4⟩
        have hl' : (us ++ [t] : List VolR).length = k + 1 := by simp [htk]
        obtain ⟨tid, tname, tro, tlimit, ta, tc, tnx, trs⟩ := t
        dsimp only at hst hbel' hcp'
        obtain ⟨n2, hn2⟩ : ∃ n, trs.length = n := ⟨_, rfl⟩
        dsimp only
        rw [hn2] at hst hbel' hcp' ⊢
        clear hown hbel hcp ho1 hb1 hbel1 hgr hcall hzk hto htD hn2
        unfold volZ at q0 q1 q2 q3 q4 q5
        dsimp only [List.length_nil] at q0 q1 q2 q3 q4 q5
        go_wp2
        go_roundw
        case rel => exact ⟨k + 1, _, by omega, by go_num, hl', hcp', hst, hbel'⟩
        case measure => simp [intOf]; omega
      · go_wp2
        go_ret
        obtain rfl : k = n := by omega
        have := hcp.out
        rw [List.take_of_length_le (by rw [hn'.out]; omega)] at this
        rw [Nat.sub_self, List.replicate_zero, List.append_nil] at hown
        exact ⟨us, rfl, this, hown, hbel⟩
/-- A file system copied: the row g, at or behind B; the copies' data are vs's. -/
structure FsQ (w : World) (B g n : Nat) (vs us : List VolR) : Prop where
  at_ : B ≤ g
  len : vs.length = n
  cpd : CpdV w (g + 1) vs us
  own : OwnVo w g n n us
theorem FsQ.keep {w w' : World} {B g n : Nat} {vs us : List VolR} (h : FsQ w B g n vs us) (hb : Below w.heap.size w w') : FsQ w' B g n vs us := ⟨h.at_, h.len, h.cpd.keep hb, h.own.keep hb⟩
theorem FsQ.rd {w : World} {B g n : Nat} {vs us : List VolR} (h : FsQ w B g n vs us) : RdVo w (some ⟨g, 0, none⟩) us := h.own.rd h.cpd.2
theorem FsQ.tlen {w : World} {B g n : Nat} {vs us : List VolR} (h : FsQ w B g n vs us) : us.length = n := h.own.len
theorem sameV_small {r t : VolR} (h : SameV r t) (hs : VolSmall r) : VolSmall t := by
  refine ⟨by rw [h.name]; exact hs.name, by rw [h.len]; exact hs.len, fun q hq => ?_⟩
  have h1 : q.D ∈ t.rs.map InoR.D := List.mem_map_of_mem hq
  rw [h.rs] at h1
  obtain ⟨p, hp, e⟩ := List.mem_map.1 h1
  rw [← e]
  exact hs.ino p hp
theorem smallV_of {vs us : List VolR} (h : us.map VolR.D = vs.map VolR.D) (hs : ∀ r ∈ vs, VolSmall r) : ∀ r ∈ us, VolSmall r := fun r hr => by
  have h1 : r.D ∈ us.map VolR.D := List.mem_map_of_mem hr
  rw [h] at h1
  obtain ⟨p, hp, e⟩ := List.mem_map.1 h1
  exact sameV_small (SameV.of e.symm) (hs p hp)
theorem FsQ.small {w : World} {B g n : Nat} {vs us : List VolR} (h : FsQ w B g n vs us) (hs : ∀ r ∈ vs, VolSmall r) : ∀ r ∈ us, VolSmall r := smallV_of h.cpd.1 hs
set_option maxHeartbeats 1600000 in
theorem toFsQ (a : Option Addr) (n cap : Nat) (nx : Int) (vs : List VolR) (w : World) (hn : vs.length = n) (hs : n ≤ 1048576) (hsm : ∀ r ∈ vs, VolSmall r) (hr : RdVo w a vs) :
    Calls Tryz.prog 7 #[.agg #[.slice a n cap, .int .i64 nx]] w fun e w' => ∃ g us, e = .returned (.agg #[.slice (some ⟨g, 0, none⟩) n n, .int .i64 nx]) ∧ FsQ w' w.heap.size g n vs us ∧ Below w.heap.size w w' := by
  have B0 : Below w.heap.size w (((w.alloc (.cells #[.slice a n cap, .int .i64 nx] 24)).alloc (.cells #[.slice none 0 0, .int .i64 0] 29)).alloc (.cells #[.slice none 0 0, .int .i64 0] 29)) := (((Below.refl _ w).alloc (Nat.le_refl _) _).alloc (by simp) _).alloc (by simp; omega) _
  have z0 : Blk (((w.alloc (.cells #[.slice a n cap, .int .i64 nx] 24)).alloc (.cells #[.slice none 0 0, .int .i64 0] 29)).alloc (.cells #[.slice none 0 0, .int .i64 0] 29)) w.heap.size 24 #[.slice a n cap, .int .i64 nx] := ((Blk.new w 24 _).alloc _).alloc _
  have z1 := (Blk.new (w.alloc (.cells #[.slice a n cap, .int .i64 nx] 24)) 29 #[.slice none 0 0, .int .i64 0]).alloc (.cells #[.slice none 0 0, .int .i64 0] 29)
  have z2 := Blk.new ((w.alloc (.cells #[.slice a n cap, .int .i64 nx] 24)).alloc (.cells #[.slice none 0 0, .int .i64 0] 29)) 29 #[.slice none 0 0, .int .i64 0]
  have hs0 : (((w.alloc (.cells #[.slice a n cap, .int .i64 nx] 24)).alloc (.cells #[.slice none 0 0, .int .i64 0] 29)).alloc (.cells #[.slice none 0 0, .int .i64 0] 29)).heap.size = w.heap.size + 1 + 1 + 1 := by simp
  simp only [World.size_alloc] at z1 z2
  have hcall := toVolS_any a n cap vs _ hn hs hsm (hr.keep B0)
  have HN0 : Hid _ := hn
  clear hsm hr hn
  go_enter Tryz.func7, Tryz.ntmps7
  go_wp2_with fail
  refine hcall.mono ?_
  rintro e w1 ⟨ts, rfl, hcp, ho, hb1⟩
  have B1 := B0.trans (hb1.mono B0.size)
  have y0 := z0.keep hb1
  have y1 := z1.keep hb1
  have y2 := z2.keep hb1
  rw [hs0] at hcp ho ⊢
  clear z0 z1 z2 hcall hb1 B0
  obtain ⟨H, hH⟩ : ∃ H, w.heap.size = H := ⟨_, rfl⟩
  rw [hH] at y0 y1 y2 hcp ho B1 ⊢
  have x0 := y0.cell 1
  have x2 := y2.cell 0
  have x3 := y2.cell 1
  have f2 := y2.frozen 0
  have f3 := y2.frozen 1
  have u2 := (y2.set 0 (.slice (some ⟨H + 1 + 1 + 1, 0, none⟩) n n)).set 1 (.int .i64 nx)
  have u1 := (y1.other (B' := H + 1 + 1) (by omega) 0 (.slice (some ⟨H + 1 + 1 + 1, 0, none⟩) n n)).other (B' := H + 1 + 1) (by omega) 1 (.int .i64 nx)
  have c10 := u1.cell 0
  have c11 := u1.cell 1
  have f10 := u1.frozen 0
  have f11 := u1.frozen 1
  have d0 := ((u1.set 0 (.slice (some ⟨H + 1 + 1 + 1, 0, none⟩) n n)).set 1 (.int .i64 nx)).cell 0
  have d1 := ((u1.set 0 (.slice (some ⟨H + 1 + 1 + 1, 0, none⟩) n n)).set 1 (.int .i64 nx)).cell 1
  have c20 := u2.cell 0
  have c21 := u2.cell 1
  simp at x0 x2 x3 c10 c11 d0 d1 c20 c21
  have HNL : Hid (vs.length = n) := HN0.out
  have HF : Hid (CpdV w1 (H + 1 + 1 + 1 + 1) vs ts ∧ OwnVo w1 (H + 1 + 1 + 1) n n ts ∧ Below H w w1) := ⟨hcp, ho, B1⟩
  clear hcp ho B1 y0 y1 y2 u1 u2
  go_wp2
  refine bodyPost_ret (v := .agg #[.slice (some ⟨H + 1 + 1 + 1, 0, none⟩) n n, .int .i64 nx]) (by simp [results, Tryz.f7, go_sem, d0, d1]) rfl ?_
  obtain ⟨hcp, ho, B1⟩ := HF.out
  have k1 := gr_setC w1 (H + 1 + 1) 0 (.slice (some ⟨H + 1 + 1 + 1, 0, none⟩) n n)
  have k2 := gr_setC (w1.setCell ⟨H + 1 + 1, 0, none⟩ (.slice (some ⟨H + 1 + 1 + 1, 0, none⟩) n n)) (H + 1 + 1) 1 (.int .i64 nx)
  have k3 := gr_setC ((w1.setCell ⟨H + 1 + 1, 0, none⟩ (.slice (some ⟨H + 1 + 1 + 1, 0, none⟩) n n)).setCell ⟨H + 1 + 1, 1, none⟩ (.int .i64 nx)) (H + 1) 0 (.slice (some ⟨H + 1 + 1 + 1, 0, none⟩) n n)
  have k4 := gr_setC (((w1.setCell ⟨H + 1 + 1, 0, none⟩ (.slice (some ⟨H + 1 + 1 + 1, 0, none⟩) n n)).setCell ⟨H + 1 + 1, 1, none⟩ (.int .i64 nx)).setCell ⟨H + 1, 0, none⟩ (.slice (some ⟨H + 1 + 1 + 1, 0, none⟩) n n)) (H + 1) 1 (.int .i64 nx)
  refine ⟨H + 1 + 1 + 1, ts, rfl, ⟨by omega, HNL.out, ⟨hcp.1, fun r hr => ((((hcp.2 r hr).kept k1 (by omega)).kept k2 (by omega)).kept k3 (by omega)).kept k4 (by omega)⟩, (((ho.kept k1 (by omega)).kept k2 (by omega)).kept k3 (by omega)).kept k4 (by omega)⟩, ?_⟩
  rw [hH]
  exact (((B1.setCell (p := ⟨H + 1 + 1, 0, none⟩) (by simp only; omega) _).setCell (p := ⟨H + 1 + 1, 1, none⟩) (by simp only; omega) _).setCell (p := ⟨H + 1, 0, none⟩) (by simp only; omega) _).setCell (p := ⟨H + 1, 1, none⟩) (by simp only; omega) _
/-- eqFs of two copies. -/
theorem eqFsQ (B B' g g' n cap cap' : Nat) (nx : Int) (vs us us' : List VolR) (w : World) (hs : n ≤ 1048576) (hsm : ∀ r ∈ vs, VolSmall r) (h : FsQ w B g n vs us) (h' : FsQ w B' g' n vs us') :
    Calls Tryz.prog 9 #[.agg #[.slice (some ⟨g, 0, none⟩) n cap, .int .i64 nx], .agg #[.slice (some ⟨g', 0, none⟩) n cap', .int .i64 nx]] w fun e w' => e = .returned (.bool true) ∧ Below w.heap.size w w' :=
  eqFs_same _ _ n cap cap' nx us us' w h.tlen (by omega) (by rw [h'.cpd.1, h.cpd.1]) (h.small hsm) h.rd h'.rd
end

section
open Go.RowKit
/-- The place of the first one, or -1. -/
def ixV (p : VolD → Bool) (ds : List VolD) : Int := match ds.findIdx? p with | some k => (k : Int) | none => -1
theorem ixV_at {p : VolD → Bool} {vs : List VolR} {k : Nat} {r : VolR} (hk : vs[k]? = some r) (h : p r.D = true) (ha : ∀ (j : Nat) (q : VolR), j < k → vs[j]? = some q → p q.D = false) : ixV p (vs.map VolR.D) = (k : Int) := by
  unfold ixV
  obtain ⟨hkl, hkr⟩ := List.getElem?_eq_some_iff.1 hk
  have : (vs.map VolR.D).findIdx? p = some k := List.findIdx?_eq_some_iff_getElem.2 ⟨by simpa using hkl, by simp [hkr, h], fun j hj => by
    have hjl : j < vs.length := by omega
    simp [ha j vs[j] hj (List.getElem?_eq_getElem hjl)]⟩
  rw [this]
theorem ixV_none {p : VolD → Bool} {vs : List VolR} (ha : ∀ (j : Nat) (q : VolR), vs[j]? = some q → p q.D = false) : ixV p (vs.map VolR.D) = -1 := by
  unfold ixV
  have : (vs.map VolR.D).findIdx? p = none := List.findIdx?_eq_none_iff.2 fun d hd => by
    obtain ⟨q, hq, rfl⟩ := List.mem_map.1 hd
    obtain ⟨j, hj⟩ := List.getElem?_of_mem hq
    exact ha j q hj
  rw [this]
/-- By its number. -/
def volAt (ds : List VolD) (x : Int) : Int := ixV (fun d => (d.id == x)) ds
set_option maxHeartbeats 1600000 in
theorem volAtS (a : Option Addr) (n cap : Nat) (nx : Int) (vs : List VolR) (x : Int) (w : World) (hn : vs.length = n) (hs : n ≤ 4000000) (hr : RdVo w a vs) :
    Calls Tryz.prog 91 #[.agg #[.slice a n cap, .int .i64 nx], .int .i64 x] w fun e w' => e = .returned (.int .i64 (volAt (vs.map VolR.D) x)) ∧ Below w.heap.size w w' := by
  have B0 : Below w.heap.size w (w.alloc (.cells #[.slice a n cap, .int .i64 nx] 29)) := (Below.refl _ w).alloc (Nat.le_refl _) _
  have z0 := Blk.new w 29 #[.slice a n cap, .int .i64 nx]
  have hY : Hid (∀ (k : Nat) (r : VolR), (∀ (j : Nat) (q : VolR), j < k → vs[j]? = some q → (q.id == x) = false) → vs[k]? = some r → (r.id == x) = true → (k : Int) = volAt (vs.map VolR.D) x) := fun k r h hk he => (ixV_at hk he h).symm
  have hE : Hid ((∀ (j : Nat) (q : VolR), j < n → vs[j]? = some q → (q.id == x) = false) → (-1 : Int) = volAt (vs.map VolR.D) x) := fun h => (ixV_none fun j q hq => h j q (by rw [← hn]; exact (List.getElem?_eq_some_iff.1 hq).1) hq).symm
  generalize volAt (vs.map VolR.D) x = R at hY hE ⊢
  have HR : Hid _ := hr
  have hn' : Hid (vs.length = n) := hn
  clear hr hn
  go_enter Tryz.func91, Tryz.ntmps91
  go_wp2
  obtain ⟨W0, hW0⟩ : ∃ W, w.alloc (.cells #[.slice a n cap, .int .i64 nx] 29) = W := ⟨_, rfl⟩
  rw [hW0] at B0 z0 ⊢
  clear hW0
  go_loopw [5] (fun i wr => ∃ k : Nat, k ≤ n ∧ i = .int .i64 k ∧ Hid (∀ (j : Nat) (q : VolR), j < k → vs[j]? = some q → (q.id == x) = false) ∧ W0 = wr) (fun i _ => n - (intOf i).toNat)
  case atStart => exact ⟨0, Nat.zero_le _, rfl, fun j q hj => by omega, rfl⟩
  case round =>
    obtain ⟨k, hk, rfl, hall, hw⟩ := hrel
    subst hw
    have t0 := z0.cell 0
    simp at t0
    by_cases hkn : k < n
    · have hki : (k : Int) < (n : Int) := by omega
      obtain ⟨r, hrk⟩ : ∃ r, vs[k]? = some r := ⟨_, List.getElem?_eq_getElem (by rw [hn'.out]; exact hkn)⟩
      obtain ⟨b, off, rfl, hlt, hc⟩ := (RdVo.keep HR.out B0).lt (by intro h; have := hn'.out; rw [h] at this; simp at this; omega)
      obtain ⟨⟨x0, x1, x2, x3, x4, x5⟩, _⟩ := hc k r hrk
      have hyes : Hid ((r.id == x) = true → (k : Int) = R) := fun he => hY.out k r hall.out hrk he
      have hno : Hid ((r.id == x) = false → ∀ (j : Nat) (q : VolR), j < k + 1 → vs[j]? = some q → (q.id == x) = false) := by
        intro he j q hj hq
        rcases (show j < k ∨ j = k by omega) with h | rfl
        · exact hall.out j q h hq
        · rw [hrk] at hq
          simp at hq
          rw [← hq]
          exact he
      obtain ⟨id, name, ro, limit, ra, rc, rnx, rr⟩ := r
      dsimp only at x0 x1 x2 x3 x4 x5 hyes hno
      clear hc hrk hall hY hE HR x2 x3 x4 x5
      cases he : (id == x) with
      | true =>
        have hend : Hid ((k : Int) = R) := hyes.out he
        clear hyes hno
        go_wp2
        go_ret
        exact ⟨ret_int hend.out, B0⟩
      | false =>
        have hnx : Hid _ := hno.out he
        clear hyes hno
        go_wp2
        go_roundw
        case rel => exact ⟨k + 1, by omega, by go_num, hnx, (by first | rfl | trivial)⟩
        case measure => simp [intOf]; omega
    · have hki : ¬ (k : Int) < (n : Int) := by omega
      have hend : Hid ((-1 : Int) = R) := hE.out (fun j q hj hq => hall.out j q (by omega) hq)
      clear hY hE HR hall
      go_wp2
      go_ret
      exact ⟨ret_int hend.out, B0⟩
/-- By its name. -/
def volNm (ds : List VolD) (x : ByteArray) : Int := ixV (fun d => (d.name.toList == x.toList)) ds
set_option maxHeartbeats 1600000 in
theorem volNmS (a : Option Addr) (n cap : Nat) (nx : Int) (vs : List VolR) (x : ByteArray) (w : World) (hn : vs.length = n) (hs : n ≤ 4000000) (hr : RdVo w a vs) :
    Calls Tryz.prog 20 #[.agg #[.slice a n cap, .int .i64 nx], .string x] w fun e w' => e = .returned (.int .i64 (volNm (vs.map VolR.D) x)) ∧ Below w.heap.size w w' := by
  have B0 : Below w.heap.size w (w.alloc (.cells #[.slice a n cap, .int .i64 nx] 29)) := (Below.refl _ w).alloc (Nat.le_refl _) _
  have z0 := Blk.new w 29 #[.slice a n cap, .int .i64 nx]
  have hY : Hid (∀ (k : Nat) (r : VolR), (∀ (j : Nat) (q : VolR), j < k → vs[j]? = some q → (q.name.toList == x.toList) = false) → vs[k]? = some r → (r.name.toList == x.toList) = true → (k : Int) = volNm (vs.map VolR.D) x) := fun k r h hk he => (ixV_at hk he h).symm
  have hE : Hid ((∀ (j : Nat) (q : VolR), j < n → vs[j]? = some q → (q.name.toList == x.toList) = false) → (-1 : Int) = volNm (vs.map VolR.D) x) := fun h => (ixV_none fun j q hq => h j q (by rw [← hn]; exact (List.getElem?_eq_some_iff.1 hq).1) hq).symm
  generalize volNm (vs.map VolR.D) x = R at hY hE ⊢
  have HR : Hid _ := hr
  have hn' : Hid (vs.length = n) := hn
  clear hr hn
  go_enter Tryz.func20, Tryz.ntmps20
  go_wp2
  obtain ⟨W0, hW0⟩ : ∃ W, w.alloc (.cells #[.slice a n cap, .int .i64 nx] 29) = W := ⟨_, rfl⟩
  rw [hW0] at B0 z0 ⊢
  clear hW0
  go_loopw [5] (fun i wr => ∃ k : Nat, k ≤ n ∧ i = .int .i64 k ∧ Hid (∀ (j : Nat) (q : VolR), j < k → vs[j]? = some q → (q.name.toList == x.toList) = false) ∧ W0 = wr) (fun i _ => n - (intOf i).toNat)
  case atStart => exact ⟨0, Nat.zero_le _, rfl, fun j q hj => by omega, rfl⟩
  case round =>
    obtain ⟨k, hk, rfl, hall, hw⟩ := hrel
    subst hw
    have t0 := z0.cell 0
    simp at t0
    by_cases hkn : k < n
    · have hki : (k : Int) < (n : Int) := by omega
      obtain ⟨r, hrk⟩ : ∃ r, vs[k]? = some r := ⟨_, List.getElem?_eq_getElem (by rw [hn'.out]; exact hkn)⟩
      obtain ⟨b, off, rfl, hlt, hc⟩ := (RdVo.keep HR.out B0).lt (by intro h; have := hn'.out; rw [h] at this; simp at this; omega)
      obtain ⟨⟨x0, x1, x2, x3, x4, x5⟩, _⟩ := hc k r hrk
      have hyes : Hid ((r.name.toList == x.toList) = true → (k : Int) = R) := fun he => hY.out k r hall.out hrk he
      have hno : Hid ((r.name.toList == x.toList) = false → ∀ (j : Nat) (q : VolR), j < k + 1 → vs[j]? = some q → (q.name.toList == x.toList) = false) := by
        intro he j q hj hq
        rcases (show j < k ∨ j = k by omega) with h | rfl
        · exact hall.out j q h hq
        · rw [hrk] at hq
          simp at hq
          rw [← hq]
          exact he
      obtain ⟨id, name, ro, limit, ra, rc, rnx, rr⟩ := r
      dsimp only at x0 x1 x2 x3 x4 x5 hyes hno
      clear hc hrk hall hY hE HR x2 x3 x4 x5
      cases he : (name.toList == x.toList) with
      | true =>
        have hend : Hid ((k : Int) = R) := hyes.out he
        clear hyes hno
        go_wp2
        go_ret
        exact ⟨ret_int hend.out, B0⟩
      | false =>
        have hnx : Hid _ := hno.out he
        clear hyes hno
        go_wp2
        go_roundw
        case rel => exact ⟨k + 1, by omega, by go_num, hnx, (by first | rfl | trivial)⟩
        case measure => simp [intOf]; omega
    · have hki : ¬ (k : Int) < (n : Int) := by omega
      have hend : Hid ((-1 : Int) = R) := hE.out (fun j q hj hq => hall.out j q (by omega) hq)
      clear hY hE HR hall
      go_wp2
      go_ret
      exact ⟨ret_int hend.out, B0⟩
set_option maxHeartbeats 1600000 in
theorem closNm (r : VolR) (x : ByteArray) (X : Nat) (w : World) (hX : w.cell? ⟨X, 0, none⟩ = some (.string x)) :
    Calls Tryz.prog 52 #[r.v, .pointer (some ⟨X, 0, none⟩)] w fun e w' => e = .returned (.bool (r.name.toList == x.toList)) ∧ Below w.heap.size w w' := by
  unfold VolR.v
  have hlt := World.block_lt_of_cell? w _ hX
  have b0 : Below w.heap.size w (w.alloc (.cells #[.int .i64 r.id, .string r.name, .bool r.ro, .int .i64 r.limit, .slice r.a r.rs.length r.cap, .int .i64 r.nx] 49)) := (Below.refl _ w).alloc (Nat.le_refl _) _
  have hX' := (b0.cell (p := ⟨X, 0, none⟩) hlt).trans hX
  have z0 := Blk.new w 49 #[.int .i64 r.id, .string r.name, .bool r.ro, .int .i64 r.limit, .slice r.a r.rs.length r.cap, .int .i64 r.nx]
  have y0 := z0.cell 0
  have y1 := z0.cell 1
  simp at y0 y1
  have HB : Hid _ := b0
  clear hX b0 z0
  go_enter Tryz.func52, Tryz.ntmps52
  go_wp2
  go_ret
  exact ⟨rfl, HB.out⟩
set_option maxRecDepth 100000 in
set_option maxHeartbeats 2000000 in
theorem indexNm (a : Option Addr) (n cap : Nat) (vs : List VolR) (x : ByteArray) (X : Nat) (w : World) (hn : vs.length = n) (hs : n ≤ 4000000) (hr : RdVo w a vs) (hX : w.cell? ⟨X, 0, none⟩ = some (.string x)) :
    Calls Tryz.prog 51 #[.slice a n cap, .func (.func 52) #[] #[.pointer (some ⟨X, 0, none⟩)]] w fun e w' => e = .returned (.int .i64 (volNm (vs.map VolR.D) x)) ∧ Below w.heap.size w w' := by
  have hXlt := World.block_lt_of_cell? w _ hX
  have HR : Hid _ := hr
  have HX : Hid _ := hX
  have hn' : Hid (vs.length = n) := hn
  have hY : Hid (∀ (k : Nat) (r : VolR), (∀ (j : Nat) (q : VolR), j < k → vs[j]? = some q → (q.name.toList == x.toList) = false) → vs[k]? = some r → (r.name.toList == x.toList) = true → (k : Int) = volNm (vs.map VolR.D) x) := fun k r h hk he => (ixV_at hk he h).symm
  have hE : Hid ((∀ (j : Nat) (q : VolR), j < n → vs[j]? = some q → (q.name.toList == x.toList) = false) → (-1 : Int) = volNm (vs.map VolR.D) x) := fun h => (ixV_none fun j q hq => h j q (by rw [← hn]; exact (List.getElem?_eq_some_iff.1 hq).1) hq).symm
  generalize volNm (vs.map VolR.D) x = R at hY hE ⊢
  clear hr hn hX
  go_enter Tryz.func51, Tryz.ntmps51
  go_wp2
  go_loopw [8] (fun i wr => ∃ k : Nat, k ≤ n ∧ i = .int .i64 k ∧ Hid (∀ (j : Nat) (q : VolR), j < k → vs[j]? = some q → (q.name.toList == x.toList) = false) ∧ Below w.heap.size w wr) (fun i _ => n - (intOf i).toNat)
  case atStart => exact ⟨0, Nat.zero_le _, rfl, fun j q hj => by omega, Below.refl _ _⟩
  case round =>
    obtain ⟨k, hk, rfl, hall, hB⟩ := hrel
    by_cases hkn : k < n
    · have hki : (k : Int) < (n : Int) := by omega
      obtain ⟨r, hrk⟩ : ∃ r, vs[k]? = some r := ⟨_, List.getElem?_eq_getElem (by rw [hn'.out]; exact hkn)⟩
      obtain ⟨b, off, rfl, hlt, hc⟩ := (RdVo.keep HR.out hB).lt (by intro h; have := hn'.out; rw [h] at this; simp at this; omega)
      obtain ⟨⟨x0, x1, x2, x3, x4, x5⟩, _⟩ := hc k r hrk
      have hcc := closNm r x X wr ((hB.cell (p := ⟨X, 0, none⟩) hXlt).trans HX.out)
      unfold VolR.v at hcc
      have hyes : Hid ((r.name.toList == x.toList) = true → (k : Int) = R) := fun he => hY.out k r hall.out hrk he
      have hno : Hid ((r.name.toList == x.toList) = false → ∀ (j : Nat) (q : VolR), j < k + 1 → vs[j]? = some q → (q.name.toList == x.toList) = false) := by
        intro he j q hj hq
        rcases (show j < k ∨ j = k by omega) with h | rfl
        · exact hall.out j q h hq
        · rw [hrk] at hq
          simp at hq
          rw [← hq]
          exact he
      obtain ⟨id, name, ro, limit, ra, rc, rnx, rr⟩ := r
      dsimp only at x0 x1 x2 x3 x4 x5 hyes hno hcc
      obtain ⟨n1, hn1⟩ : ∃ n, rr.length = n := ⟨_, rfl⟩
      rw [hn1] at x4 hcc
      clear hc hrk hall hY hE HR HX hn1
      cases he : (name.toList == x.toList) with
      | true =>
        have hend : Hid ((k : Int) = R) := hyes.out he
        rw [he] at hcc
        clear hyes hno he
        go_wp2_with (go_at_call 52; (with_reducible refine hcc.mono ?_); rintro e w1 ⟨rfl, b1⟩)
        go_ret
        exact ⟨ret_int hend.out, hB.trans (b1.mono hB.size)⟩
      | false =>
        have hnx : Hid _ := hno.out he
        rw [he] at hcc
        clear hyes hno he
        go_wp2_with (go_at_call 52; (with_reducible refine hcc.mono ?_); rintro e w1 ⟨rfl, b1⟩)
        go_roundw
        case rel => exact ⟨k + 1, by omega, by go_num, hnx, hB.trans (b1.mono hB.size)⟩
        case measure => simp [intOf]; omega
    · have hki : ¬ (k : Int) < (n : Int) := by omega
      have hend : Hid ((-1 : Int) = R) := hE.out (fun j q hj hq => hall.out j q (by omega) hq)
      clear hY hE HR hall HX
      go_wp2
      go_ret
      exact ⟨ret_int hend.out, hB⟩
set_option maxHeartbeats 1600000 in
theorem volNmI (a : Option Addr) (n cap : Nat) (nx : Int) (vs : List VolR) (x : ByteArray) (w : World) (hn : vs.length = n) (hs : n ≤ 4000000) (hr : RdVo w a vs) :
    Calls Tryz.prog 26 #[.agg #[.slice a n cap, .int .i64 nx], .string x] w fun e w' => e = .returned (.int .i64 (volNm (vs.map VolR.D) x)) ∧ Below w.heap.size w w' := by
  have B0 : Below w.heap.size w ((w.alloc (.cells #[.slice a n cap, .int .i64 nx] 29)).alloc (.cells #[.string x] 9)) := ((Below.refl _ w).alloc (Nat.le_refl _) _).alloc (by simp) _
  have zx := (Blk.new (w.alloc (.cells #[.slice a n cap, .int .i64 nx] 29)) 9 #[.string x]).cell 0
  simp only [World.size_alloc] at zx
  have hc := indexNm a n cap vs x (w.heap.size + 1) _ hn hs (hr.keep B0) zx
  generalize volNm (vs.map VolR.D) x = R at hc ⊢
  have HB : Hid _ := B0
  clear hr hn B0
  go_enter Tryz.func26, Tryz.ntmps26
  go_wp2_with fail
  (with_reducible refine hc.mono ?_)
  rintro e w1 ⟨rfl, b1⟩
  go_wp2
  go_ret
  exact ⟨rfl, HB.out.trans (b1.mono HB.out.size)⟩
end
end Go.Proofs.YtfjlemnohjnkhaaGreat
