/-
  Joined: VolM, EqFs.
-/
import Derived.Test.YteefhgbbanpniaaMarkGII
import Derived.Test.YteefhgbbanpniaaEqTabI
import Derived.Deep.AppendSrc
import Derived.Maps.OwnSet
import Derived.Maps.OwnOps
import Derived.Deep.RegionLaw
import Derived.Lib.Slices
import Derived.Lib.Walk
import Derived.Lib.Bytealg
import Derived.Lib.IndexLaws
import Derived.Lib.BufferWrite
import Derived.Lib.UnsafeStr
import Derived.Laws.MakeOwn
import Derived.Laws.Strings3
import Derived.RangeFuncBox
import Derived.RangeFuncNested
import Derived.RangeFuncBound
import Derived.RangeFuncCalls
import Derived.RangeFuncLeaves
import Derived.Shelf.Abstract
import Derived.Shelf.RegionOpen
import Derived.OwnWalkIn
import Derived.TacticsInMore
import Derived.LoopNIn
import Derived.LoopIn
namespace Go.Proofs.Yteefhgbbanpniaa
section
open Go.RowKit
/-- What a volume says. -/
structure VolD where
  id : Int
  name : ByteArray
  ro : Bool
  limit : Int
  nx : Int
  ds : List InoD
/-- A volume, and where its table's lists lie. -/
structure VolR where
  id : Int
  name : ByteArray
  ro : Bool
  limit : Int
  a : Option Addr
  cap : Nat
  nx : Int
  rs : List InoR
def VolR.D (r : VolR) : VolD := ⟨r.id, r.name, r.ro, r.limit, r.nx, r.rs.map InoR.D⟩
def VolR.v (r : VolR) : Value := .agg #[.int .i64 r.id, .string r.name, .bool r.ro, .int .i64 r.limit, .slice r.a r.rs.length r.cap, .int .i64 r.nx]
def VolR.rd (w : World) (r : VolR) : Prop := RdI w r.a r.rs
theorem VolR.rd.keep {w w' : World} {r : VolR} (h : r.rd w) (hb : Below w.heap.size w w') : r.rd w' := RdI.keep h hb
/-- The six cells of a volume. -/
def VolR.six (r : VolR) : List Value := [.int .i64 r.id, .string r.name, .bool r.ro, .int .i64 r.limit, .slice r.a r.rs.length r.cap, .int .i64 r.nx]
/-- The six cells of a volume from an address on. -/
structure SixV (w : World) (b off : Nat) (r : VolR) : Prop where
  c0 : w.cell? ⟨b, off, none⟩ = some (.int .i64 r.id)
  c1 : w.cell? ⟨b, off + 1, none⟩ = some (.string r.name)
  c2 : w.cell? ⟨b, off + 2, none⟩ = some (.bool r.ro)
  c3 : w.cell? ⟨b, off + 3, none⟩ = some (.int .i64 r.limit)
  c4 : w.cell? ⟨b, off + 4, none⟩ = some (.slice r.a r.rs.length r.cap)
  c5 : w.cell? ⟨b, off + 5, none⟩ = some (.int .i64 r.nx)
theorem SixV.keep {w w' : World} {b off B : Nat} {r : VolR} (h : SixV w b off r) (hb : Below B w w') (hlt : b < B) : SixV w' b off r :=
  ⟨(hb.cell hlt).trans h.c0, (hb.cell hlt).trans h.c1, (hb.cell hlt).trans h.c2, (hb.cell hlt).trans h.c3, (hb.cell hlt).trans h.c4, (hb.cell hlt).trans h.c5⟩
theorem SixV.lt {w : World} {b off : Nat} {r : VolR} (h : SixV w b off r) : b < w.heap.size := World.block_lt_of_cell? w _ h.c0
/-- The volumes rs can be read from the address a on. -/
def RdVo (w : World) (a : Option Addr) (rs : List VolR) : Prop :=
  rs = [] ∨ ∃ b off, a = some ⟨b, off, none⟩ ∧ ∀ i r, rs[i]? = some r → SixV w b (off + i * 6) r ∧ r.rd w
theorem RdVo.lt {w : World} {a : Option Addr} {rs : List VolR} (h : RdVo w a rs) (hz : rs ≠ []) : ∃ b off, a = some ⟨b, off, none⟩ ∧ b < w.heap.size ∧ ∀ i r, rs[i]? = some r → SixV w b (off + i * 6) r ∧ r.rd w := by
  rcases h with h | ⟨b, off, rfl, hc⟩
  · exact absurd h hz
  · obtain ⟨r, l, rfl⟩ := List.exists_cons_of_ne_nil hz
    exact ⟨b, off, rfl, (hc 0 r rfl).1.lt, hc⟩
theorem RdVo.keep {w w' : World} {a : Option Addr} {rs : List VolR} (h : RdVo w a rs) (hb : Below w.heap.size w w') : RdVo w' a rs := by
  by_cases hz : rs = []
  · exact .inl hz
  · obtain ⟨b, off, rfl, hlt, hc⟩ := h.lt hz
    exact .inr ⟨b, off, rfl, fun i r hi => ⟨(hc i r hi).1.keep hb hlt, (hc i r hi).2.keep hb⟩⟩
structure VolSmall (r : VolR) : Prop where
  name : r.name.size ≤ 1048576
  len : r.rs.length ≤ 1048576
  ino : ∀ q ∈ r.rs, InoSmall q.D
end

section
open Go.RowKit
/-- The same data, in other places. -/
structure SameV (r t : VolR) : Prop where
  id : t.id = r.id
  name : t.name = r.name
  ro : t.ro = r.ro
  limit : t.limit = r.limit
  nx : t.nx = r.nx
  rs : t.rs.map InoR.D = r.rs.map InoR.D
theorem SameV.of {r t : VolR} (h : t.D = r.D) : SameV r t := by
  unfold VolR.D at h
  simp only [VolD.mk.injEq] at h
  exact ⟨h.1, h.2.1, h.2.2.1, h.2.2.2.1, h.2.2.2.2.1, h.2.2.2.2.2⟩
theorem SameV.len {r t : VolR} (h : SameV r t) : t.rs.length = r.rs.length := by
  have := congrArg List.length h.rs
  simpa using this
set_option maxHeartbeats 1600000 in
theorem eqVol_same (r t : VolR) (w : World) (h : SameV r t) (hs : VolSmall r) (hr : r.rd w) (hr' : t.rd w) :
    Calls Try.prog 29 #[r.v, t.v] w fun e w' => e = .returned (.bool true) ∧ Below w.heap.size w w' := by
  have hl := h.len
  obtain ⟨id, name, ro, limit, a, cap, nx, rs⟩ := r
  obtain ⟨id', name', ro', limit', a', cap', nx', rs'⟩ := t
  obtain ⟨h1, h2, h3, h4, h5, h6⟩ := h
  unfold VolR.v
  unfold VolR.rd at hr hr'
  dsimp only at h1 h2 h3 h4 h5 h6 hr hr' hl ⊢
  subst h1 h2 h3 h4 h5
  obtain ⟨n, hn⟩ : ∃ n, rs.length = n := ⟨_, rfl⟩
  rw [hn] at hl
  rw [hn, hl]
  have B0 : Below w.heap.size w ((w.alloc (.cells #[.int .i64 id', .string name', .bool ro', .int .i64 limit', .slice a n cap, .int .i64 nx'] 56)).alloc (.cells #[.int .i64 id', .string name', .bool ro', .int .i64 limit', .slice a' n cap', .int .i64 nx'] 56)) := ((Below.refl _ w).alloc (Nat.le_refl _) _).alloc (by simp) _
  have z0 := (Blk.new w 56 #[.int .i64 id', .string name', .bool ro', .int .i64 limit', .slice a n cap, .int .i64 nx']).alloc (.cells #[.int .i64 id', .string name', .bool ro', .int .i64 limit', .slice a' n cap', .int .i64 nx'] 56)
  have z1 := Blk.new (w.alloc (.cells #[.int .i64 id', .string name', .bool ro', .int .i64 limit', .slice a n cap, .int .i64 nx'] 56)) 56 #[.int .i64 id', .string name', .bool ro', .int .i64 limit', .slice a' n cap', .int .i64 nx']
  simp only [World.size_alloc] at z1
  have hm : n ≤ 4000000 := by have := hs.len; dsimp only at this; omega
  have hcall := eqTab_same a a' n cap cap' nx' rs rs' _ hn hm h6 hs.ino (hr.keep B0) (hr'.keep B0)
  have hid : (id' != id') = false := by simp
  have hli : (limit' != limit') = false := by simp
  have hro : (ro' != ro') = false := by simp
  have hnm : (name'.toList == name'.toList) = true := by simp
  have hnn : (name'.toList != name'.toList) = false := by simp
  obtain ⟨q0, q1, q2, q3, q4, q5⟩ : _ ∧ _ ∧ _ ∧ _ ∧ _ ∧ _ := ⟨z0.cell 0, z0.cell 1, z0.cell 2, z0.cell 3, z0.cell 4, z0.cell 5⟩
  obtain ⟨p0, p1, p2, p3, p4, p5⟩ : _ ∧ _ ∧ _ ∧ _ ∧ _ ∧ _ := ⟨z1.cell 0, z1.cell 1, z1.cell 2, z1.cell 3, z1.cell 4, z1.cell 5⟩
  simp at q0 q1 q2 q3 q4 q5 p0 p1 p2 p3 p4 p5
  have HB : Hid _ := B0
  clear h6 hs hr hr' hn hl hm z0 z1 B0
  go_enter Try.func29, Try.ntmps29
  go_wp2_with fail
  refine hcall.mono ?_
  rintro e w1 ⟨rfl, hb1⟩
  clear q0 q1 q2 q3 q4 q5 p0 p1 p2 p3 p4 p5 hcall
  go_wp2
  go_ret
  exact ⟨rfl, HB.out.trans (hb1.mono HB.out.size)⟩
set_option maxHeartbeats 3200000 in
theorem eqVolS_same (a a' : Option Addr) (n cap cap' : Nat) (vs us : List VolR) (w : World) (hn : vs.length = n) (hs : n ≤ 4000000) (hD : us.map VolR.D = vs.map VolR.D) (hsm : ∀ r ∈ vs, VolSmall r) (hr : RdVo w a vs) (hr' : RdVo w a' us) :
    Calls Try.prog 20 #[.slice a n cap, .slice a' n cap'] w fun e w' => e = .returned (.bool true) ∧ Below w.heap.size w w' := by
  have hnt : us.length = n := by have := congrArg List.length hD; simp at this; omega
  by_cases h0 : n = 0
  · subst h0
    go_enter Try.func20, Try.ntmps20
    go_wp2
    refine wp_loop_rounds 1 ?_; rw [rounds_succ]
    go_wp2
    go_ret
    exact ⟨rfl, Below.refl _ _⟩
  · obtain ⟨b, off, rfl, hlt, hc⟩ := hr.lt (by intro h; subst h; simp at hn; omega)
    obtain ⟨b', off', rfl, hlt', hc'⟩ := hr'.lt (by intro h; subst h; simp at hnt; omega)
    have hn' : Hid (vs.length = n) := hn
    have HC : Hid _ := hc
    have HC' : Hid _ := hc'
    have HS : Hid _ := hsm
    have HD : Hid _ := hD
    clear hr hr' hn hc hc' hsm hD hnt
    go_enter Try.func20, Try.ntmps20
    go_wp2
    go_loopw [5] (fun i wr => ∃ k : Nat, k ≤ n ∧ i = .int .i64 k ∧ Below w.heap.size w wr) (fun i _ => n - (intOf i).toNat)
    case atStart => exact ⟨0, Nat.zero_le _, rfl, Below.refl _ _⟩
    case round =>
      obtain ⟨k, hk, rfl, hB⟩ := hrel
      by_cases hkn : k < n
      · have hkl : k < vs.length := by rw [hn'.out]; exact hkn
        have hki : (k : Int) < (n : Int) := by omega
        obtain ⟨r, hrk⟩ : ∃ r, vs[k]? = some r := ⟨_, List.getElem?_eq_getElem hkl⟩
        obtain ⟨t, htk, hrt⟩ : ∃ t, us[k]? = some t ∧ t.D = r.D := by
          have := congrArg (fun l => l[k]?) HD.out
          simp only [List.getElem?_map, hrk, Option.map_some] at this
          cases ht : us[k]? with
          | none => rw [ht] at this; simp at this
          | some t => rw [ht] at this; simp at this; exact ⟨t, rfl, this⟩
        obtain ⟨x6, xr⟩ := HC.out k r hrk
        obtain ⟨y6, yr⟩ := HC'.out k t htk
        have hcd := eqVol_same r t wr.drew (SameV.of hrt) (HS.out r (List.mem_of_getElem? hrk)) (xr.keep hB.drew) (yr.keep hB.drew)
        obtain ⟨x0, x1, x2, x3, x4, x5⟩ := x6.keep hB hlt
        obtain ⟨y0, y1, y2, y3, y4, y5⟩ := y6.keep hB hlt'
        unfold VolR.v at hcd
        have hwz := hB.size
        obtain ⟨id, name, ro, limit, a, cap, nx, rs⟩ := r
        obtain ⟨id', name', ro', limit', a', cap', nx', rs'⟩ := t
        dsimp only at x0 x1 x2 x3 x4 x5 y0 y1 y2 y3 y4 y5 hcd
        obtain ⟨n1, hn1⟩ : ∃ n, rs.length = n := ⟨_, rfl⟩
        obtain ⟨n2, hn2⟩ : ∃ n, rs'.length = n := ⟨_, rfl⟩
        rw [hn1] at x4 hcd
        rw [hn2] at y4 hcd
        clear x6 y6 xr yr hn1 hn2 hrk htk hrt hkl
        go_wp2
        go_region_with ((go_at_call 29; (with_reducible refine hcd.mono ?_); rintro e w1 ⟨rfl, hb1⟩))
        all_goals go_wp2
        all_goals go_roundw
        all_goals first
          | (case rel => exact ⟨k + 1, by omega, by go_num, hB.drew.trans (hb1.mono hwz)⟩)
          | (case measure => simp [intOf]; omega)
      · have hki : ¬ (k : Int) < (n : Int) := by omega
        go_wp2
        go_ret
        exact ⟨rfl, hB⟩
set_option maxHeartbeats 800000 in
theorem eqFs_same (a a' : Option Addr) (n cap cap' : Nat) (nx : Int) (vs us : List VolR) (w : World) (hn : vs.length = n) (hs : n ≤ 4000000) (hD : us.map VolR.D = vs.map VolR.D) (hsm : ∀ r ∈ vs, VolSmall r) (hr : RdVo w a vs) (hr' : RdVo w a' us) :
    Calls Try.prog 11 #[.agg #[.slice a n cap, .int .i64 nx], .agg #[.slice a' n cap', .int .i64 nx]] w fun e w' => e = .returned (.bool true) ∧ Below w.heap.size w w' := by
  have B0 : Below w.heap.size w ((w.alloc (.cells #[.slice a n cap, .int .i64 nx] 24)).alloc (.cells #[.slice a' n cap', .int .i64 nx] 24)) := ((Below.refl _ w).alloc (Nat.le_refl _) _).alloc (by simp) _
  have z0 := (Blk.new w 24 #[.slice a n cap, .int .i64 nx]).alloc (.cells #[.slice a' n cap', .int .i64 nx] 24)
  have z1 := Blk.new (w.alloc (.cells #[.slice a n cap, .int .i64 nx] 24)) 24 #[.slice a' n cap', .int .i64 nx]
  simp only [World.size_alloc] at z1
  have hcall := eqVolS_same a a' n cap cap' vs us _ hn hs hD hsm (hr.keep B0) (hr'.keep B0)
  clear hD hsm hr hr' hn
  go_enter Try.func11, Try.ntmps11
  go_wp2_with fail
  refine hcall.mono ?_
  rintro e w1 ⟨rfl, hb1⟩
  have B1 := B0.trans (hb1.mono B0.size)
  have c0 := (z0.keep hb1).cell 1
  have c1 := (z1.keep hb1).cell 1
  simp at c0 c1
  clear hcall z0 z1 hb1
  go_wp2
  go_ret
  exact ⟨rfl, B1⟩
end
end Go.Proofs.Yteefhgbbanpniaa
