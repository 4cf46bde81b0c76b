/-
  Joined: ByNum, DropS, AtS, CloneT.
-/
import Derived.Test.YtmfimoccemgoiaaGreatDoorJ07B
import Derived.Maps.OwnSet
import Derived.Maps.OwnOps
import Derived.Deep.RegionLaw
import Derived.Lib.Slices
import Derived.Lib.Walk
import Derived.Lib.Bytealg
import Derived.Lib.IndexLaws
import Derived.Lib.BufferWrite
import Derived.Lib.UnsafeStr
import Derived.Laws.MakeOwn
import Derived.Laws.Strings3
namespace Go.Proofs.YtmfimoccemgoiaaGreatDoor
section
open Go.RowKit Go.Maps
/-- Where the first one stands. -/
def firstAt (xs : List Int) (x : Int) : Option Nat := xs.findIdx? (fun z => z == x)
theorem firstAt_snoc (xs : List Int) (y x : Int) : firstAt (xs ++ [y]) x = (firstAt xs x).or (if y = x then some xs.length else none) := by
  unfold firstAt
  rw [List.findIdx?_append]
  congr 1
  by_cases h : y = x
  · simp [h, List.findIdx?_cons]
  · simp [h, List.findIdx?_cons]
/-- The map tells of each number where the first one stands. -/
def MapIs (D : DataW Unit) (xs : List Int) : Prop :=
  IsMap D ∧ ∀ x : Int, Maps.has D (.int .i64 x) = (firstAt xs x).isSome ∧ ∀ i, firstAt xs x = some i → D.atKey (.int .i64 x) (.lit (.int .i64 0)) = .lit (.int .i64 (i : Int))
theorem mapIs_nil : MapIs (.map []) [] := ⟨isMap_empty, fun x => ⟨rfl, fun i hi => by simp [firstAt] at hi⟩⟩
theorem mapIs_old {D : DataW Unit} {xs : List Int} (h : MapIs D xs) {y : Int} (hy : Maps.has D (.int .i64 y) = true) : MapIs D (xs ++ [y]) := by
  refine ⟨h.1, fun x => ?_⟩
  obtain ⟨h1, h2⟩ := h.2 x
  rw [firstAt_snoc]
  by_cases e : y = x
  · subst e
    rw [(h.2 y).1] at hy
    obtain ⟨i, hi⟩ := Option.isSome_iff_exists.1 hy
    rw [hi] at h1 ⊢
    exact ⟨h1, fun j hj => h2 j (by rw [hi]; simpa using hj)⟩
  · rw [if_neg e, Option.or_none]
    exact ⟨h1, h2⟩
theorem mapIs_new {D : DataW Unit} {xs : List Int} (h : MapIs D xs) {y : Int} (hy : Maps.has D (.int .i64 y) = false) : MapIs (D.put (.int .i64 y) (.lit (.int .i64 (xs.length : Int)))) (xs ++ [y]) := by
  refine ⟨h.1.put _ _, fun x => ?_⟩
  obtain ⟨h1, h2⟩ := h.2 x
  rw [firstAt_snoc]
  by_cases e : y = x
  · subst e
    rw [(h.2 y).1] at hy
    have hn : firstAt xs y = none := by simpa using hy
    rw [hn, if_pos rfl, has_put_same h.1 (show WideAt.IsKeyLit (.int .i64 y) from trivial), atKey_put_same h.1 (show WideAt.IsKeyLit (.int .i64 y) from trivial)]
    exact ⟨rfl, fun i hi => by simp at hi; rw [hi]⟩
  · rw [if_neg e, Option.or_none, has_put_other (by simp; exact fun h => e h.symm), atKey_put_other (by simp; exact fun h => e h.symm)]
    exact ⟨h1, h2⟩
def inos (rs : List InoR) : List Int := rs.map fun r => r.D.ino
theorem inos_take (rs : List InoR) (k : Nat) (r : InoR) (h : rs[k]? = some r) : inos (rs.take (k + 1)) = inos (rs.take k) ++ [r.D.ino] := by
  unfold inos
  rw [List.take_add_one, h]
  simp
theorem inos_len (rs : List InoR) (k : Nat) (h : k ≤ rs.length) : (inos (rs.take k)).length = k := by simp [inos]; omega
theorem Tryz.keyInt : Keyed Tryz.prog 3 := int_keyed Tryz.underlying3
theorem Tryz.zeroInt (w : World) : (zeroValue 3).run Tryz.prog w = .ok (.int .i64 0) w := by kernel_rfl
theorem Tryz.makeHint (n : Int) (w : World) : (Instr.makeMap 112 (some (.int .i64 n))).run Tryz.prog w = .ok (.map (some w.heap.size)) (w.alloc (.map #[] 0)) := by
  simp [Instr.makeMap, run_underlying Tryz.underlying112, asInt, asIntOf, Result.andThen]
/-- What byNumber answers. -/
def ByPost (w : World) (n : Nat) (rs : List InoR) (e : Ending) (w' : World) : Prop :=
  ∃ (cnt : Nat) (D : DataW Unit), e = .returned (.map (some (w.heap.size + 1))) ∧ cnt ≤ n ∧ MapIs D (inos rs) ∧ w'.ownsMap Tryz.prog 3 (plainElem Tryz.prog 3) (w.heap.size + 1) cnt D ∧ Below w.heap.size w w'
set_option maxRecDepth 100000 in
set_option maxHeartbeats 1600000 in
theorem byNumber_any (a : Option Addr) (n cap : Nat) (nx : Int) (rs : List InoR) (w : World) (hn : rs.length = n) (hs : n ≤ 4000000) (hwf : ∀ r ∈ rs, (Lit.int .i64 r.D.ino).wf = true) (hr : RdI w a rs) :
    Calls Tryz.prog 93 #[.agg #[.slice a n cap, .int .i64 nx]] w fun e w' => ByPost w n rs e w' := by
  have hmm := Tryz.makeHint
  have B0 : Below w.heap.size w (w.alloc (.cells #[.slice a n cap, .int .i64 nx] 28)) := (Below.refl _ w).alloc (Nat.le_refl _) _
  have hs0 : (w.alloc (.cells #[.slice a n cap, .int .i64 nx] 28)).heap.size = w.heap.size + 1 := by simp
  by_cases h0 : n = 0
  · subst h0
    obtain rfl : rs = [] := List.length_eq_zero_iff.1 hn
    have z0 := Blk.new w 28 #[.slice a 0 cap, .int .i64 nx]
    have hown := World.ownsMap_made (H := Unit) (w.alloc (.cells #[.slice a 0 cap, .int .i64 nx] 28)) Tryz.prog 3 (plainElem Tryz.prog 3)
    rw [hs0] at hown
    go_enter Tryz.func93, Tryz.ntmps93
    go_wp2
    refine wp_loop_rounds 1 ?_; rw [rounds_succ]
    go_wp2
    go_ret
    exact ⟨0, _, rfl, Nat.le_refl _, mapIs_nil, hown, B0.alloc (by simp) _⟩
  · obtain ⟨b, off, rfl, hlt, hc⟩ := hr.lt (by intro h; subst h; simp at hn; omega)
    have hown := World.ownsMap_made (H := Unit) (w.alloc (.cells #[.slice (some ⟨b, off, none⟩) n cap, .int .i64 nx] 28)) Tryz.prog 3 (plainElem Tryz.prog 3)
    rw [hs0] at hown
    have hn' : Hid (rs.length = n) := hn
    have HC : Hid _ := hc
    have HW : Hid _ := hwf
    clear hr hn hc hwf
    go_enter Tryz.func93, Tryz.ntmps93
    go_wp2
    go_loopw [15] (fun i wr => ∃ (k cnt : Nat) (D : DataW Unit), k ≤ n ∧ i = .int .i64 k ∧ cnt ≤ k ∧ Hid (MapIs D (inos (rs.take k))) ∧ wr.ownsMap Tryz.prog 3 (plainElem Tryz.prog 3) (w.heap.size + 1) cnt D ∧ Below w.heap.size w wr) (fun i _ => n - (intOf i).toNat)
    case atStart => exact ⟨0, 0, _, Nat.zero_le _, rfl, Nat.le_refl _, mapIs_nil, hown, B0.alloc (by simp) _⟩
    case round =>
      obtain ⟨k, cnt, D, hk, rfl, hcnt, hM, ho, hB⟩ := hrel
      by_cases hkn : k < n
      · have hki : (k : Int) < (n : Int) := by omega
        obtain ⟨r, hrk⟩ : ∃ r, rs[k]? = some r := ⟨_, List.getElem?_eq_getElem (by rw [hn'.out]; exact hkn)⟩
        obtain ⟨x6, _⟩ := HC.out k r hrk
        have hw1 := HW.out r (List.mem_of_getElem? hrk)
        have hit := inos_take rs k r hrk
        have hil := inos_len rs k (by rw [hn'.out]; exact hk)
        obtain ⟨x0, x1, x2, x3, x4, x5⟩ := x6.keep hB hlt
        generalize r.D.ino = i1 at x0 hw1 hit
        generalize r.D.kind = i2 at x1
        generalize r.D.links = i3 at x2
        generalize r.D.data.length = n1 at x3
        generalize r.D.ents.length = n2 at x4
        generalize r.D.attrs.length = n3 at x5
        have HIT : Hid _ := hit
        have hwz := hB.size
        have hkey : keyOf Tryz.prog 3 (.int .i64 i1) = some (.int .i64 i1) := keyOf_int_mk Tryz.underlying3 hw1
        have hwk : (Lit.int .i64 (k : Int)).wf = true := WalkArith.wf_i64 (by omega)
        have hoA := ho.alloc (.cells #[.int .i64 i1, .int .i64 i2, .int .i64 i3, .slice r.a1 n1 r.c1, .slice r.a2 n2 r.c2, .slice r.a3 n3 r.c3] 68)
        have hBA := hB.alloc hwz (.cells #[.int .i64 i1, .int .i64 i2, .int .i64 i3, .slice r.a1 n1 r.c1, .slice r.a2 n2 r.c2, .slice r.a3 n3 r.c3] 68)
        have HO : Hid _ := ho
        clear hit x6 hrk ho
        cases hhas : Maps.has D (.int .i64 i1) with
        | true =>
          have hM' : Hid (MapIs D (inos (rs.take (k + 1)))) := by rw [HIT.out]; exact mapIs_old hM.out hhas
          go_wp2_with (first
            | (at_lookup; refine wpList_lookup_own_ok_int _ rfl _ _ 112 rfl 3 3 .i64 Tryz.keyInt Tryz.underlying112 Tryz.underlying3 (Tryz.zeroInt _) (w.heap.size + 1) cnt D rfl hoA _ _ rfl hkey ?_; intro c hat hwc; rw [hhas])
            | go_in)
          go_roundw
          case rel => exact ⟨k + 1, cnt, D, by omega, by go_num, by omega, hM', hoA, hBA⟩
          case measure => simp [intOf]; omega
        | false =>
          have hM' : Hid (MapIs (D.put (.int .i64 i1) (.lit (.int .i64 (k : Int)))) (inos (rs.take (k + 1)))) := by
            have := mapIs_new hM.out hhas
            rw [hil] at this
            rw [HIT.out]
            exact this
          go_wp2_with (first
            | (at_lookup; refine wpList_lookup_own_ok_int _ rfl _ _ 112 rfl 3 3 .i64 Tryz.keyInt Tryz.underlying112 Tryz.underlying3 (Tryz.zeroInt _) (w.heap.size + 1) cnt D rfl hoA _ _ rfl hkey ?_; intro c hat hwc; rw [hhas])
            | (at_mapUpdate; refine wpList_mapUpdate_own _ rfl _ _ _ 112 rfl 3 3 Tryz.keyInt Tryz.underlying112 _ (w.heap.size + 1) cnt D rfl hoA (by unfold maxLen; omega) _ _ _ rfl rfl hkey _ [] (plainElem_int Tryz.underlying3 hwk) ?_; intro w1 hown1 hgrow1)
            | go_in)
          go_roundw
          case rel => exact ⟨k + 1, cnt + 1, _, by omega, by go_num, by omega, hM', hown1, hBA.grown hgrow1 hBA.size (fun j hj => by cases hj; omega)⟩
          case measure => simp [intOf]; omega
      · have hki : ¬ (k : Int) < (n : Int) := by omega
        have hM' := hM.out
        rw [List.take_of_length_le (by rw [hn'.out]; omega)] at hM'
        have HM' : Hid _ := hM'
        clear hM'
        go_wp2
        go_ret
        exact ⟨cnt, D, rfl, by omega, HM'.out, ho, hB⟩
end

section
open Go.RowKit
theorem row_lower {B B' : Nat} {w : World} {e : TypeId} {s n : Nat} {v : Value} {xs : List Value} (h : w.ownsRow B e s v n xs) (hB : B' ≤ B) : w.ownsRow B' e s v n xs :=
  ⟨h.1, h.2.imp id (fun ⟨g, c, cur, h1, h2, rest⟩ => ⟨g, c, cur, h1, Nat.le_trans hB h2, rest⟩)⟩
theorem DQT.lower {B B' : Nat} {W : World} {v : Value} {rs : List InoR} {js : List InoJ} (h : DQT B W v rs js) (hB : B' ≤ B) : DQT B' W v rs js :=
  ⟨h.ds, row_lower h.row hB, ⟨h.jq.G, fun i j e => by have := h.jq.lo i j e; omega, h.jq.ord⟩, h.ap⟩
/-- What both DropInode functions answer. -/
def DropPost (w : World) (nx : Int) (ds : List InoR) (e : Ending) (w' : World) : Prop :=
  ∃ (a : Option Addr) (c : Nat) (js : List InoJ), e = .returned (.agg #[.slice a js.length c, .int .i64 nx]) ∧ DQT w.heap.size w' (.slice a js.length c) ds js ∧ Below w.heap.size w w'
/-- What is known while copies are appended: the argument's box, the answer's, the list's. -/
structure DX (w W : World) (X : Nat) (nx : Int) (tv v : Value) (ds : List InoR) (js : List InoJ) : Prop where
  below : Below w.heap.size w W
  tb : Blk W w.heap.size 28 #[tv, .int .i64 nx]
  res : Blk W (w.heap.size + 1) 28 #[.slice none 0 0, .int .i64 0]
  out : Blk W X 28 #[v, .int .i64 nx]
  hX : w.heap.size + 1 < X
  q : DQT (X + 1) W v ds js
theorem DX.keep {w W W' : World} {X : Nat} {nx : Int} {tv v : Value} {ds : List InoR} {js : List InoJ} (h : DX w W X nx tv v ds js) (hb : Below W.heap.size W W') : DX w W' X nx tv v ds js :=
  ⟨h.below.trans (hb.mono h.below.size), h.tb.keep hb, h.res.keep hb, h.out.keep hb, h.hX, h.q.keep hb⟩
theorem six_of_row {B : Nat} {w : World} {v : Value} {js : List InoJ} (h : w.ownsRow B 68 6 v js.length (iv (js.map InoJ.r))) : ∃ a c, v = .slice a js.length c := by
  rcases h.2 with ⟨h1, h2⟩ | ⟨g, c, cur, h1, _⟩
  · exact ⟨none, 0, by rw [h2]; exact h1⟩
  · exact ⟨_, _, h1⟩
/-- One more copy appended and stored in the list's box. -/
theorem DX.app {w W W1 W2 : World} {X : Nat} {nx : Int} {tv v : Value} {ds : List InoR} {js : List InoJ} (h : DX w W X nx tv v ds js) (hb : Below W.heap.size W W1) (r r' : InoR) (hD : r'.D = r.D) (hG : (⟨r', W.heap.size, W1.heap.size⟩ : InoJ).G W1) (o : Obj) (hg : (W1.alloc o).grownBy W2 v.ownBlock) (g n c : Nat) (hn : n = js.length + 1) (ho : W2.ownsRow (X + 1) 68 6 (.slice (some ⟨g, 0, none⟩) n c) n (iv (js.map InoJ.r) ++ r'.six)) (hat : v.ownBlock = some g ∨ g = W1.heap.size + 1) :
    Blk W2 X 28 #[v, .int .i64 nx] ∧ DX w (W2.setCell ⟨X, 0, none⟩ (.slice (some ⟨g, 0, none⟩) n c)) X nx tv (.slice (some ⟨g, 0, none⟩) n c) (ds ++ [r]) (js ++ [⟨r', W.heap.size, W1.heap.size⟩]) := by
  have hlt := h.out.lt
  have hx := h.hX
  have hv : ∀ m, v.ownBlock = some m → X + 1 ≤ m := fun m hm => (World.ownsRow.lt h.q.row m hm).1
  have h1 := h.keep (hb.trans (((Below.refl _ W1).alloc (Nat.le_refl _) o).mono hb.size))
  have kb : ∀ b, b ≤ X → b < (W1.alloc o).heap.size → W2.heap[b]? = (W1.alloc o).heap[b]? := fun b hbX hbl => hg.block b hbl (fun e => by have := hv b e.symm; omega)
  have hl1 := h1.out.lt
  have t2 : Blk W2 w.heap.size 28 #[tv, .int .i64 nx] := (kb _ (by omega) h1.tb.lt).trans h1.tb
  have r2 : Blk W2 (w.heap.size + 1) 28 #[.slice none 0 0, .int .i64 0] := (kb _ (by omega) h1.res.lt).trans h1.res
  have o2 : Blk W2 X 28 #[v, .int .i64 nx] := (kb _ (by omega) h1.out.lt).trans h1.out
  have q2 := h.q.app (by omega) hb r r' hD hG o hg g n c hn ho hat
  have b2 : Below w.heap.size w W2 := h1.below.grown hg h1.below.size (fun m hm => by have := hv m hm; omega)
  exact ⟨o2, b2.setCell (p := ⟨X, 0, none⟩) (by simp only; omega) _, t2.other (by omega) 0 _, r2.other (by omega) 0 _, o2.set 0 _, hx, q2.setX (Nat.lt_succ_self _) 0 _⟩
end

section
open Go.RowKit
theorem inos_cnt (rs : List InoR) : (inos rs).length = rs.length := by simp [inos]
theorem firstAt_in {rs : List InoR} {x : Int} {p : Nat} (h : firstAt (inos rs) x = some p) : p < rs.length := by
  unfold firstAt at h
  have := (List.findIdx?_eq_some_iff_getElem.1 h).1
  rw [inos_cnt] at this
  exact this
theorem firstAt_is {xs : List Int} {x : Int} {k : Nat} (h : ∀ j, j < k → xs[j]? ≠ some x) (hk : xs[k]? = some x) : firstAt xs x = some k := by
  unfold firstAt
  obtain ⟨hl, he⟩ := List.getElem?_eq_some_iff.1 hk
  refine List.findIdx?_eq_some_iff_getElem.2 ⟨hl, by simp [he], fun j hj => ?_⟩
  have := h j hj
  rw [List.getElem?_eq_getElem (by omega)] at this
  simpa using this
theorem firstAt_no {xs : List Int} {x : Int} (h : ∀ j, j < xs.length → xs[j]? ≠ some x) : firstAt xs x = none := by
  unfold firstAt
  rw [List.findIdx?_eq_none_iff]
  intro y hy
  obtain ⟨j, hj, rfl⟩ := List.getElem_of_mem hy
  have := h j hj
  rw [List.getElem?_eq_getElem hj] at this
  simpa using this
/-- The place of the first inode of this number; -1. -/
def atN (rs : List InoR) (x : Int) : Int := match firstAt (inos rs) x with | some p => (p : Int) | none => -1
theorem inos_is {rs : List InoR} {k : Nat} {r : InoR} (h : rs[k]? = some r) : (inos rs)[k]? = some r.D.ino := by simp [inos, h]
/-- The inode that stands there, and whether one does. -/
def atD (rs : List InoR) (x : Int) : InoD := match firstAt (inos rs) x with | some p => (rs.getD p inoZ).D | none => inoZ.D
def atB (rs : List InoR) (x : Int) : Bool := (firstAt (inos rs) x).isSome
/-- What both InodeAt functions answer. -/
def AtPost (w : World) (rs : List InoR) (x : Int) (e : Ending) (w' : World) : Prop :=
  ∃ (b1 : Option Addr) (d1 : Nat) (b2 : Option Addr) (d2 : Nat) (b3 : Option Addr) (d3 : Nat), e = .returned (.tuple #[.agg #[.int .i64 (atD rs x).ino, .int .i64 (atD rs x).kind, .int .i64 (atD rs x).links, .slice b1 (atD rs x).data.length d1, .slice b2 (atD rs x).ents.length d2, .slice b3 (atD rs x).attrs.length d3], .bool (atB rs x)]) ∧
    InoG w' w.heap.size w'.heap.size (atD rs x) (.slice b1 (atD rs x).data.length d1) (.slice b2 (atD rs x).ents.length d2) (.slice b3 (atD rs x).attrs.length d3) ∧ Below w.heap.size w w'
set_option maxRecDepth 100000 in
set_option maxHeartbeats 2000000 in
theorem l4At_any (a : Option Addr) (n cap : Nat) (nx x : Int) (rs : List InoR) (w : World) (hn : rs.length = n) (hs : n ≤ 4000000) (hr : RdI w a rs) :
    Calls Tryz.prog 92 #[.agg #[.slice a n cap, .int .i64 nx], .int .i64 x] w fun e w' => e = .returned (.int .i64 (atN rs x)) ∧ Below w.heap.size w w' := by
  have B0 : Below w.heap.size w (w.alloc (.cells #[.slice a n cap, .int .i64 nx] 28)) := (Below.refl _ w).alloc (Nat.le_refl _) _
  have HB : Hid _ := B0
  have HR : Hid _ := hr.keep B0
  have hn' : Hid (rs.length = n) := hn
  have hR : Hid (∀ (k : Nat) (r : InoR), (∀ j, j < k → (inos rs)[j]? ≠ some x) → rs[k]? = some r → r.D.ino = x → (k : Int) = atN rs x) := by
    intro k r h hk he
    unfold atN
    rw [firstAt_is h (by rw [inos_is hk, he])]
  have hE : Hid ((∀ j, j < n → (inos rs)[j]? ≠ some x) → (-1 : Int) = atN rs x) := by
    intro h
    unfold atN
    rw [firstAt_no (fun j hj => h j (by rw [inos_cnt, hn] at hj; exact hj))]
  generalize atN rs x = R at hR hE ⊢
  clear hr hn B0
  go_enter Tryz.func92, Tryz.ntmps92
  go_wp2
  go_loop [5] (fun i => ∃ k : Nat, k ≤ n ∧ i = .int .i64 k ∧ Hid (∀ j, j < k → (inos rs)[j]? ≠ some x)) (fun i => n - (intOf i).toNat)
  case atStart => exact ⟨0, Nat.zero_le _, rfl, fun j hj => by omega⟩
  case round =>
    obtain ⟨k, hk, rfl, hall⟩ := hrel
    by_cases hkn : k < n
    · have hki : (k : Int) < (n : Int) := by omega
      obtain ⟨r, hrk⟩ : ∃ r, rs[k]? = some r := ⟨_, List.getElem?_eq_getElem (by rw [hn'.out]; exact hkn)⟩
      obtain ⟨b, off, rfl, hlt, hc⟩ := RdI.lt HR.out (by intro h; have := hn'.out; rw [h] at this; simp at this; omega)
      have x0 := (hc k r hrk).1.c0
      have hyes : Hid (r.D.ino = x → (k : Int) = R) := fun he => hR.out k r hall.out hrk he
      have hno : Hid (r.D.ino ≠ x → ∀ j, j < k + 1 → (inos rs)[j]? ≠ some x) := by
        intro he j hj
        rcases (show j < k ∨ j = k by omega) with h | rfl
        · exact hall.out j h
        · rw [inos_is hrk]
          simpa using he
      generalize r.D.ino = i1 at x0 hyes hno
      clear hc hrk hall hR hE HR
      by_cases he : i1 = x
      · have hb : (i1 == x) = true := by simp [he]
        have hend : Hid ((k : Int) = R) := hyes.out he
        subst he
        clear hyes hno
        go_wp2
        go_ret
        exact ⟨ret_int hend.out, HB.out⟩
      · have hb : (i1 == x) = false := by simp [he]
        have hnx : Hid _ := hno.out he
        clear hyes hno
        go_wp2
        go_round
        case rel => exact ⟨k + 1, by omega, by go_num, hnx⟩
        case measure => simp [intOf]; omega
    · have hki : ¬ (k : Int) < (n : Int) := by omega
      have hend : Hid ((-1 : Int) = R) := hE.out (fun j hj => hall.out j (by omega))
      clear hR hE HR hall
      go_wp2
      go_ret
      exact ⟨ret_int hend.out, HB.out⟩
end

section
open Go.RowKit
set_option maxHeartbeats 4000000 in
set_option maxRecDepth 100000 in
theorem clone_inner (s : ByteArray) (w : World) (hs : s.size ≤ 4000000) :
    Calls Tryz.prog 240 #[.string s] w fun e w' => e = .returned (.string s) ∧ Below w.heap.size w w' := by
  by_cases h0 : s.size = 0
  · obtain rfl : s = ⟨#[]⟩ := by
      apply ByteArray.ext
      exact Array.eq_empty_of_size_eq_zero h0
    go_enter Tryz.func240, Tryz.ntmps240
    go_wp2
    go_ret
    exact ⟨rfl, Below.refl _ _⟩
  · obtain ⟨i0, hi, hz0, hz1, hz2⟩ := info_parts Tryz.info5
    have hinfo : (Tryz.prog.info? 5).map (·.size) = some 1 := by rw [hi]; simp [hz1]
    have hco : Tryz.prog.cellsOf 5 = 1 := by simp [Program.cellsOf, hi, hz1]
    obtain ⟨M, hM⟩ : ∃ M, M = madeCells (Value.int .u8 0).cells (((s.size : Nat) : Int).toNat * i0.size) := ⟨_, rfl⟩
    have hMs : M.size = s.size := by rw [hM, size_madeCells, hz1]; simp
    have hmk : ∀ W : World, (Instr.makeSlice 37 (.int .i64 (s.size : Int)) (.int .i64 (s.size : Int))).run Tryz.prog W = .ok (.slice (some ⟨W.heap.size, 0, none⟩) s.size s.size) (W.alloc (.cells M 5)) := fun W => by
      have h := run_make (P := Tryz.prog) W 37 5 i0 (.int .u8 0) Tryz.underlying37 hi hz0 .i64 .i64 (s.size : Int) (s.size : Int) (by omega) (by omega) (by rw [hz2]; omega) (by omega)
      rw [← hM] at h
      simpa using h
    clear hM
    have hcp := Lib.run_copy_row_string (P := Tryz.prog) (w.alloc (.cells M 5)) 37 9 3 5 w.heap.size 0 s.size s.size s M 5 Tryz.underlying37 hinfo (heap_alloc_new w _) (Nat.le_refl _) (by omega)
    obtain ⟨Y, hY⟩ : ∃ Y, Y = (M.toList.take 0 ++ Lib.byteCells s.data.toList ++ M.toList.drop (0 + s.size)).toArray := ⟨_, rfl⟩
    rw [← hY] at hcp
    have hYl : Y.toList = Lib.byteCells s.data.toList := by
      rw [hY, List.toList_toArray, List.take_zero, List.nil_append, List.drop_of_length_le (by rw [Array.length_toList]; omega), List.append_nil]
    have hYs : Y.size = s.size := by rw [← Array.length_toList, hYl, Lib.byteCells_length, ← Lib.size_eq]
    have hgY : ((w.alloc (.cells M 5)).setRow w.heap.size Y).heap[w.heap.size]? = some (.cells Y 5 (0, 0)) := setRow_heap _ _ M _ 5 (0, 0) (heap_alloc_new w _)
    have hne : s.data.toList ≠ [] := fun e => h0 (by rw [Lib.size_eq, e]; rfl)
    have hUS := Lib.run_unsafeString_row (P := Tryz.prog) ((w.alloc (.cells M 5)).setRow w.heap.size Y) 275 3 9 5 Tryz.underlying275 hco w.heap.size Y.size (by unfold World.shape?; rw [hgY]) s.data.toList hne (by rw [← Lib.size_eq]; omega) (by rw [← Lib.size_eq]; omega)
      (fun j x hx => Lib.cells_of_row hgY Y.size j _ (by rw [List.take_of_length_le (by rw [Array.length_toList]; exact Nat.le_refl _), hYl]; simp [Lib.byteCells, hx]))
    rw [← Lib.size_eq] at hUS
    clear hY
    have hb1 : Below w.heap.size w (w.alloc (.cells M 5)) := (Below.refl _ w).alloc (Nat.le_refl _) _
    have hb2 : Below w.heap.size (w.alloc (.cells M 5)) ((w.alloc (.cells M 5)).setRow w.heap.size Y) := ⟨rfl, rfl, rfl, by simp, fun k hk => setRow_other _ _ _ _ (by omega)⟩
    have hb : Hid (Below w.heap.size w ((w.alloc (.cells M 5)).setRow w.heap.size Y)) := hb1.trans hb2
    clear hb1 hb2
    go_enter Tryz.func240, Tryz.ntmps240
    go_wp2
    go_ret
    exact ⟨rfl, Lib.below_freeze hb.out (p := ⟨w.heap.size, 0, none⟩) (Nat.le_refl _) _⟩
set_option maxHeartbeats 1000000 in
theorem strClone (s : ByteArray) (w : World) (hs : s.size ≤ 4000000) :
    Calls Tryz.prog 189 #[.string s] w fun e w' => e = .returned (.string s) ∧ Below w.heap.size w w' := by
  go_enter Tryz.func189, Tryz.ntmps189
  go_wp2_with fail
  refine (clone_inner s w hs).mono ?_
  rintro e w1 ⟨rfl, hb⟩
  go_wp2
  go_ret
  exact ⟨rfl, hb⟩
end
end Go.Proofs.YtmfimoccemgoiaaGreatDoor
