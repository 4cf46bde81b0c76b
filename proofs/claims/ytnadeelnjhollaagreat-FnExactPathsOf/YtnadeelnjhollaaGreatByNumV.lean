/-
  The program's byNumber: a map of where the first inode of each number stands.
-/
import Derived.Test.YtnadeelnjhollaaGreatTabMV
import Derived.Maps.OwnSet
import Derived.Maps.OwnOps
namespace Go.Proofs.YtnadeelnjhollaaGreat
open Go.RowKit Go.Maps
/-- Where the first one stands. -/
def firstAt (xs : List Int) (x : Int) : Option Nat := xs.findIdx? (fun z => z == x)
theorem firstAt_snoc (xs : List Int) (y x : Int) : firstAt (xs ++ [y]) x = (firstAt xs x).or (if y = x then some xs.length else none) := by
  unfold firstAt
  rw [List.findIdx?_append]
  congr 1
  by_cases h : y = x
  · simp [h, List.findIdx?_cons]
  · simp [h, List.findIdx?_cons]
/-- The map tells of each number where the first one stands. -/
def MapIs (D : DataW Unit) (xs : List Int) : Prop :=
  IsMap D ∧ ∀ x : Int, Maps.has D (.int .i64 x) = (firstAt xs x).isSome ∧ ∀ i, firstAt xs x = some i → D.atKey (.int .i64 x) (.lit (.int .i64 0)) = .lit (.int .i64 (i : Int))
theorem mapIs_nil : MapIs (.map []) [] := ⟨isMap_empty, fun x => ⟨rfl, fun i hi => by simp [firstAt] at hi⟩⟩
theorem mapIs_old {D : DataW Unit} {xs : List Int} (h : MapIs D xs) {y : Int} (hy : Maps.has D (.int .i64 y) = true) : MapIs D (xs ++ [y]) := by
  refine ⟨h.1, fun x => ?_⟩
  obtain ⟨h1, h2⟩ := h.2 x
  rw [firstAt_snoc]
  by_cases e : y = x
  · subst e
    rw [(h.2 y).1] at hy
    obtain ⟨i, hi⟩ := Option.isSome_iff_exists.1 hy
    rw [hi] at h1 ⊢
    exact ⟨h1, fun j hj => h2 j (by rw [hi]; simpa using hj)⟩
  · rw [if_neg e, Option.or_none]
    exact ⟨h1, h2⟩
theorem mapIs_new {D : DataW Unit} {xs : List Int} (h : MapIs D xs) {y : Int} (hy : Maps.has D (.int .i64 y) = false) : MapIs (D.put (.int .i64 y) (.lit (.int .i64 (xs.length : Int)))) (xs ++ [y]) := by
  refine ⟨h.1.put _ _, fun x => ?_⟩
  obtain ⟨h1, h2⟩ := h.2 x
  rw [firstAt_snoc]
  by_cases e : y = x
  · subst e
    rw [(h.2 y).1] at hy
    have hn : firstAt xs y = none := by simpa using hy
    rw [hn, if_pos rfl, has_put_same h.1 (show WideAt.IsKeyLit (.int .i64 y) from trivial), atKey_put_same h.1 (show WideAt.IsKeyLit (.int .i64 y) from trivial)]
    exact ⟨rfl, fun i hi => by simp at hi; rw [hi]⟩
  · rw [if_neg e, Option.or_none, has_put_other (by simp; exact fun h => e h.symm), atKey_put_other (by simp; exact fun h => e h.symm)]
    exact ⟨h1, h2⟩
def inos (rs : List InoR) : List Int := rs.map fun r => r.D.ino
theorem inos_take (rs : List InoR) (k : Nat) (r : InoR) (h : rs[k]? = some r) : inos (rs.take (k + 1)) = inos (rs.take k) ++ [r.D.ino] := by
  unfold inos
  rw [List.take_add_one, h]
  simp
theorem inos_len (rs : List InoR) (k : Nat) (h : k ≤ rs.length) : (inos (rs.take k)).length = k := by simp [inos]; omega
theorem Tryz.keyInt : Keyed Tryz.prog 3 := int_keyed Tryz.underlying3
theorem Tryz.zeroInt (w : World) : (zeroValue 3).run Tryz.prog w = .ok (.int .i64 0) w := by kernel_rfl
theorem Tryz.makeHint (n : Int) (w : World) : (Instr.makeMap 56 (some (.int .i64 n))).run Tryz.prog w = .ok (.map (some w.heap.size)) (w.alloc (.map #[] 0)) := by
  simp [Instr.makeMap, run_underlying Tryz.underlying56, asInt, asIntOf, Result.andThen]
/-- What byNumber answers. -/
def ByPost (w : World) (n : Nat) (rs : List InoR) (e : Ending) (w' : World) : Prop :=
  ∃ (cnt : Nat) (D : DataW Unit), e = .returned (.map (some (w.heap.size + 1))) ∧ cnt ≤ n ∧ MapIs D (inos rs) ∧ w'.ownsMap Tryz.prog 3 (plainElem Tryz.prog 3) (w.heap.size + 1) cnt D ∧ Below w.heap.size w w'
set_option maxRecDepth 100000 in
set_option maxHeartbeats 1600000 in
theorem byNumber_any (a : Option Addr) (n cap : Nat) (nx : Int) (rs : List InoR) (w : World) (hn : rs.length = n) (hs : n ≤ 4000000) (hwf : ∀ r ∈ rs, (Lit.int .i64 r.D.ino).wf = true) (hr : RdI w a rs) :
    Calls Tryz.prog 25 #[.agg #[.slice a n cap, .int .i64 nx]] w fun e w' => ByPost w n rs e w' := by
  have hmm := Tryz.makeHint
  have B0 : Below w.heap.size w (w.alloc (.cells #[.slice a n cap, .int .i64 nx] 30)) := (Below.refl _ w).alloc (Nat.le_refl _) _
  have hs0 : (w.alloc (.cells #[.slice a n cap, .int .i64 nx] 30)).heap.size = w.heap.size + 1 := by simp
  by_cases h0 : n = 0
  · subst h0
    obtain rfl : rs = [] := List.length_eq_zero_iff.1 hn
    have z0 := Blk.new w 30 #[.slice a 0 cap, .int .i64 nx]
    have hown := World.ownsMap_made (H := Unit) (w.alloc (.cells #[.slice a 0 cap, .int .i64 nx] 30)) Tryz.prog 3 (plainElem Tryz.prog 3)
    rw [hs0] at hown
    go_enter Tryz.func25, Tryz.ntmps25
    go_wp2
    refine wp_loop_rounds 1 ?_; rw [rounds_succ]
    go_wp2
    go_ret
    exact ⟨0, _, rfl, Nat.le_refl _, mapIs_nil, hown, B0.alloc (by simp) _⟩
  · obtain ⟨b, off, rfl, hlt, hc⟩ := hr.lt (by intro h; subst h; simp at hn; omega)
    have hown := World.ownsMap_made (H := Unit) (w.alloc (.cells #[.slice (some ⟨b, off, none⟩) n cap, .int .i64 nx] 30)) Tryz.prog 3 (plainElem Tryz.prog 3)
    rw [hs0] at hown
    have hn' : Hid (rs.length = n) := hn
    have HC : Hid _ := hc
    have HW : Hid _ := hwf
    clear hr hn hc hwf
    go_enter Tryz.func25, Tryz.ntmps25
    go_wp2
    go_loopw [15] (fun i wr => ∃ (k cnt : Nat) (D : DataW Unit), k ≤ n ∧ i = .int .i64 k ∧ cnt ≤ k ∧ Hid (MapIs D (inos (rs.take k))) ∧ wr.ownsMap Tryz.prog 3 (plainElem Tryz.prog 3) (w.heap.size + 1) cnt D ∧ Below w.heap.size w wr) (fun i _ => n - (intOf i).toNat)
    case atStart => exact ⟨0, 0, _, Nat.zero_le _, rfl, Nat.le_refl _, mapIs_nil, hown, B0.alloc (by simp) _⟩
    case round =>
      obtain ⟨k, cnt, D, hk, rfl, hcnt, hM, ho, hB⟩ := hrel
      by_cases hkn : k < n
      · have hki : (k : Int) < (n : Int) := by omega
        obtain ⟨r, hrk⟩ : ∃ r, rs[k]? = some r := ⟨_, List.getElem?_eq_getElem (by rw [hn'.out]; exact hkn)⟩
        obtain ⟨x6, _⟩ := HC.out k r hrk
        have hw1 := HW.out r (List.mem_of_getElem? hrk)
        have hit := inos_take rs k r hrk
        have hil := inos_len rs k (by rw [hn'.out]; exact hk)
        obtain ⟨x0, x1, x2, x3, x4, x5⟩ := x6.keep hB hlt
        generalize r.D.ino = i1 at x0 hw1 hit
        generalize r.D.kind = i2 at x1
        generalize r.D.links = i3 at x2
        generalize r.D.data.length = n1 at x3
        generalize r.D.ents.length = n2 at x4
        generalize r.D.attrs.length = n3 at x5
        have HIT : Hid _ := hit
        have hwz := hB.size
        have hkey : keyOf Tryz.prog 3 (.int .i64 i1) = some (.int .i64 i1) := keyOf_int_mk Tryz.underlying3 hw1
        have hwk : (Lit.int .i64 (k : Int)).wf = true := WalkArith.wf_i64 (by omega)
        have hoA := ho.alloc (.cells #[.int .i64 i1, .int .i64 i2, .int .i64 i3, .slice r.a1 n1 r.c1, .slice r.a2 n2 r.c2, .slice r.a3 n3 r.c3] 46)
        have hBA := hB.alloc hwz (.cells #[.int .i64 i1, .int .i64 i2, .int .i64 i3, .slice r.a1 n1 r.c1, .slice r.a2 n2 r.c2, .slice r.a3 n3 r.c3] 46)
        have HO : Hid _ := ho
        clear hit x6 hrk ho
        cases hhas : Maps.has D (.int .i64 i1) with
        | true =>
          have hM' : Hid (MapIs D (inos (rs.take (k + 1)))) := by rw [HIT.out]; exact mapIs_old hM.out hhas
          go_wp2_with (first
            | (at_lookup; refine wpList_lookup_own_ok_int _ rfl _ _ 56 rfl 3 3 .i64 Tryz.keyInt Tryz.underlying56 Tryz.underlying3 (Tryz.zeroInt _) (w.heap.size + 1) cnt D rfl hoA _ _ rfl hkey ?_; intro c hat hwc; rw [hhas])
            | go_in)
          go_roundw
          case rel => exact ⟨k + 1, cnt, D, by omega, by go_num, by omega, hM', hoA, hBA⟩
          case measure => simp [intOf]; omega
        | false =>
          have hM' : Hid (MapIs (D.put (.int .i64 i1) (.lit (.int .i64 (k : Int)))) (inos (rs.take (k + 1)))) := by
            have := mapIs_new hM.out hhas
            rw [hil] at this
            rw [HIT.out]
            exact this
          go_wp2_with (first
            | (at_lookup; refine wpList_lookup_own_ok_int _ rfl _ _ 56 rfl 3 3 .i64 Tryz.keyInt Tryz.underlying56 Tryz.underlying3 (Tryz.zeroInt _) (w.heap.size + 1) cnt D rfl hoA _ _ rfl hkey ?_; intro c hat hwc; rw [hhas])
            | (at_mapUpdate; refine wpList_mapUpdate_own _ rfl _ _ _ 56 rfl 3 3 Tryz.keyInt Tryz.underlying56 _ (w.heap.size + 1) cnt D rfl hoA (by unfold maxLen; omega) _ _ _ rfl rfl hkey _ [] (plainElem_int Tryz.underlying3 hwk) ?_; intro w1 hown1 hgrow1)
            | go_in)
          go_roundw
          case rel => exact ⟨k + 1, cnt + 1, _, by omega, by go_num, by omega, hM', hown1, hBA.grown hgrow1 hBA.size (fun j hj => by cases hj; omega)⟩
          case measure => simp [intOf]; omega
      · have hki : ¬ (k : Int) < (n : Int) := by omega
        have hM' := hM.out
        rw [List.take_of_length_le (by rw [hn'.out]; omega)] at hM'
        have HM' : Hid _ := hM'
        clear hM'
        go_wp2
        go_ret
        exact ⟨cnt, D, rfl, by omega, HM'.out, ho, hB⟩
end Go.Proofs.YtnadeelnjhollaaGreat
