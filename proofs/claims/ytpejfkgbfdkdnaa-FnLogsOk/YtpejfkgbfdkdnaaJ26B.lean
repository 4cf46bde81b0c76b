/-
  Joined: Draw, DrawS, DrawI.
-/
import Derived.Test.YtpejfkgbfdkdnaaJ03B
import Derived.Laws.BitsLemmas
import Derived.Laws.StructEq
import Derived.Laws.BytesString
namespace Go.Proofs.Ytpejfkgbfdkdnaa
section
open Go.RowKit
theorem i64_and255 (n : Int) : bits .and .i64 n 255 = n % 256 := by
  have h255 : (BitVec.ofInt 64 255).toNat = 2 ^ 8 - 1 := by decide
  have key : (BitVec.ofInt 64 n &&& BitVec.ofInt 64 255).toNat = (n % ((2 ^ 64 : Nat) : Int)).toNat % 2 ^ 8 := by
    rw [BitVec.toNat_and, BitVec.toNat_ofInt, h255, Nat.and_two_pow_sub_one_eq_mod]
  show IntKind.i64.wrap ((BitVec.ofInt 64 n &&& BitVec.ofInt 64 255).toNat : Nat) = n % 256
  rw [key, IntKind.wrap_i64]
  omega
/-- The cursor gc over the slice (a, n, cap). -/
def Cur (w : World) (gc : Nat) (a : Option Addr) (n cap : Nat) : Prop :=
  ∃ (i : Nat) (h : Int), i ≤ n ∧ w.heap[gc]? = some (.cells #[.slice a n cap, .int .i64 i, .int .i64 h] 71 (0, 0))
theorem Cur.kept {w w' : World} {gc n cap g : Nat} {a : Option Addr} (h : Cur w gc a n cap) (hg : w.grownBy w' (some g)) (hne : gc ≠ g) : Cur w' gc a n cap := by
  obtain ⟨i, hh, hi, hb⟩ := h
  exact ⟨i, hh, hi, by rw [hg.block gc (Array.getElem?_eq_some_iff.1 hb).1 (by simpa using hne)]; exact hb⟩
theorem Cur.keep {w w' : World} {gc n cap B : Nat} {a : Option Addr} (h : Cur w gc a n cap) (hb : Below B w w') (hg : gc < B) : Cur w' gc a n cap := by
  obtain ⟨i, hh, hi, hbk⟩ := h
  exact ⟨i, hh, hi, by rw [hb.block gc hg]; exact hbk⟩
theorem Cur.lt {w : World} {gc n cap : Nat} {a : Option Addr} (h : Cur w gc a n cap) : gc < w.heap.size := by
  obtain ⟨i, hh, hi, hb⟩ := h
  exact (Array.getElem?_eq_some_iff.1 hb).1
theorem cur_set2 {w : World} {gc : Nat} {v0 v1 v2 v : Value} {e : TypeId} (hb : w.heap[gc]? = some (.cells #[v0, v1, v2] e (0, 0))) : (w.setCell ⟨gc, 2, none⟩ v).heap[gc]? = some (.cells #[v0, v1, v] e (0, 0)) := heap_setCell_same w gc 2 _ e v hb
theorem cur_set1 {w : World} {gc : Nat} {v0 v1 v2 v : Value} {e : TypeId} (hb : w.heap[gc]? = some (.cells #[v0, v1, v2] e (0, 0))) : (w.setCell ⟨gc, 1, none⟩ v).heap[gc]? = some (.cells #[v0, v, v2] e (0, 0)) := heap_setCell_same w gc 1 _ e v hb
theorem gr_set (w : World) (gc j : Nat) (v : Value) : w.grownBy (w.setCell ⟨gc, j, none⟩ v) (some gc) :=
  ⟨rfl, rfl, rfl, by simp [World.setCell], fun k _ hk => heap_setCell_other w ⟨gc, j, none⟩ k v (fun e => hk (by simp [e]))⟩
theorem gr_drewN {w w' : World} {r : Option Nat} (h : w.grownBy w' r) (n : Nat) : w.grownBy (w'.drewN n) r := ⟨h.os, h.tape, h.output, h.size, h.block⟩
set_option maxHeartbeats 800000 in
theorem l1Byte_any (gc n cap : Nat) (a : Option Addr) (zs : List Int) (w : World) (hn : zs.length = n) (hs : n ≤ 4000000) (hc : Cur w gc a n cap) (hr : Rd w a zs) (hby : Byt zs) (hne : zs ≠ [] → ∀ b off, a = some ⟨b, off, none⟩ → b ≠ gc) :
    Calls Try.prog 45 #[.pointer (some ⟨gc, 0, none⟩)] w fun e w' => ∃ x : Nat, e = .returned (.int .i64 x) ∧ x ≤ 255 ∧ Cur w' gc a n cap ∧ w.grownBy w' (some gc) := by
  obtain ⟨i, h, hi, hb⟩ := hc
  have c0 : w.cell? ⟨gc, 0, none⟩ = some (.slice a n cap) := by rw [cell_of_row w gc 0 _ 71 (0, 0) hb]; rfl
  have c1 : w.cell? ⟨gc, 1, none⟩ = some (.int .i64 i) := by rw [cell_of_row w gc 1 _ 71 (0, 0) hb]; rfl
  have c2 : w.cell? ⟨gc, 2, none⟩ = some (.int .i64 h) := by rw [cell_of_row w gc 2 _ 71 (0, 0) hb]; rfl
  have f1 := frozen_of_row w gc 1 _ 71 hb
  have f2 := frozen_of_row w gc 2 _ 71 hb
  have h255 := i64_and255
  have HB : Hid (w.heap[gc]? = some (.cells #[.slice a n cap, .int .i64 i, .int .i64 h] 71 (0, 0))) := hb
  clear hb
  by_cases hin : i < n
  · have hin' : (i : Int) < (n : Int) := by omega
    obtain ⟨b, off, rfl, hlt, hcl⟩ := hr.lt (by intro h; subst h; simp at hn; omega)
    have hcx := hcl i (by omega)
    obtain ⟨Z, hZ, hZ1⟩ := byt_at hby i
    rw [hZ] at hcx
    have hbn := hne (by intro h; subst h; simp at hn; omega) b off rfl
    clear hZ hn hr hne hcl
    go_enter Try.func45, Try.ntmps45
    go_wp2
    go_quiet (fail)
    go_wp2
    go_quiet (fail)
    go_wp2
    go_quiet (fail)
    go_wp2
    go_ret
    refine ⟨_, ret_int (Int.toNat_of_nonneg (Int.emod_nonneg _ (by omega))).symm, by omega, ?_, ?_⟩
    · exact ⟨i + 1, _, by omega, cur_set1 (cur_set2 HB.out)⟩
    · exact gr_drewN ((gr_set w gc 2 _).trans (gr_set _ gc 1 _)) _
  · have hin' : ¬ (i : Int) < (n : Int) := by omega
    go_enter Try.func45, Try.ntmps45
    go_wp2
    go_quiet (fail)
    go_wp2
    go_quiet (fail)
    go_wp2
    go_ret
    refine ⟨_, ret_int (Int.toNat_of_nonneg (Int.emod_nonneg _ (by omega))).symm, by omega, ?_, ?_⟩
    · exact ⟨i, _, hi, cur_set2 HB.out⟩
    · exact gr_drewN (gr_drewN (gr_set w gc 2 _) _) _
theorem Rd.kept {w w' : World} {a : Option Addr} {zs : List Int} {g : Nat} (h : Rd w a zs) (hg : w.grownBy w' (some g)) (hne : zs ≠ [] → ∀ b off, a = some ⟨b, off, none⟩ → b ≠ g) : Rd w' a zs := by
  by_cases hz : zs = []
  · exact .inl hz
  · obtain ⟨b, off, rfl, hlt, hc⟩ := h.lt hz
    refine .inr ⟨b, off, rfl, fun i hi => ?_⟩
    have := hne hz b off rfl
    exact hg.cell (hc i hi) (by simpa using this)
/-- What a step of the cursor needs: the cursor, and the bytes that it reads, apart from it. -/
structure Src (w : World) (gc n cap : Nat) (a : Option Addr) (zs : List Int) : Prop where
  len : zs.length = n
  small : n ≤ 1048576
  cur : Cur w gc a n cap
  rd : Rd w a zs
  byt : Byt zs
  ne : zs ≠ [] → ∀ b off, a = some ⟨b, off, none⟩ → b < gc
theorem Src.step {w w' : World} {gc n cap : Nat} {a : Option Addr} {zs : List Int} (h : Src w gc n cap a zs) (hc : Cur w' gc a n cap) (hg : w.grownBy w' (some gc)) : Src w' gc n cap a zs :=
  ⟨h.len, h.small, hc, h.rd.kept hg (fun hz b off e => Nat.ne_of_lt (h.ne hz b off e)), h.byt, h.ne⟩
theorem Src.keep {w w' : World} {gc n cap : Nat} {a : Option Addr} {zs : List Int} (h : Src w gc n cap a zs) (hb : Below w.heap.size w w') : Src w' gc n cap a zs :=
  ⟨h.len, h.small, h.cur.keep hb h.cur.lt, h.rd.keep hb, h.byt, h.ne⟩
theorem byte_step (gc n cap : Nat) (a : Option Addr) (zs : List Int) (w : World) (h : Src w gc n cap a zs) :
    Calls Try.prog 45 #[.pointer (some ⟨gc, 0, none⟩)] w fun e w' => ∃ x : Nat, e = .returned (.int .i64 x) ∧ x ≤ 255 ∧ Src w' gc n cap a zs ∧ w.grownBy w' (some gc) :=
  (l1Byte_any gc n cap a zs w h.len (by have := h.small; omega) h.cur h.rd h.byt (fun hz b off e => Nat.ne_of_lt (h.ne hz b off e))).mono fun _ _ ⟨x, he, hx, hc, hg⟩ => ⟨x, he, hx, h.step hc hg, hg⟩
set_option maxHeartbeats 800000 in
theorem below_step (gc n cap : Nat) (a : Option Addr) (zs : List Int) (m : Nat) (w : World) (h : Src w gc n cap a zs) (hm : 1 ≤ m) (hm2 : m ≤ 10000000) :
    Calls Try.prog 30 #[.pointer (some ⟨gc, 0, none⟩), .int .i64 m] w fun e w' => ∃ x : Nat, e = .returned (.int .i64 x) ∧ x < m ∧ Src w' gc n cap a zs ∧ w.grownBy w' (some gc) := by
  have h1 : ¬ (m : Int) ≤ 0 := by omega
  by_cases h2 : m ≤ 256
  · have h2' : (m : Int) ≤ 256 := by omega
    go_enter Try.func30, Try.ntmps30
    go_wp2_with fail
    refine (byte_step gc n cap a zs w h).mono ?_
    rintro e w1 ⟨x, rfl, hx, hs1, hg1⟩
    go_wp2
    go_ret
    exact ⟨x % m, ret_int (by omega), Nat.mod_lt _ (by omega), hs1, hg1⟩
  · have h2' : ¬ (m : Int) ≤ 256 := by omega
    go_enter Try.func30, Try.ntmps30
    go_wp2_with fail
    refine (byte_step gc n cap a zs w h).mono ?_
    rintro e w1 ⟨x, rfl, hx, hs1, hg1⟩
    go_wp2_with fail
    refine (byte_step gc n cap a zs w1 hs1).mono ?_
    rintro e w2 ⟨y, rfl, hy, hs2, hg2⟩
    go_wp2_with fail
    refine (byte_step gc n cap a zs w2 hs2).mono ?_
    rintro e w3 ⟨z, rfl, hz, hs3, hg3⟩
    go_wp2
    go_ret
    exact ⟨(x * 65536 + y * 256 + z) % m, ret_int (by simp), Nat.mod_lt _ (by omega), hs3, (hg1.trans hg2).trans hg3⟩
set_option maxHeartbeats 800000 in
theorem int_step (gc n cap : Nat) (a : Option Addr) (zs : List Int) (gl L : Nat) (vs : List Int) (w : World) (h : Src w gc n cap a zs) (hL : vs.length = L) (hL1 : 1 ≤ L) (hL2 : L ≤ 256) (hne : gl ≠ gc)
    (hv : ∀ j, j < L → w.cell? ⟨gl, j, none⟩ = some (.int .i64 (vs.getD j 0))) :
    Calls Try.prog 21 #[.pointer (some ⟨gc, 0, none⟩), .slice (some ⟨gl, 0, none⟩) L L] w fun e w' => ∃ k : Nat, e = .returned (.int .i64 (vs.getD k 0)) ∧ k < L ∧ Src w' gc n cap a zs ∧ w.grownBy w' (some gc) := by
  have hL' : Hid (vs.length = L) := hL
  clear hL
  go_enter Try.func21, Try.ntmps21
  go_wp2_with fail
  refine (below_step gc n cap a zs L w h hL1 (by omega)).mono ?_
  rintro e w1 ⟨x, rfl, hx, hs1, hg1⟩
  have hcx := hg1.cell (hv x hx) (by simpa using hne)
  have hx1 : (x : Int) < (L : Int) := by omega
  go_wp2
  go_ret
  exact ⟨x, by simp, hx, hs1, hg1⟩
theorem Byt.snoc {ys : List Int} {x : Nat} (h : Byt ys) (hx : x ≤ 255) : Byt (ys ++ [(x : Int)]) := by
  intro z hz
  simp only [List.mem_append, List.mem_cons, List.not_mem_nil, or_false] at hz
  rcases hz with hz | hz
  · exact h z hz
  · omega
theorem gr_mono {w wr w' : World} {g0 g : Nat} (h : w.grownBy wr (some g0)) (hg : g = g0 ∨ w.heap.size ≤ g) (k : wr.grownBy w' (some g)) : w.grownBy w' (some g0) := by
  refine ⟨k.os.trans h.os, k.tape.trans h.tape, k.output.trans h.output, Nat.le_trans h.size k.size, fun i hi hne => ?_⟩
  rw [k.block i (by have := h.size; omega) (by intro e; simp at e; rcases hg with hg | hg <;> (try subst hg) <;> first | omega | exact hne (by rw [e])), h.block i hi hne]
theorem Src.alloc {w : World} {gc n cap : Nat} {a : Option Addr} {zs : List Int} (h : Src w gc n cap a zs) (o : Obj) : Src (w.alloc o) gc n cap a zs := h.keep ((Below.refl _ _).alloc (Nat.le_refl _) o)
theorem Src.other {w w' : World} {gc n cap g : Nat} {a : Option Addr} {zs : List Int} (h : Src w gc n cap a zs) (hg : w.grownBy w' (some g)) (h1 : gc < g) : Src w' gc n cap a zs :=
  ⟨h.len, h.small, h.cur.kept hg (Nat.ne_of_lt h1), h.rd.kept hg (fun hz b off e => Nat.ne_of_lt (Nat.lt_trans (h.ne hz b off e) h1)), h.byt, h.ne⟩
theorem Src.drew {w : World} {gc n cap : Nat} {a : Option Addr} {zs : List Int} (h : Src w gc n cap a zs) : Src w.drew gc n cap a zs := h.keep (Below.refl _ _).drew
set_option maxHeartbeats 800000 in
theorem bytes_step (gc n cap : Nat) (a : Option Addr) (zs : List Int) (m : Nat) (w : World) (h : Src w gc n cap a zs) (hm : m ≤ 1000000) :
    Calls Try.prog 44 #[.pointer (some ⟨gc, 0, none⟩), .int .i64 m] w fun e w' => ∃ (g c : Nat) (ys : List Int), e = .returned (.slice (some ⟨g, 0, none⟩) m c) ∧ w.heap.size ≤ g ∧ Byt ys ∧ Own w' g m c ys ∧ Src w' gc n cap a zs ∧ w.grownBy w' (some gc) := by
  have hgc := h.cur.lt
  go_enter Try.func44, Try.ntmps44
  go_wp2
  go_loopw [5, 6] (fun v i wr => ∃ (k g c : Nat) (ys : List Int), k ≤ m ∧ i = .int .i64 k ∧ v = .slice (some ⟨g, 0, none⟩) k c ∧ w.heap.size ≤ g ∧ Byt ys ∧ Own wr g k c ys ∧ Src wr gc n cap a zs ∧ w.grownBy wr (some gc)) (fun _ i _ => m - (intOf i).toNat)
  case atStart => exact ⟨0, w.heap.size, 0, [], Nat.zero_le _, rfl, rfl, Nat.le_refl _, by intro z hz; simp at hz, own_empty w, h.alloc _, World.grownBy_alloc w _ _⟩
  case round =>
    obtain ⟨k, g, c, ys, hk, rfl, rfl, hg, hby, ho, hs1, hgr⟩ := hrel
    by_cases hkm : k < m
    · go_wp2_with fail
      refine (byte_step gc n cap a zs wr hs1).mono ?_
      rintro e w1 ⟨x, rfl, hx, hs2, hg2⟩
      have ho2 := ho.kept hg2 (by omega)
      have hgr2 := hgr.trans hg2
      clear ho hs1 hgr hg2
      go_wp2_with (at_builtin; refine wpList_app _ rfl (.tmp 13) (.tmp 17) rfl g k c ys rfl (World.ownsRow.alloc ho2 _) ⟨w1.heap.size, 0, none⟩ 1 1 [(x : Int)] rfl rfl (one_news w1 _) (by omega) (w1.heap.size + 1) (by simp) ?_; intro g3 c3 w3 ho3 hg3 ha3)
      go_roundw
      case rel =>
        have hsz := hgr2.size
        exact ⟨k + 1, g3, c3, ys ++ [(x : Int)], by omega, by go_num, rfl, by omega, hby.snoc hx, ho3, (hs2.alloc _).other hg3 (by omega), gr_mono (gr_mono hgr2 (.inl rfl) (World.grownBy_alloc w1 _ _)) (.inr hg) hg3⟩
      case measure => simp [intOf]; omega
    · go_wp2
      go_ret
      obtain rfl : k = m := by omega
      exact ⟨g, c, ys, rfl, hg, hby, ho, hs1, hgr⟩
theorem Rd.at {w : World} {a : Option Addr} {zs : List Int} (h : Rd w a zs) : zs ≠ [] → ∀ b off, a = some ⟨b, off, none⟩ → b < w.heap.size := by
  intro hz b off e
  obtain ⟨b', off', e', hlt, _⟩ := h.lt hz
  rw [e] at e'
  simp at e'
  omega
set_option maxHeartbeats 800000 in
theorem new_step (a : Option Addr) (n cap : Nat) (zs : List Int) (w : World) (hn : zs.length = n) (hs : n ≤ 1048576) (hr : Rd w a zs) (hb : Byt zs) :
    Calls Try.prog 19 #[.slice a n cap] w fun e w' => e = .returned (.pointer (some ⟨w.heap.size, 0, none⟩)) ∧ Src w' w.heap.size n cap a zs ∧ Below w.heap.size w w' := by
  have hlt := hr.at
  have hn' : Hid (zs.length = n) := hn
  clear hn
  have hcx : ∀ k, k < n → ∃ b off, ∃ Z : Nat, a = some ⟨b, off, none⟩ ∧ w.cell? ⟨b, off + k, none⟩ = some (.int .u8 Z) := by
    intro k hk
    obtain ⟨b, off, e, _, hc⟩ := hr.lt (by intro h; have := hn'.out; subst h; simp at this; omega)
    obtain ⟨Z, hZ, _⟩ := byt_at hb k
    exact ⟨b, off, Z, e, by rw [hc k (by rw [hn'.out]; exact hk), hZ]⟩
  have fin : ∀ h : Int, Src (w.alloc (.cells #[.slice a n cap, .int .i64 0, .int .i64 h] 71)) w.heap.size n cap a zs ∧ Below w.heap.size w (w.alloc (.cells #[.slice a n cap, .int .i64 0, .int .i64 h] 71)) := by
    intro h
    have hB := (Below.refl w.heap.size w).alloc (Nat.le_refl _) (.cells #[.slice a n cap, .int .i64 0, .int .i64 h] 71)
    exact ⟨⟨hn'.out, hs, ⟨0, h, Nat.zero_le _, heap_alloc_new w _⟩, hr.keep hB, hb, fun hz b off e => by have := hlt hz b off e; omega⟩, hB⟩
  have Fin := fin
  by_cases h0 : n = 0
  · subst h0
    go_enter Try.func19, Try.ntmps19
    go_wp2
    refine wp_loop_rounds 1 ?_; rw [rounds_succ]
    go_wp2
    go_ret
    exact ⟨rfl, fin _⟩
  · obtain ⟨b, off, _, rfl, _⟩ := hcx 0 (by omega)
    have hcy : ∀ k, k < n → ∃ Z : Nat, w.cell? ⟨b, off + k, none⟩ = some (.int .u8 Z) := by
      intro k hk
      obtain ⟨b', off', Z, e, hc⟩ := hcx k hk
      simp only [Option.some.injEq, Addr.mk.injEq, and_true] at e
      obtain ⟨rfl, rfl⟩ := e
      exact ⟨Z, hc⟩
    have HC : Hid (∀ k, k < n → ∃ Z : Nat, w.cell? ⟨b, off + k, none⟩ = some (.int .u8 Z)) := hcy
    have HF : Hid (∀ h : Int, Src (w.alloc (.cells #[.slice (some ⟨b, off, none⟩) n cap, .int .i64 0, .int .i64 h] 71)) w.heap.size n cap (some ⟨b, off, none⟩) zs ∧ Below w.heap.size w (w.alloc (.cells #[.slice (some ⟨b, off, none⟩) n cap, .int .i64 0, .int .i64 h] 71))) := fin
    clear hcx hcy fin Fin hlt
    go_enter Try.func19, Try.ntmps19
    go_wp2
    go_loop [3, 4] (fun x i => ∃ (k : Nat) (h : Int), k ≤ n ∧ i = .int .i64 k ∧ x = .int .i64 h) (fun _ i => n - (intOf i).toNat)
    case atStart => exact ⟨0, _, Nat.zero_le _, rfl, rfl⟩
    case round =>
      obtain ⟨k, h, hk, rfl, rfl⟩ := hrel
      by_cases hkn : k < n
      · have hkn' : (k : Int) < (n : Int) := by omega
        by_cases hk4 : k < 4000
        · have hk4' : (k : Int) < 4000 := by omega
          obtain ⟨Z, hcx⟩ := HC.out k hkn
          go_wp2
          go_round
          case rel => exact ⟨k + 1, _, by omega, by go_num, rfl⟩
          case measure => simp [intOf]; omega
        · have hk4' : ¬ (k : Int) < 4000 := by omega
          go_wp2
          go_ret
          exact ⟨rfl, HF.out _⟩
      · have hkn' : ¬ (k : Int) < (n : Int) := by omega
        go_wp2
        go_ret
        exact ⟨rfl, HF.out _⟩
theorem ints_cells (w : World) (vs : List Int) (t : TypeId) : ∀ j, j < vs.length → (w.alloc (.cells (vs.map (Value.int .i64)).toArray t)).cell? ⟨w.heap.size, j, none⟩ = some (.int .i64 (vs.getD j 0)) := by
  intro j hj
  rw [cell_of_row _ w.heap.size j _ t (0, 0) (heap_alloc_new w _)]
  simp [hj]
set_option maxHeartbeats 800000 in
theorem some_step (gc n cap : Nat) (a : Option Addr) (zs : List Int) (w : World) (h : Src w gc n cap a zs) :
    Calls Try.prog 29 #[.pointer (some ⟨gc, 0, none⟩)] w fun e w' => ∃ (g m c : Nat) (ys : List Int), e = .returned (.slice (some ⟨g, 0, none⟩) m c) ∧ m ≤ 9 ∧ w.heap.size ≤ g ∧ Byt ys ∧ Own w' g m c ys ∧ Src w' gc n cap a zs ∧ w.grownBy w' (some gc) := by
  have hgc := h.cur.lt
  have hcells := ints_cells w [0, 1, 2, 5, 9] 3
  have hcl : Hid (∀ j, j < 5 → (w.alloc (.cells #[.int .i64 0, .int .i64 1, .int .i64 2, .int .i64 5, .int .i64 9] 3)).cell? ⟨w.heap.size, j, none⟩ = some (.int .i64 (([0, 1, 2, 5, 9] : List Int).getD j 0))) := hcells
  clear hcells
  go_enter Try.func29, Try.ntmps29
  go_wp2_with fail
  refine (int_step gc n cap a zs w.heap.size 5 [0, 1, 2, 5, 9] _ (h.alloc _) rfl (by omega) (by omega) (by omega) hcl.out).mono ?_
  rintro e w1 ⟨k, rfl, hk, hs1, hg1⟩
  obtain ⟨m, hm, hm9⟩ : ∃ m : Nat, ([0, 1, 2, 5, 9] : List Int).getD k 0 = (m : Int) ∧ m ≤ 9 := by
    rcases (show k = 0 ∨ k = 1 ∨ k = 2 ∨ k = 3 ∨ k = 4 by omega) with rfl | rfl | rfl | rfl | rfl
    · exact ⟨0, rfl, by omega⟩
    · exact ⟨1, rfl, by omega⟩
    · exact ⟨2, rfl, by omega⟩
    · exact ⟨5, rfl, by omega⟩
    · exact ⟨9, rfl, by omega⟩
  rw [hm]
  clear hm
  go_wp2_with fail
  have hsz := hg1.size
  simp only [World.size_alloc] at hsz
  refine (bytes_step gc n cap a zs m _ hs1 (by omega)).mono ?_
  rintro e w2 ⟨g, c, ys, rfl, hg, hby, ho, hs2, hg2⟩
  go_wp2
  go_ret
  exact ⟨g, m, c, ys, rfl, hm9, by omega, hby, ho, hs2, (gr_mono (World.grownBy_alloc w _ _) (.inl rfl) hg1).trans hg2⟩
end

section
open Go.RowKit
set_option maxHeartbeats 400000 in
theorem once_step (gc n cap : Nat) (a : Option Addr) (zs : List Int) (m : Nat) (w : World) (h : Src w gc n cap a zs) (hm : 1 ≤ m) (hm2 : m ≤ 10000000) :
    Calls Try.prog 43 #[.pointer (some ⟨gc, 0, none⟩), .int .i64 m] w fun e w' => ∃ B : Bool, e = .returned (.bool B) ∧ Src w' gc n cap a zs ∧ w.grownBy w' (some gc) := by
  go_enter Try.func43, Try.ntmps43
  go_wp2_with fail
  refine (below_step gc n cap a zs m w h hm hm2).mono ?_
  rintro e w1 ⟨x, rfl, hx, hs1, hg1⟩
  go_wp2
  go_ret
  exact ⟨_, rfl, hs1, hg1⟩
end

section
open Go.RowKit
theorem Src.own {w w' : World} {gc n cap : Nat} {a : Option Addr} {zs : List Int} {r : Option Nat} (h : Src w gc n cap a zs) (hg : w.grownBy w' r) (hr : ∀ g, r = some g → gc < g) : Src w' gc n cap a zs := by
  cases r with
  | none => exact h.keep ⟨hg.os, hg.tape, hg.output, hg.size, fun k hk => hg.block k hk (by simp)⟩
  | some g => exact h.other hg (hr g rfl)
section
variable {w W W' : World} {gc sn scap : Nat} {sa : Option Addr} {zs : List Int} {X N : Nat} {nm xs : Array Value} {v1 : Value} {dz : List Int} {v2 : Value} {es : List (ByteArray × Int)} {v3 : Value} {ats : List (ByteArray × ByteArray)}
end
/-! ### when what was drawn is right -/
end
end Go.Proofs.Ytpejfkgbfdkdnaa
