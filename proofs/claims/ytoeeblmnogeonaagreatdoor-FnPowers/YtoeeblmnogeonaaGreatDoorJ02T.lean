/-
  Joined: Pairs, Inode, MarkI, Puts.
-/
import Derived.Test.YtoeeblmnogeonaaGreatDoorJ01T
import Derived.Deep.Slices
import Derived.ProofKit
import Derived.ChangeOld
import Derived.Below
import Derived.Deep.DeepCutAuto
import Derived.Lib.AppendStr
namespace Go.Proofs.YtoeeblmnogeonaaGreatDoor
section
open Go.RowKit
abbrev VP := Value × Value
/-- The cells of pairs. -/
def pv (ps : List VP) : List Value := ps.flatMap fun p => [p.1, p.2]
theorem add_at (g j : Nat) : (⟨g, 0, none⟩ : Addr).add j = ⟨g, j, none⟩ := by
  unfold Addr.add
  split
  · rename_i h; rw [h]
  · simp
/-- Entries, as cells. -/
def eP (es : List (ByteArray × Int)) : List VP := es.map fun e => (.string e.1, .int .i64 e.2)
/-- Block B holds the cells vs, of type t. -/
def Blk (W : World) (B : Nat) (t : TypeId) (vs : Array Value) : Prop := W.heap[B]? = some (.cells vs t (0, 0))
theorem Blk.lt {W : World} {B : Nat} {t : TypeId} {vs : Array Value} (h : Blk W B t vs) : B < W.heap.size := (Array.getElem?_eq_some_iff.1 h).1
theorem Blk.cell {W : World} {B : Nat} {t : TypeId} {vs : Array Value} (h : Blk W B t vs) (j : Nat) : W.cell? ⟨B, j, none⟩ = vs[j]? := cell_of_row W B j vs t (0, 0) h
theorem Blk.frozen {W : World} {B : Nat} {t : TypeId} {vs : Array Value} (h : Blk W B t vs) (j : Nat) : W.frozen? ⟨B, j, none⟩ = false := frozen_of_row W B j vs t h
theorem Blk.new (W : World) (t : TypeId) (vs : Array Value) : Blk (W.alloc (.cells vs t)) W.heap.size t vs := heap_alloc_new W _
theorem Blk.keep {W W' : World} {B : Nat} {t : TypeId} {vs : Array Value} (h : Blk W B t vs) (hb : Below W.heap.size W W') : Blk W' B t vs := (hb.block B h.lt).trans h
theorem Blk.alloc {W : World} {B : Nat} {t : TypeId} {vs : Array Value} (h : Blk W B t vs) (o : Obj) : Blk (W.alloc o) B t vs := h.keep ((Below.refl _ W).alloc (Nat.le_refl _) o)
theorem Blk.set {W : World} {B : Nat} {t : TypeId} {vs : Array Value} (h : Blk W B t vs) (j : Nat) (v : Value) : Blk (W.setCell ⟨B, j, none⟩ v) B t (vs.setIfInBounds j v) := heap_setCell_same W B j vs t v h
theorem Blk.other {W : World} {B : Nat} {t : TypeId} {vs : Array Value} (h : Blk W B t vs) {B' : Nat} (hne : B ≠ B') (j : Nat) (v : Value) : Blk (W.setCell ⟨B', j, none⟩ v) B t vs := (heap_setCell_other W ⟨B', j, none⟩ B v hne).trans h
theorem Blk.kept {W W' : World} {B g : Nat} {t : TypeId} {vs : Array Value} (h : Blk W B t vs) (hg : W.grownBy W' (some g)) (hne : B ≠ g) : Blk W' B t vs := (hg.block B h.lt (by simpa using hne)).trans h
end

section
open Go.RowKit
theorem size_setC (w : World) (a : Addr) (v : Value) : (w.setCell a v).heap.size = w.heap.size := by simp [World.setCell]
theorem gr_setC (w : World) (gc j : Nat) (v : Value) : w.grownBy (w.setCell ⟨gc, j, none⟩ v) (some gc) :=
  ⟨rfl, rfl, rfl, by simp [World.setCell], fun k _ hk => heap_setCell_other w ⟨gc, j, none⟩ k v (fun e => hk (by simp [e]))⟩
end

section
open Go.RowKit
def mE (k0 i : Nat) : VP := (.string (mt (k0 + 2 * i)), .int .i64 ((k0 + 2 * i + 1 : Nat) : Int))
def mA (k0 i : Nat) : VP := (.string (mt (k0 + 2 * i)), .string (mt (k0 + 2 * i + 1)))
end

section
open Go.RowKit
/-- A text's bytes as numbers. -/
def strZ (s : ByteArray) : List Int := s.data.toList.map fun b => (b.toNat : Int)
theorem strZ_cells (s : ByteArray) : Lib.strCells s = (strZ s).map (Value.int .u8) := by simp [Lib.strCells, strZ]
theorem strZ_len (s : ByteArray) : (strZ s).length = s.size := by
  have := Lib.strCells_length s
  rw [strZ_cells, List.length_map] at this
  exact this
/-- The numbers' groups, a text's bytes behind their number. -/
def encs (xs : List Int) : List Int := xs.flatMap enc
def encT (s : ByteArray) : List Int := enc (s.size : Int) ++ strZ s
def encTs (ts : List ByteArray) : List Int := ts.flatMap encT
/-- v is a row of the call's own, at or behind B, of the bytes zs; nil, if there are none. -/
def OwnV (B : Nat) (w : World) (v : Value) (n : Nat) (zs : List Int) : Prop := w.ownsRow B 5 1 v n (zs.map (Value.int .u8))
theorem OwnV.len {B : Nat} {w : World} {v : Value} {n : Nat} {zs : List Int} (h : OwnV B w v n zs) : zs.length = n := by simpa using h.1
theorem OwnV.block {B : Nat} {w : World} {v : Value} {n k : Nat} {zs : List Int} (h : OwnV B w v n zs) (hk : v.ownBlock = some k) : B ≤ k ∧ ∃ cur, w.heap[k]? = some (.cells cur 5 (0, 0)) := by
  rcases h.2 with ⟨rfl, _⟩ | ⟨g, cap, cur, rfl, hb, hg, _⟩
  · simp [Value.ownBlock] at hk
  · simp [Value.ownBlock] at hk
    subst hk
    exact ⟨hb, cur, hg⟩
theorem OwnV.alloc {B : Nat} {w : World} {v : Value} {n : Nat} {zs : List Int} (h : OwnV B w v n zs) (o : Obj) : OwnV B (w.alloc o) v n zs := World.ownsRow.alloc h o
theorem Blk.row {B : Nat} {w w' : World} {v : Value} {n ad : Nat} {zs : List Int} {t : TypeId} {vs : Array Value} (h : Blk w ad t vs) (ht : t ≠ 5) (ho : OwnV B w v n zs) (hg : w.grownBy w' v.ownBlock) : Blk w' ad t vs := by
  refine (hg.block ad h.lt ?_).trans h
  intro e
  obtain ⟨_, cur, hc⟩ := ho.block e.symm
  rw [show w.heap[ad]? = _ from h] at hc
  simp at hc
  exact ht hc.2
theorem below_row {B : Nat} {w0 w w' : World} {v : Value} {n : Nat} {zs : List Int} (hB : B ≤ w0.heap.size) (h : Below B w0 w) (ho : OwnV B w v n zs) (hg : w.grownBy w' v.ownBlock) : Below B w0 w' :=
  h.grown hg (Nat.le_trans hB h.size) (fun _ hk => (ho.block hk).1)
theorem OwnV.some {B : Nat} {w : World} {v : Value} {n : Nat} {zs : List Int} (h : OwnV B w v n zs) (hn : n ≠ 0) : ∃ g c, v = .slice (some ⟨g, 0, none⟩) n c ∧ B ≤ g ∧ Own w g n c zs := by
  rcases h.2 with ⟨rfl, h0⟩ | ⟨g, cap, cur, rfl, hb, hg, rest⟩
  · exact absurd h0 hn
  · exact ⟨g, cap, rfl, hb, h.1, .inr ⟨g, cap, cur, rfl, Nat.zero_le _, hg, rest⟩⟩
theorem Own.toV {B : Nat} {w : World} {g n c : Nat} {zs : List Int} (h : Own w g n c zs) (hB : B ≤ g) : OwnV B w (.slice (some ⟨g, 0, none⟩) n c) n zs := by
  refine ⟨h.1, ?_⟩
  rcases h.2 with ⟨h', _⟩ | ⟨g', cap', cur, h', _, rest⟩
  · simp at h'
  · refine .inr ⟨g', cap', cur, h', ?_, rest⟩
    simp only [Value.slice.injEq, Option.some.injEq, Addr.mk.injEq, and_true, true_and] at h'
    omega
/-- All blocks of another type than bytes are as they were. -/
def Kp (w w' : World) : Prop := ∀ (ad : Nat) (t : TypeId) (vs : Array Value), t ≠ 5 → Blk w ad t vs → Blk w' ad t vs
theorem Kp.refl (w : World) : Kp w w := fun _ _ _ _ h => h
theorem Kp.alloc {w w' : World} (h : Kp w w') (o : Obj) : Kp w (w'.alloc o) := fun ad t vs ht hb => (h ad t vs ht hb).alloc o
theorem Kp.row {B : Nat} {w w1 w' : World} {v : Value} {n : Nat} {zs : List Int} (h : Kp w w1) (ho : OwnV B w1 v n zs) (hg : w1.grownBy w' v.ownBlock) : Kp w w' := fun ad t vs ht hb => (h ad t vs ht hb).row ht ho hg
theorem Kp.trans {w w1 w' : World} (h : Kp w w1) (k : Kp w1 w') : Kp w w' := fun ad t vs ht hb => k ad t vs ht (h ad t vs ht hb)
theorem Kp.below {w w' : World} (h : Below w.heap.size w w') : Kp w w' := fun _ _ _ _ hb => hb.keep h
theorem ownV_nil (B : Nat) (w : World) : OwnV B w (.slice none 0 0) 0 [] := ⟨rfl, .inl ⟨rfl, rfl⟩⟩
/-- An append onto such a row. -/
theorem wpList_appV (w : World) {ops : Array Oper} {rest : List Oper} {o : Oper} {a : Act} {Q : Exit → Act → World → Prop} (hgd : o.guard = none) (s x : Operand)
    (ho : o.op = .call { callee := .builtin .append, args := #[s, x], argTypes := #[22, 22] })
    (B : Nat) (v : Value) (n : Nat) (zs : List Int) (hs : a.eval s = v) (hown : OwnV B w v n zs)
    (ad : Addr) (m c' : Nat) (ys : List Int) (hx : a.eval x = .slice (some ad) m c') (hl : ys.length = m)
    (hnews : ∀ j, j < m → w.cell? (ad.add j) = some (.int .u8 (ys.getD j 0))) (hb : n + m ≤ 8000000) (hB : B ≤ w.heap.size)
    (h : ∀ v' w', OwnV B w' v' (n + m) (zs ++ ys) → w.grownBy w' v.ownBlock → wpList Tryz.prog ops Q rest (a.put o.dst v') w') :
    wpList Tryz.prog ops Q (o :: rest) a w := by
  obtain ⟨i0, hi, hz0, hz1, hz2⟩ := info_parts Tryz.info5
  refine wpList_append_own_at w hgd s x 22 ho B 5 i0 (.int .u8 0) 1 1 Tryz.underlying22 hi hz0 hz1 hz2 rfl (by decide) v n (zs.map (Value.int .u8)) hs hown ad m c' (ys.map (Value.int .u8)) hx (by simp [hl]) ?_ ?_ (by unfold maxLen; omega) (by omega) hB ?_
  · intro j u hj
    simp only [List.getElem?_map] at hj
    by_cases hjm : j < m
    · rw [hnews j hjm]
      rw [List.getElem?_eq_getElem (by omega)] at hj
      simpa [List.getElem?_eq_getElem (show j < ys.length by omega)] using hj
    · rw [List.getElem?_eq_none (by omega)] at hj
      simp at hj
  · intro u hu
    simp only [List.mem_map] at hu
    obtain ⟨z, _, rfl⟩ := hu
    rfl
  · intro v' w' h1 h2 _ _
    refine h v' w' ?_ h2
    unfold OwnV
    rw [List.map_append]
    exact h1
theorem encs_take (xs : List Int) (k : Nat) (h : k < xs.length) : encs (xs.take (k + 1)) = encs (xs.take k) ++ enc (xs.getD k 0) := by
  unfold encs
  rw [List.take_succ_eq_append_getElem h, List.flatMap_append]
  simp [h]
theorem encTs_take (ts : List ByteArray) (k : Nat) (h : k < ts.length) : encTs (ts.take (k + 1)) = encTs (ts.take k) ++ encT (ts.getD k ⟨#[]⟩) := by
  unfold encTs
  rw [List.take_succ_eq_append_getElem h, List.flatMap_append]
  simp [h]
set_option maxRecDepth 100000 in
set_option maxHeartbeats 1600000 in
theorem putNums_many (B : Nat) (v : Value) (n : Nat) (zs xs : List Int) (ad m : Nat) (w : World) (hm : xs.length = m) (hm3 : m ≤ 4) (hs : n ≤ 4000000) (hB : B ≤ w.heap.size) (hown : OwnV B w v n zs) (hx : Blk w ad 3 (xs.map (Value.int .i64)).toArray) :
    Calls Tryz.prog 87 #[v, .slice (some ⟨ad, 0, none⟩) m m] w fun e w' =>
      ∃ v', e = .returned v' ∧ OwnV B w' v' (zs ++ encs xs).length (zs ++ encs xs) ∧ Below B w w' ∧ Kp w w' := by
  have hm' : Hid (xs.length = m) := hm
  have hcl : Hid (∀ (W : World) (j : Nat), j < m → Blk W ad 3 (xs.map (Value.int .i64)).toArray → W.cell? ⟨ad, j, none⟩ = some (.int .i64 (xs.getD j 0))) := by
    intro W j hj hb
    rw [hb.cell j]
    simp [hm, hj]
  have htk : Hid (xs.take m = xs) := by show _ = _; rw [← hm, List.take_length]
  clear hm
  go_enter Tryz.func87, Tryz.ntmps87
  go_wp2
  go_loopw [0, 9] (fun u i wr => ∃ (k : Nat) (acc : List Int), k ≤ m ∧ i = .int .i64 k ∧ OwnV B wr u acc.length acc ∧ Below B w wr ∧ Kp w wr ∧ acc.length ≤ n + 4 * k ∧ Hid (acc = zs ++ encs (xs.take k))) (fun _ i _ => m - (intOf i).toNat)
  case atStart => exact ⟨0, zs, Nat.zero_le _, rfl, by rw [hown.len]; exact hown, Below.refl _ _, Kp.refl w, by rw [hown.len]; omega, by show _ = _; simp [encs]⟩
  case round =>
    obtain ⟨k, acc, hk, rfl, ho, hBl, hbk, hlen, hacc⟩ := hrel
    by_cases hkn : k < m
    · have hki : (k : Int) < (m : Int) := by omega
      have hcx := hcl.out wr k hkn (hbk _ _ _ (by decide) hx)
      have hnx := encs_take xs k (by rw [hm'.out]; exact hkn)
      obtain ⟨x, hxx⟩ : ∃ x, xs.getD k 0 = x := ⟨_, rfl⟩
      rw [hxx] at hcx hnx
      have hacc' : Hid (acc ++ enc x = zs ++ encs (xs.take (k + 1))) := by show _ = _; rw [hacc.out, hnx, List.append_assoc]
      clear hxx hnx hacc
      go_wp2
      all_goals
        go_loopw [0, 6] (fun u i wr => ∃ (p f : Nat) (bs : List Int), i = .int .i64 p ∧ p ≤ 1000000 ∧ OwnV B wr u bs.length bs ∧ Below B w wr ∧ Kp w wr ∧ p < 128 ^ (f + 1) ∧ bs.length + f ≤ acc.length + 3 ∧ Hid (acc ++ enc x = bs ++ encGo f p)) (fun _ i _ => (intOf i).toNat)
        case atStart => exact ⟨clamp x, 3, acc, val_int (by unfold clamp; omega), clamp_le x, ho, hBl, hbk, by have := clamp_le x; omega, by omega, rfl⟩
        case round =>
          obtain ⟨p, f, bs, rfl, hp, ho1, hBl1, hbk1, hp1, hl1, he1⟩ := hrel
          by_cases hp2 : 128 ≤ p
          · have hp3 : (128 : Int) ≤ (p : Int) := by omega
            go_wp2_with (at_builtin; refine wpList_appV _ rfl (.tmp 18) (.tmp 23) rfl B _ bs.length bs rfl (ho1.alloc _) ⟨_, 0, none⟩ 1 1 [(p : Int) % 128 + 128] rfl rfl (one_news _ _) (by omega) (by simp; have := hBl1.size; omega) ?_; intro v2 w2 ho2 hg2)
            obtain ⟨f', rfl⟩ : ∃ f', f = f' + 1 := by
              cases f with
              | zero => omega
              | succ f' => exact ⟨f', rfl⟩
            go_roundw
            case rel => exact ⟨p / 128, f', bs ++ [(p : Int) % 128 + 128], by go_num, by omega, by simpa using ho2, below_row hB (hBl1.alloc (Nat.le_trans hB hBl1.size) _) (ho1.alloc _) hg2, (hbk1.alloc _).row (ho1.alloc _) hg2, Nat.div_lt_of_lt_mul (by rw [Nat.pow_succ] at hp1; omega), by simp; omega, enc_step he1.out hp2⟩
            case measure => simp [intOf]; omega
          · have hp3 : ¬ (128 : Int) ≤ (p : Int) := by omega
            go_wp2_with (at_builtin; refine wpList_appV _ rfl (.tmp 27) (.tmp 30) rfl B _ bs.length bs rfl (ho1.alloc _) ⟨_, 0, none⟩ 1 1 [(p : Int)] rfl rfl (one_news _ _) (by omega) (by simp; have := hBl1.size; omega) ?_; intro v2 w2 ho2 hg2)
            have HE : acc ++ enc x = bs ++ [(p : Int)] := by rw [he1.out, encGo_last hp2]
            go_roundw
            case rel => exact ⟨k + 1, bs ++ [(p : Int)], by omega, by go_num, by simpa using ho2, below_row hB (hBl1.alloc (Nat.le_trans hB hBl1.size) _) (ho1.alloc _) hg2, (hbk1.alloc _).row (ho1.alloc _) hg2, by simp; omega, by show _ = _; rw [← hacc'.out, HE]⟩
            case measure => simp [intOf]; omega
    · go_wp2
      go_ret
      obtain rfl : k = m := by omega
      have h1 := hacc.out
      rw [htk.out] at h1
      subst h1
      exact ⟨_, rfl, ho, hBl, hbk⟩
theorem kp_b {B : Nat} {w0 w : World} (hB : B ≤ w0.heap.size) (h : Below B w0 w) (o : Obj) : Below B w0 (w.alloc o) := h.alloc (Nat.le_trans hB h.size) o
theorem map_app_str (acc : List Int) (s : ByteArray) : acc.map (Value.int .u8) ++ Lib.strCells s = (acc ++ strZ s).map (Value.int .u8) := by rw [strZ_cells, List.map_append]
theorem encs_one (x : Int) : encs [x] = enc x := by simp [encs]
set_option maxRecDepth 100000 in
set_option maxHeartbeats 1600000 in
theorem putTexts_many (B : Nat) (v : Value) (n : Nat) (zs : List Int) (ts : List ByteArray) (ad m : Nat) (w : World) (hm : ts.length = m) (hm3 : m ≤ 2) (hs : n ≤ 2000000) (hsz : ∀ t ∈ ts, t.size ≤ 1048576) (hB : B ≤ w.heap.size) (hown : OwnV B w v n zs) (hx : Blk w ad 9 (ts.map Value.string).toArray) :
    Calls Tryz.prog 89 #[v, .slice (some ⟨ad, 0, none⟩) m m] w fun e w' =>
      ∃ v', e = .returned v' ∧ OwnV B w' v' (zs ++ encTs ts).length (zs ++ encTs ts) ∧ Below B w w' ∧ Kp w w' := by
  obtain ⟨i0, hi, hz0, hz1, hz2⟩ := info_parts Tryz.info5
  have hm' : Hid (ts.length = m) := hm
  have hcl : Hid (∀ (W : World) (j : Nat), j < m → Blk W ad 9 (ts.map Value.string).toArray → W.cell? ⟨ad, j, none⟩ = some (.string (ts.getD j ⟨#[]⟩))) := by
    intro W j hj hb
    rw [hb.cell j]
    simp [hm, hj]
  have htk : Hid (ts.take m = ts) := by show _ = _; rw [← hm, List.take_length]
  clear hm
  go_enter Tryz.func89, Tryz.ntmps89
  go_wp2
  go_loopw [0, 9] (fun u i wr => ∃ (k : Nat) (acc : List Int), k ≤ m ∧ i = .int .i64 k ∧ OwnV B wr u acc.length acc ∧ Below B w wr ∧ Kp w wr ∧ acc.length ≤ n + 1048580 * k ∧ Hid (acc = zs ++ encTs (ts.take k))) (fun _ i _ => m - (intOf i).toNat)
  case atStart => exact ⟨0, zs, Nat.zero_le _, rfl, by rw [hown.len]; exact hown, Below.refl _ _, Kp.refl w, by rw [hown.len]; omega, by show _ = _; simp [encTs]⟩
  case round =>
    obtain ⟨k, acc, hk, rfl, ho, hBl, hbk, hlen, hacc⟩ := hrel
    by_cases hkn : k < m
    · have hki : (k : Int) < (m : Int) := by omega
      have hkl : k < ts.length := by rw [hm'.out]; exact hkn
      have hcx := hcl.out wr k hkn (hbk _ _ _ (by decide) hx)
      have hnx := encTs_take ts k hkl
      have hss : (ts.getD k ⟨#[]⟩).size ≤ 1048576 := hsz _ (by simp [hkl])
      obtain ⟨s, hxx⟩ : ∃ s, ts.getD k ⟨#[]⟩ = s := ⟨_, rfl⟩
      rw [hxx] at hcx hnx hss
      have hel := enc_len (s.size : Int)
      have hzl := strZ_len s
      have hacc' : Hid ((acc ++ enc (s.size : Int)) ++ strZ s = zs ++ encTs (ts.take (k + 1))) := by show _ = _; rw [hacc.out, hnx]; simp [encT, List.append_assoc]
      clear hxx hnx hacc hkl
      have hbs := hBl.size
      go_wp2_with fail
      refine (putNums_many B _ acc.length acc [(s.size : Int)] wr.heap.size 1 _ rfl (by omega) (by omega) (by simp; omega) (ho.alloc _) (Blk.new wr 3 _)).mono ?_
      rintro e w1 ⟨v1, rfl, ho1, hb1, hk1⟩
      rw [encs_one] at ho1
      have hB1 : Below B w w1 := (kp_b hB hBl _).trans hb1
      have hK1 : Kp w w1 := (hbk.alloc _).trans hk1
      clear hk1 hb1
      have hl1 : (acc ++ enc (s.size : Int)).length ≤ acc.length + 4 := by rw [List.length_append]; omega
      obtain ⟨ac, hac⟩ : ∃ ac, acc ++ enc (s.size : Int) = ac := ⟨_, rfl⟩
      rw [hac] at ho1 hacc' hl1
      have hm1 : ac.length + s.size ≤ maxLen := by unfold maxLen; omega
      go_wp2_with (at_builtin; refine Lib.wpList_append_own_string _ rfl (.tmp 17) (.tmp 18) 22 9 rfl B 5 i0 Tryz.underlying22 Tryz.underlying9 hi hz0 hz1 hz2 v1 ac.length _ rfl ho1 s rfl hm1 (by omega) (Nat.le_trans hB hB1.size) ?_; intro v2 w2 ho2 hg2 _)
      rw [map_app_str] at ho2
      go_roundw
      case rel => exact ⟨k + 1, ac ++ strZ s, by omega, by go_num, by rw [List.length_append, hzl]; exact ho2, below_row hB hB1 ho1 hg2, hK1.row ho1 hg2, by rw [List.length_append, hzl]; omega, hacc'⟩
      case measure => simp [intOf]; omega
    · go_wp2
      go_ret
      obtain rfl : k = m := by omega
      have h1 := hacc.out
      rw [htk.out] at h1
      subst h1
      exact ⟨_, rfl, ho, hBl, hbk⟩
end
end Go.Proofs.YtoeeblmnogeonaaGreatDoor
