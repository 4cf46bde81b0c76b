/-
  Joined: IdxP, DelP, ReachM, ReachI, LeadI, Shelf.
-/
import Derived.Test.YtbjfihabkpianaaGreatDoorAscIE
import Derived.Test.YtbjfihabkpianaaGreatDoorJ17E
import Derived.Test.YtbjfihabkpianaaGreatDoorTreeSE
import Derived.Shelf.SlGeneric
import Derived.Shelf.SlIterI.Nil
import Derived.Shelf.SortM.Plain
import Derived.Shelf.SortM.SortNone
import Derived.Ground.GgzProg
import Derived.Ground.SlgmProg
namespace Go.Proofs.YtbjfihabkpianaaGreatDoor
section
open Go.RowKit
/-- The closure's two variables: the name's function, the text. -/
structure CVEnt (w : World) (FB SB : Nat) (s : ByteArray) : Prop where
  f : Blk w FB 253 #[.func (.func 223) #[] #[]]
  s : Blk w SB 9 #[.string s]
theorem CVEnt.keep {w w' : World} {FB SB : Nat} {s : ByteArray} (h : CVEnt w FB SB s) (hb : Below w.heap.size w w') : CVEnt w' FB SB s := ⟨h.f.keep hb, h.s.keep hb⟩
theorem CVEnt.row {w w' : World} {FB SB : Nat} {s : ByteArray} {g n c : Nat} {ps : List VP} (h : CVEnt w FB SB s) (ho : OwnP 154 w g n c ps) (hg : w.grownBy w' (some g)) : CVEnt w' FB SB s := by
  have hk : KpT w w' [253, 9] := KpT.row (v := .slice (some ⟨g, 0, none⟩) n c) hg ho (by decide)
  exact ⟨h.f.kp hk (by decide), h.s.kp hk (by decide)⟩
set_option maxRecDepth 100000 in
set_option maxHeartbeats 2000000 in
theorem sameEnt (z : ByteArray) (u : Int) (s : ByteArray) (FB SB : Nat) (w : World) (hv : CVEnt w FB SB s) :
    Calls Tryz.prog 293 #[.agg #[.string z, .int .i64 u], .pointer (some ⟨FB, 0, none⟩), .pointer (some ⟨SB, 0, none⟩)] w fun e w' => e = .returned (.bool (z.toList == s.toList)) ∧ Below w.heap.size w w' := by
  have b0 : Below w.heap.size w (w.alloc (.cells #[.string z, .int .i64 u] 154)) := (Below.refl _ w).alloc (Nat.le_refl _) _
  have hv0 := hv.keep b0
  have z0 := Blk.new w 154 #[.string z, .int .i64 u]
  have hn := entName_any z u
  go_enter Tryz.func293, Tryz.ntmps293
  go_wp2_with fail
  obtain ⟨W, hW⟩ : ∃ W, w.alloc (.cells #[.string z, .int .i64 u] 154) = W := ⟨_, rfl⟩
  rw [hW] at hv0 z0 b0 ⊢
  clear hW hv
  have HK : Hid (∀ V : World, Below W.heap.size W V → V.cell? ⟨FB, 0, none⟩ = some (.func (.func 223) #[] #[]) ∧ V.cell? ⟨SB, 0, none⟩ = some (.string s) ∧ V.cell? ⟨w.heap.size, 0, none⟩ = some (.string z) ∧ V.cell? ⟨w.heap.size, 1, none⟩ = some (.int .i64 u)) := fun V hV => ⟨(hv0.keep hV).f.cell 0, (hv0.keep hV).s.cell 0, (z0.keep hV).cell 0, (z0.keep hV).cell 1⟩
  obtain ⟨k0, k1, k2, k3⟩ := HK.out W (Below.refl _ _)
  go_region_held3 (fun V : World => V.cell? ⟨FB, 0, none⟩ = some (.func (.func 223) #[] #[]) ∧ V.cell? ⟨SB, 0, none⟩ = some (.string s) ∧ V.cell? ⟨w.heap.size, 0, none⟩ = some (.string z) ∧ V.cell? ⟨w.heap.size, 1, none⟩ = some (.int .i64 u)) (go_keep) (first
    | (go_at_call 223; (with_reducible refine (hn W.drew).mono ?_); rintro e w1 ⟨rfl, b1⟩; have B1 : Below W.heap.size W w1 := (Below.refl _ W).drew.trans b1; obtain ⟨q0, q1, q2, q3⟩ := HK.out w1 B1)
    | fail)
  have hend : Hid _ := b0.trans (B1.mono b0.size)
  clear q0 q1 q2 q3 k0 k1 k2 k3 b1 B1 z0 hv0 b0
  go_wp2
  go_ret
  exact ⟨rfl, hend.out⟩
/-- The place of the first one of this name, or -1. -/
def firstEnt (es : List (ByteArray × Int)) (s : ByteArray) : Int := match es.findIdx? (fun e => e.1.toList == s.toList) with | some k => (k : Int) | none => -1
theorem firstEnt_at {es : List (ByteArray × Int)} {s : ByteArray} {k : Nat} (hk : k < es.length) (h : (es[k].1.toList == s.toList) = true) (ha : ∀ (j : Nat) (hj : j < es.length), j < k → (es[j].1.toList == s.toList) = false) : firstEnt es s = (k : Int) := by
  unfold firstEnt
  have : es.findIdx? (fun e => e.1.toList == s.toList) = some k := List.findIdx?_eq_some_iff_getElem.2 ⟨hk, h, fun j hj => by rw [ha j (by omega) hj]; decide⟩
  rw [this]
theorem firstEnt_none {es : List (ByteArray × Int)} {s : ByteArray} (ha : ∀ (j : Nat) (hj : j < es.length), (es[j].1.toList == s.toList) = false) : firstEnt es s = -1 := by
  unfold firstEnt
  have : es.findIdx? (fun e => e.1.toList == s.toList) = none := List.findIdx?_eq_none_iff.2 fun e he => by
    obtain ⟨j, hj, rfl⟩ := List.getElem_of_mem he
    exact ha j hj
  rw [this]
set_option maxRecDepth 100000 in
set_option maxHeartbeats 2000000 in
theorem indexEnt (a : Option Addr) (n cap : Nat) (es : List (ByteArray × Int)) (s : ByteArray) (FB SB : Nat) (w : World) (hn : es.length = n) (hs : n ≤ 4000000) (hr : RdP w a (eP es)) (hv : CVEnt w FB SB s) :
    Calls Tryz.prog 315 #[.slice a n cap, .func (.func 293) #[] #[.pointer (some ⟨FB, 0, none⟩), .pointer (some ⟨SB, 0, none⟩)]] w fun e w' => e = .returned (.int .i64 (firstEnt es s)) ∧ Below w.heap.size w w' := by
  have HR : Hid _ := hr
  have HV : Hid _ := hv
  have HN : Hid (es.length = n) := hn
  obtain ⟨R, hR⟩ : ∃ R, firstEnt es s = R := ⟨_, rfl⟩
  rw [hR]
  have HRR : Hid _ := hR
  clear hr hv hn hR
  go_enter Tryz.func315, Tryz.ntmps315
  go_wp2
  go_loopw [8] (fun i wr => ∃ k : Nat, k ≤ n ∧ i = .int .i64 k ∧ Hid (∀ (j : Nat) (hj : j < es.length), j < k → (es[j].1.toList == s.toList) = false) ∧ Hid (Below w.heap.size w wr)) (fun i _ => n - (intOf i).toNat)
  case atStart => exact ⟨0, Nat.zero_le _, rfl, fun j _ hj => by omega, Below.refl _ _⟩
  case round =>
    obtain ⟨k, hk, rfl, hall, hB⟩ := hrel
    by_cases hkn : k < n
    · have hki : (k : Int) < (n : Int) := by omega
      have hk0 : (0 : Int) ≤ (k : Int) := by omega
      have hkl : k < es.length := by rw [HN.out]; exact hkn
      obtain ⟨eb, eo, rfl, helt, hec⟩ := RdP.lt (RdP.keep HR.out hB.out) (by intro h; have := congrArg List.length h; rw [eP_length] at this; simp at this; rw [this] at hkl; simp at hkl)
      have hx := hec k (by rw [eP_length]; exact hkl)
      rw [eP_at es k hkl] at hx
      have hyes : Hid ((es[k].1.toList == s.toList) = true → (k : Int) = R) := fun h => by rw [← HRR.out]; exact (firstEnt_at hkl h hall.out).symm
      have hno : Hid ((es[k].1.toList == s.toList) = false → ∀ (j : Nat) (hj : j < es.length), j < k + 1 → (es[j].1.toList == s.toList) = false) := fun h j hj hjk => by
        rcases (show j < k ∨ j = k by omega) with h1 | rfl
        · exact hall.out j hj h1
        · exact h
      obtain ⟨z, u, hzu⟩ : ∃ z u, es[k] = (z, u) := ⟨_, _, rfl⟩
      rw [hzu] at hx hyes hno
      obtain ⟨x1, x2⟩ := hx
      dsimp only at x1 x2 hyes hno
      have hcc := sameEnt z u s FB SB wr (CVEnt.keep HV.out hB.out)
      obtain ⟨bb, hbb⟩ : ∃ b, (z.toList == s.toList) = b := ⟨_, rfl⟩
      rw [hbb] at hcc hyes hno
      clear hec hzu hall hbb
      cases bb with
      | true =>
        have hend : Hid ((k : Int) = R) := hyes.out rfl
        clear hyes hno
        go_wp2_with (go_at_call 293; (with_reducible refine hcc.mono ?_); rintro e w1 ⟨rfl, b1⟩)
        go_ret
        exact ⟨ret_int hend.out, hB.out.trans (b1.mono hB.out.size)⟩
      | false =>
        have hnx : Hid _ := hno.out rfl
        clear hyes hno
        go_wp2_with (go_at_call 293; (with_reducible refine hcc.mono ?_); rintro e w1 ⟨rfl, b1⟩)
        go_roundw
        case rel => exact ⟨k + 1, by omega, by go_num, hnx, hB.out.trans (b1.mono hB.out.size)⟩
        case measure => simp [intOf]; omega
    · have hki : ¬ (k : Int) < (n : Int) := by omega
      have hend : Hid ((-1 : Int) = R) := by show _ = _; rw [← HRR.out]; exact (firstEnt_none (fun j hj => hall.out j hj (by rw [HN.out] at hj; omega))).symm
      clear hall
      go_wp2
      go_ret
      exact ⟨ret_int hend.out, hB.out⟩
end

section
open Go.RowKit
theorem zc_one {z1 z2 : Value} {m : Nat} (h1 : z1.oneCell' = true) (h2 : z2.oneCell' = true) : ∀ v ∈ (Builtin.zeroCells #[z1, z2] m).toList, v.oneCell' = true := by
  intro v hv
  unfold Builtin.zeroCells at hv
  rw [Array.toList_map, List.mem_map] at hv
  obtain ⟨i, _, rfl⟩ := hv
  rcases Nat.mod_two_eq_zero_or_one i with h | h
  · show (#[z1, z2][i % 2]!).oneCell' = true
    rw [h]
    exact h1
  · show (#[z1, z2][i % 2]!).oneCell' = true
    rw [h]
    exact h2
theorem ownQ_shape {e : TypeId} {w : World} {v : Value} {n : Nat} {ps : List VP} (h : OwnQ e w v n ps) : ∃ a c, v = .slice a n c := by
  rcases h.cases with ⟨rfl, rfl, _⟩ | ⟨g, c, rfl, _⟩
  · exact ⟨none, 0, rfl⟩
  · exact ⟨_, _, rfl⟩
theorem pv_take : ∀ (ps : List VP) (i : Nat), (pv ps).take (i * 2) = pv (ps.take i)
  | [], i => by simp [pv]
  | p :: ps, 0 => by simp [pv]
  | p :: ps, i + 1 => by
    have e : pv (p :: ps) = p.1 :: p.2 :: pv ps := rfl
    rw [e, show (i + 1) * 2 = i * 2 + 1 + 1 by omega, List.take_succ_cons, List.take_succ_cons, pv_take ps i, List.take_succ_cons]
    rfl
theorem wpList_clear (W : World) {ops : Array Oper} {rest : List Oper} {o : Oper} {a : Act} {Q : Exit → Act → World → Prop} (hgd : o.guard = none) (s : Operand) (T : TypeId)
    (ho : o.op = .call { callee := .builtin .clear, args := #[s], argTypes := #[T] }) (v : Value) (W' : World) (hs : a.eval s = v) (hr : ∀ ty, (Builtin.clear_ #[T] ty #[v]).run Tryz.prog W = .ok (.tuple #[]) W')
    (h : wpList Tryz.prog ops Q rest (a.put o.dst (.tuple #[])) W') : wpList Tryz.prog ops Q (o :: rest) a W := by
  refine wpList_plain hgd fun K hK => ?_
  unfold Oper.wp execOp
  simp only [ho, resolve, invoke, builtin, Sem.run_bind, Sem.run_pure, Result.andThen_ok, List.map_toArray, List.map_cons, List.map_nil, hs, hr]
  exact hK _ _ h
theorem gr_setCells (g : Nat) : ∀ (zs : List Value) (o : Nat) (w : World), w.grownBy (w.setCells g o zs) (some g)
  | [], _, _ => ⟨rfl, rfl, rfl, Nat.le_refl _, fun _ _ _ => rfl⟩
  | z :: zs, o, w => (gr_setC w g o z).trans (gr_setCells g zs (o + 1) _)
theorem ownP_setCells {e : TypeId} {g i cap : Nat} {ps : List VP} : ∀ (zs : List Value) (o : Nat) (w : World), OwnP e w g i cap ps → i * 2 ≤ o → OwnP e (w.setCells g o zs) g i cap ps
  | [], _, _, h, _ => h
  | z :: zs, o, w, h, ho => by
    have h1 := (World.ownsRow.stored h o z).1
    rw [List.set_eq_of_length_le (by have := h.1; omega)] at h1
    exact ownP_setCells zs (o + 1) _ h1 (by omega)
theorem own_takeP {e : TypeId} {w : World} {g n i cap : Nat} {ps : List VP} (h : OwnP e w g n cap ps) (hi : i ≤ n) : OwnP e w g i cap (ps.take i) := by
  have hl := h.len
  refine ⟨by rw [pv_length, List.length_take]; omega, ?_⟩
  rcases h.2 with ⟨h0, _⟩ | ⟨g', c', cur, h0, hg, hh, hnc, hcm, hcs, htk⟩
  · cases h0
  · cases h0
    refine .inr ⟨g, cap, cur, rfl, hg, hh, by omega, hcm, hcs, ?_⟩
    have e1 := congrArg (List.take (i * 2)) htk
    rw [List.take_take, Nat.min_eq_left (by omega)] at e1
    rw [e1, pv_take]
theorem Below.gr {w w' : World} (h : Below w.heap.size w w') (r : Option Nat) : w.grownBy w' r := ⟨h.os, h.tape, h.output, h.size, fun k hk _ => h.block k hk⟩
theorem gr_tr {w w1 w2 : World} {r : Option Nat} (h : w.grownBy w1 r) (k : w1.grownBy w2 r) : w.grownBy w2 r := h.trans k
/-- What is left without those of this name. -/
def dropEnt (es : List (ByteArray × Int)) (s : ByteArray) : List (ByteArray × Int) := es.filter fun e => !(e.1.toList == s.toList)
theorem eP_append (l m : List (ByteArray × Int)) : eP (l ++ m) = eP l ++ eP m := by unfold eP; rw [List.map_append]
theorem eP_take (l : List (ByteArray × Int)) (k : Nat) : (eP l).take k = eP (l.take k) := by unfold eP; rw [List.map_take]
theorem eP_drop (l : List (ByteArray × Int)) (k : Nat) : (eP l).drop k = eP (l.drop k) := by unfold eP; rw [List.map_drop]
/-- In the midst of it: the first i are what is left of the first j; from j on all is as it was. -/
structure DFEnt (es : List (ByteArray × Int)) (s : ByteArray) (ps : List VP) (i j : Nat) : Prop where
  lt : i < j
  le : j ≤ es.length
  len : ps.length = es.length
  left : ps.take i = eP (dropEnt (es.take j) s)
  rest : ps.drop j = eP (es.drop j)
theorem DFEnt.start {es : List (ByteArray × Int)} {s : ByteArray} {k : Nat} (hk : k < es.length) (h : (es[k].1.toList == s.toList) = true) (ha : ∀ (j : Nat) (hj : j < es.length), j < k → (es[j].1.toList == s.toList) = false) : DFEnt es s (eP es) k (k + 1) := by
  refine ⟨by omega, hk, eP_length es, ?_, eP_drop _ _⟩
  rw [eP_take]
  congr 1
  unfold dropEnt
  rw [List.take_add_one, List.getElem?_eq_getElem hk, Option.toList_some, List.filter_append, List.filter_cons_of_neg (by rw [h]; decide), List.filter_nil, List.append_nil]
  refine (List.filter_eq_self.2 fun e he => ?_).symm
  obtain ⟨j, hj, rfl⟩ := List.getElem_of_mem he
  rw [List.length_take] at hj
  rw [List.getElem_take, ha j (by omega) (by omega)]
  rfl
theorem DFEnt.get {es : List (ByteArray × Int)} {s : ByteArray} {ps : List VP} {i j : Nat} (h : DFEnt es s ps i j) (hj : j < es.length) : ps.getD j (undef, undef) = (.string es[j].1, .int .i64 es[j].2) := by
  have h1 : (ps.drop j)[0]? = (eP (es.drop j))[0]? := by rw [h.rest]
  rw [List.getElem?_drop, Nat.add_zero] at h1
  rw [List.getD_eq_getElem?_getD, h1, ← eP_drop, List.getElem?_drop, Nat.add_zero, ← List.getD_eq_getElem?_getD]
  exact eP_at es j hj
theorem DFEnt.skip {es : List (ByteArray × Int)} {s : ByteArray} {ps : List VP} {i j : Nat} (h : DFEnt es s ps i j) (hj : j < es.length) (he : (es[j].1.toList == s.toList) = true) : DFEnt es s ps i (j + 1) := by
  refine ⟨by have := h.lt; omega, hj, h.len, ?_, ?_⟩
  · rw [h.left]
    congr 1
    unfold dropEnt
    rw [List.take_add_one, List.getElem?_eq_getElem hj, Option.toList_some, List.filter_append, List.filter_cons_of_neg (by rw [he]; decide), List.filter_nil, List.append_nil]
  · have := congrArg (List.drop 1) h.rest
    rw [List.drop_drop, eP_drop, List.drop_drop] at this
    exact this
theorem DFEnt.move {es : List (ByteArray × Int)} {s : ByteArray} {ps : List VP} {i j : Nat} (h : DFEnt es s ps i j) (hj : j < es.length) (he : (es[j].1.toList == s.toList) = false) : DFEnt es s (ps.set i (.string es[j].1, .int .i64 es[j].2)) (i + 1) (j + 1) := by
  have hlt := h.lt
  have hl := h.len
  refine ⟨by omega, hj, by rw [List.length_set]; exact hl, ?_, ?_⟩
  · rw [List.take_add_one, List.take_set_of_le (by omega), h.left, List.getElem?_set_self (by omega), Option.toList_some]
    unfold dropEnt
    rw [List.take_add_one, List.getElem?_eq_getElem hj, Option.toList_some, List.filter_append, List.filter_cons_of_pos (by rw [he]; rfl), List.filter_nil, eP_append]
    rfl
  · rw [List.drop_set_of_lt (by omega)]
    have := congrArg (List.drop 1) h.rest
    rw [List.drop_drop, eP_drop, List.drop_drop] at this
    exact this
theorem DFEnt.fin {es : List (ByteArray × Int)} {s : ByteArray} {ps : List VP} {i j : Nat} (h : DFEnt es s ps i j) (hj : es.length ≤ j) : ps.take i = eP (dropEnt es s) ∧ (dropEnt es s).length = i := by
  have h1 := h.left
  rw [List.take_of_length_le hj] at h1
  refine ⟨h1, ?_⟩
  have h2 := congrArg List.length h1
  rw [eP_length, List.length_take] at h2
  have := h.lt
  have := h.le
  have := h.len
  omega
theorem zeroEnt (w : World) : (zeroValue 154).run Tryz.prog w = .ok (.agg #[.string ⟨#[]⟩, .int .i64 0]) w := by kernel_rfl
/-- clear of the last ones. -/
theorem clearEnt (w : World) (g i n c cap : Nat) (ps : List VP) (ty : TypeId) (ho : OwnP 154 w g n cap ps) (hi : i < n) :
    ∃ w', (Builtin.clear_ #[65] ty #[.slice (some ⟨g, i * 2, none⟩) (n - i) c]).run Tryz.prog w = .ok (.tuple #[]) w' ∧ OwnP 154 w' g i cap (ps.take i) ∧ w.grownBy w' (some g) := by
  obtain ⟨zs, hzs⟩ : ∃ zs, (Builtin.zeroCells (Value.agg #[.string ⟨#[]⟩, .int .i64 0]).cells (n - i)).toList = zs := ⟨_, rfl⟩
  have hzl : zs.length = (n - i) * 2 := by rw [← hzs, Array.length_toList, size_zeroCells]; rfl
  have hz1 : ∀ v ∈ zs, v.oneCell' = true := by
    intro v hv
    rw [← hzs] at hv
    exact zc_one rfl rfl v hv
  have hst := run_storeCells_cells (P := Tryz.prog) g (i * 2) zs 0 w (fun j hj => by
      have h1 := ho.len
      rw [hzl] at hj
      have hp : (pv ps)[i * 2 + j]? ≠ none := by
        rw [ne_eq, List.getElem?_eq_none_iff, pv_length]
        omega
      have := World.ownsRow.cellAt ho (i * 2 + j) (by omega)
      rw [Nat.add_zero, this]
      exact Option.isSome_iff_ne_none.2 hp) (fun j _ => by rw [Nat.add_zero]; exact ho.frozen _) hz1
  rw [Nat.add_zero] at hst
  refine ⟨w.setCells g (i * 2) zs, ?_, ?_, gr_setCells _ _ _ _⟩
  · obtain ⟨m, hm⟩ : ∃ m, n - i = m + 1 := ⟨n - i - 1, by omega⟩
    rw [hm] at hzs ⊢
    simp [Builtin.clear_, run_underlying Tryz.underlying65, hzs, hst]
  · exact ownP_setCells _ _ _ (own_takeP ho (by omega)) (Nat.le_refl _)
set_option maxRecDepth 100000 in
set_option maxHeartbeats 4000000 in
theorem deleteEnt (v : Value) (n : Nat) (es : List (ByteArray × Int)) (s : ByteArray) (FB SB : Nat) (w : World) (hs : n ≤ 1000000) (ho : OwnQ 154 w v n (eP es)) (hv : CVEnt w FB SB s) :
    Calls Tryz.prog 292 #[v, .func (.func 293) #[] #[.pointer (some ⟨FB, 0, none⟩), .pointer (some ⟨SB, 0, none⟩)]] w fun e w' => ∃ v', e = .returned v' ∧ OwnQ 154 w' v' (dropEnt es s).length (eP (dropEnt es s)) ∧ w.grownBy w' v.ownBlock := by
  have hn : es.length = n := by
    have := ho.1
    rw [pv_length, eP_length] at this
    omega
  obtain ⟨a, cap, rfl⟩ := ownQ_shape ho
  have hrd : RdP w a (eP es) := by
    rcases ho.cases with ⟨h1, rfl, h2⟩ | ⟨g, c, h1, h2⟩
    · exact .inl h2
    · cases h1
      exact h2.rd
  have hcI := indexEnt a n cap es s FB SB w hn (by omega) hrd hv
  rcases Classical.em (∃ (k : Nat) (hk : k < es.length), (es[k].1.toList == s.toList) = true ∧ ∀ (j : Nat) (hj : j < es.length), j < k → (es[j].1.toList == s.toList) = false) with ⟨k, hk, hke, hka⟩ | hno
  · rw [firstEnt_at hk hke hka] at hcI
    have hdf := DFEnt.start hk hke hka
    rcases ho.cases with ⟨h1, rfl, h2⟩ | ⟨g, c, h1, ho'⟩
    · rw [hn] at hk
      omega
    cases h1
    have hkn : k < n := by omega
    have hkm : ((k : Int) == -1) = false := beq_false_of_ne (by omega)
    have HV : Hid _ := hv
    have HN : Hid _ := hn
    obtain ⟨L, hL⟩ : ∃ L, dropEnt es s = L := ⟨_, rfl⟩
    rw [hL]
    have HL : Hid _ := hL
    have HO : Hid _ := ho'
    have HDF : Hid _ := hdf
    have hnc : n ≤ cap := by
      rcases ho'.2 with ⟨h0, _⟩ | ⟨g', c', cur, h0, _, _, h3, _⟩
      · cases h0
      · cases h0
        exact h3
    clear hrd ho hv hn hL hke hka hk ho' hdf
    go_enter Tryz.func292, Tryz.ntmps292
    go_wp2_with fail
    (with_reducible refine hcI.mono ?_)
    rintro e w1 ⟨rfl, b1⟩
    have ho1 : Hid _ := OwnP.keep HO.out b1
    have hv1 : Hid _ := CVEnt.keep HV.out b1
    have hg1 : Hid (w.grownBy w1 (some g)) := Below.gr b1 _
    clear hcI HO HV
    go_wp2_with fail
    go_loopw [5, 6] (fun i j wr => ∃ (i' j' : Nat) (ps : List VP), i = .int .i64 i' ∧ j = .int .i64 j' ∧ i' < j' ∧ j' ≤ n ∧ Hid (DFEnt es s ps i' j') ∧ Hid (OwnP 154 wr g n cap ps) ∧ Hid (CVEnt wr FB SB s) ∧ Hid (w.grownBy wr (some g))) (fun _ j _ => n - (intOf j).toNat)
    case atStart => exact ⟨k, k + 1, eP es, rfl, by go_num, by omega, by omega, HDF, ho1, hv1, hg1⟩
    case round =>
      obtain ⟨i, j, ps, rfl, rfl, hij, hjn, hD, hO, hV, hG⟩ := hrel
      clear ho1 hv1 hg1 HDF b1
      by_cases hj : j < n
      · have hji : (j : Int) < (n : Int) := by omega
        have hj0 : (0 : Int) ≤ (j : Int) := by omega
        have hi0 : (0 : Int) ≤ (i : Int) := by omega
        have hin : (i : Int) < (n : Int) := by omega
        have hjl : j < es.length := by rw [HN.out]; exact hj
        obtain ⟨x1, x2⟩ := OwnP.cells hO.out j hj
        rw [hD.out.get hjl] at x1 x2
        have hsk : Hid ((es[j].1.toList == s.toList) = true → DFEnt es s ps i (j + 1)) := hD.out.skip hjl
        have hmv : Hid ((es[j].1.toList == s.toList) = false → DFEnt es s (ps.set i (.string es[j].1, .int .i64 es[j].2)) (i + 1) (j + 1)) := hD.out.move hjl
        obtain ⟨z, u, hzu⟩ : ∃ z u, es[j] = (z, u) := ⟨_, _, rfl⟩
        rw [hzu] at x1 x2 hsk hmv
        dsimp only at x1 x2 hsk hmv
        have bA : Below wr.heap.size wr (wr.alloc (.cells #[.string z, .int .i64 u] 154)) := (Below.refl _ wr).alloc (Nat.le_refl _) _
        have zA := Blk.new wr 154 #[.string z, .int .i64 u]
        have hcc := sameEnt z u s FB SB _ (CVEnt.keep hV.out bA)
        have hOA : Hid _ := OwnP.keep hO.out bA
        have hVA : Hid _ := CVEnt.keep hV.out bA
        have hGA : Hid _ := gr_tr hG.out (Below.gr bA (some g))
        have hgA : g ≠ wr.heap.size := by have := OwnP.lt hO.out; omega
        have HZA : Hid _ := zA
        obtain ⟨bb, hbb⟩ : ∃ b, (z.toList == s.toList) = b := ⟨_, rfl⟩
        rw [hbb] at hcc hsk hmv
        clear hzu hbb bA zA hD hO hV hG
        go_wp2_with fail
        obtain ⟨W2, hW2⟩ : ∃ W, wr.alloc (.cells #[.string z, .int .i64 u] 154) = W := ⟨_, rfl⟩
        obtain ⟨E, hE⟩ : ∃ E, wr.heap.size = E := ⟨_, rfl⟩
        rw [hW2] at hcc hOA hVA hGA HZA ⊢
        rw [hE] at hgA HZA ⊢
        clear hW2 hE
        (with_reducible refine hcc.mono ?_)
        rintro e w3 ⟨rfl, b3⟩
        have zE := Blk.keep HZA.out b3
        have y0 := zE.cell 0
        have y1 := zE.cell 1
        simp at y0 y1
        have hO3 := OwnP.keep hOA.out b3
        have hV3 : Hid _ := CVEnt.keep hVA.out b3
        have hG3 : Hid _ := gr_tr hGA.out (Below.gr b3 (some g))
        cases bb with
        | true =>
          have hnx : Hid _ := hsk.out rfl
          have HO3 : Hid _ := hO3
          clear hsk hmv hcc hOA hVA hGA HZA b3 zE hO3 y0 y1
          go_wp2
          go_roundw
          case rel => exact ⟨i, j + 1, ps, rfl, by go_num, by omega, by omega, hnx, HO3, hV3, hG3⟩
          case measure => simp [intOf]; omega
        | false =>
          have hnx : Hid _ := hmv.out rfl
          obtain ⟨q0, q1⟩ := OwnP.cells hO3 i (by omega)
          have fr0 := OwnP.frozen hO3 (i * 2)
          have fr1 := OwnP.frozen hO3 (i * 2 + 1)
          have HO4 : Hid _ := ownP_stored hO3 i (by omega) (.string z, .int .i64 u)
          have HG4 : Hid _ := gr_tr hG3.out (gr_tr (gr_setC w3 g (i * 2) (.string z)) (gr_setC (w3.setCell ⟨g, i * 2, none⟩ (.string z)) g (i * 2 + 1) (.int .i64 u)))
          have HV4 : Hid _ := CVEnt.row hV3.out hO3 (gr_tr (gr_setC w3 g (i * 2) (.string z)) (gr_setC (w3.setCell ⟨g, i * 2, none⟩ (.string z)) g (i * 2 + 1) (.int .i64 u)))
          obtain ⟨o0, ho0⟩ : ∃ v, (ps.getD i (undef, undef)).1 = v := ⟨_, rfl⟩
          obtain ⟨o1, ho1⟩ : ∃ v, (ps.getD i (undef, undef)).2 = v := ⟨_, rfl⟩
          rw [ho0] at q0
          rw [ho1] at q1
          clear hsk hmv hcc hOA hVA hGA HZA b3 zE hO3 hV3 hG3 ho0 ho1
          go_wp2
          go_roundw
          case rel => exact ⟨i + 1, j + 1, _, by go_num, by go_num, by omega, by omega, hnx, HO4, HV4, HG4⟩
          case measure => simp [intOf]; omega
      · have hji : ¬ (j : Int) < (n : Int) := by omega
        obtain ⟨hfl, hfn⟩ := hD.out.fin (by rw [HN.out]; omega)
        rw [HL.out] at hfl hfn
        have hiN : i < n := by omega
        have hi0 : (0 : Int) ≤ (i : Int) := by omega
        have hin : (i : Int) ≤ (n : Int) := by omega
        have hic : (i : Int) ≤ (cap : Int) := by omega
        obtain ⟨w', hcl⟩ : ∃ w', (∀ ty, (Builtin.clear_ #[65] ty #[.slice (some ⟨g, i * 2, none⟩) (n - i) (cap - i)]).run Tryz.prog wr = .ok (.tuple #[]) w') ∧ OwnP 154 w' g i cap (ps.take i) ∧ wr.grownBy w' (some g) := by
          obtain ⟨w', h1, h2⟩ := clearEnt wr g i n (cap - i) cap ps 0 hO.out hiN
          exact ⟨w', fun _ => h1, h2⟩
        have hend : Hid (OwnQ 154 w' (.slice (some ⟨g, 0, none⟩) i cap) L.length (eP L) ∧ w.grownBy w' (some g)) := by
          refine ⟨?_, gr_tr hG.out hcl.2.2⟩
          have h1 := hcl.2.1
          rw [hfl] at h1
          rw [hfn]
          exact h1
        have hrun := hcl.1
        clear hcl hfl hfn hD hO hV hG
        go_wp2_with (first
          | (at_builtin; refine wpList_clear wr rfl (.tmp 38) 65 rfl (.slice (some ⟨g, i * 2, none⟩) (n - i) (cap - i)) w' (by first | rfl | simp) hrun ?_)
          | go_in)
        go_ret
        exact ⟨_, rfl, hend.out⟩
  · have hall : ∀ (j : Nat) (hj : j < es.length), (es[j].1.toList == s.toList) = false := by
      intro j
      induction j using Nat.strongRecOn with
      | ind j ih =>
        intro hj
        cases hc : (es[j].1.toList == s.toList) with
        | false => rfl
        | true => exact absurd ⟨j, hj, hc, fun i hi hij => ih i hij hi⟩ hno
    rw [firstEnt_none hall] at hcI
    have hL : dropEnt es s = es := List.filter_eq_self.2 fun e he => by
      obtain ⟨j, hj, rfl⟩ := List.getElem_of_mem he
      rw [hall j hj]
      rfl
    rw [hL, hn]
    have HO : Hid _ := ho
    clear hrd ho hv hn hL hall hno
    go_enter Tryz.func292, Tryz.ntmps292
    go_wp2_with fail
    (with_reducible refine hcI.mono ?_)
    rintro e w1 ⟨rfl, b1⟩
    have hend : Hid (OwnQ 154 w1 (.slice a n cap) n (eP es) ∧ w.grownBy w1 (Value.slice a n cap).ownBlock) := ⟨row_kp HO.out (KpT.below b1 [154]) (by simp), Below.gr b1 _⟩
    clear hcI HO b1
    go_wp2
    go_ret
    exact ⟨_, rfl, hend.out⟩
end

section
open Go.RowKit
/-- A set that has what its directories lead to. -/
def Closed (ds : List InoD) (S : Int → Prop) : Prop := ∀ y, S y → ∀ e ∈ dirEnts ds y, (look ds e.2).isSome = true → S e.2
/-- x leads to y, over entries. -/
def Leads (ds : List InoD) (x y : Int) : Prop := ∀ S : Int → Prop, Closed ds S → ((look ds x).isSome = true → S x) → S y
theorem Leads.self {ds : List InoD} {x : Int} (h : (look ds x).isSome = true) : Leads ds x x := fun _ _ k => k h
theorem Leads.step {ds : List InoD} {x y : Int} {e : ByteArray × Int} (h : Leads ds x y) (he : e ∈ dirEnts ds y) (hl : (look ds e.2).isSome = true) : Leads ds x e.2 := fun S hS k => hS y (h S hS k) e he hl
theorem Leads.trans {ds : List InoD} {x y z : Int} (h : Leads ds x y) (g : Leads ds y z) : Leads ds x z := fun S hS k => g S hS (fun _ => h S hS k)
theorem mem_putI {l : List Int} {x y : Int} : y ∈ putI l x ↔ y = x ∨ y ∈ l := by
  unfold putI
  split
  · rename_i h
    constructor
    · exact .inr
    · rintro (rfl | h')
      · exact h
      · exact h'
  · exact insBy_mem
theorem mem_addE {ds : List InoD} {y : Int} : ∀ {es : List (ByteArray × Int)} {o : List Int}, y ∈ addE ds o es ↔ y ∈ o ∨ ∃ e ∈ es, e.2 = y ∧ (look ds y).isSome = true
  | [], o => by simp [addE]
  | e :: es, o => by
    have ih := @mem_addE ds y es (if (look ds e.2).isSome then putI o e.2 else o)
    have e0 : addE ds o (e :: es) = addE ds (if (look ds e.2).isSome then putI o e.2 else o) es := rfl
    rw [e0, ih]
    constructor
    · rintro (h | ⟨f, hf, h1, h2⟩)
      · split at h
        · rename_i hl
          rcases mem_putI.1 h with rfl | h
          · exact .inr ⟨e, List.mem_cons_self .., rfl, hl⟩
          · exact .inl h
        · exact .inl h
      · exact .inr ⟨f, List.mem_cons_of_mem _ hf, h1, h2⟩
    · rintro (h | ⟨f, hf, h1, h2⟩)
      · left
        split
        · exact mem_putI.2 (.inr h)
        · exact h
      · rcases List.mem_cons.1 hf with rfl | hf
        · left
          rw [h1, if_pos h2]
          exact mem_putI.2 (.inl rfl)
        · exact .inr ⟨f, hf, h1, h2⟩
theorem mem_foldE {ds : List InoD} {y : Int} : ∀ {l o : List Int}, y ∈ l.foldl (fun o x => addE ds o (dirEnts ds x)) o ↔ y ∈ o ∨ ∃ x ∈ l, ∃ e ∈ dirEnts ds x, e.2 = y ∧ (look ds y).isSome = true
  | [], o => by simp
  | x :: l, o => by
    rw [List.foldl_cons, mem_foldE, mem_addE]
    constructor
    · rintro ((h | h) | ⟨z, hz, h⟩)
      · exact .inl h
      · exact .inr ⟨x, List.mem_cons_self .., h⟩
      · exact .inr ⟨z, List.mem_cons_of_mem _ hz, h⟩
    · rintro (h | ⟨z, hz, h⟩)
      · exact .inl (.inl h)
      · rcases List.mem_cons.1 hz with rfl | hz
        · exact .inl (.inr h)
        · exact .inr ⟨z, hz, h⟩
theorem mem_nextD {ds : List InoD} {l : List Int} {y : Int} : y ∈ nextD ds l ↔ y ∈ l ∨ ∃ x ∈ l, ∃ e ∈ dirEnts ds x, e.2 = y ∧ (look ds y).isSome = true := mem_foldE
theorem reachN_leads {ds : List InoD} (h : (look ds 1).isSome = true) : ∀ (k : Nat) (y : Int), y ∈ reachN ds k → Leads ds 1 y
  | 0, y, hy => by
    have : y = 1 := by simpa [reachN] using hy
    subst this
    exact Leads.self h
  | k + 1, y, hy => by
    rcases mem_nextD.1 hy with hy | ⟨x, hx, e, he, rfl, hl⟩
    · exact reachN_leads h k y hy
    · exact (reachN_leads h k x hx).step he hl
theorem reachN_one {ds : List InoD} : ∀ k : Nat, (1 : Int) ∈ reachN ds k
  | 0 => by simp [reachN]
  | k + 1 => mem_nextD.2 (.inl (reachN_one k))
theorem closed_of_sub {ds : List InoD} {l : List Int} (h : ∀ y ∈ nextD ds l, y ∈ l) : Closed ds (· ∈ l) := fun x hx e he hl => h _ (mem_nextD.2 (.inr ⟨x, hx, e, he, rfl, hl⟩))
theorem next_of_closed {ds : List InoD} {l : List Int} (h : Closed ds (· ∈ l)) : ∀ y, y ∈ nextD ds l ↔ y ∈ l := fun y => by
  rw [mem_nextD]
  constructor
  · rintro (h' | ⟨x, hx, e, he, rfl, hl⟩)
    · exact h'
    · exact h x hx e he hl
  · exact .inl
theorem reachN_closed {ds : List InoD} (h : (look ds 1).isSome = true) : ∀ k : Nat, Closed ds (· ∈ reachN ds k) ∨ k + 1 ≤ (reachN ds k).length
  | 0 => .inr (by simp [reachN])
  | k + 1 => by
    by_cases hs : ∀ y ∈ nextD ds (reachN ds k), y ∈ reachN ds k
    · left
      have hc := closed_of_sub hs
      have hm := next_of_closed hc
      intro x hx e he hl
      exact (hm _).2 (hc x ((hm x).1 hx) e he hl)
    · rcases reachN_closed h k with hc | hk
      · exact absurd (fun y hy => (next_of_closed hc y).1 hy) hs
      · right
        obtain ⟨y, hy⟩ := Classical.not_forall.1 hs
        have hy1 : y ∈ nextD ds (reachN ds k) := Classical.byContradiction fun c => hy fun a => absurd a c
        have hy2 : y ∉ reachN ds k := fun c => hy fun _ => c
        have hI := InTab.reach h k
        have h1 := sub_len (l := y :: reachN ds k) (m := nextD ds (reachN ds k)) (List.nodup_cons.2 ⟨hy2, hI.nd⟩) (fun z hz => by
          rcases List.mem_cons.1 hz with rfl | hz
          · exact hy1
          · exact mem_nextD.2 (.inl hz))
        rw [List.length_cons] at h1
        show k + 1 + 1 ≤ (nextD ds (reachN ds k)).length
        omega
theorem reachD_closed {ds : List InoD} (h : (look ds 1).isSome = true) : Closed ds (· ∈ reachD ds) := by
  unfold reachD
  rw [if_pos h]
  rcases reachN_closed h ds.length with hc | hk
  · exact hc
  · have := (InTab.reach h ds.length).len
    omega
/-- What is reached is what 1 leads to. -/
theorem reachD_iff {ds : List InoD} {S : List Int} (h1 : (look ds 1).isSome = true → (1 : Int) ∈ S) (hc : Closed ds (· ∈ S)) (hl : ∀ y ∈ S, Leads ds 1 y) (hn : (look ds 1).isSome = false → S = []) (y : Int) : y ∈ reachD ds ↔ y ∈ S := by
  cases hk : (look ds 1).isSome with
  | false =>
    rw [hn hk]
    unfold reachD
    rw [hk]
    simp
  | true =>
    constructor
    · intro hy
      unfold reachD at hy
      rw [if_pos hk] at hy
      exact reachN_leads hk _ y hy (· ∈ S) hc h1
    · intro hy
      refine hl y hy (· ∈ reachD ds) (reachD_closed hk) (fun _ => ?_)
      unfold reachD
      rw [if_pos hk]
      exact reachN_one _
theorem insBy_sorted {l : List Int} {x : Int} (h : l.Pairwise (· < ·)) (hx : x ∉ l) : (insBy (fun y => decide (x < y)) l x).Pairwise (· < ·) := by
  have e : l = (l.reverse.dropWhile (fun y => decide (x < y))).reverse ++ (l.reverse.takeWhile (fun y => decide (x < y))).reverse := by
    rw [← List.reverse_append, List.takeWhile_append_dropWhile, List.reverse_reverse]
  have hB : ∀ y ∈ (l.reverse.takeWhile (fun y => decide (x < y))).reverse, x < y := fun y hy => by
    have := List.all_takeWhile (p := fun y => decide (x < y)) (l := l.reverse)
    have := List.all_eq_true.1 this y (List.mem_reverse.1 hy)
    simpa using this
  have hA : ∀ y ∈ (l.reverse.dropWhile (fun y => decide (x < y))).reverse, y < x := by
    have hh := List.head?_dropWhile_not (fun y => decide (x < y)) l.reverse
    cases hd : l.reverse.dropWhile (fun y => decide (x < y)) with
    | nil => intro y hy; simp at hy
    | cons z t =>
      rw [hd] at hh
      simp at hh
      have hzl : z ∈ l := by rw [e, hd]; simp
      have hzx : z < x := by
        have : z ≠ x := fun c => hx (c ▸ hzl)
        omega
      intro y hy
      rw [List.reverse_cons] at hy
      rcases List.mem_append.1 hy with hy | hy
      · have hp : (t.reverse ++ [z]).Pairwise (· < ·) := by
          have h' := h
          rw [e, hd, List.reverse_cons] at h'
          exact (List.pairwise_append.1 h').1
        have := (List.pairwise_append.1 hp).2.2 y hy z (by simp)
        omega
      · have := List.mem_singleton.1 hy
        omega
  unfold insBy
  rw [e] at h
  have h2 := List.pairwise_append.1 h
  refine List.pairwise_append.2 ⟨h2.1, List.pairwise_cons.2 ⟨hB, h2.2.1⟩, fun y hy z hz => ?_⟩
  rcases List.mem_cons.1 hz with rfl | hz
  · exact hA y hy
  · exact h2.2.2 y hy z hz
theorem putI_sorted {l : List Int} (h : l.Pairwise (· < ·)) (x : Int) : (putI l x).Pairwise (· < ·) := by
  unfold putI
  split
  · exact h
  · rename_i hx
    exact insBy_sorted h hx
theorem addE_sorted {ds : List InoD} : ∀ {es : List (ByteArray × Int)} {o : List Int}, o.Pairwise (· < ·) → (addE ds o es).Pairwise (· < ·)
  | [], _, h => h
  | e :: es, o, h => by
    have e0 : addE ds o (e :: es) = addE ds (if (look ds e.2).isSome then putI o e.2 else o) es := rfl
    rw [e0]
    apply addE_sorted
    split
    · exact putI_sorted h _
    · exact h
theorem nextD_sorted {ds : List InoD} {l : List Int} (h : l.Pairwise (· < ·)) : (nextD ds l).Pairwise (· < ·) := by
  have : ∀ (m o : List Int), o.Pairwise (· < ·) → (m.foldl (fun o x => addE ds o (dirEnts ds x)) o).Pairwise (· < ·) := by
    intro m
    induction m with
    | nil => exact fun o h => h
    | cons x m ih => exact fun o h => ih _ (addE_sorted h)
  exact this l l h
theorem reachD_sorted (ds : List InoD) : (reachD ds).Pairwise (· < ·) := by
  unfold reachD
  split
  · generalize ds.length = k
    induction k with
    | zero => simp [reachN]
    | succ k ih => exact nextD_sorted ih
  · exact List.Pairwise.nil
theorem sorted_ext : ∀ {l m : List Int}, l.Pairwise (· < ·) → m.Pairwise (· < ·) → (∀ x, x ∈ l ↔ x ∈ m) → l = m
  | [], [], _, _, _ => rfl
  | [], y :: m, _, _, h => by have := (h y).2 (List.mem_cons_self ..); simp at this
  | x :: l, [], _, _, h => by have := (h x).1 (List.mem_cons_self ..); simp at this
  | x :: l, y :: m, h1, h2, h => by
    have p1 := List.pairwise_cons.1 h1
    have p2 := List.pairwise_cons.1 h2
    have hxy : x = y := by
      rcases List.mem_cons.1 ((h x).1 (List.mem_cons_self ..)) with e | e
      · exact e
      · rcases List.mem_cons.1 ((h y).2 (List.mem_cons_self ..)) with e' | e'
        · exact e'.symm
        · have := p2.1 x e
          have := p1.1 y e'
          omega
    subst hxy
    rw [sorted_ext p1.2 p2.2 (fun z => by
      constructor
      · intro hz
        rcases List.mem_cons.1 ((h z).1 (List.mem_cons_of_mem _ hz)) with rfl | h'
        · exact absurd (p1.1 z hz) (Int.lt_irrefl z)
        · exact h'
      · intro hz
        rcases List.mem_cons.1 ((h z).2 (List.mem_cons_of_mem _ hz)) with rfl | h'
        · exact absurd (p2.1 z hz) (Int.lt_irrefl z)
        · exact h')]
/-- Sorted anew, what is as a set what is reached, is it. -/
theorem reachD_sort {ds : List InoD} {ss : List Int} (hn : ss.Nodup) (h : ∀ y, y ∈ reachD ds ↔ y ∈ ss) : ss.mergeSort (fun x y => decide (x ≤ y)) = reachD ds := by
  have hp := List.mergeSort_perm ss (fun x y => decide (x ≤ y))
  refine sorted_ext ?_ (reachD_sorted ds) (fun x => by rw [hp.mem_iff, h])
  have h1 := List.pairwise_mergeSort (le := fun x y : Int => decide (x ≤ y)) (fun a b c => by simp; omega) (fun a b => by simp; omega) ss
  have h2 : (ss.mergeSort (fun x y => decide (x ≤ y))).Nodup := hp.nodup_iff.2 hn
  exact (h1.and h2).imp (fun {a b} ⟨h3, h4⟩ => by simp at h3; omega)
end

section
open Go.RowKit Go.Maps
/-- So many entries a directory has at most. -/
def mXE : Nat := 1048576
/-- What one call adds to what was reached, and to what was put by. -/
structure RP (ds : List InoD) (S Bs : List Int) (x : Int) (m : Nat) (S' Bs' : List Int) : Prop where
  sub : ∀ y ∈ S, y ∈ S'
  pre : Bs <+: Bs'
  self : (look ds x).isSome = true → x ∈ S' ∨ (m = 1 ∧ x ∈ Bs')
  closed : ∀ y ∈ S', y ∉ S → ∀ e ∈ dirEnts ds y, (look ds e.2).isSome = true → e.2 ∈ S' ∨ e.2 ∈ Bs'
  leads : ∀ y ∈ S', y ∈ S ∨ Leads ds x y
  bleads : ∀ y ∈ Bs', y ∈ Bs ∨ Leads ds x y
  count : Bs'.length + mXE * S.length ≤ Bs.length + mXE * S'.length + m
  wfs : (∀ y ∈ Bs, (Lit.int .i64 y).wf = true) → ∀ y ∈ Bs', (Lit.int .i64 y).wf = true
/-- The same, in the midst of a directory's entries. -/
structure RL (ds : List InoD) (S Bs : List Int) (x : Int) (es : List (ByteArray × Int)) (p : Nat) (S' Bs' : List Int) : Prop where
  sub : ∀ y ∈ x :: S, y ∈ S'
  pre : Bs <+: Bs'
  ents : ∀ e ∈ es.take p, (look ds e.2).isSome = true → e.2 ∈ S' ∨ e.2 ∈ Bs'
  closed : ∀ y ∈ S', y ∉ x :: S → ∀ e ∈ dirEnts ds y, (look ds e.2).isSome = true → e.2 ∈ S' ∨ e.2 ∈ Bs'
  leads : ∀ y ∈ S', y ∈ S ∨ Leads ds x y
  bleads : ∀ y ∈ Bs', y ∈ Bs ∨ Leads ds x y
  count : Bs'.length + mXE * (S.length + 1) ≤ Bs.length + mXE * S'.length + p
  wfs : (∀ y ∈ Bs, (Lit.int .i64 y).wf = true) → ∀ y ∈ Bs', (Lit.int .i64 y).wf = true
theorem leads_none {ds : List InoD} {x y : Int} (h : (look ds x).isSome = false) (l : Leads ds x y) : False := l (fun _ => False) (fun _ h => h.elim) (fun k => by rw [h] at k; cases k)
theorem RP.same {ds : List InoD} {S Bs : List Int} {x : Int} {m : Nat} (h : (look ds x).isSome = true → x ∈ S) : RP ds S Bs x m S Bs := ⟨fun _ h => h, List.prefix_refl _, fun k => .inl (h k), fun y h1 h2 => absurd h1 h2, fun y h => .inl h, fun y h => .inl h, by omega, fun h => h⟩
theorem RP.by {ds : List InoD} {S Bs : List Int} {x : Int} (h : (look ds x).isSome = true) (hw : (Lit.int .i64 x).wf = true) : RP ds S Bs x 1 S (Bs ++ [x]) :=
  ⟨fun _ h => h, List.prefix_append _ _, fun _ => .inr ⟨rfl, by simp⟩, fun y h1 h2 => absurd h1 h2, fun y h => .inl h, fun y hy => by
    rcases List.mem_append.1 hy with hy | hy
    · exact .inl hy
    · have := List.mem_singleton.1 hy
      subst this
      exact .inr (Leads.self h), by rw [List.length_append, List.length_singleton]; omega, fun hb y hy => by
    rcases List.mem_append.1 hy with hy | hy
    · exact hb y hy
    · have := List.mem_singleton.1 hy
      subst this
      exact hw⟩
theorem RL.start {ds : List InoD} {S Bs : List Int} {x : Int} {es : List (ByteArray × Int)} (h : (look ds x).isSome = true) : RL ds S Bs x es 0 (x :: S) Bs :=
  ⟨fun _ h => h, List.prefix_refl _, fun e he => by simp at he, fun y h1 h2 => absurd h1 h2, fun y hy => by
    rcases List.mem_cons.1 hy with rfl | hy
    · exact .inr (Leads.self h)
    · exact .inl hy, fun y h => .inl h, by rw [List.length_cons]; omega, fun h => h⟩
theorem pre_mem {Bs Bs' : List Int} (h : Bs <+: Bs') {y : Int} (hy : y ∈ Bs) : y ∈ Bs' := h.subset hy
theorem RL.step {ds : List InoD} {S Bs : List Int} {x : Int} {es : List (ByteArray × Int)} {p m : Nat} {S1 B1 S2 B2 : List Int} {e : ByteArray × Int} (h : RL ds S Bs x es p S1 B1) (hx : (look ds x).isSome = true) (hes : dirEnts ds x = es) (he : es[p]? = some e) (hm : m ≤ 1) (g : RP ds S1 B1 e.2 m S2 B2) : RL ds S Bs x es (p + 1) S2 B2 := by
  have hlead : ∀ y, Leads ds e.2 y → Leads ds x y := fun y h1 => by
    cases hl : (look ds e.2).isSome with
    | false => exact (leads_none hl h1).elim
    | true => exact ((Leads.self hx).step (hes ▸ List.mem_of_getElem? he) hl).trans h1
  refine ⟨fun y hy => g.sub y (h.sub y hy), h.pre.trans g.pre, fun f hf hl => ?_, fun y hy hn => ?_, fun y hy => ?_, fun y hy => ?_, ?_, fun hb => g.wfs (h.wfs hb)⟩
  · rw [List.take_add_one, he] at hf
    rcases List.mem_append.1 hf with hf | hf
    · rcases h.ents f hf hl with h1 | h1
      · exact .inl (g.sub _ h1)
      · exact .inr (pre_mem g.pre h1)
    · have : f = e := by simpa using hf
      subst this
      rcases g.self hl with h1 | h1
      · exact .inl h1
      · exact .inr h1.2
  · by_cases h1 : y ∈ S1
    · intro f hf hl
      rcases h.closed y h1 hn f hf hl with h2 | h2
      · exact .inl (g.sub _ h2)
      · exact .inr (pre_mem g.pre h2)
    · exact g.closed y hy h1
  · rcases g.leads y hy with h1 | h1
    · exact h.leads y h1
    · exact .inr (hlead y h1)
  · rcases g.bleads y hy with h1 | h1
    · exact h.bleads y h1
    · exact .inr (hlead y h1)
  · have h1 := h.count
    have h2 := g.count
    omega
theorem RL.fin {ds : List InoD} {S Bs : List Int} {x : Int} {es : List (ByteArray × Int)} {p m : Nat} {S1 B1 : List Int} (h : RL ds S Bs x es p S1 B1) (hp : es.length ≤ p) (hq : p ≤ mXE) (hes : dirEnts ds x = es) : RP ds S Bs x m S1 B1 := by
  refine ⟨fun y hy => h.sub y (List.mem_cons_of_mem _ hy), h.pre, fun _ => .inl (h.sub x (List.mem_cons_self ..)), fun y hy hn => ?_, h.leads, h.bleads, ?_, h.wfs⟩
  · by_cases hyx : y = x
    · subst hyx
      rw [hes]
      exact fun e he hl => h.ents e (by rw [List.take_of_length_le hp]; exact he) hl
    · exact h.closed y hy (fun c => by
        rcases List.mem_cons.1 c with c | c
        · exact hyx c
        · exact hn c)
  · have h1 := h.count
    rw [Nat.mul_add] at h1
    omega
theorem RL.finN {ds : List InoD} {S Bs : List Int} {x : Int} {es : List (ByteArray × Int)} {m : Nat} {S1 B1 : List Int} (h : RL ds S Bs x es 0 S1 B1) (hes : dirEnts ds x = []) : RP ds S Bs x m S1 B1 := by
  refine ⟨fun y hy => h.sub y (List.mem_cons_of_mem _ hy), h.pre, fun _ => .inl (h.sub x (List.mem_cons_self ..)), fun y hy hn => ?_, h.leads, h.bleads, ?_, h.wfs⟩
  · by_cases hyx : y = x
    · subst hyx
      rw [hes]
      exact fun e he => by simp at he
    · exact h.closed y hy (fun c => by
        rcases List.mem_cons.1 c with c | c
        · exact hyx c
        · exact hn c)
  · have h1 := h.count
    rw [Nat.mul_add] at h1
    omega
theorem InTab.cons {ds : List InoD} {S : List Int} {x : Int} (h : InTab ds S) (hx : (look ds x).isSome = true) (hn : x ∉ S) : InTab ds (x :: S) :=
  ⟨List.nodup_cons.2 ⟨hn, h.nd⟩, fun y hy => by
    rcases List.mem_cons.1 hy with rfl | hy
    · exact hx
    · exact h.mem y hy⟩
/-- A variable X holds a list of numbers, in a row of the call's own. -/
structure BX (B : Nat) (w : World) (X g c : Nat) (L : List Int) : Prop where
  cell : Blk w X 117 #[.slice (some ⟨g, 0, none⟩) L.length c]
  row : w.ownsRow B 3 1 (.slice (some ⟨g, 0, none⟩) L.length c) L.length (iV L)
theorem BX.ne {B : Nat} {w : World} {X g c : Nat} {L : List Int} (h : BX B w X g c L) : g ≠ X := by
  rintro rfl
  obtain ⟨_, cur, h1⟩ := row_at h.row (g := g) rfl
  have h2 : w.heap[g]? = _ := h.cell
  rw [h1] at h2
  simp at h2
theorem BX.neB {B : Nat} {w : World} {X g c : Nat} {L : List Int} (h : BX B w X g c L) {b : Nat} {t : TypeId} {vs : Array Value} (hb : Blk w b t vs) (ht : t ≠ 3) : b ≠ g := by
  rintro rfl
  obtain ⟨_, cur, h1⟩ := row_at h.row (g := b) rfl
  have h2 : w.heap[b]? = _ := hb
  rw [h1] at h2
  simp at h2
  exact ht h2.2.symm
theorem BX.neM {B : Nat} {w : World} {X g c : Nat} {L : List Int} (h : BX B w X g c L) {R : Value → Option (DataW Unit × List MemPlace)} {b n : Nat} {D : DataW Unit} (hb : w.ownsMap Tryz.prog 3 R b n D) : b ≠ g ∧ b ≠ X := by
  obtain ⟨es, clock, hb, _⟩ := hb
  constructor
  · rintro rfl
    obtain ⟨_, cur, h1⟩ := row_at h.row (g := b) rfl
    rw [h1] at hb
    simp at hb
  · rintro rfl
    have h2 : w.heap[b]? = _ := h.cell
    rw [h2] at hb
    simp at hb
theorem BX.lt {B : Nat} {w : World} {X g c : Nat} {L : List Int} (h : BX B w X g c L) : B ≤ g ∧ g < w.heap.size ∧ X < w.heap.size := ⟨(World.ownsRow.lt h.row g rfl).1, (World.ownsRow.lt h.row g rfl).2, h.cell.lt⟩
theorem BX.keep {B : Nat} {w w' : World} {X g c : Nat} {L : List Int} (h : BX B w X g c L) (hb : Below w.heap.size w w') : BX B w' X g c L := ⟨h.cell.keep hb, row_keep6 h.row hb⟩
theorem BX.kept {B : Nat} {w w' : World} {X g c q : Nat} {L : List Int} (h : BX B w X g c L) (hg : w.grownBy w' (some q)) (h1 : X ≠ q) (h2 : g ≠ q) : BX B w' X g c L := ⟨h.cell.kept hg h1, World.ownsRow.kept h.row hg (.inr (by simp [Value.ownBlock]; exact h2))⟩
/-- One more element of one cell, of a long row, too. -/
theorem wpList_app1W (w : World) {ops : Array Oper} {rest : List Oper} {o : Oper} {a : Act} {Q : Exit → Act → World → Prop} (hgd : o.guard = none) (s x : Operand) (t e : TypeId)
    (ho : o.op = .call { callee := .builtin .append, args := #[s, x], argTypes := #[t, t] }) (ht : Tryz.prog.underlying t = some (.slice e)) (i : TypeInfo) (z : Value) (bytes : Nat) (hi : Tryz.prog.info? e = some i) (hz : i.zero = some z) (hsz : i.size = 1) (hby : i.bytes = bytes) (hzs : z.cells.size = 1) (hb64 : bytes ≤ 16)
    (B g k c : Nat) (vs : List Value) (hs : a.eval s = .slice (some ⟨g, 0, none⟩) k c) (hown : w.ownsRow B e 1 (.slice (some ⟨g, 0, none⟩) k c) k vs)
    (ad : Nat) (u : Value) (hx : a.eval x = .slice (some ⟨ad, 0, none⟩) 1 1) (hcell : w.cell? ⟨ad, 0, none⟩ = some u) (hone : u.oneCell' = true) (hk : k ≤ 2000000000000) (hB : B ≤ w.heap.size) (H : Nat) (hH : w.heap.size = H)
    (h : ∀ g' c' w', w'.ownsRow B e 1 (.slice (some ⟨g', 0, none⟩) (k + 1) c') (k + 1) (vs ++ [u]) → w.grownBy w' (some g) → (g' = g ∨ g' = H) → wpList Tryz.prog ops Q rest (a.put o.dst (.slice (some ⟨g', 0, none⟩) (k + 1) c')) w') :
    wpList Tryz.prog ops Q (o :: rest) a w := by
  refine wpList_append_own_at w hgd s x t ho B e i z 1 bytes ht hi hz hsz hby hzs (by decide) _ k vs hs hown ⟨ad, 0, none⟩ 1 1 [u] hx rfl ?_ (by intro y hy; simp at hy; subst hy; exact hone) (by unfold maxLen; omega) (by have : (k + 1) * bytes ≤ 2000000000001 * 16 := Nat.mul_le_mul (by omega) hb64; omega) hB ?_
  · intro j y hj
    cases j with
    | zero => simp at hj; subst hj; simpa [Addr.add] using hcell
    | succ j => simp at hj
  · intro v' w' h1 h2 _ h4
    obtain ⟨g', c', rfl⟩ := ownsRow_succ h1
    refine h g' c' w' h1 h2 ?_
    rcases h4 with h4 | h4
    · left; simpa [Value.ownBlock] using h4
    · right; rw [← hH]; simpa [Value.ownBlock] using h4
/-- What the closure sees: below wb all is as it was; its variables; the map of what was reached; what was put by. -/
structure RC (wb W : World) (P Q X Tb Fb pm qm : Nat) (ds : List InoD) (S Bs : List Int) : Prop where
  b : Below wb.heap.size wb W
  zP : Blk W P 157 #[.map (some pm)]
  zQ : Blk W Q 157 #[.map (some qm)]
  zF : Blk W Fb 166 #[.func (.func 118) #[] #[.pointer (some ⟨P, 0, none⟩), .pointer (some ⟨Q, 0, none⟩), .pointer (some ⟨X, 0, none⟩), .pointer (some ⟨Tb, 0, none⟩), .pointer (some ⟨Fb, 0, none⟩)]]
  lo : wb.heap.size ≤ qm
  loX : wb.heap.size ≤ X
  nP : P ≠ qm
  nQ : Q ≠ qm
  nF : Fb ≠ qm
  nPX : P ≠ X
  nQX : Q ≠ X
  nFX : Fb ≠ X
  inT : InTab ds S
  re : ∃ (cnt : Nat) (D : DataW Unit), cnt ≤ S.length ∧ (∀ y, Maps.has D (.int .i64 y) = decide (y ∈ S)) ∧ IsMap D ∧ W.ownsMap Tryz.prog 3 (plainElem Tryz.prog 3) qm cnt D
  bx : ∃ g c, BX wb.heap.size W X g c Bs
section
variable {wb W W' : World} {P Q X Tb Fb pm qm : Nat} {ds : List InoD} {S Bs : List Int}
theorem RC.alloc (h : RC wb W P Q X Tb Fb pm qm ds S Bs) (o : Obj) : RC wb (W.alloc o) P Q X Tb Fb pm qm ds S Bs := by
  obtain ⟨cnt, D, h1, h2, h3, h4⟩ := h.re
  obtain ⟨g, c, h5⟩ := h.bx
  exact ⟨h.b.alloc h.b.size _, h.zP.alloc _, h.zQ.alloc _, h.zF.alloc _, h.lo, h.loX, h.nP, h.nQ, h.nF, h.nPX, h.nQX, h.nFX, h.inT, ⟨cnt, D, h1, h2, h3, h4.alloc _⟩, ⟨g, c, h5.keep ((Below.refl _ W).alloc (Nat.le_refl _) o)⟩⟩
theorem RC.put (h : RC wb W P Q X Tb Fb pm qm ds S Bs) {x : Int} {d : DataW Unit} {cnt : Nat} {D : DataW Unit} (hc : cnt ≤ S.length) (hh : ∀ y, Maps.has D (.int .i64 y) = decide (y ∈ S)) (hI : IsMap D) (hx : (look ds x).isSome = true) (hn : x ∉ S) (hg : W.grownBy W' (some qm)) (ho : W'.ownsMap Tryz.prog 3 (plainElem Tryz.prog 3) qm (cnt + 1) (D.put (.int .i64 x) d)) : RC wb W' P Q X Tb Fb pm qm ds (x :: S) Bs := by
  obtain ⟨_, _, _, _, _, h4⟩ := h.re
  obtain ⟨g, c, h5⟩ := h.bx
  have hne := h5.neM h4
  refine ⟨h.b.grown hg h.b.size (fun j hj => by have := h.lo; simp at hj; omega), h.zP.kept hg h.nP, h.zQ.kept hg h.nQ, h.zF.kept hg h.nF, h.lo, h.loX, h.nP, h.nQ, h.nF, h.nPX, h.nQX, h.nFX, h.inT.cons hx hn, ⟨cnt + 1, _, by simp; omega, fun y => ?_, hI.put _ _, ho⟩, ⟨g, c, h5.kept hg (Ne.symm hne.2) (Ne.symm hne.1)⟩⟩
  by_cases hy : y = x
  · subst hy
    rw [has_put_same hI (show WideAt.IsKeyLit (.int .i64 y) from trivial)]
    simp
  · rw [has_put_other (by simp; exact fun h => hy h), hh y]
    simp [hy]
/-- One number more is put by. -/
theorem RC.app (h : RC wb W P Q X Tb Fb pm qm ds S Bs) {g c g' c' : Nat} {x : Int} (hb : BX wb.heap.size W X g c Bs) (ho : W'.ownsRow wb.heap.size 3 1 (.slice (some ⟨g', 0, none⟩) (Bs.length + 1) c') (Bs.length + 1) (iV Bs ++ [.int .i64 x])) (hg : W.grownBy W' (some g)) (hat : g' = g ∨ g' = W.heap.size) : RC wb (W'.setCell ⟨X, 0, none⟩ (.slice (some ⟨g', 0, none⟩) (Bs.length + 1) c')) P Q X Tb Fb pm qm ds S (Bs ++ [x]) := by
  obtain ⟨cnt, D, h1, h2, h3, h4⟩ := h.re
  have hnm := hb.neM h4
  have hne := hb.ne
  have hl := hb.lt
  have hX : g' ≠ X := by omega
  have hbl := h.b.size
  have e : (Bs ++ [x]).length = Bs.length + 1 := by simp
  refine ⟨(h.b.grown hg hbl (fun j hj => by simp at hj; omega)).setCell (p := ⟨X, 0, none⟩) h.loX _, (h.zP.kept hg (hb.neB h.zP (by decide))).other h.nPX _ _, (h.zQ.kept hg (hb.neB h.zQ (by decide))).other h.nQX _ _, (h.zF.kept hg (hb.neB h.zF (by decide))).other h.nFX _ _, h.lo, h.loX, h.nP, h.nQ, h.nF, h.nPX, h.nQX, h.nFX, h.inT, ⟨cnt, D, h1, h2, h3, (h4.kept hg (by simpa using hnm.1)).setCell hnm.2 _⟩, ⟨g', c', ?_, ?_⟩⟩
  · rw [e]
    exact (hb.cell.kept hg (by omega)).set 0 _
  · rw [e]
    have e2 : iV (Bs ++ [x]) = iV Bs ++ [.int .i64 x] := by simp [iV]
    rw [e2]
    exact row_kept ho (gr_setC W' X 0 _) (fun m hm e => by simp [Value.ownBlock] at hm; simp at e; omega)
end
theorem look_first {rs : List InoR} {x : Int} {p : Nat} {r : InoR} (h : firstAt (inos rs) x = some p) (hr : rs[p]? = some r) : look (rs.map InoR.D) x = some r.D := by
  have := atD_look rs x
  unfold atD at this
  rw [h] at this
  simp only [List.getD_eq_getElem?_getD, hr, Option.getD_some] at this
  cases hl : look (rs.map InoR.D) x with
  | none =>
    have h2 := atB_look rs x
    unfold atB at h2
    rw [h, hl] at h2
    simp at h2
  | some D =>
    rw [hl] at this
    simp at this
    rw [this]
theorem look_first_none {rs : List InoR} {x : Int} (h : firstAt (inos rs) x = none) : (look (rs.map InoR.D) x).isSome = false := by
  have h2 := atB_look rs x
  unfold atB at h2
  rw [h] at h2
  simp at h2
  simp [h2]
set_option maxRecDepth 100000 in
set_option maxHeartbeats 4000000 in
theorem reachC (P Q X Tb Fb pm qm : Nat) (a : Option Addr) (n cap : Nat) (nx : Int) (rs : List InoR) (wb : World) (ht : TR wb a n rs) (zT : Blk wb Tb 47 #[.slice a n cap, .int .i64 nx]) (cp : Nat) (Dp : DataW Unit) (hM : MapIs Dp (inos rs)) (hpo : wb.ownsMap Tryz.prog 3 (plainElem Tryz.prog 3) pm cp Dp) (hwe : ∀ r ∈ rs, ∀ e ∈ r.D.ents, (Lit.int .i64 e.2).wf = true) (g : Nat) : ∀ (x : Int) (dp : Nat) (w : World) (S Bs : List Int), (Lit.int .i64 x).wf = true → dp ≤ 30 → n ≤ S.length + g → Bs.length ≤ 1 + mXE * S.length → RC wb w P Q X Tb Fb pm qm (rs.map InoR.D) S Bs →
    Calls Tryz.prog 118 #[.int .i64 x, .int .i64 (dp : Int), .pointer (some ⟨P, 0, none⟩), .pointer (some ⟨Q, 0, none⟩), .pointer (some ⟨X, 0, none⟩), .pointer (some ⟨Tb, 0, none⟩), .pointer (some ⟨Fb, 0, none⟩)] w fun e w' => e = .returned (.tuple #[]) ∧ ∃ S' Bs', RC wb w' P Q X Tb Fb pm qm (rs.map InoR.D) S' Bs' ∧ RP (rs.map InoR.D) S Bs x (if dp = 30 then 1 else 0) S' Bs' := by
  induction g using Nat.strongRecOn with
  | ind g ih =>
    intro x dp w S Bs hwx hdp hg hbl hC
    have HIH : Hid _ := ih
    have HT : Hid _ := ht
    have HE : Hid _ := hwe
    have HC : Hid _ := hC
    have HWX : Hid _ := hwx
    have hkey : keyOf Tryz.prog 3 (.int .i64 x) = some (.int .i64 x) := keyOf_int_mk Tryz.underlying3 hwx
    have c1 := hC.zP.cell 0
    have c2 := hC.zQ.cell 0
    simp at c1 c2
    have hplt := hpo.lt
    have hpw : w.ownsMap Tryz.prog 3 (plainElem Tryz.prog 3) pm cp Dp := by
      obtain ⟨es, clock, hb, Ft, hs, hD⟩ := hpo
      exact ⟨es, clock, (hC.b.block pm hplt).trans hb, Ft, hs, hD⟩
    have hdl : Hid ((rs.map InoR.D).length = n) := by show _ = _; rw [List.length_map, ht.len]
    have hn20 := ht.n
    obtain ⟨cnt, D, hcnt, hhas, hIM, hqw⟩ := hC.re
    have hMx := hM.2 x
    have HHA : Hid _ := hhas
    have hsl := hC.inT.len
    rw [hdl.out] at hsl
    obtain ⟨m, hm⟩ : ∃ m, (if dp = 30 then 1 else 0) = m := ⟨_, rfl⟩
    rw [hm]
    have HM1 : Hid (m ≤ 1) := by show _ ≤ _; rw [← hm]; split <;> omega
    have HPR : Hid (∀ (w' : World) (S' Bs' : List Int), RC wb w' P Q X Tb Fb pm qm (rs.map InoR.D) S' Bs' → RP (rs.map InoR.D) S Bs x m S' Bs' → ∃ S' Bs', RC wb w' P Q X Tb Fb pm qm (rs.map InoR.D) S' Bs' ∧ RP (rs.map InoR.D) S Bs x m S' Bs') := fun w' S' Bs' h1 h2 => ⟨S', Bs', h1, h2⟩
    have hHx := hhas x
    clear ih ht hwe hC hpo hwx hhas
    cases hfa : firstAt (inos rs) x with
    | none =>
      have hp : Maps.has Dp (.int .i64 x) = false := by rw [hMx.1, hfa]; rfl
      have hlf := look_first_none hfa
      have hxS : x ∉ S := fun c => by have := HC.out.inT.mem x c; rw [hlf] at this; cases this
      have hq : Maps.has D (.int .i64 x) = false := by rw [hHx]; simpa using hxS
      have hend : Hid _ := HPR.out w S Bs HC.out (RP.same (fun h => by rw [hlf] at h; cases h))
      clear hMx hlf hxS
      go_enter Tryz.func118, Tryz.ntmps118
      go_wp2_with (first
        | (at_lookup; refine wpList_lookup_own_ok_int _ rfl _ _ 157 rfl 3 3 .i64 Tryz.keyInt Tryz.underlying157 Tryz.underlying3 (Tryz.zeroInt _) pm cp Dp rfl hpw _ _ rfl hkey ?_; intro c hat hwc; rw [hp])
        | (at_lookup; refine wpList_lookup_own_ok_int _ rfl _ _ 157 rfl 3 3 .i64 Tryz.keyInt Tryz.underlying157 Tryz.underlying3 (Tryz.zeroInt _) qm cnt D rfl hqw _ _ rfl hkey ?_; intro c' hat' hwc'; rw [hq])
        | go_in)
      refine bodyPost_ret (v := .tuple #[]) (results_none rfl _ _ _) rfl ?_
      exact ⟨rfl, hend.out⟩
    | some p =>
      have hp : Maps.has Dp (.int .i64 x) = true := by rw [hMx.1, hfa]; rfl
      have hat0 := hMx.2 p hfa
      have hpl := firstAt_in hfa
      obtain ⟨r, hrp⟩ : ∃ r, rs[p]? = some r := ⟨_, List.getElem?_eq_getElem hpl⟩
      have hlk : look (rs.map InoR.D) x = some r.D := look_first hfa hrp
      have hlx : (look (rs.map InoR.D) x).isSome = true := by rw [hlk]; rfl
      clear hMx
      by_cases hxS : x ∈ S
      · have hq : Maps.has D (.int .i64 x) = true := by rw [hHx]; simpa using hxS
        have hend : Hid _ := HPR.out w S Bs HC.out (RP.same (fun _ => hxS))
        go_enter Tryz.func118, Tryz.ntmps118
        go_wp2_with (first
          | (at_lookup; refine wpList_lookup_own_ok_int _ rfl _ _ 157 rfl 3 3 .i64 Tryz.keyInt Tryz.underlying157 Tryz.underlying3 (Tryz.zeroInt _) pm cp Dp rfl hpw _ _ rfl hkey ?_; intro c hat hwc; rw [hp])
          | (at_lookup; refine wpList_lookup_own_ok_int _ rfl _ _ 157 rfl 3 3 .i64 Tryz.keyInt Tryz.underlying157 Tryz.underlying3 (Tryz.zeroInt _) qm cnt D rfl hqw _ _ rfl hkey ?_; intro c' hat' hwc'; rw [hq])
          | go_in)
        refine bodyPost_ret (v := .tuple #[]) (results_none rfl _ _ _) rfl ?_
        exact ⟨rfl, hend.out⟩
      · have hq : Maps.has D (.int .i64 x) = false := by rw [hHx]; simpa using hxS
        by_cases hd30 : dp = 30
        · subst hd30
          have hm1 : m = 1 := by rw [← hm]; rfl
          subst hm1
          obtain ⟨gb, cb, hbx⟩ := HC.out.bx
          obtain ⟨i0, hi, hz0, hz1, hz2⟩ := info_parts Tryz.info3
          have y0 := hbx.cell.cell 0
          have yf := hbx.cell.frozen 0
          simp at y0
          obtain ⟨lb, hlb⟩ : ∃ lb, Bs.length = lb := ⟨_, rfl⟩
          have hrow := hbx.row
          rw [hlb] at y0 hrow hbl
          have hlb2 : lb ≤ 2000000000000 := by
            have : mXE * S.length ≤ 1048576 * 1048576 := Nat.mul_le_mul (by unfold mXE; omega) (by omega)
            omega
          have HLB : Hid _ := hlb
          have HBX : Hid _ := hbx
          have hneX := hbx.ne
          have hbz : wb.heap.size ≤ w.heap.size := HC.out.b.size
          have HRP : Hid _ := RP.by (S := S) (Bs := Bs) hlx HWX.out
          clear hlb hbx hm hbl hIM hHx hsl hat0 hpl hrp hlk hlx hfa
          go_enter Tryz.func118, Tryz.ntmps118
          go_wp2_with (first
            | (at_lookup; refine wpList_lookup_own_ok_int _ rfl _ _ 157 rfl 3 3 .i64 Tryz.keyInt Tryz.underlying157 Tryz.underlying3 (Tryz.zeroInt _) pm cp Dp rfl hpw _ _ rfl hkey ?_; intro c hat hwc; rw [hp])
            | (at_lookup; refine wpList_lookup_own_ok_int _ rfl _ _ 157 rfl 3 3 .i64 Tryz.keyInt Tryz.underlying157 Tryz.underlying3 (Tryz.zeroInt _) qm cnt D rfl hqw _ _ rfl hkey ?_; intro c' hat' hwc'; rw [hq])
            | (at_builtin; refine wpList_app1W (w.alloc (.cells #[.int .i64 x] 3)) rfl (.tmp 35) (.tmp 37) 117 3 rfl Tryz.underlying117 i0 (.int .i64 0) 8 hi hz0 hz1 hz2 rfl (by omega) wb.heap.size gb lb cb (iV Bs) rfl (World.ownsRow.alloc hrow _) w.heap.size (.int .i64 x) rfl (Blk.new w 3 #[.int .i64 x] |>.cell 0) rfl hlb2 (by simp; omega) (w.heap.size + 1) (by simp) ?_; intro g2 c2 W2 o2 hg2 hat2; have zc2 := ((HBX.out.cell).alloc (.cells #[.int .i64 x] 3)).kept hg2 (Ne.symm hneX); have hX2 := zc2.cell 0; have hXf2 := zc2.frozen 0; simp at hX2)
            | go_in)
          have hC2 := RC.app (x := x) (HC.out.alloc (.cells #[.int .i64 x] 3)) (HBX.out.keep ((Below.refl _ w).alloc (Nat.le_refl _) _)) (by rw [HLB.out]; exact o2) hg2 (by simpa using hat2)
          rw [HLB.out] at hC2
          have hend : Hid _ := HPR.out _ _ _ hC2 HRP.out
          clear hC2 o2 zc2 hX2 hXf2 hg2
          refine bodyPost_ret (v := .tuple #[]) (results_none rfl _ _ _) rfl ?_
          exact ⟨rfl, hend.out⟩
        have hd3 : ((dp : Int) == 30) = false := by
          have : (dp : Int) ≠ 30 := by omega
          simpa using this
        have hd4 : dp < 30 := by omega
        have hIn := HC.out.inT.cons hlx hxS
        have HIN : Hid _ := hIn
        have hlen := hIn.len
        rw [hdl.out, List.length_cons] at hlen
        obtain ⟨g', rfl⟩ : ∃ g', g = g' + 1 := ⟨g - 1, by omega⟩
        have hwk : (Lit.int .i64 (p : Int)).wf = true := WalkArith.wf_i64 (by have := HT.out.len; omega)
        have hpn : p < n := by have := HT.out.len; omega
        have hpi : (p : Int) < (n : Int) := by omega
        have hpp : (0 : Int) ≤ (p : Int) := by omega
        have hpq : ¬ (p : Int) < 0 := by omega
        have HBL : Hid _ := hbl
        clear hm hbl hd30
        go_enter Tryz.func118, Tryz.ntmps118
        go_upto_region 6 with (first
          | (at_lookup; refine wpList_lookup_own_ok_int _ rfl _ _ 157 rfl 3 3 .i64 Tryz.keyInt Tryz.underlying157 Tryz.underlying3 (Tryz.zeroInt _) pm cp Dp rfl hpw _ _ rfl hkey ?_; intro c hat hwc; rw [hp]; rw [hat0] at hat; simp at hat; subst hat)
          | (at_lookup; refine wpList_lookup_own_ok_int _ rfl _ _ 157 rfl 3 3 .i64 Tryz.keyInt Tryz.underlying157 Tryz.underlying3 (Tryz.zeroInt _) qm cnt D rfl hqw _ _ rfl hkey ?_; intro c' hat' hwc'; rw [hq])
          | (at_mapUpdate; refine wpList_mapUpdate_own _ rfl _ _ _ 157 rfl 3 3 Tryz.keyInt Tryz.underlying157 _ qm cnt D rfl hqw (by unfold maxLen; omega) _ _ _ rfl rfl hkey _ [] (plainElem_int Tryz.underlying3 hwk) ?_; intro w1 hown1 hgrow1)
          | go_in)
        have hC1 := RC.put HC.out hcnt HHA.out hIM hlx hxS hgrow1 hown1
        have hB1 := hC1.b
        have zt := (zT.keep hB1).cell 0
        simp at zt
        have hTr := HT.out.keep hB1
        obtain ⟨b, off, rfl, hlt, hc⟩ := RdI.lt hTr.rd (by intro h; rw [h] at hrp; simp at hrp)
        obtain ⟨x6, xr⟩ := hc p r hrp
        obtain ⟨x0, x1, x2, x3, x4, x5⟩ := x6
        have hsm := (hTr.small r (List.mem_of_getElem? hrp)).ents
        have hwr := HE.out r (List.mem_of_getElem? hrp)
        obtain ⟨es, hes⟩ : ∃ es, r.D.ents = es := ⟨_, rfl⟩
        have hre : RdP wb r.a2 (eP es) := by
          obtain ⟨b', off', _, _, hc'⟩ := RdI.lt HT.out.rd (by intro h; rw [h] at hrp; simp at hrp)
          rw [← hes]
          exact (hc' p r hrp).2.ents
        have hde : Hid (dirEnts (rs.map InoR.D) x = if r.D.kind = 2 then es else []) := by show _ = _; unfold dirEnts; rw [hlk]; show (if r.D.kind = 2 then r.D.ents else []) = _; rw [hes]
        rw [hes] at x4 hsm hwr
        obtain ⟨n2, hn2⟩ : ∃ n2, es.length = n2 := ⟨_, rfl⟩
        rw [hn2] at x4 hsm
        have HN : Hid _ := hn2
        generalize r.D.ino = i1 at x0
        generalize r.D.kind = i2 at x1 hde
        generalize r.D.links = i3 at x2
        generalize r.D.data.length = n1 at x3
        generalize r.D.attrs.length = n3 at x5
        have hC2 : Hid _ := hC1.alloc (.cells #[.int .i64 i1, .int .i64 i2, .int .i64 i3, .slice r.a1 n1 r.c1, .slice r.a2 n2 r.c2, .slice r.a3 n3 r.c3] 68)
        have bx := Blk.new w1 68 #[.int .i64 i1, .int .i64 i2, .int .i64 i3, .slice r.a1 n1 r.c1, .slice r.a2 n2 r.c2, .slice r.a3 n3 r.c3]
        have y1 := bx.cell 1
        have y4 := bx.cell 4
        simp at y1 y4
        have HRE : Hid _ := hre
        have HWR : Hid _ := hwr
        have hL0 : Hid _ := RL.start (S := S) (Bs := Bs) (es := es) hlx
        have HLX : Hid _ := hlx
        clear hc xr hrp hes hn2 hre hTr bx hC1 hB1 hwr hlk hlx hgrow1 hown1 hqw hpw c1 c2 hIn hlen hlt hpl hfa hat0 hp hq hwk hIM HHA hHx HC hplt
        by_cases hk2 : i2 = 2
        · subst hk2
          have HDE : Hid (dirEnts (rs.map InoR.D) x = es) := by show _ = _; rw [hde.out, if_pos rfl]
          go_wp2
          obtain ⟨Wb, hWb⟩ : ∃ W, w1.alloc (.cells #[.int .i64 i1, .int .i64 2, .int .i64 i3, .slice r.a1 n1 r.c1, .slice r.a2 n2 r.c2, .slice r.a3 n3 r.c3] 68) = W := ⟨_, rfl⟩
          rw [hWb] at hC2 ⊢
          clear hWb y1 y4 x0 x1 x2 x3 x4 x5 zt hde
          go_loopw [53] (fun j wi => ∃ (q : Nat) (S1 B1 : List Int), q ≤ n2 ∧ j = .int .i64 q ∧ Hid (RC wb wi P Q X Tb Fb pm qm (rs.map InoR.D) S1 B1 ∧ RL (rs.map InoR.D) S Bs x es q S1 B1)) (fun j _ => n2 - (intOf j).toNat)
          case atStart => exact ⟨0, x :: S, Bs, Nat.zero_le _, rfl, hC2.out, hL0.out⟩
          case round =>
            obtain ⟨q, S1, B1, hq, rfl, hRR⟩ := hrel
            clear hC2 hL0
            by_cases hqn : q < n2
            · have hqi : (q : Int) < (n2 : Int) := by omega
              have hq0 : (0 : Int) ≤ (q : Int) := by omega
              have hql : q < es.length := by rw [HN.out]; exact hqn
              obtain ⟨eb, eo, hea, helt, hec⟩ := RdP.lt (RdP.keep HRE.out hRR.out.1.b) (by intro h; have := congrArg List.length h; rw [eP_length] at this; simp at this; rw [this] at hql; simp at hql)
              have hx := hec q (by rw [eP_length]; exact hql)
              rw [eP_at es q hql] at hx
              have hwu := HWR.out es[q] (List.getElem_mem hql)
              have HQ : Hid (es[q]? = some es[q]) := List.getElem?_eq_getElem hql
              obtain ⟨en, hen⟩ : ∃ en, es[q] = en := ⟨_, rfl⟩
              rw [hen] at hx hwu HQ
              obtain ⟨zn, u⟩ := en
              obtain ⟨x1, x2⟩ := hx
              dsimp only at x1 x2 hwu
              rw [hea]
              have hC3 := hRR.out.1.alloc (.cells #[.string zn, .int .i64 u] 154)
              have cF := hC3.zF.cell 0
              have bE := Blk.new wr 154 #[.string zn, .int .i64 u]
              have e1 := bE.cell 1
              simp at cF e1
              have hlS : S.length + 1 ≤ S1.length := by
                have := sub_len (l := x :: S) (m := S1) HIN.out.nd hRR.out.2.sub
                simpa using this
              have hb1 : B1.length ≤ 1 + mXE * S1.length := by
                have h1 := hRR.out.2.count
                have h2 := HBL.out
                have h3 : q ≤ mXE := by unfold mXE; omega
                rw [Nat.mul_add] at h1
                omega
              have hcR := HIH.out g' (by omega) u (dp + 1) _ S1 B1 hwu (by omega) (by omega) hb1 hC3
              rw [show ((dp + 1 : Nat) : Int) = (dp : Int) + 1 by omega] at hcR
              clear hec hea hen helt
              go_wp2_with fail
              (with_reducible refine hcR.mono ?_)
              rintro e w5 ⟨rfl, S2, B2, hC5, hP5⟩
              have hnx : Hid _ := And.intro hC5 (hRR.out.2.step HLX.out HDE.out HQ.out (by split <;> omega) hP5)
              clear cF e1 x1 x2 hcR hC3 bE hC5 hP5
              go_wp2
              go_roundw
              case rel => exact ⟨q + 1, S2, B2, by omega, by go_num, hnx⟩
              case measure => simp [intOf]; omega
            · have hqi : ¬ (q : Int) < (n2 : Int) := by omega
              have hend : Hid _ := HPR.out wr S1 B1 hRR.out.1 (hRR.out.2.fin (by rw [HN.out]; omega) (by unfold mXE; omega) HDE.out)
              go_wp2
              go_end0
              exact ⟨rfl, hend.out⟩
        · have hkb : (i2 == 2) = false := by simpa using hk2
          have hkc : (i2 != 2) = true := by simpa using hk2
          have hend : Hid _ := HPR.out _ _ _ hC2.out ((hL0.out).finN (by show _ = _; rw [hde.out, if_neg hk2]))
          go_wp2
          go_end0
          exact ⟨rfl, hend.out⟩
end

section
open Go.RowKit Go.Maps
def leadD (ds : List InoD) : Bool := ds.all fun D => D.ents.all (goodE ds)
theorem firstAt_look (rs : List InoR) (x : Int) : (firstAt (inos rs) x).isSome = (look (rs.map InoR.D) x).isSome := by
  have h2 := atB_look rs x
  unfold atB at h2
  exact h2
set_option maxRecDepth 100000 in
set_option maxHeartbeats 4000000 in
theorem leadI (a : Option Addr) (n cap : Nat) (nx : Int) (rs : List InoR) (w : World) (ht : TR w a n rs) (hwf : ∀ r ∈ rs, (Lit.int .i64 r.D.ino).wf = true) (hwe : ∀ r ∈ rs, ∀ e ∈ r.D.ents, (Lit.int .i64 e.2).wf = true) :
    Calls Tryz.prog 84 #[.agg #[.slice a n cap, .int .i64 nx]] w fun e w' => e = .returned (.bool (leadD (rs.map InoR.D))) ∧ Below w.heap.size w w' := by
  have B0 : Below w.heap.size w (w.alloc (.cells #[.slice a n cap, .int .i64 nx] 47)) := (Below.refl _ w).alloc (Nat.le_refl _) _
  have z0 := Blk.new w 47 #[.slice a n cap, .int .i64 nx]
  have hsz : Hid ((w.alloc (.cells #[.slice a n cap, .int .i64 nx] 47)).heap.size = w.heap.size + 1) := by show _ = _; simp
  have hcB := byNumber_any a n cap nx rs _ ht.len (by have := ht.n; omega) hwf (ht.rd.keep B0)
  obtain ⟨ds, hds⟩ : ∃ ds, rs.map InoR.D = ds := ⟨_, rfl⟩
  have HDS : Hid _ := hds
  have hdl : Hid (ds.length = n) := by show _ = _; rw [← hds, List.length_map, ht.len]
  obtain ⟨R, hR⟩ : ∃ R, leadD ds = R := ⟨_, rfl⟩
  rw [hds, hR]
  have HR : Hid ((ds.drop 0).all (fun D => D.ents.all (goodE ds)) = R) := hR
  have HT : Hid _ := ht
  have HE : Hid _ := hwe
  have hn1 := ht.n
  clear ht hwe hwf hR hds
  go_enter Tryz.func84, Tryz.ntmps84
  go_wp2_with fail
  obtain ⟨W0, hW0⟩ : ∃ W, w.alloc (.cells #[.slice a n cap, .int .i64 nx] 47) = W := ⟨_, rfl⟩
  rw [hW0] at B0 z0 hcB hsz ⊢
  clear hW0
  (with_reducible refine hcB.mono ?_)
  rintro e w1 ⟨cnt, Dp, rfl, hcnt, hM, hown, b1⟩
  obtain ⟨pm, hpm⟩ : ∃ pm, W0.heap.size + 1 = pm := ⟨_, rfl⟩
  rw [hpm] at hown ⊢
  have B1 := B0.trans (b1.mono B0.size)
  have zt := (z0.keep b1).cell 0
  simp at zt
  have HB1 : Hid _ := B1
  have HM : Hid _ := hM
  have HO : Hid _ := hown
  clear hM hown hcB z0 B0 b1 B1 hpm hsz
  go_wp2
  clear zt
  go_loopw [15] (fun i wr => ∃ k : Nat, k ≤ n ∧ i = .int .i64 k ∧ Hid ((ds.drop k).all (fun D => D.ents.all (goodE ds)) = R) ∧ Hid (Below w1.heap.size w1 wr)) (fun i _ => n - (intOf i).toNat)
  case atStart => exact ⟨0, Nat.zero_le _, rfl, HR, Below.refl _ _⟩
  case round =>
    obtain ⟨k, hk, rfl, hall, hB⟩ := hrel
    clear HR
    by_cases hkn : k < n
    · have hki : (k : Int) < (n : Int) := by omega
      have hk0 : (0 : Int) ≤ (k : Int) := by omega
      have hTr := HT.out.keep (HB1.out.trans (hB.out.mono HB1.out.size))
      obtain ⟨r, hrk⟩ : ∃ r, rs[k]? = some r := ⟨_, List.getElem?_eq_getElem (by rw [hTr.len]; exact hkn)⟩
      obtain ⟨b, off, rfl, hlt, hc⟩ := RdI.lt hTr.rd (by intro h; rw [h] at hrk; simp at hrk)
      obtain ⟨x6, xr⟩ := hc k r hrk
      obtain ⟨x0, x1, x2, x3, x4, x5⟩ := x6
      have hall' := hall.out
      rw [all_drop (x := r.D) _ (by rw [← HDS.out]; simp [hrk])] at hall'
      have hsm := (hTr.small r (List.mem_of_getElem? hrk)).ents
      have hwr := HE.out r (List.mem_of_getElem? hrk)
      obtain ⟨es, hes⟩ : ∃ es, r.D.ents = es := ⟨_, rfl⟩
      have hre : RdP wr r.a2 (eP es) := by rw [← hes]; exact InoRd.ents xr
      rw [hes] at x4 hall' hsm hwr
      obtain ⟨n2, hn2⟩ : ∃ n2, es.length = n2 := ⟨_, rfl⟩
      rw [hn2] at x4 hsm
      have HN : Hid _ := hn2
      generalize r.D.ino = i1 at x0
      generalize r.D.kind = i2 at x1
      generalize r.D.links = i3 at x2
      generalize r.D.data.length = n1 at x3
      generalize r.D.attrs.length = n3 at x5
      have bx := Blk.new wr 68 #[.int .i64 i1, .int .i64 i2, .int .i64 i3, .slice r.a1 n1 r.c1, .slice r.a2 n2 r.c2, .slice r.a3 n3 r.c3]
      have hbA : Below wr.heap.size wr (wr.alloc (.cells #[.int .i64 i1, .int .i64 i2, .int .i64 i3, .slice r.a1 n1 r.c1, .slice r.a2 n2 r.c2, .slice r.a3 n3 r.c3] 68)) := (Below.refl _ wr).alloc (Nat.le_refl _) _
      have y4 := bx.cell 4
      simp at y4
      have HRE : Hid _ := RdP.keep hre hbA
      have HBA : Hid _ := hB.out.trans (hbA.mono hB.out.size)
      have HWR : Hid _ := hwr
      have HA : Hid (((es.drop 0).all (goodE ds) && (ds.drop (k + 1)).all (fun D => D.ents.all (goodE ds))) = R) := hall'
      clear hc hrk xr hes hn2 hre bx hbA hall hTr hall' hwr
      go_wp2
      obtain ⟨Wb, hWb⟩ : ∃ W, wr.alloc (.cells #[.int .i64 i1, .int .i64 i2, .int .i64 i3, .slice r.a1 n1 r.c1, .slice r.a2 n2 r.c2, .slice r.a3 n3 r.c3] 68) = W := ⟨_, rfl⟩
      rw [hWb] at HRE HBA ⊢
      clear hWb y4 x0 x1 x2 x3 x4 x5
      go_loopw [22] (fun j wi => ∃ q : Nat, q ≤ n2 ∧ j = .int .i64 q ∧ Hid (((es.drop q).all (goodE ds) && (ds.drop (k + 1)).all (fun D => D.ents.all (goodE ds))) = R) ∧ Hid (Below Wb.heap.size Wb wi)) (fun j _ => n2 - (intOf j).toNat)
      case atStart => exact ⟨0, Nat.zero_le _, rfl, HA, Below.refl _ _⟩
      case round =>
        obtain ⟨q, hq, rfl, hap, hBi⟩ := hrel
        clear HA
        by_cases hqn : q < n2
        · have hqi : (q : Int) < (n2 : Int) := by omega
          have hq0 : (0 : Int) ≤ (q : Int) := by omega
          have hql : q < es.length := by rw [HN.out]; exact hqn
          have hap' := hap.out
          rw [all_drop (x := es[q]) _ (List.getElem?_eq_getElem hql), goodE] at hap'
          obtain ⟨eb, eo, hea, helt, hec⟩ := RdP.lt (RdP.keep HRE.out hBi.out) (by intro h; have := congrArg List.length h; rw [eP_length] at this; simp at this; rw [this] at hql; simp at hql)
          have hx := hec q (by rw [eP_length]; exact hql)
          rw [eP_at es q hql] at hx
          have hwu := HWR.out es[q] (List.getElem_mem hql)
          obtain ⟨zn, hzn⟩ : ∃ z, es[q].1 = z := ⟨_, rfl⟩
          obtain ⟨u, hu⟩ : ∃ u, es[q].2 = u := ⟨_, rfl⟩
          rw [hzn, hu] at hx
          rw [hu] at hap' hwu
          obtain ⟨x1, x2⟩ := hx
          dsimp only at x1 x2
          rw [hea]
          have hBw : Below w1.heap.size w1 wr := HBA.out.trans (hBi.out.mono HBA.out.size)
          have bA : Below wr.heap.size wr (wr.alloc (.cells #[.string zn, .int .i64 u] 154)) := (Below.refl _ wr).alloc (Nat.le_refl _) _
          have HBI : Hid (Below Wb.heap.size Wb (wr.alloc (.cells #[.string zn, .int .i64 u] 154))) := hBi.out.trans (bA.mono hBi.out.size)
          have HBF : Hid (Below w.heap.size w (wr.alloc (.cells #[.string zn, .int .i64 u] 154))) := HB1.out.trans ((hBw.trans (bA.mono hBw.size)).mono HB1.out.size)
          have e1 := (Blk.new wr 154 #[.string zn, .int .i64 u]).cell 1
          simp at e1
          have hplt := World.ownsMap.lt HO.out
          have hpw : wr.ownsMap Tryz.prog 3 (plainElem Tryz.prog 3) pm cnt Dp := by
            obtain ⟨es, clock, hb, Ft, hs, hD⟩ := HO.out
            exact ⟨es, clock, (hBw.block pm hplt).trans hb, Ft, hs, hD⟩
          have hpA := hpw.alloc (.cells #[.string zn, .int .i64 u] 154)
          have hkey : keyOf Tryz.prog 3 (.int .i64 u) = some (.int .i64 u) := keyOf_int_mk Tryz.underlying3 hwu
          have hhs : Maps.has Dp (.int .i64 u) = (look ds u).isSome := by rw [(HM.out.2 u).1, firstAt_look, HDS.out]
          clear hec hzn hu hea helt hap bA hBw hpw hplt
          cases hl : (look ds u).isSome with
          | false =>
            rw [hl] at hap' hhs
            rw [Bool.false_and, Bool.false_and] at hap'
            have hend : Hid (false = R) := hap'
            clear hap'
            go_wp2_with (first
              | (at_lookup; refine wpList_lookup_own_ok_int _ rfl _ _ 157 rfl 3 3 .i64 Tryz.keyInt Tryz.underlying157 Tryz.underlying3 (Tryz.zeroInt _) pm cnt Dp rfl hpA _ _ rfl hkey ?_; intro c hat hwc; rw [hhs])
              | go_in)
            go_ret
            exact ⟨ret_bool hend.out, HBF.out⟩
          | true =>
            rw [hl] at hap' hhs
            rw [Bool.true_and] at hap'
            have hnx : Hid _ := hap'
            clear hap'
            go_wp2_with (first
              | (at_lookup; refine wpList_lookup_own_ok_int _ rfl _ _ 157 rfl 3 3 .i64 Tryz.keyInt Tryz.underlying157 Tryz.underlying3 (Tryz.zeroInt _) pm cnt Dp rfl hpA _ _ rfl hkey ?_; intro c hat hwc; rw [hhs])
              | go_in)
            go_roundw
            case rel => exact ⟨q + 1, by omega, by go_num, hnx, HBI⟩
            case measure => simp [intOf]; omega
        · have hqi : ¬ (q : Int) < (n2 : Int) := by omega
          have hfin : Hid ((ds.drop (k + 1)).all (fun D => D.ents.all (goodE ds)) = R) := by
            have h1 := hap.out
            rw [List.drop_of_length_le (by rw [HN.out]; omega)] at h1
            exact h1
          have hB2 : Hid _ := HBA.out.trans (hBi.out.mono HBA.out.size)
          go_wp2
          go_roundw
          case rel => exact ⟨k + 1, by omega, by go_num, hfin, hB2⟩
          case measure => simp [intOf]; omega
    · have hki : ¬ (k : Int) < (n : Int) := by omega
      have hend : Hid (true = R) := by
        have h1 := hall.out
        rw [List.drop_of_length_le (by rw [hdl.out]; omega)] at h1
        exact h1
      have hfb : Hid _ := HB1.out.trans (hB.out.mono HB1.out.size)
      go_wp2
      go_ret
      exact ⟨ret_bool hend.out, hfb.out⟩
end

section
open Go.Shelf
def Tryz.keysA_ren : Go.Shelf.Ren := ⟨fun | 7 => 120 | 10 => 172 | n => n, fun | 23 => 157 | 26 => 3 | 3 => 3 | 28 => 169 | 0 => 0 | 27 => 168 | 33 => 138 | 4 => 4 | n => n, fun | n => n⟩
theorem Tryz.keysA : Go.Proofs.SlLaysZI.n7 Tryz.prog Tryz.keysA_ren := {
  mixed := by kernel_rfl
  f7 := ⟨Tryz.f120.name, by decide, Tryz.func120.trans (congrArg some (by kernel_rfl))⟩
  f10 := ⟨Tryz.f172.name, by decide, Tryz.func172.trans (congrArg some (by kernel_rfl))⟩
  t0 := Tryz.underlying0
  a0 := Tryz.isAgg0
  z0 := Tryz.sizeOf0
  v0 := Tryz.zeroValue0
  t4 := Tryz.underlying4
  a4 := Tryz.isAgg4
  z4 := Tryz.sizeOf4
  v4 := Tryz.zeroValue4
  t23 := Tryz.underlying157
  a23 := Tryz.isAgg157
  z23 := Tryz.sizeOf157
  v23 := Tryz.zeroValue157
  t26 := Tryz.underlying3
  a26 := Tryz.isAgg3
  z26 := Tryz.sizeOf3
  v26 := Tryz.zeroValue3
  t27 := Tryz.underlying168
  a27 := Tryz.isAgg168
  z27 := Tryz.sizeOf168
  v27 := Tryz.zeroValue168
  t28 := Tryz.underlying169
  a28 := Tryz.isAgg169
  z28 := Tryz.sizeOf169
  v28 := Tryz.zeroValue169
  t33 := Tryz.underlying138
  a33 := Tryz.isAgg138
  z33 := Tryz.sizeOf138
  v33 := Tryz.zeroValue138 }
def Tryz.sortedA_ren : Go.Shelf.Ren := ⟨fun | 6 => 119 | 8 => 170 | 9 => 171 | 11 => 225 | 13 => 227 | 12 => 226 | 23 => 274 | 24 => 275 | 14 => 265 | 15 => 266 | 16 => 267 | 17 => 268 | 18 => 269 | 19 => 270 | 20 => 271 | 21 => 272 | 22 => 273 | 25 => 302 | 26 => 303 | 27 => 304 | 28 => 305 | 29 => 306 | 30 => 307 | 31 => 323 | n => n, fun | 26 => 3 | 28 => 169 | 24 => 117 | 0 => 0 | 3 => 3 | 37 => 258 | 48 => 293 | 50 => 295 | 4 => 4 | 40 => 286 | 39 => 285 | 45 => 159 | 5 => 5 | 9 => 9 | 51 => 312 | 55 => 316 | 57 => 330 | 58 => 60 | 33 => 138 | n => n, fun | n => n⟩
theorem Tryz.sortedA : Go.Proofs.SlLaysZI.n6 Tryz.prog Tryz.sortedA_ren := {
  mixed := by kernel_rfl
  f6 := ⟨Tryz.f119.name, by decide, Tryz.func119.trans (congrArg some (by kernel_rfl))⟩
  f8 := ⟨Tryz.f170.name, by decide, Tryz.func170.trans (congrArg some (by kernel_rfl))⟩
  f11 := ⟨Tryz.f225.name, by decide, Tryz.func225.trans (congrArg some (by kernel_rfl))⟩
  t0 := Tryz.underlying0
  a0 := Tryz.isAgg0
  z0 := Tryz.sizeOf0
  v0 := Tryz.zeroValue0
  t24 := Tryz.underlying117
  a24 := Tryz.isAgg117
  z24 := Tryz.sizeOf117
  v24 := Tryz.zeroValue117
  t26 := Tryz.underlying3
  a26 := Tryz.isAgg3
  z26 := Tryz.sizeOf3
  v26 := Tryz.zeroValue3
  t28 := Tryz.underlying169
  a28 := Tryz.isAgg169
  z28 := Tryz.sizeOf169
  v28 := Tryz.zeroValue169
  i26 := by kernel_rfl }
def Tryz.sortA_ren : Go.Shelf.Ren := ⟨fun | 5 => 171 | 8 => 227 | 7 => 226 | 19 => 274 | 20 => 275 | 10 => 265 | 11 => 266 | 12 => 267 | 13 => 268 | 14 => 269 | 15 => 270 | 16 => 271 | 17 => 272 | 18 => 273 | 30 => 302 | 31 => 303 | 32 => 304 | 33 => 305 | 34 => 306 | 35 => 307 | 40 => 323 | n => n, fun | 23 => 117 | 25 => 3 | 3 => 3 | 32 => 258 | 22 => 117 | 0 => 0 | 44 => 293 | 46 => 295 | 4 => 4 | 36 => 286 | 35 => 285 | 41 => 159 | 5 => 5 | 9 => 9 | 53 => 312 | 57 => 316 | 63 => 330 | 64 => 60 | n => n, fun | n => n⟩
theorem Tryz.sortA : Go.Proofs.SlLaysM.n5 Tryz.prog Tryz.sortA_ren := {
  mixed := by kernel_rfl
  f5 := ⟨Tryz.f171.name, by decide, Tryz.func171.trans (congrArg some (by kernel_rfl))⟩
  f7 := ⟨Tryz.f226.name, by decide, Tryz.func226.trans (congrArg some (by kernel_rfl))⟩
  f8 := Tryz.func227.trans (congrArg some (by kernel_rfl))
  f10 := ⟨Tryz.f265.name, by decide, Tryz.func265.trans (congrArg some (by kernel_rfl))⟩
  f11 := ⟨Tryz.f266.name, by decide, Tryz.func266.trans (congrArg some (by kernel_rfl))⟩
  f12 := ⟨Tryz.f267.name, by decide, Tryz.func267.trans (congrArg some (by kernel_rfl))⟩
  f13 := ⟨Tryz.f268.name, by decide, Tryz.func268.trans (congrArg some (by kernel_rfl))⟩
  f14 := ⟨Tryz.f269.name, by decide, Tryz.func269.trans (congrArg some (by kernel_rfl))⟩
  f15 := ⟨Tryz.f270.name, by decide, Tryz.func270.trans (congrArg some (by kernel_rfl))⟩
  f16 := ⟨Tryz.f271.name, by decide, Tryz.func271.trans (congrArg some (by kernel_rfl))⟩
  f17 := ⟨Tryz.f272.name, by decide, Tryz.func272.trans (congrArg some (by kernel_rfl))⟩
  f18 := ⟨Tryz.f273.name, by decide, Tryz.func273.trans (congrArg some (by kernel_rfl))⟩
  f19 := Tryz.func274.trans (congrArg some (by kernel_rfl))
  f20 := Tryz.func275.trans (congrArg some (by kernel_rfl))
  f30 := ⟨Tryz.f302.name, by decide, Tryz.func302.trans (congrArg some (by kernel_rfl))⟩
  f31 := Tryz.func303.trans (congrArg some (by kernel_rfl))
  f32 := Tryz.func304.trans (congrArg some (by kernel_rfl))
  f33 := ⟨Tryz.f305.name, by decide, Tryz.func305.trans (congrArg some (by kernel_rfl))⟩
  f34 := ⟨Tryz.f306.name, by decide, Tryz.func306.trans (congrArg some (by kernel_rfl))⟩
  f35 := ⟨Tryz.f307.name, by decide, Tryz.func307.trans (congrArg some (by kernel_rfl))⟩
  f40 := ⟨Tryz.f323.name, by decide, Tryz.func323.trans (congrArg some (by kernel_rfl))⟩
  t0 := Tryz.underlying0
  a0 := Tryz.isAgg0
  z0 := Tryz.sizeOf0
  v0 := Tryz.zeroValue0
  t3 := Tryz.underlying3
  a3 := Tryz.isAgg3
  z3 := Tryz.sizeOf3
  v3 := Tryz.zeroValue3
  t4 := Tryz.underlying4
  a4 := Tryz.isAgg4
  z4 := Tryz.sizeOf4
  v4 := Tryz.zeroValue4
  t5 := Tryz.underlying5
  a5 := Tryz.isAgg5
  z5 := Tryz.sizeOf5
  v5 := Tryz.zeroValue5
  t9 := Tryz.underlying9
  a9 := Tryz.isAgg9
  z9 := Tryz.sizeOf9
  v9 := Tryz.zeroValue9
  t22 := Tryz.underlying117
  a22 := Tryz.isAgg117
  z22 := Tryz.sizeOf117
  v22 := Tryz.zeroValue117
  t23 := Tryz.underlying117
  a23 := Tryz.isAgg117
  z23 := Tryz.sizeOf117
  v23 := Tryz.zeroValue117
  t25 := Tryz.underlying3
  a25 := Tryz.isAgg3
  z25 := Tryz.sizeOf3
  v25 := Tryz.zeroValue3
  t32 := Tryz.underlying258
  a32 := Tryz.isAgg258
  z32 := Tryz.sizeOf258
  v32 := Tryz.zeroValue258
  t35 := Tryz.underlying285
  a35 := Tryz.isAgg285
  z35 := Tryz.sizeOf285
  v35 := Tryz.zeroValue285
  t36 := Tryz.underlying286
  a36 := Tryz.isAgg286
  z36 := Tryz.sizeOf286
  v36 := Tryz.zeroValue286
  t41 := Tryz.underlying159
  a41 := Tryz.isAgg159
  z41 := Tryz.sizeOf159
  v41 := Tryz.zeroValue159
  t44 := Tryz.underlying293
  a44 := Tryz.isAgg293
  z44 := Tryz.sizeOf293
  v44 := Tryz.zeroValue293
  t46 := Tryz.underlying295
  a46 := Tryz.isAgg295
  z46 := Tryz.sizeOf295
  v46 := Tryz.zeroValue295
  t53 := Tryz.underlying312
  a53 := Tryz.isAgg312
  z53 := Tryz.sizeOf312
  v53 := Tryz.zeroValue312
  t57 := Tryz.underlying316
  a57 := Tryz.isAgg316
  z57 := Tryz.sizeOf316
  v57 := Tryz.zeroValue316
  t63 := Tryz.underlying330
  a63 := Tryz.isAgg330
  z63 := Tryz.sizeOf330
  v63 := Tryz.zeroValue330
  t64 := Tryz.underlying60
  a64 := Tryz.isAgg60
  z64 := Tryz.sizeOf60
  v64 := Tryz.zeroValue60 }
end
end Go.Proofs.YtbjfihabkpianaaGreatDoor
