/-
  Joined: Link6, Rename6, FullM, IdxP, DelP.
-/
import Derived.Test.YtmfimoccemgoiaaGreatDoorJ25D
import Derived.Test.YtmfimoccemgoiaaGreatDoorAscID
import Derived.KernelRfl
namespace Go.Proofs.YtmfimoccemgoiaaGreatDoor
section
open Go.RowKit
def linkD (nx : Int) (ds : List InoD) (s tp : ByteArray) : List InoD × Int :=
  if treeD nx ds = false ∨ (splitOf s.data.toList).isSome = false ∨ (parentOf tp.data.toList).2.2 = false then (ds, 1)
  else if (fileD ds s).2 ≠ 0 then (ds, (fileD ds s).2)
  else if (spotD ds tp 0).2.2 ≠ 0 then (ds, (spotD ds tp 0).2.2)
  else (setD (setD ds { (fileD ds s).1 with links := (fileD ds s).1.links + 1 }) { (spotD ds tp 0).1 with ents := insBy (fun q => gtS (spotD ds tp 0).2.1 q.1) (spotD ds tp 0).1.ents ((spotD ds tp 0).2.1, (fileD ds s).1.ino) }, 0)
end

section
open Go.RowKit
def renameD (nx : Int) (ds : List InoD) (s tp : ByteArray) : List InoD × Int :=
  if treeD nx ds = false ∨ (parentOf s.data.toList).2.2 = false ∨ (parentOf tp.data.toList).2.2 = false then (ds, 1)
  else if (walkP ds s).2 ≠ 0 then (ds, (walkP ds s).2)
  else if belowOf s.data.toList tp.data.toList = true then (ds, 6)
  else if (spotD ds tp (walkP ds (strB (parentOf s.data.toList).1)).1).2.2 ≠ 0 then (ds, (spotD ds tp (walkP ds (strB (parentOf s.data.toList).1)).1).2.2)
  else (setD (dropP ds s) { (statD (dropP ds s) (strB (parentOf tp.data.toList).1)).1 with ents := insBy (fun q => gtS (spotD ds tp (walkP ds (strB (parentOf s.data.toList).1)).1).2.1 q.1) (statD (dropP ds s) (strB (parentOf tp.data.toList).1)).1.ents ((spotD ds tp (walkP ds (strB (parentOf s.data.toList).1)).1).2.1, (walkP ds s).1) }, 0)
end

section
open Go.RowKit
/-- The new table. -/
def tab1 : List InoD := [⟨1, 2, 0, [], [], []⟩]
/-- An inode that is small, as a test. -/
def smallB (D : InoD) : Bool := ((decide (D.data.length ≤ 1048576) && decide (D.ents.length ≤ 1048576)) && decide (D.attrs.length ≤ 1048576)) && ((D.ents.all fun q => decide (q.1.size ≤ 1048576)) && (D.attrs.all fun q => decide (q.1.size ≤ 1048576) && decide (q.2.size ≤ 1048576)))
theorem smallB_ok {D : InoD} (h : smallB D = true) : InoSmall D := by
  unfold smallB at h
  simp only [Bool.and_eq_true, decide_eq_true_eq, List.all_eq_true] at h
  exact ⟨h.1.1.1, h.1.1.2, h.1.2, fun q hq => h.2.1 q hq, fun q hq => h.2.2 q hq⟩
/-- A tree of small inodes, as a test. -/
def goodB (nx : Int) (ds : List InoD) : Bool := treeD nx ds && ds.all smallB
theorem goodB_small {nx : Int} {ds : List InoD} (h : goodB nx ds = true) : (∀ D ∈ ds, InoSmall D) ∧ ds.length ≤ 1048576 ∧ treeD nx ds = true := by
  unfold goodB at h
  simp only [Bool.and_eq_true, List.all_eq_true] at h
  have h2 := (tabD_ok (treeD_parts h.1).1).2.1
  exact ⟨fun D hD => smallB_ok (h.2 D hD), by omega, h.1⟩
/-- The path of the file in the place k. -/
def fdP (k : Nat) : ByteArray := ⟨#[47, 100, 47, UInt8.ofNat (97 + k)]⟩
def fdZ : ByteArray := ⟨#[47, 100, 47, 122]⟩
/-- The table with k files within the directory. -/
def fdS : Nat → Int × List InoD
  | 0 => ((makeD 2 tab1 ⟨#[47, 100]⟩ 2).1, (makeD 2 tab1 ⟨#[47, 100]⟩ 2).2.1)
  | k + 1 => ((makeD (fdS k).1 (fdS k).2 (fdP k) 1).1, (makeD (fdS k).1 (fdS k).2 (fdP k) 1).2.1)
theorem range_all {n : Nat} {p : Nat → Bool} (h : (List.range n).all p = true) {k : Nat} (hk : k < n) : p k = true := List.all_eq_true.1 h k (List.mem_range.2 hk)
set_option maxRecDepth 100000 in
theorem fd_dir : (makeD 2 tab1 ⟨#[47, 100]⟩ 2).2.2 = 0 := by kernel_rfl
set_option maxRecDepth 100000 in
theorem fd_trees : ((List.range 11).all fun k => goodB (fdS k).1 (fdS k).2) = true := by kernel_rfl
set_option maxRecDepth 100000 in
theorem fd_codes : ((List.range 10).all fun k => (makeD (fdS k).1 (fdS k).2 (fdP k) 1).2.2 == 0) = true := by kernel_rfl
set_option maxRecDepth 100000 in
theorem fd_full : (makeD (fdS 10).1 (fdS 10).2 fdZ 1).2.2 = 5 := by kernel_rfl
set_option maxRecDepth 100000 in
theorem fd_link : (linkD (fdS 10).1 (fdS 10).2 (fdP 0) fdZ).2 = 5 := by kernel_rfl
set_option maxRecDepth 100000 in
theorem fd_ren : (renameD (fdS 10).1 (fdS 10).2 (fdP 0) fdZ).2 = 0 := by kernel_rfl
set_option maxRecDepth 100000 in
theorem fd_unl : ((List.range 10).all fun k => (unlinkD (fdS 10).1 (fdS 10).2 (fdP k)).2 == 0) = true := by kernel_rfl
set_option maxRecDepth 100000 in
theorem fd_left : ((List.range 10).all fun k => goodB (fdS 10).1 (unlinkD (fdS 10).1 (fdS 10).2 (fdP k)).1) = true := by kernel_rfl
set_option maxRecDepth 100000 in
theorem fd_now : ((List.range 10).all fun k => (makeD (fdS 10).1 (unlinkD (fdS 10).1 (fdS 10).2 (fdP k)).1 fdZ 1).2.2 == 0) = true := by kernel_rfl
end

section
open Go.RowKit
/-- The closure's two variables: the name's function, the text. -/
structure CVEnt (w : World) (FB SB : Nat) (s : ByteArray) : Prop where
  f : Blk w FB 219 #[.func (.func 210) #[] #[]]
  s : Blk w SB 9 #[.string s]
theorem CVEnt.keep {w w' : World} {FB SB : Nat} {s : ByteArray} (h : CVEnt w FB SB s) (hb : Below w.heap.size w w') : CVEnt w' FB SB s := ⟨h.f.keep hb, h.s.keep hb⟩
theorem CVEnt.row {w w' : World} {FB SB : Nat} {s : ByteArray} {g n c : Nat} {ps : List VP} (h : CVEnt w FB SB s) (ho : OwnP 89 w g n c ps) (hg : w.grownBy w' (some g)) : CVEnt w' FB SB s := by
  have hk : KpT w w' [219, 9] := KpT.row (v := .slice (some ⟨g, 0, none⟩) n c) hg ho (by decide)
  exact ⟨h.f.kp hk (by decide), h.s.kp hk (by decide)⟩
set_option maxRecDepth 100000 in
set_option maxHeartbeats 2000000 in
theorem sameEnt (z : ByteArray) (u : Int) (s : ByteArray) (FB SB : Nat) (w : World) (hv : CVEnt w FB SB s) :
    Calls Tryz.prog 279 #[.agg #[.string z, .int .i64 u], .pointer (some ⟨FB, 0, none⟩), .pointer (some ⟨SB, 0, none⟩)] w fun e w' => e = .returned (.bool (z.toList == s.toList)) ∧ Below w.heap.size w w' := by
  have b0 : Below w.heap.size w (w.alloc (.cells #[.string z, .int .i64 u] 89)) := (Below.refl _ w).alloc (Nat.le_refl _) _
  have hv0 := hv.keep b0
  have z0 := Blk.new w 89 #[.string z, .int .i64 u]
  have hn := entName_any z u
  go_enter Tryz.func279, Tryz.ntmps279
  go_wp2_with fail
  obtain ⟨W, hW⟩ : ∃ W, w.alloc (.cells #[.string z, .int .i64 u] 89) = W := ⟨_, rfl⟩
  rw [hW] at hv0 z0 b0 ⊢
  clear hW hv
  have HK : Hid (∀ V : World, Below W.heap.size W V → V.cell? ⟨FB, 0, none⟩ = some (.func (.func 210) #[] #[]) ∧ V.cell? ⟨SB, 0, none⟩ = some (.string s) ∧ V.cell? ⟨w.heap.size, 0, none⟩ = some (.string z) ∧ V.cell? ⟨w.heap.size, 1, none⟩ = some (.int .i64 u)) := fun V hV => ⟨(hv0.keep hV).f.cell 0, (hv0.keep hV).s.cell 0, (z0.keep hV).cell 0, (z0.keep hV).cell 1⟩
  obtain ⟨k0, k1, k2, k3⟩ := HK.out W (Below.refl _ _)
  go_region_held3 (fun V : World => V.cell? ⟨FB, 0, none⟩ = some (.func (.func 210) #[] #[]) ∧ V.cell? ⟨SB, 0, none⟩ = some (.string s) ∧ V.cell? ⟨w.heap.size, 0, none⟩ = some (.string z) ∧ V.cell? ⟨w.heap.size, 1, none⟩ = some (.int .i64 u)) (go_keep) (first
    | (go_at_call 210; (with_reducible refine (hn W.drew).mono ?_); rintro e w1 ⟨rfl, b1⟩; have B1 : Below W.heap.size W w1 := (Below.refl _ W).drew.trans b1; obtain ⟨q0, q1, q2, q3⟩ := HK.out w1 B1)
    | fail)
  have hend : Hid _ := b0.trans (B1.mono b0.size)
  clear q0 q1 q2 q3 k0 k1 k2 k3 b1 B1 z0 hv0 b0
  go_wp2
  go_ret
  exact ⟨rfl, hend.out⟩
/-- The place of the first one of this name, or -1. -/
def firstEnt (es : List (ByteArray × Int)) (s : ByteArray) : Int := match es.findIdx? (fun e => e.1.toList == s.toList) with | some k => (k : Int) | none => -1
theorem firstEnt_at {es : List (ByteArray × Int)} {s : ByteArray} {k : Nat} (hk : k < es.length) (h : (es[k].1.toList == s.toList) = true) (ha : ∀ (j : Nat) (hj : j < es.length), j < k → (es[j].1.toList == s.toList) = false) : firstEnt es s = (k : Int) := by
  unfold firstEnt
  have : es.findIdx? (fun e => e.1.toList == s.toList) = some k := List.findIdx?_eq_some_iff_getElem.2 ⟨hk, h, fun j hj => by rw [ha j (by omega) hj]; decide⟩
  rw [this]
theorem firstEnt_none {es : List (ByteArray × Int)} {s : ByteArray} (ha : ∀ (j : Nat) (hj : j < es.length), (es[j].1.toList == s.toList) = false) : firstEnt es s = -1 := by
  unfold firstEnt
  have : es.findIdx? (fun e => e.1.toList == s.toList) = none := List.findIdx?_eq_none_iff.2 fun e he => by
    obtain ⟨j, hj, rfl⟩ := List.getElem_of_mem he
    exact ha j hj
  rw [this]
set_option maxRecDepth 100000 in
set_option maxHeartbeats 2000000 in
theorem indexEnt (a : Option Addr) (n cap : Nat) (es : List (ByteArray × Int)) (s : ByteArray) (FB SB : Nat) (w : World) (hn : es.length = n) (hs : n ≤ 4000000) (hr : RdP w a (eP es)) (hv : CVEnt w FB SB s) :
    Calls Tryz.prog 289 #[.slice a n cap, .func (.func 279) #[] #[.pointer (some ⟨FB, 0, none⟩), .pointer (some ⟨SB, 0, none⟩)]] w fun e w' => e = .returned (.int .i64 (firstEnt es s)) ∧ Below w.heap.size w w' := by
  have HR : Hid _ := hr
  have HV : Hid _ := hv
  have HN : Hid (es.length = n) := hn
  obtain ⟨R, hR⟩ : ∃ R, firstEnt es s = R := ⟨_, rfl⟩
  rw [hR]
  have HRR : Hid _ := hR
  clear hr hv hn hR
  go_enter Tryz.func289, Tryz.ntmps289
  go_wp2
  go_loopw [8] (fun i wr => ∃ k : Nat, k ≤ n ∧ i = .int .i64 k ∧ Hid (∀ (j : Nat) (hj : j < es.length), j < k → (es[j].1.toList == s.toList) = false) ∧ Hid (Below w.heap.size w wr)) (fun i _ => n - (intOf i).toNat)
  case atStart => exact ⟨0, Nat.zero_le _, rfl, fun j _ hj => by omega, Below.refl _ _⟩
  case round =>
    obtain ⟨k, hk, rfl, hall, hB⟩ := hrel
    by_cases hkn : k < n
    · have hki : (k : Int) < (n : Int) := by omega
      have hk0 : (0 : Int) ≤ (k : Int) := by omega
      have hkl : k < es.length := by rw [HN.out]; exact hkn
      obtain ⟨eb, eo, rfl, helt, hec⟩ := RdP.lt (RdP.keep HR.out hB.out) (by intro h; have := congrArg List.length h; rw [eP_length] at this; simp at this; rw [this] at hkl; simp at hkl)
      have hx := hec k (by rw [eP_length]; exact hkl)
      rw [eP_at es k hkl] at hx
      have hyes : Hid ((es[k].1.toList == s.toList) = true → (k : Int) = R) := fun h => by rw [← HRR.out]; exact (firstEnt_at hkl h hall.out).symm
      have hno : Hid ((es[k].1.toList == s.toList) = false → ∀ (j : Nat) (hj : j < es.length), j < k + 1 → (es[j].1.toList == s.toList) = false) := fun h j hj hjk => by
        rcases (show j < k ∨ j = k by omega) with h1 | rfl
        · exact hall.out j hj h1
        · exact h
      obtain ⟨z, u, hzu⟩ : ∃ z u, es[k] = (z, u) := ⟨_, _, rfl⟩
      rw [hzu] at hx hyes hno
      obtain ⟨x1, x2⟩ := hx
      dsimp only at x1 x2 hyes hno
      have hcc := sameEnt z u s FB SB wr (CVEnt.keep HV.out hB.out)
      obtain ⟨bb, hbb⟩ : ∃ b, (z.toList == s.toList) = b := ⟨_, rfl⟩
      rw [hbb] at hcc hyes hno
      clear hec hzu hall hbb
      cases bb with
      | true =>
        have hend : Hid ((k : Int) = R) := hyes.out rfl
        clear hyes hno
        go_wp2_with (go_at_call 279; (with_reducible refine hcc.mono ?_); rintro e w1 ⟨rfl, b1⟩)
        go_ret
        exact ⟨ret_int hend.out, hB.out.trans (b1.mono hB.out.size)⟩
      | false =>
        have hnx : Hid _ := hno.out rfl
        clear hyes hno
        go_wp2_with (go_at_call 279; (with_reducible refine hcc.mono ?_); rintro e w1 ⟨rfl, b1⟩)
        go_roundw
        case rel => exact ⟨k + 1, by omega, by go_num, hnx, hB.out.trans (b1.mono hB.out.size)⟩
        case measure => simp [intOf]; omega
    · have hki : ¬ (k : Int) < (n : Int) := by omega
      have hend : Hid ((-1 : Int) = R) := by show _ = _; rw [← HRR.out]; exact (firstEnt_none (fun j hj => hall.out j hj (by rw [HN.out] at hj; omega))).symm
      clear hall
      go_wp2
      go_ret
      exact ⟨ret_int hend.out, hB.out⟩
end

section
open Go.RowKit
theorem zc_one {z1 z2 : Value} {m : Nat} (h1 : z1.oneCell' = true) (h2 : z2.oneCell' = true) : ∀ v ∈ (Builtin.zeroCells #[z1, z2] m).toList, v.oneCell' = true := by
  intro v hv
  unfold Builtin.zeroCells at hv
  rw [Array.toList_map, List.mem_map] at hv
  obtain ⟨i, _, rfl⟩ := hv
  rcases Nat.mod_two_eq_zero_or_one i with h | h
  · show (#[z1, z2][i % 2]!).oneCell' = true
    rw [h]
    exact h1
  · show (#[z1, z2][i % 2]!).oneCell' = true
    rw [h]
    exact h2
theorem ownQ_shape {e : TypeId} {w : World} {v : Value} {n : Nat} {ps : List VP} (h : OwnQ e w v n ps) : ∃ a c, v = .slice a n c := by
  rcases h.cases with ⟨rfl, rfl, _⟩ | ⟨g, c, rfl, _⟩
  · exact ⟨none, 0, rfl⟩
  · exact ⟨_, _, rfl⟩
theorem pv_take : ∀ (ps : List VP) (i : Nat), (pv ps).take (i * 2) = pv (ps.take i)
  | [], i => by simp [pv]
  | p :: ps, 0 => by simp [pv]
  | p :: ps, i + 1 => by
    have e : pv (p :: ps) = p.1 :: p.2 :: pv ps := rfl
    rw [e, show (i + 1) * 2 = i * 2 + 1 + 1 by omega, List.take_succ_cons, List.take_succ_cons, pv_take ps i, List.take_succ_cons]
    rfl
theorem wpList_clear (W : World) {ops : Array Oper} {rest : List Oper} {o : Oper} {a : Act} {Q : Exit → Act → World → Prop} (hgd : o.guard = none) (s : Operand) (T : TypeId)
    (ho : o.op = .call { callee := .builtin .clear, args := #[s], argTypes := #[T] }) (v : Value) (W' : World) (hs : a.eval s = v) (hr : ∀ ty, (Builtin.clear_ #[T] ty #[v]).run Tryz.prog W = .ok (.tuple #[]) W')
    (h : wpList Tryz.prog ops Q rest (a.put o.dst (.tuple #[])) W') : wpList Tryz.prog ops Q (o :: rest) a W := by
  refine wpList_plain hgd fun K hK => ?_
  unfold Oper.wp execOp
  simp only [ho, resolve, invoke, builtin, Sem.run_bind, Sem.run_pure, Result.andThen_ok, List.map_toArray, List.map_cons, List.map_nil, hs, hr]
  exact hK _ _ h
theorem gr_setCells (g : Nat) : ∀ (zs : List Value) (o : Nat) (w : World), w.grownBy (w.setCells g o zs) (some g)
  | [], _, _ => ⟨rfl, rfl, rfl, Nat.le_refl _, fun _ _ _ => rfl⟩
  | z :: zs, o, w => (gr_setC w g o z).trans (gr_setCells g zs (o + 1) _)
theorem ownP_setCells {e : TypeId} {g i cap : Nat} {ps : List VP} : ∀ (zs : List Value) (o : Nat) (w : World), OwnP e w g i cap ps → i * 2 ≤ o → OwnP e (w.setCells g o zs) g i cap ps
  | [], _, _, h, _ => h
  | z :: zs, o, w, h, ho => by
    have h1 := (World.ownsRow.stored h o z).1
    rw [List.set_eq_of_length_le (by have := h.1; omega)] at h1
    exact ownP_setCells zs (o + 1) _ h1 (by omega)
theorem own_takeP {e : TypeId} {w : World} {g n i cap : Nat} {ps : List VP} (h : OwnP e w g n cap ps) (hi : i ≤ n) : OwnP e w g i cap (ps.take i) := by
  have hl := h.len
  refine ⟨by rw [pv_length, List.length_take]; omega, ?_⟩
  rcases h.2 with ⟨h0, _⟩ | ⟨g', c', cur, h0, hg, hh, hnc, hcm, hcs, htk⟩
  · cases h0
  · cases h0
    refine .inr ⟨g, cap, cur, rfl, hg, hh, by omega, hcm, hcs, ?_⟩
    have e1 := congrArg (List.take (i * 2)) htk
    rw [List.take_take, Nat.min_eq_left (by omega)] at e1
    rw [e1, pv_take]
theorem Below.gr {w w' : World} (h : Below w.heap.size w w') (r : Option Nat) : w.grownBy w' r := ⟨h.os, h.tape, h.output, h.size, fun k hk _ => h.block k hk⟩
theorem gr_tr {w w1 w2 : World} {r : Option Nat} (h : w.grownBy w1 r) (k : w1.grownBy w2 r) : w.grownBy w2 r := h.trans k
/-- What is left without those of this name. -/
def dropEnt (es : List (ByteArray × Int)) (s : ByteArray) : List (ByteArray × Int) := es.filter fun e => !(e.1.toList == s.toList)
theorem eP_append (l m : List (ByteArray × Int)) : eP (l ++ m) = eP l ++ eP m := by unfold eP; rw [List.map_append]
theorem eP_take (l : List (ByteArray × Int)) (k : Nat) : (eP l).take k = eP (l.take k) := by unfold eP; rw [List.map_take]
theorem eP_drop (l : List (ByteArray × Int)) (k : Nat) : (eP l).drop k = eP (l.drop k) := by unfold eP; rw [List.map_drop]
/-- In the midst of it: the first i are what is left of the first j; from j on all is as it was. -/
structure DFEnt (es : List (ByteArray × Int)) (s : ByteArray) (ps : List VP) (i j : Nat) : Prop where
  lt : i < j
  le : j ≤ es.length
  len : ps.length = es.length
  left : ps.take i = eP (dropEnt (es.take j) s)
  rest : ps.drop j = eP (es.drop j)
theorem DFEnt.start {es : List (ByteArray × Int)} {s : ByteArray} {k : Nat} (hk : k < es.length) (h : (es[k].1.toList == s.toList) = true) (ha : ∀ (j : Nat) (hj : j < es.length), j < k → (es[j].1.toList == s.toList) = false) : DFEnt es s (eP es) k (k + 1) := by
  refine ⟨by omega, hk, eP_length es, ?_, eP_drop _ _⟩
  rw [eP_take]
  congr 1
  unfold dropEnt
  rw [List.take_add_one, List.getElem?_eq_getElem hk, Option.toList_some, List.filter_append, List.filter_cons_of_neg (by rw [h]; decide), List.filter_nil, List.append_nil]
  refine (List.filter_eq_self.2 fun e he => ?_).symm
  obtain ⟨j, hj, rfl⟩ := List.getElem_of_mem he
  rw [List.length_take] at hj
  rw [List.getElem_take, ha j (by omega) (by omega)]
  rfl
theorem DFEnt.get {es : List (ByteArray × Int)} {s : ByteArray} {ps : List VP} {i j : Nat} (h : DFEnt es s ps i j) (hj : j < es.length) : ps.getD j (undef, undef) = (.string es[j].1, .int .i64 es[j].2) := by
  have h1 : (ps.drop j)[0]? = (eP (es.drop j))[0]? := by rw [h.rest]
  rw [List.getElem?_drop, Nat.add_zero] at h1
  rw [List.getD_eq_getElem?_getD, h1, ← eP_drop, List.getElem?_drop, Nat.add_zero, ← List.getD_eq_getElem?_getD]
  exact eP_at es j hj
theorem DFEnt.skip {es : List (ByteArray × Int)} {s : ByteArray} {ps : List VP} {i j : Nat} (h : DFEnt es s ps i j) (hj : j < es.length) (he : (es[j].1.toList == s.toList) = true) : DFEnt es s ps i (j + 1) := by
  refine ⟨by have := h.lt; omega, hj, h.len, ?_, ?_⟩
  · rw [h.left]
    congr 1
    unfold dropEnt
    rw [List.take_add_one, List.getElem?_eq_getElem hj, Option.toList_some, List.filter_append, List.filter_cons_of_neg (by rw [he]; decide), List.filter_nil, List.append_nil]
  · have := congrArg (List.drop 1) h.rest
    rw [List.drop_drop, eP_drop, List.drop_drop] at this
    exact this
theorem DFEnt.move {es : List (ByteArray × Int)} {s : ByteArray} {ps : List VP} {i j : Nat} (h : DFEnt es s ps i j) (hj : j < es.length) (he : (es[j].1.toList == s.toList) = false) : DFEnt es s (ps.set i (.string es[j].1, .int .i64 es[j].2)) (i + 1) (j + 1) := by
  have hlt := h.lt
  have hl := h.len
  refine ⟨by omega, hj, by rw [List.length_set]; exact hl, ?_, ?_⟩
  · rw [List.take_add_one, List.take_set_of_le (by omega), h.left, List.getElem?_set_self (by omega), Option.toList_some]
    unfold dropEnt
    rw [List.take_add_one, List.getElem?_eq_getElem hj, Option.toList_some, List.filter_append, List.filter_cons_of_pos (by rw [he]; rfl), List.filter_nil, eP_append]
    rfl
  · rw [List.drop_set_of_lt (by omega)]
    have := congrArg (List.drop 1) h.rest
    rw [List.drop_drop, eP_drop, List.drop_drop] at this
    exact this
theorem DFEnt.fin {es : List (ByteArray × Int)} {s : ByteArray} {ps : List VP} {i j : Nat} (h : DFEnt es s ps i j) (hj : es.length ≤ j) : ps.take i = eP (dropEnt es s) ∧ (dropEnt es s).length = i := by
  have h1 := h.left
  rw [List.take_of_length_le hj] at h1
  refine ⟨h1, ?_⟩
  have h2 := congrArg List.length h1
  rw [eP_length, List.length_take] at h2
  have := h.lt
  have := h.le
  have := h.len
  omega
theorem zeroEnt (w : World) : (zeroValue 89).run Tryz.prog w = .ok (.agg #[.string ⟨#[]⟩, .int .i64 0]) w := by kernel_rfl
/-- clear of the last ones. -/
theorem clearEnt (w : World) (g i n c cap : Nat) (ps : List VP) (ty : TypeId) (ho : OwnP 89 w g n cap ps) (hi : i < n) :
    ∃ w', (Builtin.clear_ #[65] ty #[.slice (some ⟨g, i * 2, none⟩) (n - i) c]).run Tryz.prog w = .ok (.tuple #[]) w' ∧ OwnP 89 w' g i cap (ps.take i) ∧ w.grownBy w' (some g) := by
  obtain ⟨zs, hzs⟩ : ∃ zs, (Builtin.zeroCells (Value.agg #[.string ⟨#[]⟩, .int .i64 0]).cells (n - i)).toList = zs := ⟨_, rfl⟩
  have hzl : zs.length = (n - i) * 2 := by rw [← hzs, Array.length_toList, size_zeroCells]; rfl
  have hz1 : ∀ v ∈ zs, v.oneCell' = true := by
    intro v hv
    rw [← hzs] at hv
    exact zc_one rfl rfl v hv
  have hst := run_storeCells_cells (P := Tryz.prog) g (i * 2) zs 0 w (fun j hj => by
      have h1 := ho.len
      rw [hzl] at hj
      have hp : (pv ps)[i * 2 + j]? ≠ none := by
        rw [ne_eq, List.getElem?_eq_none_iff, pv_length]
        omega
      have := World.ownsRow.cellAt ho (i * 2 + j) (by omega)
      rw [Nat.add_zero, this]
      exact Option.isSome_iff_ne_none.2 hp) (fun j _ => by rw [Nat.add_zero]; exact ho.frozen _) hz1
  rw [Nat.add_zero] at hst
  refine ⟨w.setCells g (i * 2) zs, ?_, ?_, gr_setCells _ _ _ _⟩
  · obtain ⟨m, hm⟩ : ∃ m, n - i = m + 1 := ⟨n - i - 1, by omega⟩
    rw [hm] at hzs ⊢
    simp [Builtin.clear_, run_underlying Tryz.underlying65, hzs, hst]
  · exact ownP_setCells _ _ _ (own_takeP ho (by omega)) (Nat.le_refl _)
set_option maxRecDepth 100000 in
set_option maxHeartbeats 4000000 in
theorem deleteEnt (v : Value) (n : Nat) (es : List (ByteArray × Int)) (s : ByteArray) (FB SB : Nat) (w : World) (hs : n ≤ 1000000) (ho : OwnQ 89 w v n (eP es)) (hv : CVEnt w FB SB s) :
    Calls Tryz.prog 278 #[v, .func (.func 279) #[] #[.pointer (some ⟨FB, 0, none⟩), .pointer (some ⟨SB, 0, none⟩)]] w fun e w' => ∃ v', e = .returned v' ∧ OwnQ 89 w' v' (dropEnt es s).length (eP (dropEnt es s)) ∧ w.grownBy w' v.ownBlock := by
  have hn : es.length = n := by
    have := ho.1
    rw [pv_length, eP_length] at this
    omega
  obtain ⟨a, cap, rfl⟩ := ownQ_shape ho
  have hrd : RdP w a (eP es) := by
    rcases ho.cases with ⟨h1, rfl, h2⟩ | ⟨g, c, h1, h2⟩
    · exact .inl h2
    · cases h1
      exact h2.rd
  have hcI := indexEnt a n cap es s FB SB w hn (by omega) hrd hv
  rcases Classical.em (∃ (k : Nat) (hk : k < es.length), (es[k].1.toList == s.toList) = true ∧ ∀ (j : Nat) (hj : j < es.length), j < k → (es[j].1.toList == s.toList) = false) with ⟨k, hk, hke, hka⟩ | hno
  · rw [firstEnt_at hk hke hka] at hcI
    have hdf := DFEnt.start hk hke hka
    rcases ho.cases with ⟨h1, rfl, h2⟩ | ⟨g, c, h1, ho'⟩
    · rw [hn] at hk
      omega
    cases h1
    have hkn : k < n := by omega
    have hkm : ((k : Int) == -1) = false := beq_false_of_ne (by omega)
    have HV : Hid _ := hv
    have HN : Hid _ := hn
    obtain ⟨L, hL⟩ : ∃ L, dropEnt es s = L := ⟨_, rfl⟩
    rw [hL]
    have HL : Hid _ := hL
    have HO : Hid _ := ho'
    have HDF : Hid _ := hdf
    have hnc : n ≤ cap := by
      rcases ho'.2 with ⟨h0, _⟩ | ⟨g', c', cur, h0, _, _, h3, _⟩
      · cases h0
      · cases h0
        exact h3
    clear hrd ho hv hn hL hke hka hk ho' hdf
    go_enter Tryz.func278, Tryz.ntmps278
    go_wp2_with fail
    (with_reducible refine hcI.mono ?_)
    rintro e w1 ⟨rfl, b1⟩
    have ho1 : Hid _ := OwnP.keep HO.out b1
    have hv1 : Hid _ := CVEnt.keep HV.out b1
    have hg1 : Hid (w.grownBy w1 (some g)) := Below.gr b1 _
    clear hcI HO HV
    go_wp2_with fail
    go_loopw [5, 6] (fun i j wr => ∃ (i' j' : Nat) (ps : List VP), i = .int .i64 i' ∧ j = .int .i64 j' ∧ i' < j' ∧ j' ≤ n ∧ Hid (DFEnt es s ps i' j') ∧ Hid (OwnP 89 wr g n cap ps) ∧ Hid (CVEnt wr FB SB s) ∧ Hid (w.grownBy wr (some g))) (fun _ j _ => n - (intOf j).toNat)
    case atStart => exact ⟨k, k + 1, eP es, rfl, by go_num, by omega, by omega, HDF, ho1, hv1, hg1⟩
    case round =>
      obtain ⟨i, j, ps, rfl, rfl, hij, hjn, hD, hO, hV, hG⟩ := hrel
      clear ho1 hv1 hg1 HDF b1
      by_cases hj : j < n
      · have hji : (j : Int) < (n : Int) := by omega
        have hj0 : (0 : Int) ≤ (j : Int) := by omega
        have hi0 : (0 : Int) ≤ (i : Int) := by omega
        have hin : (i : Int) < (n : Int) := by omega
        have hjl : j < es.length := by rw [HN.out]; exact hj
        obtain ⟨x1, x2⟩ := OwnP.cells hO.out j hj
        rw [hD.out.get hjl] at x1 x2
        have hsk : Hid ((es[j].1.toList == s.toList) = true → DFEnt es s ps i (j + 1)) := hD.out.skip hjl
        have hmv : Hid ((es[j].1.toList == s.toList) = false → DFEnt es s (ps.set i (.string es[j].1, .int .i64 es[j].2)) (i + 1) (j + 1)) := hD.out.move hjl
        obtain ⟨z, u, hzu⟩ : ∃ z u, es[j] = (z, u) := ⟨_, _, rfl⟩
        rw [hzu] at x1 x2 hsk hmv
        dsimp only at x1 x2 hsk hmv
        have bA : Below wr.heap.size wr (wr.alloc (.cells #[.string z, .int .i64 u] 89)) := (Below.refl _ wr).alloc (Nat.le_refl _) _
        have zA := Blk.new wr 89 #[.string z, .int .i64 u]
        have hcc := sameEnt z u s FB SB _ (CVEnt.keep hV.out bA)
        have hOA : Hid _ := OwnP.keep hO.out bA
        have hVA : Hid _ := CVEnt.keep hV.out bA
        have hGA : Hid _ := gr_tr hG.out (Below.gr bA (some g))
        have hgA : g ≠ wr.heap.size := by have := OwnP.lt hO.out; omega
        have HZA : Hid _ := zA
        obtain ⟨bb, hbb⟩ : ∃ b, (z.toList == s.toList) = b := ⟨_, rfl⟩
        rw [hbb] at hcc hsk hmv
        clear hzu hbb bA zA hD hO hV hG
        go_wp2_with fail
        obtain ⟨W2, hW2⟩ : ∃ W, wr.alloc (.cells #[.string z, .int .i64 u] 89) = W := ⟨_, rfl⟩
        obtain ⟨E, hE⟩ : ∃ E, wr.heap.size = E := ⟨_, rfl⟩
        rw [hW2] at hcc hOA hVA hGA HZA ⊢
        rw [hE] at hgA HZA ⊢
        clear hW2 hE
        (with_reducible refine hcc.mono ?_)
        rintro e w3 ⟨rfl, b3⟩
        have zE := Blk.keep HZA.out b3
        have y0 := zE.cell 0
        have y1 := zE.cell 1
        simp at y0 y1
        have hO3 := OwnP.keep hOA.out b3
        have hV3 : Hid _ := CVEnt.keep hVA.out b3
        have hG3 : Hid _ := gr_tr hGA.out (Below.gr b3 (some g))
        cases bb with
        | true =>
          have hnx : Hid _ := hsk.out rfl
          have HO3 : Hid _ := hO3
          clear hsk hmv hcc hOA hVA hGA HZA b3 zE hO3 y0 y1
          go_wp2
          go_roundw
          case rel => exact ⟨i, j + 1, ps, rfl, by go_num, by omega, by omega, hnx, HO3, hV3, hG3⟩
          case measure => simp [intOf]; omega
        | false =>
          have hnx : Hid _ := hmv.out rfl
          obtain ⟨q0, q1⟩ := OwnP.cells hO3 i (by omega)
          have fr0 := OwnP.frozen hO3 (i * 2)
          have fr1 := OwnP.frozen hO3 (i * 2 + 1)
          have HO4 : Hid _ := ownP_stored hO3 i (by omega) (.string z, .int .i64 u)
          have HG4 : Hid _ := gr_tr hG3.out (gr_tr (gr_setC w3 g (i * 2) (.string z)) (gr_setC (w3.setCell ⟨g, i * 2, none⟩ (.string z)) g (i * 2 + 1) (.int .i64 u)))
          have HV4 : Hid _ := CVEnt.row hV3.out hO3 (gr_tr (gr_setC w3 g (i * 2) (.string z)) (gr_setC (w3.setCell ⟨g, i * 2, none⟩ (.string z)) g (i * 2 + 1) (.int .i64 u)))
          obtain ⟨o0, ho0⟩ : ∃ v, (ps.getD i (undef, undef)).1 = v := ⟨_, rfl⟩
          obtain ⟨o1, ho1⟩ : ∃ v, (ps.getD i (undef, undef)).2 = v := ⟨_, rfl⟩
          rw [ho0] at q0
          rw [ho1] at q1
          clear hsk hmv hcc hOA hVA hGA HZA b3 zE hO3 hV3 hG3 ho0 ho1
          go_wp2
          go_roundw
          case rel => exact ⟨i + 1, j + 1, _, by go_num, by go_num, by omega, by omega, hnx, HO4, HV4, HG4⟩
          case measure => simp [intOf]; omega
      · have hji : ¬ (j : Int) < (n : Int) := by omega
        obtain ⟨hfl, hfn⟩ := hD.out.fin (by rw [HN.out]; omega)
        rw [HL.out] at hfl hfn
        have hiN : i < n := by omega
        have hi0 : (0 : Int) ≤ (i : Int) := by omega
        have hin : (i : Int) ≤ (n : Int) := by omega
        have hic : (i : Int) ≤ (cap : Int) := by omega
        obtain ⟨w', hcl⟩ : ∃ w', (∀ ty, (Builtin.clear_ #[65] ty #[.slice (some ⟨g, i * 2, none⟩) (n - i) (cap - i)]).run Tryz.prog wr = .ok (.tuple #[]) w') ∧ OwnP 89 w' g i cap (ps.take i) ∧ wr.grownBy w' (some g) := by
          obtain ⟨w', h1, h2⟩ := clearEnt wr g i n (cap - i) cap ps 0 hO.out hiN
          exact ⟨w', fun _ => h1, h2⟩
        have hend : Hid (OwnQ 89 w' (.slice (some ⟨g, 0, none⟩) i cap) L.length (eP L) ∧ w.grownBy w' (some g)) := by
          refine ⟨?_, gr_tr hG.out hcl.2.2⟩
          have h1 := hcl.2.1
          rw [hfl] at h1
          rw [hfn]
          exact h1
        have hrun := hcl.1
        clear hcl hfl hfn hD hO hV hG
        go_wp2_with (first
          | (at_builtin; refine wpList_clear wr rfl (.tmp 38) 65 rfl (.slice (some ⟨g, i * 2, none⟩) (n - i) (cap - i)) w' (by first | rfl | simp) hrun ?_)
          | go_in)
        go_ret
        exact ⟨_, rfl, hend.out⟩
  · have hall : ∀ (j : Nat) (hj : j < es.length), (es[j].1.toList == s.toList) = false := by
      intro j
      induction j using Nat.strongRecOn with
      | ind j ih =>
        intro hj
        cases hc : (es[j].1.toList == s.toList) with
        | false => rfl
        | true => exact absurd ⟨j, hj, hc, fun i hi hij => ih i hij hi⟩ hno
    rw [firstEnt_none hall] at hcI
    have hL : dropEnt es s = es := List.filter_eq_self.2 fun e he => by
      obtain ⟨j, hj, rfl⟩ := List.getElem_of_mem he
      rw [hall j hj]
      rfl
    rw [hL, hn]
    have HO : Hid _ := ho
    clear hrd ho hv hn hL hall hno
    go_enter Tryz.func278, Tryz.ntmps278
    go_wp2_with fail
    (with_reducible refine hcI.mono ?_)
    rintro e w1 ⟨rfl, b1⟩
    have hend : Hid (OwnQ 89 w1 (.slice a n cap) n (eP es) ∧ w.grownBy w1 (Value.slice a n cap).ownBlock) := ⟨row_kp HO.out (KpT.below b1 [89]) (by simp), Below.gr b1 _⟩
    clear hcI HO b1
    go_wp2
    go_ret
    exact ⟨_, rfl, hend.out⟩
end
end Go.Proofs.YtmfimoccemgoiaaGreatDoor
