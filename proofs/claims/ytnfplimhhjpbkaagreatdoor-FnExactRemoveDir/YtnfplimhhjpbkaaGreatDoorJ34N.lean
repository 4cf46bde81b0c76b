/-
  Joined: CodeI, LawC, IdxP, DelP.
-/
import Derived.Test.YtnfplimhhjpbkaaGreatDoorJ33N
import Derived.Test.YtnfplimhhjpbkaaGreatDoorAscIN
namespace Go.Proofs.YtnfplimhhjpbkaaGreatDoor
section
open Go.RowKit
/-- A code as an error. -/
def errV (c : Int) : Value := if c = 0 then .nilIface else .iface 136 (.int .i64 c)
theorem errV_zero : errV 0 = .nilIface := rfl
theorem errV_some {c : Int} (h : c ≠ 0) : errV c = .iface 136 (.int .i64 c) := if_neg h
theorem EtCell.keep {w w' : World} (h : EtCell w) (hb : Below w.heap.size w w') : EtCell w' := by
  have hlt : 0 < w.heap.size := by
    rcases Nat.eq_zero_or_pos w.heap.size with h0 | h1
    · have h' : w.cell? ⟨0, 0, none⟩ = _ := h
      simp [World.cell?, h0] at h'
    · exact h1
  exact (hb.cell (p := ⟨0, 0, none⟩) hlt).trans h
set_option maxRecDepth 100000 in
set_option maxHeartbeats 1000000 in
theorem codeOfI (c : Int) (w : World) (hg : EtCell w) :
    Calls Tryz.prog 66 #[errV c] w fun e w' => e = .returned (.int .i64 c) ∧ Below w.heap.size w w' := by
  have B0 : Below w.heap.size w (w.alloc (.cells #[.int .i64 0] 136)) := (Below.refl _ w).alloc (Nat.le_refl _) _
  by_cases h0 : c = 0
  · subst h0
    rw [errV_zero]
    go_enter Tryz.func66, Tryz.ntmps66
    go_wp2_with fail
    (with_reducible refine (as_nil _ _).mono ?_)
    rintro e w1 ⟨rfl, hw⟩
    obtain rfl := hw.symm
    go_wp2
    go_ret
    exact ⟨rfl, B0⟩
  · rw [errV_some h0]
    have z0 := Blk.new w 136 #[.int .i64 0]
    have t0 : (w.alloc (.cells #[.int .i64 0] 136)).cell? ⟨w.heap.size, 0, none⟩ = some (.int .i64 0) := z0.cell 0
    have f0 := z0.frozen 0
    have hA := as_hit c ⟨w.heap.size, 0, none⟩ (.int .i64 0) _ (hg.keep B0) t0 f0
    go_enter Tryz.func66, Tryz.ntmps66
    go_wp2_with fail
    (with_reducible refine hA.mono ?_)
    rintro e w1 ⟨rfl, hw⟩
    obtain ⟨W, hW⟩ : ∃ W, ((((w.alloc (.cells #[.int .i64 0] 136)).alloc (.cells #[.pointer (some ⟨w.heap.size, 0, none⟩)] 138)).alloc (.cells #[.pointer (some ⟨2, 138, none⟩), .pointer (some ⟨(w.alloc (.cells #[.int .i64 0] 136)).heap.size, 0, none⟩), .int .u64 150] 174)).alloc (.cells #[.pointer (some ⟨2, 138, none⟩), .pointer (some ⟨(w.alloc (.cells #[.int .i64 0] 136)).heap.size, 0, none⟩), .int .u64 150] 174)).alloc (.cells #[.int .i64 c] 136) = W := ⟨_, rfl⟩
    rw [hW] at hw
    have BW : Below w.heap.size w W := by
      rw [← hW]
      exact (((B0.alloc B0.size _).alloc (by simp; omega) _).alloc (by simp; omega) _).alloc (by simp; omega) _
    have zW : Blk W w.heap.size 136 #[.int .i64 0] := by
      rw [← hW]
      exact (((z0.alloc _).alloc _).alloc _).alloc _
    have zF := zW.set 0 (.int .i64 c)
    have r0 := zF.cell 0
    simp at r0
    have hgr := gr_setC W w.heap.size 0 (.int .i64 c)
    have hend : Hid (Below w.heap.size w (W.setCell ⟨w.heap.size, 0, none⟩ (.int .i64 c))) := BW.grown hgr BW.size (fun j hj => by simp at hj; omega)
    subst hw
    clear hW hA zW zF hgr BW z0 t0 f0 B0
    go_wp2
    go_ret
    exact ⟨rfl, hend.out⟩
end

section
open Go.RowKit
/-- The first argument's box. -/
structure ZT (w W : World) (tv : Array Value) : Prop where
  below : Below w.heap.size w W
  t : Blk W w.heap.size 49 tv
theorem ZT.keep {w W W' : World} {tv : Array Value} (h : ZT w W tv) (hb : Below W.heap.size W W') : ZT w W' tv := ⟨h.below.trans (hb.mono h.below.size), h.t.keep hb⟩
theorem ZT.outs {w W W' : World} {tv : Array Value} {Lo Hi : Nat} (h : ZT w W tv) (k : Out Lo Hi W W') (hL : w.heap.size + 1 ≤ Lo) : ZT w W' tv := ⟨Below.outs h.below k (by omega) (Nat.le_refl _), h.t.outs k (by omega)⟩
/-- An answer that is small enough to be marked. -/
structure Fit (ds : List InoD) : Prop where
  small : ∀ D ∈ ds, InoSmall D
  cnt : ds.length + cntI (ds.map lift) ≤ 1048576
theorem fit_same {rs : List InoR} (h : ∀ r ∈ rs, InoSmall r.D) (hc : rs.length + cntI rs ≤ 1048576) : Fit (rs.map InoR.D) := by
  refine ⟨fun D hD => ?_, ?_⟩
  · obtain ⟨r, hr, rfl⟩ := List.mem_map.1 hD
    exact h r hr
  · have e : cntI ((rs.map InoR.D).map lift) = cntI rs := by
      unfold cntI
      rw [List.map_map, List.map_map]
      rfl
    rw [e, List.length_map]
    exact hc
/-- An inode that is right, or nearly so. -/
structure Tiny (D : InoD) : Prop where
  small : InoSmall D
  data : D.data.length ≤ 100
  ents : D.ents.length ≤ 11
  attrs : D.attrs.length ≤ 5
theorem fit_tiny {ds : List InoD} (h : ∀ D ∈ ds, Tiny D) (hl : ds.length ≤ 100) : Fit ds := by
  refine ⟨fun D hD => (h D hD).small, ?_⟩
  have : ∀ l : List InoD, (∀ D ∈ l, Tiny D) → cntI (l.map lift) ≤ 116 * l.length := by
    intro l
    induction l with
    | nil => intro _; simp [cntI]
    | cons D l ih =>
      intro hl
      have h1 := hl D (List.mem_cons_self ..)
      have h2 := ih fun E hE => hl E (List.mem_cons_of_mem _ hE)
      have e : cntI ((D :: l).map lift) = (D.data.length + D.ents.length + D.attrs.length) + cntI (l.map lift) := by simp [cntI, lift]
      rw [e, List.length_cons]
      have := h1.data
      have := h1.ents
      have := h1.attrs
      omega
  have := this ds h
  omega
theorem attsOk_len {l : List (ByteArray × ByteArray)} (h : attsOk l = true) : l.length ≤ 4 := by
  unfold attsOk at h
  simp only [Bool.and_eq_true, decide_eq_true_eq] at h
  exact h.2
theorem tree_tiny {nx : Int} {ds : List InoD} (h : treeD nx ds = true) (hs : ∀ D ∈ ds, InoSmall D) : ∀ D ∈ ds, Tiny D := fun D hD => by
  have h1 := ok_parts ((tabD_ok (treeD_parts h).1).2.2.2.2.1 D hD).1
  have h2 := (entsOk_at h1.2.2.1).1
  have h3 := attsOk_len h1.2.2.2.2.2
  exact ⟨hs D hD, h1.2.2.2.2.1, by omega, by omega⟩
theorem setD_memC {ds : List InoD} {D E : InoD} (h : E ∈ setD ds D) : E = D ∨ E ∈ ds := by
  unfold setD at h
  obtain ⟨r, hr, rfl⟩ := List.mem_map.1 h
  unfold setR at hr
  split at hr
  · rename_i p hp
    rcases List.mem_or_eq_of_mem_set hr with h1 | h1
    · obtain ⟨E, hE, rfl⟩ := List.mem_map.1 h1
      exact .inr hE
    · exact .inl (by rw [h1]; rfl)
  · unfold putAt at hr
    rcases List.mem_append.1 hr with h1 | h1
    · obtain ⟨E, hE, rfl⟩ := List.mem_map.1 (List.mem_of_mem_take h1)
      exact .inr hE
    · rcases List.mem_cons.1 h1 with h1 | h1
      · exact .inl (by rw [h1]; rfl)
      · obtain ⟨E, hE, rfl⟩ := List.mem_map.1 (List.mem_of_mem_drop h1)
        exact .inr hE
theorem setD_lenC (ds : List InoD) (D : InoD) : (setD ds D).length ≤ ds.length + 1 := by
  unfold setD
  rw [List.length_map]
  unfold setR
  split
  · simp
  · rw [putAt_len _ _ _ (placeOf_le _ _)]
    simp
end

section
open Go.RowKit
/-- The closure's two variables: the name's function, the text. -/
structure CVEnt (w : World) (FB SB : Nat) (s : ByteArray) : Prop where
  f : Blk w FB 185 #[.func (.func 163) #[] #[]]
  s : Blk w SB 9 #[.string s]
theorem CVEnt.keep {w w' : World} {FB SB : Nat} {s : ByteArray} (h : CVEnt w FB SB s) (hb : Below w.heap.size w w') : CVEnt w' FB SB s := ⟨h.f.keep hb, h.s.keep hb⟩
theorem CVEnt.row {w w' : World} {FB SB : Nat} {s : ByteArray} {g n c : Nat} {ps : List VP} (h : CVEnt w FB SB s) (ho : OwnP 86 w g n c ps) (hg : w.grownBy w' (some g)) : CVEnt w' FB SB s := by
  have hk : KpT w w' [185, 9] := KpT.row (v := .slice (some ⟨g, 0, none⟩) n c) hg ho (by decide)
  exact ⟨h.f.kp hk (by decide), h.s.kp hk (by decide)⟩
set_option maxRecDepth 100000 in
set_option maxHeartbeats 2000000 in
theorem sameEnt (z : ByteArray) (u : Int) (s : ByteArray) (FB SB : Nat) (w : World) (hv : CVEnt w FB SB s) :
    Calls Tryz.prog 270 #[.agg #[.string z, .int .i64 u], .pointer (some ⟨FB, 0, none⟩), .pointer (some ⟨SB, 0, none⟩)] w fun e w' => e = .returned (.bool (z.toList == s.toList)) ∧ Below w.heap.size w w' := by
  have b0 : Below w.heap.size w (w.alloc (.cells #[.string z, .int .i64 u] 86)) := (Below.refl _ w).alloc (Nat.le_refl _) _
  have hv0 := hv.keep b0
  have z0 := Blk.new w 86 #[.string z, .int .i64 u]
  have hn := entName_any z u
  go_enter Tryz.func270, Tryz.ntmps270
  go_wp2_with fail
  obtain ⟨W, hW⟩ : ∃ W, w.alloc (.cells #[.string z, .int .i64 u] 86) = W := ⟨_, rfl⟩
  rw [hW] at hv0 z0 b0 ⊢
  clear hW hv
  have HK : Hid (∀ V : World, Below W.heap.size W V → V.cell? ⟨FB, 0, none⟩ = some (.func (.func 163) #[] #[]) ∧ V.cell? ⟨SB, 0, none⟩ = some (.string s) ∧ V.cell? ⟨w.heap.size, 0, none⟩ = some (.string z) ∧ V.cell? ⟨w.heap.size, 1, none⟩ = some (.int .i64 u)) := fun V hV => ⟨(hv0.keep hV).f.cell 0, (hv0.keep hV).s.cell 0, (z0.keep hV).cell 0, (z0.keep hV).cell 1⟩
  obtain ⟨k0, k1, k2, k3⟩ := HK.out W (Below.refl _ _)
  go_region_held3 (fun V : World => V.cell? ⟨FB, 0, none⟩ = some (.func (.func 163) #[] #[]) ∧ V.cell? ⟨SB, 0, none⟩ = some (.string s) ∧ V.cell? ⟨w.heap.size, 0, none⟩ = some (.string z) ∧ V.cell? ⟨w.heap.size, 1, none⟩ = some (.int .i64 u)) (go_keep) (first
    | (go_at_call 163; (with_reducible refine (hn W.drew).mono ?_); rintro e w1 ⟨rfl, b1⟩; have B1 : Below W.heap.size W w1 := (Below.refl _ W).drew.trans b1; obtain ⟨q0, q1, q2, q3⟩ := HK.out w1 B1)
    | fail)
  have hend : Hid _ := b0.trans (B1.mono b0.size)
  clear q0 q1 q2 q3 k0 k1 k2 k3 b1 B1 z0 hv0 b0
  go_wp2
  go_ret
  exact ⟨rfl, hend.out⟩
/-- The place of the first one of this name, or -1. -/
def firstEnt (es : List (ByteArray × Int)) (s : ByteArray) : Int := match es.findIdx? (fun e => e.1.toList == s.toList) with | some k => (k : Int) | none => -1
theorem firstEnt_at {es : List (ByteArray × Int)} {s : ByteArray} {k : Nat} (hk : k < es.length) (h : (es[k].1.toList == s.toList) = true) (ha : ∀ (j : Nat) (hj : j < es.length), j < k → (es[j].1.toList == s.toList) = false) : firstEnt es s = (k : Int) := by
  unfold firstEnt
  have : es.findIdx? (fun e => e.1.toList == s.toList) = some k := List.findIdx?_eq_some_iff_getElem.2 ⟨hk, h, fun j hj => by rw [ha j (by omega) hj]; decide⟩
  rw [this]
theorem firstEnt_none {es : List (ByteArray × Int)} {s : ByteArray} (ha : ∀ (j : Nat) (hj : j < es.length), (es[j].1.toList == s.toList) = false) : firstEnt es s = -1 := by
  unfold firstEnt
  have : es.findIdx? (fun e => e.1.toList == s.toList) = none := List.findIdx?_eq_none_iff.2 fun e he => by
    obtain ⟨j, hj, rfl⟩ := List.getElem_of_mem he
    exact ha j hj
  rw [this]
set_option maxRecDepth 100000 in
set_option maxHeartbeats 2000000 in
theorem indexEnt (a : Option Addr) (n cap : Nat) (es : List (ByteArray × Int)) (s : ByteArray) (FB SB : Nat) (w : World) (hn : es.length = n) (hs : n ≤ 4000000) (hr : RdP w a (eP es)) (hv : CVEnt w FB SB s) :
    Calls Tryz.prog 281 #[.slice a n cap, .func (.func 270) #[] #[.pointer (some ⟨FB, 0, none⟩), .pointer (some ⟨SB, 0, none⟩)]] w fun e w' => e = .returned (.int .i64 (firstEnt es s)) ∧ Below w.heap.size w w' := by
  have HR : Hid _ := hr
  have HV : Hid _ := hv
  have HN : Hid (es.length = n) := hn
  obtain ⟨R, hR⟩ : ∃ R, firstEnt es s = R := ⟨_, rfl⟩
  rw [hR]
  have HRR : Hid _ := hR
  clear hr hv hn hR
  go_enter Tryz.func281, Tryz.ntmps281
  go_wp2
  go_loopw [8] (fun i wr => ∃ k : Nat, k ≤ n ∧ i = .int .i64 k ∧ Hid (∀ (j : Nat) (hj : j < es.length), j < k → (es[j].1.toList == s.toList) = false) ∧ Hid (Below w.heap.size w wr)) (fun i _ => n - (intOf i).toNat)
  case atStart => exact ⟨0, Nat.zero_le _, rfl, fun j _ hj => by omega, Below.refl _ _⟩
  case round =>
    obtain ⟨k, hk, rfl, hall, hB⟩ := hrel
    by_cases hkn : k < n
    · have hki : (k : Int) < (n : Int) := by omega
      have hk0 : (0 : Int) ≤ (k : Int) := by omega
      have hkl : k < es.length := by rw [HN.out]; exact hkn
      obtain ⟨eb, eo, rfl, helt, hec⟩ := RdP.lt (RdP.keep HR.out hB.out) (by intro h; have := congrArg List.length h; rw [eP_length] at this; simp at this; rw [this] at hkl; simp at hkl)
      have hx := hec k (by rw [eP_length]; exact hkl)
      rw [eP_at es k hkl] at hx
      have hyes : Hid ((es[k].1.toList == s.toList) = true → (k : Int) = R) := fun h => by rw [← HRR.out]; exact (firstEnt_at hkl h hall.out).symm
      have hno : Hid ((es[k].1.toList == s.toList) = false → ∀ (j : Nat) (hj : j < es.length), j < k + 1 → (es[j].1.toList == s.toList) = false) := fun h j hj hjk => by
        rcases (show j < k ∨ j = k by omega) with h1 | rfl
        · exact hall.out j hj h1
        · exact h
      obtain ⟨z, u, hzu⟩ : ∃ z u, es[k] = (z, u) := ⟨_, _, rfl⟩
      rw [hzu] at hx hyes hno
      obtain ⟨x1, x2⟩ := hx
      dsimp only at x1 x2 hyes hno
      have hcc := sameEnt z u s FB SB wr (CVEnt.keep HV.out hB.out)
      obtain ⟨bb, hbb⟩ : ∃ b, (z.toList == s.toList) = b := ⟨_, rfl⟩
      rw [hbb] at hcc hyes hno
      clear hec hzu hall hbb
      cases bb with
      | true =>
        have hend : Hid ((k : Int) = R) := hyes.out rfl
        clear hyes hno
        go_wp2_with (go_at_call 270; (with_reducible refine hcc.mono ?_); rintro e w1 ⟨rfl, b1⟩)
        go_ret
        exact ⟨ret_int hend.out, hB.out.trans (b1.mono hB.out.size)⟩
      | false =>
        have hnx : Hid _ := hno.out rfl
        clear hyes hno
        go_wp2_with (go_at_call 270; (with_reducible refine hcc.mono ?_); rintro e w1 ⟨rfl, b1⟩)
        go_roundw
        case rel => exact ⟨k + 1, by omega, by go_num, hnx, hB.out.trans (b1.mono hB.out.size)⟩
        case measure => simp [intOf]; omega
    · have hki : ¬ (k : Int) < (n : Int) := by omega
      have hend : Hid ((-1 : Int) = R) := by show _ = _; rw [← HRR.out]; exact (firstEnt_none (fun j hj => hall.out j hj (by rw [HN.out] at hj; omega))).symm
      clear hall
      go_wp2
      go_ret
      exact ⟨ret_int hend.out, hB.out⟩
end

section
open Go.RowKit
theorem zc_one {z1 z2 : Value} {m : Nat} (h1 : z1.oneCell' = true) (h2 : z2.oneCell' = true) : ∀ v ∈ (Builtin.zeroCells #[z1, z2] m).toList, v.oneCell' = true := by
  intro v hv
  unfold Builtin.zeroCells at hv
  rw [Array.toList_map, List.mem_map] at hv
  obtain ⟨i, _, rfl⟩ := hv
  rcases Nat.mod_two_eq_zero_or_one i with h | h
  · show (#[z1, z2][i % 2]!).oneCell' = true
    rw [h]
    exact h1
  · show (#[z1, z2][i % 2]!).oneCell' = true
    rw [h]
    exact h2
theorem ownQ_shape {e : TypeId} {w : World} {v : Value} {n : Nat} {ps : List VP} (h : OwnQ e w v n ps) : ∃ a c, v = .slice a n c := by
  rcases h.cases with ⟨rfl, rfl, _⟩ | ⟨g, c, rfl, _⟩
  · exact ⟨none, 0, rfl⟩
  · exact ⟨_, _, rfl⟩
theorem pv_take : ∀ (ps : List VP) (i : Nat), (pv ps).take (i * 2) = pv (ps.take i)
  | [], i => by simp [pv]
  | p :: ps, 0 => by simp [pv]
  | p :: ps, i + 1 => by
    have e : pv (p :: ps) = p.1 :: p.2 :: pv ps := rfl
    rw [e, show (i + 1) * 2 = i * 2 + 1 + 1 by omega, List.take_succ_cons, List.take_succ_cons, pv_take ps i, List.take_succ_cons]
    rfl
theorem wpList_clear (W : World) {ops : Array Oper} {rest : List Oper} {o : Oper} {a : Act} {Q : Exit → Act → World → Prop} (hgd : o.guard = none) (s : Operand) (T : TypeId)
    (ho : o.op = .call { callee := .builtin .clear, args := #[s], argTypes := #[T] }) (v : Value) (W' : World) (hs : a.eval s = v) (hr : ∀ ty, (Builtin.clear_ #[T] ty #[v]).run Tryz.prog W = .ok (.tuple #[]) W')
    (h : wpList Tryz.prog ops Q rest (a.put o.dst (.tuple #[])) W') : wpList Tryz.prog ops Q (o :: rest) a W := by
  refine wpList_plain hgd fun K hK => ?_
  unfold Oper.wp execOp
  simp only [ho, resolve, invoke, builtin, Sem.run_bind, Sem.run_pure, Result.andThen_ok, List.map_toArray, List.map_cons, List.map_nil, hs, hr]
  exact hK _ _ h
theorem gr_setCells (g : Nat) : ∀ (zs : List Value) (o : Nat) (w : World), w.grownBy (w.setCells g o zs) (some g)
  | [], _, _ => ⟨rfl, rfl, rfl, Nat.le_refl _, fun _ _ _ => rfl⟩
  | z :: zs, o, w => (gr_setC w g o z).trans (gr_setCells g zs (o + 1) _)
theorem ownP_setCells {e : TypeId} {g i cap : Nat} {ps : List VP} : ∀ (zs : List Value) (o : Nat) (w : World), OwnP e w g i cap ps → i * 2 ≤ o → OwnP e (w.setCells g o zs) g i cap ps
  | [], _, _, h, _ => h
  | z :: zs, o, w, h, ho => by
    have h1 := (World.ownsRow.stored h o z).1
    rw [List.set_eq_of_length_le (by have := h.1; omega)] at h1
    exact ownP_setCells zs (o + 1) _ h1 (by omega)
theorem own_takeP {e : TypeId} {w : World} {g n i cap : Nat} {ps : List VP} (h : OwnP e w g n cap ps) (hi : i ≤ n) : OwnP e w g i cap (ps.take i) := by
  have hl := h.len
  refine ⟨by rw [pv_length, List.length_take]; omega, ?_⟩
  rcases h.2 with ⟨h0, _⟩ | ⟨g', c', cur, h0, hg, hh, hnc, hcm, hcs, htk⟩
  · cases h0
  · cases h0
    refine .inr ⟨g, cap, cur, rfl, hg, hh, by omega, hcm, hcs, ?_⟩
    have e1 := congrArg (List.take (i * 2)) htk
    rw [List.take_take, Nat.min_eq_left (by omega)] at e1
    rw [e1, pv_take]
theorem Below.gr {w w' : World} (h : Below w.heap.size w w') (r : Option Nat) : w.grownBy w' r := ⟨h.os, h.tape, h.output, h.size, fun k hk _ => h.block k hk⟩
theorem gr_tr {w w1 w2 : World} {r : Option Nat} (h : w.grownBy w1 r) (k : w1.grownBy w2 r) : w.grownBy w2 r := h.trans k
/-- What is left without those of this name. -/
def dropEnt (es : List (ByteArray × Int)) (s : ByteArray) : List (ByteArray × Int) := es.filter fun e => !(e.1.toList == s.toList)
theorem eP_append (l m : List (ByteArray × Int)) : eP (l ++ m) = eP l ++ eP m := by unfold eP; rw [List.map_append]
theorem eP_take (l : List (ByteArray × Int)) (k : Nat) : (eP l).take k = eP (l.take k) := by unfold eP; rw [List.map_take]
theorem eP_drop (l : List (ByteArray × Int)) (k : Nat) : (eP l).drop k = eP (l.drop k) := by unfold eP; rw [List.map_drop]
/-- In the midst of it: the first i are what is left of the first j; from j on all is as it was. -/
structure DFEnt (es : List (ByteArray × Int)) (s : ByteArray) (ps : List VP) (i j : Nat) : Prop where
  lt : i < j
  le : j ≤ es.length
  len : ps.length = es.length
  left : ps.take i = eP (dropEnt (es.take j) s)
  rest : ps.drop j = eP (es.drop j)
theorem DFEnt.start {es : List (ByteArray × Int)} {s : ByteArray} {k : Nat} (hk : k < es.length) (h : (es[k].1.toList == s.toList) = true) (ha : ∀ (j : Nat) (hj : j < es.length), j < k → (es[j].1.toList == s.toList) = false) : DFEnt es s (eP es) k (k + 1) := by
  refine ⟨by omega, hk, eP_length es, ?_, eP_drop _ _⟩
  rw [eP_take]
  congr 1
  unfold dropEnt
  rw [List.take_add_one, List.getElem?_eq_getElem hk, Option.toList_some, List.filter_append, List.filter_cons_of_neg (by rw [h]; decide), List.filter_nil, List.append_nil]
  refine (List.filter_eq_self.2 fun e he => ?_).symm
  obtain ⟨j, hj, rfl⟩ := List.getElem_of_mem he
  rw [List.length_take] at hj
  rw [List.getElem_take, ha j (by omega) (by omega)]
  rfl
theorem DFEnt.get {es : List (ByteArray × Int)} {s : ByteArray} {ps : List VP} {i j : Nat} (h : DFEnt es s ps i j) (hj : j < es.length) : ps.getD j (undef, undef) = (.string es[j].1, .int .i64 es[j].2) := by
  have h1 : (ps.drop j)[0]? = (eP (es.drop j))[0]? := by rw [h.rest]
  rw [List.getElem?_drop, Nat.add_zero] at h1
  rw [List.getD_eq_getElem?_getD, h1, ← eP_drop, List.getElem?_drop, Nat.add_zero, ← List.getD_eq_getElem?_getD]
  exact eP_at es j hj
theorem DFEnt.skip {es : List (ByteArray × Int)} {s : ByteArray} {ps : List VP} {i j : Nat} (h : DFEnt es s ps i j) (hj : j < es.length) (he : (es[j].1.toList == s.toList) = true) : DFEnt es s ps i (j + 1) := by
  refine ⟨by have := h.lt; omega, hj, h.len, ?_, ?_⟩
  · rw [h.left]
    congr 1
    unfold dropEnt
    rw [List.take_add_one, List.getElem?_eq_getElem hj, Option.toList_some, List.filter_append, List.filter_cons_of_neg (by rw [he]; decide), List.filter_nil, List.append_nil]
  · have := congrArg (List.drop 1) h.rest
    rw [List.drop_drop, eP_drop, List.drop_drop] at this
    exact this
theorem DFEnt.move {es : List (ByteArray × Int)} {s : ByteArray} {ps : List VP} {i j : Nat} (h : DFEnt es s ps i j) (hj : j < es.length) (he : (es[j].1.toList == s.toList) = false) : DFEnt es s (ps.set i (.string es[j].1, .int .i64 es[j].2)) (i + 1) (j + 1) := by
  have hlt := h.lt
  have hl := h.len
  refine ⟨by omega, hj, by rw [List.length_set]; exact hl, ?_, ?_⟩
  · rw [List.take_add_one, List.take_set_of_le (by omega), h.left, List.getElem?_set_self (by omega), Option.toList_some]
    unfold dropEnt
    rw [List.take_add_one, List.getElem?_eq_getElem hj, Option.toList_some, List.filter_append, List.filter_cons_of_pos (by rw [he]; rfl), List.filter_nil, eP_append]
    rfl
  · rw [List.drop_set_of_lt (by omega)]
    have := congrArg (List.drop 1) h.rest
    rw [List.drop_drop, eP_drop, List.drop_drop] at this
    exact this
theorem DFEnt.fin {es : List (ByteArray × Int)} {s : ByteArray} {ps : List VP} {i j : Nat} (h : DFEnt es s ps i j) (hj : es.length ≤ j) : ps.take i = eP (dropEnt es s) ∧ (dropEnt es s).length = i := by
  have h1 := h.left
  rw [List.take_of_length_le hj] at h1
  refine ⟨h1, ?_⟩
  have h2 := congrArg List.length h1
  rw [eP_length, List.length_take] at h2
  have := h.lt
  have := h.le
  have := h.len
  omega
theorem zeroEnt (w : World) : (zeroValue 86).run Tryz.prog w = .ok (.agg #[.string ⟨#[]⟩, .int .i64 0]) w := by kernel_rfl
/-- clear of the last ones. -/
theorem clearEnt (w : World) (g i n c cap : Nat) (ps : List VP) (ty : TypeId) (ho : OwnP 86 w g n cap ps) (hi : i < n) :
    ∃ w', (Builtin.clear_ #[63] ty #[.slice (some ⟨g, i * 2, none⟩) (n - i) c]).run Tryz.prog w = .ok (.tuple #[]) w' ∧ OwnP 86 w' g i cap (ps.take i) ∧ w.grownBy w' (some g) := by
  obtain ⟨zs, hzs⟩ : ∃ zs, (Builtin.zeroCells (Value.agg #[.string ⟨#[]⟩, .int .i64 0]).cells (n - i)).toList = zs := ⟨_, rfl⟩
  have hzl : zs.length = (n - i) * 2 := by rw [← hzs, Array.length_toList, size_zeroCells]; rfl
  have hz1 : ∀ v ∈ zs, v.oneCell' = true := by
    intro v hv
    rw [← hzs] at hv
    exact zc_one rfl rfl v hv
  have hst := run_storeCells_cells (P := Tryz.prog) g (i * 2) zs 0 w (fun j hj => by
      have h1 := ho.len
      rw [hzl] at hj
      have hp : (pv ps)[i * 2 + j]? ≠ none := by
        rw [ne_eq, List.getElem?_eq_none_iff, pv_length]
        omega
      have := World.ownsRow.cellAt ho (i * 2 + j) (by omega)
      rw [Nat.add_zero, this]
      exact Option.isSome_iff_ne_none.2 hp) (fun j _ => by rw [Nat.add_zero]; exact ho.frozen _) hz1
  rw [Nat.add_zero] at hst
  refine ⟨w.setCells g (i * 2) zs, ?_, ?_, gr_setCells _ _ _ _⟩
  · obtain ⟨m, hm⟩ : ∃ m, n - i = m + 1 := ⟨n - i - 1, by omega⟩
    rw [hm] at hzs ⊢
    simp [Builtin.clear_, run_underlying Tryz.underlying63, hzs, hst]
  · exact ownP_setCells _ _ _ (own_takeP ho (by omega)) (Nat.le_refl _)
set_option maxRecDepth 100000 in
set_option maxHeartbeats 4000000 in
theorem deleteEnt (v : Value) (n : Nat) (es : List (ByteArray × Int)) (s : ByteArray) (FB SB : Nat) (w : World) (hs : n ≤ 1000000) (ho : OwnQ 86 w v n (eP es)) (hv : CVEnt w FB SB s) :
    Calls Tryz.prog 269 #[v, .func (.func 270) #[] #[.pointer (some ⟨FB, 0, none⟩), .pointer (some ⟨SB, 0, none⟩)]] w fun e w' => ∃ v', e = .returned v' ∧ OwnQ 86 w' v' (dropEnt es s).length (eP (dropEnt es s)) ∧ w.grownBy w' v.ownBlock := by
  have hn : es.length = n := by
    have := ho.1
    rw [pv_length, eP_length] at this
    omega
  obtain ⟨a, cap, rfl⟩ := ownQ_shape ho
  have hrd : RdP w a (eP es) := by
    rcases ho.cases with ⟨h1, rfl, h2⟩ | ⟨g, c, h1, h2⟩
    · exact .inl h2
    · cases h1
      exact h2.rd
  have hcI := indexEnt a n cap es s FB SB w hn (by omega) hrd hv
  rcases Classical.em (∃ (k : Nat) (hk : k < es.length), (es[k].1.toList == s.toList) = true ∧ ∀ (j : Nat) (hj : j < es.length), j < k → (es[j].1.toList == s.toList) = false) with ⟨k, hk, hke, hka⟩ | hno
  · rw [firstEnt_at hk hke hka] at hcI
    have hdf := DFEnt.start hk hke hka
    rcases ho.cases with ⟨h1, rfl, h2⟩ | ⟨g, c, h1, ho'⟩
    · rw [hn] at hk
      omega
    cases h1
    have hkn : k < n := by omega
    have hkm : ((k : Int) == -1) = false := beq_false_of_ne (by omega)
    have HV : Hid _ := hv
    have HN : Hid _ := hn
    obtain ⟨L, hL⟩ : ∃ L, dropEnt es s = L := ⟨_, rfl⟩
    rw [hL]
    have HL : Hid _ := hL
    have HO : Hid _ := ho'
    have HDF : Hid _ := hdf
    have hnc : n ≤ cap := by
      rcases ho'.2 with ⟨h0, _⟩ | ⟨g', c', cur, h0, _, _, h3, _⟩
      · cases h0
      · cases h0
        exact h3
    clear hrd ho hv hn hL hke hka hk ho' hdf
    go_enter Tryz.func269, Tryz.ntmps269
    go_wp2_with fail
    (with_reducible refine hcI.mono ?_)
    rintro e w1 ⟨rfl, b1⟩
    have ho1 : Hid _ := OwnP.keep HO.out b1
    have hv1 : Hid _ := CVEnt.keep HV.out b1
    have hg1 : Hid (w.grownBy w1 (some g)) := Below.gr b1 _
    clear hcI HO HV
    go_wp2_with fail
    go_loopw [5, 6] (fun i j wr => ∃ (i' j' : Nat) (ps : List VP), i = .int .i64 i' ∧ j = .int .i64 j' ∧ i' < j' ∧ j' ≤ n ∧ Hid (DFEnt es s ps i' j') ∧ Hid (OwnP 86 wr g n cap ps) ∧ Hid (CVEnt wr FB SB s) ∧ Hid (w.grownBy wr (some g))) (fun _ j _ => n - (intOf j).toNat)
    case atStart => exact ⟨k, k + 1, eP es, rfl, by go_num, by omega, by omega, HDF, ho1, hv1, hg1⟩
    case round =>
      obtain ⟨i, j, ps, rfl, rfl, hij, hjn, hD, hO, hV, hG⟩ := hrel
      clear ho1 hv1 hg1 HDF b1
      by_cases hj : j < n
      · have hji : (j : Int) < (n : Int) := by omega
        have hj0 : (0 : Int) ≤ (j : Int) := by omega
        have hi0 : (0 : Int) ≤ (i : Int) := by omega
        have hin : (i : Int) < (n : Int) := by omega
        have hjl : j < es.length := by rw [HN.out]; exact hj
        obtain ⟨x1, x2⟩ := OwnP.cells hO.out j hj
        rw [hD.out.get hjl] at x1 x2
        have hsk : Hid ((es[j].1.toList == s.toList) = true → DFEnt es s ps i (j + 1)) := hD.out.skip hjl
        have hmv : Hid ((es[j].1.toList == s.toList) = false → DFEnt es s (ps.set i (.string es[j].1, .int .i64 es[j].2)) (i + 1) (j + 1)) := hD.out.move hjl
        obtain ⟨z, u, hzu⟩ : ∃ z u, es[j] = (z, u) := ⟨_, _, rfl⟩
        rw [hzu] at x1 x2 hsk hmv
        dsimp only at x1 x2 hsk hmv
        have bA : Below wr.heap.size wr (wr.alloc (.cells #[.string z, .int .i64 u] 86)) := (Below.refl _ wr).alloc (Nat.le_refl _) _
        have zA := Blk.new wr 86 #[.string z, .int .i64 u]
        have hcc := sameEnt z u s FB SB _ (CVEnt.keep hV.out bA)
        have hOA : Hid _ := OwnP.keep hO.out bA
        have hVA : Hid _ := CVEnt.keep hV.out bA
        have hGA : Hid _ := gr_tr hG.out (Below.gr bA (some g))
        have hgA : g ≠ wr.heap.size := by have := OwnP.lt hO.out; omega
        have HZA : Hid _ := zA
        obtain ⟨bb, hbb⟩ : ∃ b, (z.toList == s.toList) = b := ⟨_, rfl⟩
        rw [hbb] at hcc hsk hmv
        clear hzu hbb bA zA hD hO hV hG
        go_wp2_with fail
        obtain ⟨W2, hW2⟩ : ∃ W, wr.alloc (.cells #[.string z, .int .i64 u] 86) = W := ⟨_, rfl⟩
        obtain ⟨E, hE⟩ : ∃ E, wr.heap.size = E := ⟨_, rfl⟩
        rw [hW2] at hcc hOA hVA hGA HZA ⊢
        rw [hE] at hgA HZA ⊢
        clear hW2 hE
        (with_reducible refine hcc.mono ?_)
        rintro e w3 ⟨rfl, b3⟩
        have zE := Blk.keep HZA.out b3
        have y0 := zE.cell 0
        have y1 := zE.cell 1
        simp at y0 y1
        have hO3 := OwnP.keep hOA.out b3
        have hV3 : Hid _ := CVEnt.keep hVA.out b3
        have hG3 : Hid _ := gr_tr hGA.out (Below.gr b3 (some g))
        cases bb with
        | true =>
          have hnx : Hid _ := hsk.out rfl
          have HO3 : Hid _ := hO3
          clear hsk hmv hcc hOA hVA hGA HZA b3 zE hO3 y0 y1
          go_wp2
          go_roundw
          case rel => exact ⟨i, j + 1, ps, rfl, by go_num, by omega, by omega, hnx, HO3, hV3, hG3⟩
          case measure => simp [intOf]; omega
        | false =>
          have hnx : Hid _ := hmv.out rfl
          obtain ⟨q0, q1⟩ := OwnP.cells hO3 i (by omega)
          have fr0 := OwnP.frozen hO3 (i * 2)
          have fr1 := OwnP.frozen hO3 (i * 2 + 1)
          have HO4 : Hid _ := ownP_stored hO3 i (by omega) (.string z, .int .i64 u)
          have HG4 : Hid _ := gr_tr hG3.out (gr_tr (gr_setC w3 g (i * 2) (.string z)) (gr_setC (w3.setCell ⟨g, i * 2, none⟩ (.string z)) g (i * 2 + 1) (.int .i64 u)))
          have HV4 : Hid _ := CVEnt.row hV3.out hO3 (gr_tr (gr_setC w3 g (i * 2) (.string z)) (gr_setC (w3.setCell ⟨g, i * 2, none⟩ (.string z)) g (i * 2 + 1) (.int .i64 u)))
          obtain ⟨o0, ho0⟩ : ∃ v, (ps.getD i (undef, undef)).1 = v := ⟨_, rfl⟩
          obtain ⟨o1, ho1⟩ : ∃ v, (ps.getD i (undef, undef)).2 = v := ⟨_, rfl⟩
          rw [ho0] at q0
          rw [ho1] at q1
          clear hsk hmv hcc hOA hVA hGA HZA b3 zE hO3 hV3 hG3 ho0 ho1
          go_wp2
          go_roundw
          case rel => exact ⟨i + 1, j + 1, _, by go_num, by go_num, by omega, by omega, hnx, HO4, HV4, HG4⟩
          case measure => simp [intOf]; omega
      · have hji : ¬ (j : Int) < (n : Int) := by omega
        obtain ⟨hfl, hfn⟩ := hD.out.fin (by rw [HN.out]; omega)
        rw [HL.out] at hfl hfn
        have hiN : i < n := by omega
        have hi0 : (0 : Int) ≤ (i : Int) := by omega
        have hin : (i : Int) ≤ (n : Int) := by omega
        have hic : (i : Int) ≤ (cap : Int) := by omega
        obtain ⟨w', hcl⟩ : ∃ w', (∀ ty, (Builtin.clear_ #[63] ty #[.slice (some ⟨g, i * 2, none⟩) (n - i) (cap - i)]).run Tryz.prog wr = .ok (.tuple #[]) w') ∧ OwnP 86 w' g i cap (ps.take i) ∧ wr.grownBy w' (some g) := by
          obtain ⟨w', h1, h2⟩ := clearEnt wr g i n (cap - i) cap ps 0 hO.out hiN
          exact ⟨w', fun _ => h1, h2⟩
        have hend : Hid (OwnQ 86 w' (.slice (some ⟨g, 0, none⟩) i cap) L.length (eP L) ∧ w.grownBy w' (some g)) := by
          refine ⟨?_, gr_tr hG.out hcl.2.2⟩
          have h1 := hcl.2.1
          rw [hfl] at h1
          rw [hfn]
          exact h1
        have hrun := hcl.1
        clear hcl hfl hfn hD hO hV hG
        go_wp2_with (first
          | (at_builtin; refine wpList_clear wr rfl (.tmp 38) 63 rfl (.slice (some ⟨g, i * 2, none⟩) (n - i) (cap - i)) w' (by first | rfl | simp) hrun ?_)
          | go_in)
        go_ret
        exact ⟨_, rfl, hend.out⟩
  · have hall : ∀ (j : Nat) (hj : j < es.length), (es[j].1.toList == s.toList) = false := by
      intro j
      induction j using Nat.strongRecOn with
      | ind j ih =>
        intro hj
        cases hc : (es[j].1.toList == s.toList) with
        | false => rfl
        | true => exact absurd ⟨j, hj, hc, fun i hi hij => ih i hij hi⟩ hno
    rw [firstEnt_none hall] at hcI
    have hL : dropEnt es s = es := List.filter_eq_self.2 fun e he => by
      obtain ⟨j, hj, rfl⟩ := List.getElem_of_mem he
      rw [hall j hj]
      rfl
    rw [hL, hn]
    have HO : Hid _ := ho
    clear hrd ho hv hn hL hall hno
    go_enter Tryz.func269, Tryz.ntmps269
    go_wp2_with fail
    (with_reducible refine hcI.mono ?_)
    rintro e w1 ⟨rfl, b1⟩
    have hend : Hid (OwnQ 86 w1 (.slice a n cap) n (eP es) ∧ w.grownBy w1 (Value.slice a n cap).ownBlock) := ⟨row_kp HO.out (KpT.below b1 [86]) (by simp), Below.gr b1 _⟩
    clear hcI HO b1
    go_wp2
    go_ret
    exact ⟨_, rfl, hend.out⟩
end
end Go.Proofs.YtnfplimhhjpbkaaGreatDoor
