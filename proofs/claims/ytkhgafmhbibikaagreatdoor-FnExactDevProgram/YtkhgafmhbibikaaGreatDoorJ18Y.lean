/-
  Joined: AsI, CodeI, ChEi.
-/
import Derived.Test.YtkhgafmhbibikaaGreatDoorJ17Y
import Derived.LaidEql
import Derived.Stop.Asserts
import Derived.RowKitTokens
namespace Go.Proofs.YtkhgafmhbibikaaGreatDoor
section
open Go.RowKit Go.Extern.Stop Go.Stop Go.Extern
theorem as_nil (t : Value) (w : World) : Calls Tryz.prog 121 #[.nilIface, t] w fun e w' => e = .returned (.bool false) ∧ w' = w := by
  go_enter Tryz.func121, Tryz.ntmps121
  go_wp2
  go_ret
  exact ⟨rfl, rfl⟩
theorem rf_valueOfP (t : Addr) (w : World) : (ReflectliteValue.unpack (.iface 152 (.pointer (some t)))).run Tryz.prog w
    = .ok (.agg #[.pointer (some ⟨1, 152, none⟩), .pointer (some ⟨w.heap.size, 0, none⟩), .int .u64 150]) (w.alloc (.cells #[.pointer (some t)] 152)) := by kernel_rfl
theorem rf_typeP (a : Addr) (w : World) : (ReflectliteValue.methodAny (ReflectliteValue.valueError "reflectlite.Value.Type" 0) (fun t _ _ _ => ReflectliteType.toType t) #[.agg #[.pointer (some ⟨1, 152, none⟩), .pointer (some a), .int .u64 150]]).run Tryz.prog w
    = .ok (.iface 182 (.agg #[.pointer (some ⟨1, 152, none⟩)])) w := by kernel_rfl
theorem rf_methodKind (h : Value) (w : World) : (Go.method 326 182 (.agg #[h]) "Kind").run Tryz.prog w = .ok (160, h) w := by kernel_rfl
theorem rf_kindP (w : World) : ((ReflectliteType.abiMethod fun t => (fun a : Nat => Value.int IntKind.u8 (a : Int)) <$> Rtype.kind t) #[.pointer (some ⟨1, 152, none⟩)]).run Tryz.prog w = .ok (.int .u8 22) w := by kernel_rfl
theorem rf_kindR (w : World) : ((ReflectliteType.abiMethod fun t => (fun a : Nat => Value.int IntKind.u8 (a : Int)) <$> Rtype.kind t) #[.pointer (some ⟨1, 150, none⟩)]).run Tryz.prog w = .ok (.int .u8 2) w := by kernel_rfl
theorem rf_rlm (z : Sem Value) (f : TypeId → Addr → Nat → Nat → Sem Value) (v : Value) :
    ReflectliteValue.method z f #[v] = (do match ← ReflectliteValue.parts v with | none => z | some (t, a, fl) => f t a fl (fl % 32)) := rfl
theorem rf_partsP (a : Addr) (w : World) : (ReflectliteValue.parts (.agg #[.pointer (some ⟨1, 152, none⟩), .pointer (some a), .int .u64 150])).run Tryz.prog w = .ok (some (152, a, 150)) w := by kernel_rfl
theorem rf_isNilP (a p : Addr) (W : World) (ha : W.cell? a = some (.pointer (some p))) :
    (ReflectliteValue.method (ReflectliteValue.valueError "reflectlite.Value.IsNil" 0) ReflectliteValue.isNil #[.agg #[.pointer (some ⟨1, 152, none⟩), .pointer (some a), .int .u64 150]]).run Tryz.prog W = .ok (.bool false) W := by
  rw [rf_rlm]
  simp only [Sem.run_bind, rf_partsP, Result.andThen]
  simp [ReflectliteValue.isNil, loadVar, isAgg, underlying, Tryz.underlying152, ha, Result.andThen]
theorem rf_methodElem (h : Value) (w : World) : (Go.method 326 182 (.agg #[h]) "Elem").run Tryz.prog w = .ok (170, .agg #[h]) w := by kernel_rfl
theorem rf_methodImplements (h : Value) (w : World) : (Go.method 326 182 (.agg #[h]) "Implements").run Tryz.prog w = .ok (171, .agg #[h]) w := by kernel_rfl
theorem rf_methodAssignableTo (h : Value) (w : World) : (Go.method 326 182 (.agg #[h]) "AssignableTo").run Tryz.prog w = .ok (168, .agg #[h]) w := by kernel_rfl
theorem rf_elemP (w : World) : (ReflectliteType.method ReflectliteType.elem #[.agg #[.pointer (some ⟨1, 152, none⟩)]]).run Tryz.prog w = .ok (.iface 182 (.agg #[.pointer (some ⟨1, 150, none⟩)])) w := by kernel_rfl
theorem rf_implementsR (w : World) : (ReflectliteType.relation "Implements" ReflectliteType.implements_ #[.agg #[.pointer (some ⟨1, 150, none⟩)], .iface 182 (.agg #[.pointer (some ⟨1, 78, none⟩)])]).run Tryz.prog w = .ok (.bool true) w := by kernel_rfl
theorem rf_typeOfR (v : Value) (w : World) : (ReflectliteType.typeOf #[.iface 150 v]).run Tryz.prog w = .ok (.iface 182 (.agg #[.pointer (some ⟨1, 150, none⟩)])) w := by kernel_rfl
theorem rf_assignableR (w : World) : (ReflectliteType.relation "AssignableTo" ReflectliteType.assignableTo #[.agg #[.pointer (some ⟨1, 150, none⟩)], .iface 182 (.agg #[.pointer (some ⟨1, 150, none⟩)])]).run Tryz.prog w = .ok (.bool true) w := by kernel_rfl
theorem rf_valueOfR (n : Int) (w : World) : (ReflectliteValue.unpack (.iface 150 (.int .i64 n))).run Tryz.prog w
    = .ok (.agg #[.pointer (some ⟨1, 150, none⟩), .pointer (some ⟨w.heap.size, 0, none⟩), .int .u64 130]) (w.alloc (.cells #[.int .i64 n] 150)) := by kernel_rfl
theorem rf_elemOfP (w : World) : (Rtype.elem? 152).run Tryz.prog w = .ok (some 150) w := by kernel_rfl
theorem rf_mkR (p : Addr) (w : World) : (ReflectliteValue.mk 150 p ReflectliteValue.flagAddr).run Tryz.prog w = .ok (.agg #[.pointer (some ⟨1, 150, none⟩), .pointer (some p), .int .u64 386]) w := by kernel_rfl
theorem rf_elemV (a p : Addr) (W : World) (ha : W.cell? a = some (.pointer (some p))) :
    (ReflectliteValue.method (ReflectliteValue.valueError "reflectlite.Value.Elem" 0) ReflectliteValue.elem #[.agg #[.pointer (some ⟨1, 152, none⟩), .pointer (some a), .int .u64 150]]).run Tryz.prog W
      = .ok (.agg #[.pointer (some ⟨1, 150, none⟩), .pointer (some p), .int .u64 386]) W := by
  rw [rf_rlm]
  simp only [Sem.run_bind, rf_partsP, Result.andThen]
  simp [ReflectliteValue.elem, loadVar, isAgg, underlying, Tryz.underlying152, ha, Result.andThen, rf_elemOfP, rf_mkR]
theorem rf_partsRa (a : Addr) (w : World) : (ReflectliteValue.parts (.agg #[.pointer (some ⟨1, 150, none⟩), .pointer (some a), .int .u64 386])).run Tryz.prog w = .ok (some (150, a, 386)) w := by kernel_rfl
theorem rf_partsR (a : Addr) (w : World) : (ReflectliteValue.parts (.agg #[.pointer (some ⟨1, 150, none⟩), .pointer (some a), .int .u64 130])).run Tryz.prog w = .ok (some (150, a, 130)) w := by kernel_rfl
theorem rf_directR (w : World) : (Rtype.directlyAssignable 150 150).run Tryz.prog w = .ok true w := by kernel_rfl
theorem rf_set (ta b : Addr) (n : Int) (old : Value) (W : World) (hb : W.cell? b = some (.int .i64 n)) (ht : W.cell? ta = some old) (hf : W.frozen? ta = false) :
    (ReflectliteValue.set #[.agg #[.pointer (some ⟨1, 150, none⟩), .pointer (some ta), .int .u64 386], .agg #[.pointer (some ⟨1, 150, none⟩), .pointer (some b), .int .u64 130]]).run Tryz.prog W
      = .ok (.tuple #[]) (W.setCell ta (.int .i64 n)) := by
  rw [show ReflectliteValue.set #[(.agg #[.pointer (some ⟨1, 150, none⟩), .pointer (some ta), .int .u64 386]), (.agg #[.pointer (some ⟨1, 150, none⟩), .pointer (some b), .int .u64 130])] = (ReflectliteValue.parts (.agg #[.pointer (some ⟨1, 150, none⟩), .pointer (some ta), .int .u64 386]) >>= fun p => ReflectliteValue.parts (.agg #[.pointer (some ⟨1, 150, none⟩), .pointer (some b), .int .u64 130]) >>= fun q => _) from rfl]
  simp only [Sem.run_bind, rf_partsRa, rf_partsR, Result.andThen]
  simp [ReflectliteValue.flagAddr, loadVar, isAgg, underlying, Tryz.underlying150, hb, Result.andThen, rf_directR, storeVar, Value.cells, storeCells, Addr.add]
  rw [run_store Tryz.prog W ta _ _ (by rfl)]
  simp [ht, hf]
/-- The one variable of the library that errors.As reads. -/
def EtCell (w : World) : Prop := w.cell? ⟨0, 0, none⟩ = some (.iface 182 (.agg #[.pointer (some ⟨1, 78, none⟩)]))
set_option maxRecDepth 100000 in
set_option maxHeartbeats 4000000 in
theorem as_hit (n : Int) (t : Addr) (old : Value) (w : World) (hg0 : EtCell w) (ht0 : w.cell? t = some old) (hf0 : w.frozen? t = false) :
    Calls Tryz.prog 121 #[.iface 150 (.int .i64 n), .iface 152 (.pointer (some t))] w fun ev w' => ev = .returned (.bool true) ∧ w' = ((((w.alloc (.cells #[.pointer (some t)] 152)).alloc (.cells #[.pointer (some ⟨1, 152, none⟩), .pointer (some ⟨w.heap.size, 0, none⟩), .int .u64 150] 166)).alloc (.cells #[.pointer (some ⟨1, 152, none⟩), .pointer (some ⟨w.heap.size, 0, none⟩), .int .u64 150] 166)).alloc (.cells #[.int .i64 n] 150)).setCell t (.int .i64 n) := by
  have hg : w.cell? ⟨0, 0, none⟩ = some (.iface 182 (.agg #[.pointer (some ⟨1, 78, none⟩)])) := hg0
  have h6 := @run_callFunc_extern Tryz.prog 132 _ (fun args => ReflectliteValue.unpack (args.getD 0 (.tuple #[]))) Tryz.func132 (by kernel_rfl) (by kernel_rfl) (by kernel_rfl) (by kernel_rfl)
  have h7 := @run_callFunc_extern Tryz.prog 133 _ (ReflectliteValue.methodAny (ReflectliteValue.valueError "reflectlite.Value.Type" 0) (fun t _ _ _ => ReflectliteType.toType t)) Tryz.func133 (by kernel_rfl) (by kernel_rfl) (by kernel_rfl) (by kernel_rfl)
  have h8 := @run_callFunc_extern Tryz.prog 134 _ (ReflectliteValue.method (ReflectliteValue.valueError "reflectlite.Value.IsNil" 0) ReflectliteValue.isNil) Tryz.func134 (by kernel_rfl) (by kernel_rfl) (by kernel_rfl) (by kernel_rfl)
  have h27 := @run_callFunc_extern Tryz.prog 160 _ (ReflectliteType.abiMethod fun t => do pure (.int .u8 (← Rtype.kind t))) Tryz.func160 (by kernel_rfl) (by kernel_rfl) (by kernel_rfl) (by kernel_rfl)
  have h37 := @run_callFunc_extern Tryz.prog 170 _ (ReflectliteType.method ReflectliteType.elem) Tryz.func170 (by kernel_rfl) (by kernel_rfl) (by kernel_rfl) (by kernel_rfl)
  have h38 := @run_callFunc_extern Tryz.prog 171 _ (ReflectliteType.relation "Implements" ReflectliteType.implements_) Tryz.func171 (by kernel_rfl) (by kernel_rfl) (by kernel_rfl) (by kernel_rfl)
  have h10 := @run_callFunc_extern Tryz.prog 141 _ ReflectliteType.typeOf Tryz.func141 (by kernel_rfl) (by kernel_rfl) (by kernel_rfl) (by kernel_rfl)
  have h35 := @run_callFunc_extern Tryz.prog 168 _ (ReflectliteType.relation "AssignableTo" ReflectliteType.assignableTo) Tryz.func168 (by kernel_rfl) (by kernel_rfl) (by kernel_rfl) (by kernel_rfl)
  have h11 := @run_callFunc_extern Tryz.prog 142 _ (ReflectliteValue.method (ReflectliteValue.valueError "reflectlite.Value.Elem" 0) ReflectliteValue.elem) Tryz.func142 (by kernel_rfl) (by kernel_rfl) (by kernel_rfl) (by kernel_rfl)
  have h12 := @run_callFunc_extern Tryz.prog 143 _ ReflectliteValue.set Tryz.func143 (by kernel_rfl) (by kernel_rfl) (by kernel_rfl) (by kernel_rfl)
  have tO := rf_typeOfR
  have mA := rf_methodAssignableTo
  have aR := rf_assignableR
  have vR := rf_valueOfR
  have f6 := rf_valueOfP
  have f7 := rf_typeP
  have mK := rf_methodKind
  have mE := rf_methodElem
  have mI := rf_methodImplements
  have kP := rf_kindP
  have kR := rf_kindR
  have eP := rf_elemP
  have iR := rf_implementsR
  have n8 := rf_isNilP ⟨w.heap.size, 0, none⟩ t ((w.alloc (.cells #[.pointer (some t)] 152)).alloc (.cells #[.pointer (some ⟨1, 152, none⟩), .pointer (some ⟨w.heap.size, 0, none⟩), .int .u64 150] 166)) (by simp)
  have hlt : 0 < w.heap.size := by
    rcases Nat.eq_zero_or_pos w.heap.size with h0 | h
    · simp [World.cell?, h0] at hg
    · exact h
  have hg2 : ((w.alloc (.cells #[.pointer (some t)] 152)).alloc (.cells #[.pointer (some ⟨1, 152, none⟩), .pointer (some ⟨w.heap.size, 0, none⟩), .int .u64 150] 166)).cell? ⟨0, 0, none⟩ = some (.iface 182 (.agg #[.pointer (some ⟨1, 78, none⟩)])) := by
    rw [World.cell?_alloc_lt _ _ ⟨0, 0, none⟩ (by simp), World.cell?_alloc_lt _ _ ⟨0, 0, none⟩ hlt]; exact hg
  have htl : t.block < w.heap.size := by
    rcases Nat.lt_or_ge t.block w.heap.size with h | h
    · exact h
    · simp [World.cell?, Array.getElem?_eq_none h] at ht0
  have el := rf_elemV ⟨w.heap.size, 0, none⟩ t (((w.alloc (.cells #[.pointer (some t)] 152)).alloc (.cells #[.pointer (some ⟨1, 152, none⟩), .pointer (some ⟨w.heap.size, 0, none⟩), .int .u64 150] 166)).alloc (.cells #[.pointer (some ⟨1, 152, none⟩), .pointer (some ⟨w.heap.size, 0, none⟩), .int .u64 150] 166)) (by rw [World.cell?_alloc_lt _ _ ⟨w.heap.size, 0, none⟩ (by simp; omega)]; simp)
  have st := rf_set t ⟨w.heap.size + 1 + 1 + 1, 0, none⟩ n old ((((w.alloc (.cells #[.pointer (some t)] 152)).alloc (.cells #[.pointer (some ⟨1, 152, none⟩), .pointer (some ⟨w.heap.size, 0, none⟩), .int .u64 150] 166)).alloc (.cells #[.pointer (some ⟨1, 152, none⟩), .pointer (some ⟨w.heap.size, 0, none⟩), .int .u64 150] 166)).alloc (.cells #[.int .i64 n] 150))
    (by rw [World.cell?_alloc_at _ _ _ _ (by simp)]; rfl)
    (by rw [World.cell?_alloc_lt _ _ t (by simp; omega), World.cell?_alloc_lt _ _ t (by simp; omega), World.cell?_alloc_lt _ _ t (by simp; omega), World.cell?_alloc_lt _ _ t htl]; exact ht0)
    (by rw [World.frozen?_alloc_old _ _ t (by simp; omega), World.frozen?_alloc_old _ _ t (by simp; omega), World.frozen?_alloc_old _ _ t (by simp; omega), World.frozen?_alloc_old _ _ t (Nat.ne_of_lt htl)]; exact hf0)
  go_enter Tryz.func121, Tryz.ntmps121
  go_wp2
  refine wp_loop_rounds 1 ?_
  rw [rounds_succ]
  go_wp2
  go_ret
  exact ⟨rfl, rfl⟩
end

section
open Go.RowKit
/-- A code as an error. -/
def errV (c : Int) : Value := if c = 0 then .nilIface else .iface 150 (.int .i64 c)
theorem errV_zero : errV 0 = .nilIface := rfl
theorem errV_some {c : Int} (h : c ≠ 0) : errV c = .iface 150 (.int .i64 c) := if_neg h
theorem EtCell.keep {w w' : World} (h : EtCell w) (hb : Below w.heap.size w w') : EtCell w' := by
  have hlt : 0 < w.heap.size := by
    rcases Nat.eq_zero_or_pos w.heap.size with h0 | h1
    · have h' : w.cell? ⟨0, 0, none⟩ = _ := h
      simp [World.cell?, h0] at h'
    · exact h1
  exact (hb.cell (p := ⟨0, 0, none⟩) hlt).trans h
set_option maxRecDepth 100000 in
set_option maxHeartbeats 1000000 in
theorem codeOfI (c : Int) (w : World) (hg : EtCell w) :
    Calls Tryz.prog 88 #[errV c] w fun e w' => e = .returned (.int .i64 c) ∧ Below w.heap.size w w' := by
  have B0 : Below w.heap.size w (w.alloc (.cells #[.int .i64 0] 150)) := (Below.refl _ w).alloc (Nat.le_refl _) _
  by_cases h0 : c = 0
  · subst h0
    rw [errV_zero]
    go_enter Tryz.func88, Tryz.ntmps88
    go_wp2_with fail
    (with_reducible refine (as_nil _ _).mono ?_)
    rintro e w1 ⟨rfl, hw⟩
    obtain rfl := hw.symm
    go_wp2
    go_ret
    exact ⟨rfl, B0⟩
  · rw [errV_some h0]
    have z0 := Blk.new w 150 #[.int .i64 0]
    have t0 : (w.alloc (.cells #[.int .i64 0] 150)).cell? ⟨w.heap.size, 0, none⟩ = some (.int .i64 0) := z0.cell 0
    have f0 := z0.frozen 0
    have hA := as_hit c ⟨w.heap.size, 0, none⟩ (.int .i64 0) _ (hg.keep B0) t0 f0
    go_enter Tryz.func88, Tryz.ntmps88
    go_wp2_with fail
    (with_reducible refine hA.mono ?_)
    rintro e w1 ⟨rfl, hw⟩
    obtain ⟨W, hW⟩ : ∃ W, ((((w.alloc (.cells #[.int .i64 0] 150)).alloc (.cells #[.pointer (some ⟨w.heap.size, 0, none⟩)] 152)).alloc (.cells #[.pointer (some ⟨1, 152, none⟩), .pointer (some ⟨(w.alloc (.cells #[.int .i64 0] 150)).heap.size, 0, none⟩), .int .u64 150] 166)).alloc (.cells #[.pointer (some ⟨1, 152, none⟩), .pointer (some ⟨(w.alloc (.cells #[.int .i64 0] 150)).heap.size, 0, none⟩), .int .u64 150] 166)).alloc (.cells #[.int .i64 c] 150) = W := ⟨_, rfl⟩
    rw [hW] at hw
    have BW : Below w.heap.size w W := by
      rw [← hW]
      exact (((B0.alloc B0.size _).alloc (by simp; omega) _).alloc (by simp; omega) _).alloc (by simp; omega) _
    have zW : Blk W w.heap.size 150 #[.int .i64 0] := by
      rw [← hW]
      exact (((z0.alloc _).alloc _).alloc _).alloc _
    have zF := zW.set 0 (.int .i64 c)
    have r0 := zF.cell 0
    simp at r0
    have hgr := gr_setC W w.heap.size 0 (.int .i64 c)
    have hend : Hid (Below w.heap.size w (W.setCell ⟨w.heap.size, 0, none⟩ (.int .i64 c))) := BW.grown hgr BW.size (fun j hj => by simp at hj; omega)
    subst hw
    clear hW hA zW zF hgr BW z0 t0 f0 B0
    go_wp2
    go_ret
    exact ⟨rfl, hend.out⟩
end

section
open Go.RowKit
set_option maxHeartbeats 1600000 in
theorem hasCl (a : Option Addr) (n cap : Nat) (x : Int) (w : World) (_hn : n ≤ 1048576) :
    Calls Tryz.prog 136 #[.slice a n cap, .int .i64 x] w fun e w' => e = .returned (.bool (decide (0 ≤ x) && decide (x < (n : Int)))) ∧ w' = w := by
  go_enter Tryz.func136, Tryz.ntmps136
  by_cases h1 : 0 ≤ x
  · by_cases h2 : x < (n : Int)
    · go_wp2
      go_ret
      exact ⟨by simp [h1, h2], rfl⟩
    · go_wp2
      go_ret
      exact ⟨by simp [h2], rfl⟩
  · go_wp2
    go_ret
    exact ⟨by simp; omega, rfl⟩
/-- What blockToChange refuses. -/
def btcC (fs : List FkR) (x : Int) : Int := if x < 0 ∨ (fs.length : Int) ≤ x then 1 else if ((fs[x.toNat]?).map FkR.bad).getD false then 2 else 0
theorem btcC_in {fs : List FkR} {k : Nat} {f : FkR} (h : fs[k]? = some f) : btcC fs (k : Int) = if f.bad then 2 else 0 := by
  have hl := (List.getElem?_eq_some_iff.1 h).1
  unfold btcC
  rw [if_neg (by omega)]
  simp [h]
set_option maxRecDepth 100000 in
set_option maxHeartbeats 4000000 in
theorem btcI (F G n : Nat) (fs : List FkR) (x : Int) (w0 w : World) (hn : n ≤ 1048576) (h : FO w0 w F G n fs) :
    Calls Tryz.prog 122 #[.pointer (some ⟨F, 0, none⟩), .int .i64 x] w fun e w' => e = .returned (.tuple #[if btcC fs x = 0 then .pointer (some ⟨G, x.toNat * 18, none⟩) else .pointer none, errV (btcC fs x)]) ∧ w' = w := by
  have x0 := h.f.cell 0
  simp at x0
  have hl : fs.length = n := h.g.len
  by_cases hx : 0 ≤ x ∧ x < (n : Int)
  · obtain ⟨k, rfl⟩ : ∃ k : Nat, x = (k : Int) := ⟨x.toNat, by omega⟩
    have hkn : k < n := by omega
    have hki : (k : Int) < (n : Int) := by omega
    have hkk : ¬ (k : Int) < 0 := by omega
    obtain ⟨f, hf⟩ : ∃ f, fs[k]? = some f := ⟨_, List.getElem?_eq_getElem (by omega)⟩
    have c17 : w.cell? ⟨G, k * 18 + 17, none⟩ = some (.bool f.bad) := by
      rw [h.cell hf (by omega)]
      show (pgE.xv f.ps ++ [Value.int .i64 f.wear, Value.bool f.bad])[17]? = _
      rw [List.getElem?_append_right (by rw [xv16]; omega), xv16]
      rfl
    rw [btcC_in hf]
    obtain ⟨bad, hb⟩ : ∃ bad, f.bad = bad := ⟨_, rfl⟩
    rw [hb] at c17 ⊢
    have hcall := hasCl (some ⟨G, 0, none⟩) n n (k : Int) w hn
    rw [show (decide (0 ≤ (k : Int)) && decide ((k : Int) < (n : Int))) = true by simp; omega] at hcall
    clear h hf hb hl hx
    cases bad with
    | true =>
      go_enter Tryz.func122, Tryz.ntmps122
      go_wp2_with fail
      refine hcall.mono ?_
      rintro e w1 ⟨rfl, hw⟩
      obtain rfl := hw.symm
      go_wp2
      refine bodyPost_ret (v := .tuple #[.pointer none, .iface 150 (.int .i64 2)]) (by simp [results, Tryz.f122, go_sem]) rfl ?_
      exact ⟨by simp [errV], rfl⟩
    | false =>
      go_enter Tryz.func122, Tryz.ntmps122
      go_wp2_with fail
      refine hcall.mono ?_
      rintro e w1 ⟨rfl, hw⟩
      obtain rfl := hw.symm
      go_wp2
      refine bodyPost_ret (v := .tuple #[.pointer (some ⟨G, k * 18, none⟩), .nilIface]) (by simp [results, Tryz.f122, go_sem]) rfl ?_
      exact ⟨by simp [errV], rfl⟩
  · have hc : btcC fs x = 1 := by unfold btcC; rw [if_pos (by omega)]
    rw [hc]
    have hcall := hasCl (some ⟨G, 0, none⟩) n n x w hn
    rw [show (decide (0 ≤ x) && decide (x < (n : Int))) = false by rw [← Bool.not_eq_true]; intro h'; simp at h'; exact hx h'] at hcall
    clear h hc hl hx
    go_enter Tryz.func122, Tryz.ntmps122
    go_wp2_with fail
    refine hcall.mono ?_
    rintro e w1 ⟨rfl, hw⟩
    obtain rfl := hw.symm
    go_wp2
    refine bodyPost_ret (v := .tuple #[.pointer none, .iface 150 (.int .i64 1)]) (by simp [results, Tryz.f122, go_sem]) rfl ?_
    exact ⟨by simp [errV], rfl⟩
/-- Pages into a block, from a place on. -/
def FkR.pgs (f : FkR) (j : Nat) : List PgR → FkR
  | [] => f
  | q :: qs => (f.pg j q).pgs (j + 1) qs
theorem set_same {α : Type} {l : List α} {k : Nat} {f : α} (h : l[k]? = some f) : l.set k f = l := by
  refine List.ext_getElem? fun i => ?_
  rw [List.getElem?_set]
  by_cases he : k = i
  · subst he
    rw [if_pos rfl, if_pos (List.getElem?_eq_some_iff.1 h).1, h]
  · rw [if_neg he]
theorem FO.put {w0 : World} {F G n k : Nat} : ∀ (qs : List PgR) (j : Nat) (wr : World) (fs : List FkR) (f : FkR), FO w0 wr F G n fs → fs[k]? = some f → j + qs.length ≤ 8 → FO w0 (wr.setCells G (k * 18 + j * 2) (pgE.xv qs)) F G n (fs.set k (f.pgs j qs))
  | [], j, wr, fs, f, h, hk, _ => by rw [show fs.set k (f.pgs j []) = fs from set_same hk]; exact h
  | q :: qs, j, wr, fs, f, h, hk, hj => by
    have h1 := h.page (p := q) hk (j := j) (by simp at hj; omega) rfl
    have h2 := FO.put qs (j + 1) _ _ _ h1 (get_set hk) (by simp at hj; omega)
    rw [List.set_set, show k * 18 + (j + 1) * 2 = k * 18 + j * 2 + 1 + 1 by omega] at h2
    exact h2
theorem pgs_8 (f : FkR) : f.pgs 0 (List.replicate 8 pgZ) = ⟨List.replicate 8 pgZ, f.wear, f.bad, rfl⟩ := by
  obtain ⟨q0, q1, q2, q3, q4, q5, q6, q7, hq⟩ := list8 f.h8
  refine FkR.ext' ?_ rfl rfl
  simp [FkR.pgs, FkR.pg, List.replicate, hq]
theorem Tryz.sizePages : (Tryz.prog.info? 153).map (·.size) = some 16 := by kernel_rfl
/-- What erase refuses; the flash behind it. -/
def erC (fs : List FkR) (x : Int) : Int := if btcC fs x = 0 then (if (fs[x.toNat]?).map FkR.wear = some 100000 then 5 else 0) else btcC fs x
def erAt (fs : List FkR) (k : Nat) : List FkR := match fs[k]? with | some f => fs.set k ⟨List.replicate 8 pgZ, f.wear + 1, f.bad, rfl⟩ | none => fs
theorem btc_zero {fs : List FkR} {x : Int} (h : btcC fs x = 0) : ∃ (k : Nat) (f : FkR), x = (k : Int) ∧ fs[k]? = some f := by
  unfold btcC at h
  split at h
  · omega
  · obtain ⟨k, rfl⟩ : ∃ k : Nat, x = (k : Int) := ⟨x.toNat, by omega⟩
    exact ⟨k, _, rfl, List.getElem?_eq_getElem (by omega)⟩
end
end Go.Proofs.YtkhgafmhbibikaaGreatDoor
