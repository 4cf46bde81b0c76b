/-
  What the program's Reached answers.
-/
import Derived.Test.YtgcmpimckpnemaaRows
import Derived.Test.YtgcmpimckpnemaaB1R
import Derived.Test.YtgcmpimckpnemaaPairsR
import Derived.Test.YtgcmpimckpnemaaInodeR
import Derived.Test.YtgcmpimckpnemaaTabMR
import Derived.Test.YtgcmpimckpnemaaTabWR
import Derived.Test.YtgcmpimckpnemaaMKR
import Derived.Test.YtgcmpimckpnemaaToJR
import Derived.Test.YtgcmpimckpnemaaCopySR
import Derived.Test.YtgcmpimckpnemaaByNumR
import Derived.Test.YtgcmpimckpnemaaCopyIR
import Derived.Test.YtgcmpimckpnemaaTabNewR
import Derived.Test.YtgcmpimckpnemaaDropWR
import Derived.Test.YtgcmpimckpnemaaLookR
import Derived.Test.YtgcmpimckpnemaaTreeR
import Derived.Test.YtgcmpimckpnemaaRER
import Derived.Test.YtgcmpimckpnemaaRMR
import Derived.Test.YtgcmpimckpnemaaShelfR
import Derived.WalkKit
import Derived.WalkSpells
import Derived.WalkLawsBesides
import Derived.Deep.QuietTactic
import Derived.BigQuiet
import Derived.OpenShut
import Derived.Laws.BitsAllLaws
import Derived.Maps.AppendAt
import Derived.Lib.SliceRun
import Derived.Lib.Strings
import Derived.Deep.RegionWith
import Derived.Laws.IdiomStrings
import Derived.Deep.Slices
import Derived.ProofKit
import Derived.ChangeOld
import Derived.Below
import Derived.Deep.RegionHeld3
import Derived.Deep.DeepCutAuto
import Derived.Lib.AppendStr
import Derived.Lib.ConvBytes
import Derived.Deep.AppendLies
import Derived.Deep.AppendSrc
import Derived.Maps.OwnSet
import Derived.Maps.OwnOps
import Derived.Lib.Slices
import Derived.Lib.Walk
import Derived.Lib.Bytealg
import Derived.Lib.IndexLaws
import Derived.Lib.BufferWrite
import Derived.Lib.UnsafeStr
import Derived.Laws.MakeOwn
import Derived.Laws.Strings3
import Derived.Deep.RegionLaw
import Derived.RangeFuncBox
import Derived.RangeFuncNested
import Derived.RangeFuncBound
import Derived.RangeFuncCalls
import Derived.RangeFuncLeaves
import Derived.Shelf.Abstract
import Derived.Shelf.RegionOpen
import Derived.OwnWalkIn
import Derived.TacticsInMore
import Derived.LoopNIn
import Derived.LoopIn
import Derived.Deep.CutBlock
import Derived.Shelf.SlGeneric
import Derived.Shelf.SlIterI.Nil
import Derived.Shelf.SortM.Plain
import Derived.Shelf.SortM.SortNone
import Derived.Ground.GgzProg
import Derived.Ground.SlgmProg
namespace Go.Proofs.Ytgcmpimckpnemaa
open Go.RowKit Go.Maps Go.Sort Go.Shelf
theorem sortsA (m : Nat) : AnyZI.SortsIn Try.prog Try.sortedA_ren Fence.wide m :=
  ⟨fun blk off cap ss W hH hblk hsz => callsIn_wide.2 (AnyM.slices_Sort_int Try.sortA blk off cap ss W hH hblk hsz),
   fun p cap W => callsIn_wide.2 (AnyM.slices_Sort_int_none Try.sortA p cap W)⟩
theorem keysK (mb : Option Nat) (W : World) : Calls Try.prog 50 #[.map mb] W fun e w' => e = .returned (.func (.func 70) #[] #[.pointer (some ⟨W.heap.size, 0, none⟩)]) ∧ w' = W.alloc (.cells #[.map mb] 59) :=
  callsIn_wide.1 (AnyZI.keys_in Try.keysA Fence.wide 5 trivial rfl mb W)
set_option maxHeartbeats 1000000 in
theorem sortedK (b nn : Nat) (D0 : DataW Unit) (w : World) (hown : w.ownsMap Try.prog 3 (plainElem Try.prog 3) b nn D0) (hmax : Maps.size D0 ≤ maxLen) (hbytes : Maps.size D0 * 8 ≤ 140737488355328) :
    Calls Try.prog 49 #[.func (.func 70) #[] #[.pointer (some ⟨w.heap.size, 0, none⟩)]] (w.alloc (.cells #[.map (some b)] 59)) fun e w' => ∃ (v : Value) (ss : List Int), e = .returned v ∧ ss.Perm (intKeys D0) ∧
      w'.ownsRow (w.heap.size + 1) 3 1 v ss.length ((ss.mergeSort (fun x y => decide (x ≤ y))).map encZ) ∧ Below (w.heap.size + 1) (w.alloc (.cells #[.map (some b)] 59)) w' := by
  have hbl := hown.lt
  have hseq : SeqGives Fence.wide 2 Try.prog 70 #[.pointer (some ⟨w.heap.size, 0, none⟩)] encZ (fun ss => ss.Perm (intKeys D0)) (Maps.size D0) (w.alloc (.cells #[.map (some b)] 59)) :=
    AnyZI.keys_gives (ρ := Try.keysA_ren) { Try.keysA with } Fence.wide _ trivial rfl (by omega) w.heap.size b nn D0 _ (by simp) (by simp) (by
      obtain ⟨es, clock, hb, Ft, hs, hD⟩ := hown
      exact ⟨es, clock, (Below.heap_alloc _ _ b hbl).trans hb, Ft, hs, hD⟩)
  have cS := AnyZI.sorted_in Try.sortedA Fence.wide 5 trivial trivial trivial trivial rfl (by omega) (sortsA _) (enters_of Try.func69 (by kernel_rfl) rfl) 70 #[.pointer (some ⟨w.heap.size, 0, none⟩)] trivial (enters_of Try.func70 (by kernel_rfl) rfl) _ _ hmax hbytes _ hseq
  change CallsIn _ _ Try.prog 49 _ _ _ at cS
  refine (callsIn_wide.1 cS).mono ?_
  rintro e w' ⟨v, ss, rfl, hS, hrow, hnil, hb⟩
  simp only [World.size_alloc] at hrow hb
  exact ⟨v, ss, rfl, hS, hrow, hb⟩
theorem ownShape {B : Nat} {W : World} {e : TypeId} {s : Nat} {v : Value} {n : Nat} {xs : List Value} (h : W.ownsRow B e s v n xs) : ∃ a c, v = .slice a n c := by
  rcases h.2 with ⟨rfl, rfl⟩ | ⟨g, c, cur, rfl, _⟩
  · exact ⟨none, 0, rfl⟩
  · exact ⟨_, _, rfl⟩
theorem perm_keys {W : World} {b nn : Nat} {D : DataW Unit} {S : List Int} (hown : W.ownsMap Try.prog 3 (plainElem Try.prog 3) b nn D) (hn : S.Nodup) (hh : ∀ y, Maps.has D (.int .i64 y) = decide (y ∈ S)) : S.Perm (intKeys D) :=
  CollectedI.perm (left := fun _ => false) ⟨hn, fun x => by rw [hh x]; simp⟩ hown Try.keyInt Try.underlying3 (fun _ => rfl)
theorem size_keys {D : DataW Unit} (h : IsMap D) : Maps.size D = (intKeys D).length := by
  obtain ⟨es, rfl⟩ := h
  simp [Maps.size_eq, intKeys]
theorem makeNone (w : World) : (Instr.makeMap 59 none).run Try.prog w = .ok (.map (some w.heap.size)) (w.alloc (.map #[] 0)) := by
  simp [Instr.makeMap, Result.andThen]
/-- What the program's Reached answers. -/
def ReachPost (w : World) (ds : List InoD) (e : Ending) (w' : World) : Prop :=
  ∃ v, e = .returned v ∧ w'.ownsRow w.heap.size 3 1 v (reachD ds).length ((reachD ds).map encZ) ∧ Below w.heap.size w w'
set_option maxRecDepth 100000 in
set_option maxHeartbeats 4000000 in
theorem reachedI (a : Option Addr) (n cap : Nat) (nx : Int) (rs : List InoR) (w : World) (ht : TR w a n rs) (hwf : ∀ r ∈ rs, (Lit.int .i64 r.D.ino).wf = true) (hwe : ∀ r ∈ rs, ∀ e ∈ r.D.ents, (Lit.int .i64 e.2).wf = true) :
    Calls Try.prog 21 #[.agg #[.slice a n cap, .int .i64 nx]] w fun e w' => ReachPost w (rs.map InoR.D) e w' := by
  have hmn := makeNone
  have hmf : ∀ (fn : Fn) (first cap : Array Value) (w : World), (Instr.makeFunc fn first cap).run Try.prog w = .ok (.func fn first cap) w := fun _ _ _ _ => rfl
  have hsf := fun (a : Addr) (c : Array Value) (w : World) => run_store Try.prog w a (.func (.func 48) #[] c) .plain rfl
  have B0 : Below w.heap.size w (w.alloc (.cells #[.slice a n cap, .int .i64 nx] 26)) := (Below.refl _ w).alloc (Nat.le_refl _) _
  have z0 := Blk.new w 26 #[.slice a n cap, .int .i64 nx]
  have hcB := byNumber_any a n cap nx rs _ ht.len (by have := ht.n; omega) hwf (ht.rd.keep B0)
  have HT : Hid _ := ht.keep B0
  have HE : Hid _ := hwe
  have hn1 := ht.n
  have hdl : Hid ((rs.map InoR.D).length = n) := by show _ = _; rw [List.length_map, ht.len]
  clear ht hwe hwf
  go_enter Try.func21, Try.ntmps21
  go_wp2_with fail
  obtain ⟨W0, hW0⟩ : ∃ W, w.alloc (.cells #[.slice a n cap, .int .i64 nx] 26) = W := ⟨_, rfl⟩
  rw [hW0] at B0 z0 hcB HT ⊢
  clear hW0
  (with_reducible refine hcB.mono ?_)
  rintro e w1 ⟨cnt, Dp, rfl, hcnt, hM, hown, b1⟩
  obtain ⟨pm, hpm⟩ : ∃ pm, W0.heap.size + 1 = pm := ⟨_, rfl⟩
  rw [hpm] at hown ⊢
  have B1 := B0.trans (b1.mono B0.size)
  clear hcB
  go_wp2_with fail
  have hRC : RC w1 ((((w1.alloc (.map #[] 0)).alloc (.cells #[.map (some pm)] 59)).alloc (.cells #[.map (some w1.heap.size)] 59)).alloc (.cells #[.func (.func 48) #[] #[.pointer (some ⟨w1.heap.size + 1, 0, none⟩), .pointer (some ⟨w1.heap.size + 1 + 1, 0, none⟩), .pointer (some ⟨w.heap.size, 0, none⟩), .pointer (some ⟨w1.heap.size + 1 + 1 + 1, 0, none⟩)]] 76)) (w1.heap.size + 1) (w1.heap.size + 1 + 1) w.heap.size (w1.heap.size + 1 + 1 + 1) pm w1.heap.size (rs.map InoR.D) [] := by
    have zP := ((Blk.new (w1.alloc (.map #[] 0)) 59 #[.map (some pm)]).alloc (.cells #[.map (some w1.heap.size)] 59)).alloc (.cells #[.func (.func 48) #[] #[.pointer (some ⟨w1.heap.size + 1, 0, none⟩), .pointer (some ⟨w1.heap.size + 1 + 1, 0, none⟩), .pointer (some ⟨w.heap.size, 0, none⟩), .pointer (some ⟨w1.heap.size + 1 + 1 + 1, 0, none⟩)]] 76)
    have zQ := (Blk.new ((w1.alloc (.map #[] 0)).alloc (.cells #[.map (some pm)] 59)) 59 #[.map (some w1.heap.size)]).alloc (.cells #[.func (.func 48) #[] #[.pointer (some ⟨w1.heap.size + 1, 0, none⟩), .pointer (some ⟨w1.heap.size + 1 + 1, 0, none⟩), .pointer (some ⟨w.heap.size, 0, none⟩), .pointer (some ⟨w1.heap.size + 1 + 1 + 1, 0, none⟩)]] 76)
    have zF := Blk.new (((w1.alloc (.map #[] 0)).alloc (.cells #[.map (some pm)] 59)).alloc (.cells #[.map (some w1.heap.size)] 59)) 76 #[.func (.func 48) #[] #[.pointer (some ⟨w1.heap.size + 1, 0, none⟩), .pointer (some ⟨w1.heap.size + 1 + 1, 0, none⟩), .pointer (some ⟨w.heap.size, 0, none⟩), .pointer (some ⟨w1.heap.size + 1 + 1 + 1, 0, none⟩)]]
    have hom := (((World.ownsMap_made (H := Unit) w1 Try.prog 3 (plainElem Try.prog 3)).alloc (.cells #[.map (some pm)] 59)).alloc (.cells #[.map (some w1.heap.size)] 59)).alloc (.cells #[.func (.func 48) #[] #[.pointer (some ⟨w1.heap.size + 1, 0, none⟩), .pointer (some ⟨w1.heap.size + 1 + 1, 0, none⟩), .pointer (some ⟨w.heap.size, 0, none⟩), .pointer (some ⟨w1.heap.size + 1 + 1 + 1, 0, none⟩)]] 76)
    simp only [World.size_alloc] at zP zQ zF
    refine ⟨((((Below.refl _ w1).alloc (Nat.le_refl _) _).alloc (by simp) _).alloc (by simp; omega) _).alloc (by simp; omega) _, zP, zQ, zF, Nat.le_refl _, by omega, by omega, by omega, ⟨List.nodup_nil, fun x hx => by simp at hx⟩, ⟨0, _, Nat.le_refl _, fun y => by simp [Maps.has], isMap_empty, hom⟩⟩
  have hC := reachC (w1.heap.size + 1) (w1.heap.size + 1 + 1) w.heap.size (w1.heap.size + 1 + 1 + 1) pm w1.heap.size a n cap nx rs w1 (HT.out.keep b1) (z0.keep b1) cnt Dp hM hown HE.out n 1 _ [] (by decide) (by simp) hRC
  clear hRC hM hown z0
  (with_reducible refine hC.mono ?_)
  rintro e w5 ⟨rfl, S, hC5, hP5⟩
  have q0 := hC5.zQ.cell 0
  simp at q0
  have HB5 : Hid _ := B1.trans (hC5.b.mono B1.size)
  obtain ⟨cn, D, hcn, hhas, hIM, hqo⟩ := hC5.re
  have hpk := perm_keys hqo hC5.inT.nd hhas
  have hlen := hC5.inT.len
  rw [hdl.out] at hlen
  have hsz : Maps.size D ≤ 1048576 := by
    rw [size_keys hIM, ← hpk.length_eq]
    omega
  have hst := sortedK w1.heap.size cn D w5 hqo (by unfold maxLen; omega) (by omega)
  have HRD : Hid (∀ ss : List Int, ss.Perm (intKeys D) → ss.mergeSort (fun x y => decide (x ≤ y)) = reachD (rs.map InoR.D)) := by
    intro ss hss
    have hsp := hss.trans hpk.symm
    refine reachD_sort (hsp.nodup_iff.2 hC5.inT.nd) (fun y => ?_)
    rw [hsp.mem_iff]
    refine reachD_iff (S := S) hP5.self (fun y hy e he hl => hP5.closed y hy (by simp) e he hl) (fun y hy => by
      rcases hP5.leads y hy with h | h
      · simp at h
      · exact h) (fun hl => ?_) y
    refine List.eq_nil_iff_forall_not_mem.2 (fun y hy => ?_)
    rcases hP5.leads y hy with h | h
    · simp at h
    · exact leads_none hl h
  clear hC hC5 hP5 hpk hlen hsz hhas hIM hqo hcn
  go_wp2_with fail
  (with_reducible refine (keysK (some w1.heap.size) w5).mono ?_)
  rintro e w6 ⟨rfl, hw6⟩
  obtain rfl := hw6.symm
  clear hw6
  go_wp2_with fail
  (with_reducible refine hst.mono ?_)
  rintro e w7 ⟨v, ss, rfl, hS, hrow, hb7⟩
  have hlq := congrArg List.length (HRD.out ss hS)
  rw [List.length_mergeSort] at hlq
  rw [HRD.out ss hS, hlq] at hrow
  have hbb : Below w.heap.size w (w5.alloc (.cells #[.map (some w1.heap.size)] 59)) := HB5.out.alloc HB5.out.size _
  have hz5 := HB5.out.size
  have hend : Hid (ReachPost w (rs.map InoR.D) (.returned v) w7) := ⟨v, rfl, ownsRow_base_a hrow (by omega), hbb.trans (hb7.mono (by omega))⟩
  clear hrow hb7 hbb q0 hst hlq
  go_wp2
  go_ret
  exact hend.out
end Go.Proofs.Ytgcmpimckpnemaa
