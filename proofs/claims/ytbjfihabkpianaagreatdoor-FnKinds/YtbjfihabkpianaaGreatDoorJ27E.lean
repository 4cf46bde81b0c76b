/-
  Joined: ReachT, LinksI, TabEq, TreeI, ChangedI, FileI.
-/
import Derived.Test.YtbjfihabkpianaaGreatDoorJ26E
import Derived.Test.YtbjfihabkpianaaGreatDoorJ15E
import Derived.Test.YtbjfihabkpianaaGreatDoorJ25E
import Derived.Test.YtbjfihabkpianaaGreatDoorNext7E
namespace Go.Proofs.YtbjfihabkpianaaGreatDoor
section
open Go.RowKit Go.Maps Go.Sort Go.Shelf
theorem sortsA (m : Nat) : AnyZI.SortsIn Tryz.prog Tryz.sortedA_ren Fence.wide m :=
  ⟨fun blk off cap ss W hH hblk hsz => callsIn_wide.2 (AnyM.slices_Sort_int Tryz.sortA blk off cap ss W hH hblk hsz),
   fun p cap W => callsIn_wide.2 (AnyM.slices_Sort_int_none Tryz.sortA p cap W)⟩
theorem keysK (mb : Option Nat) (W : World) : Calls Tryz.prog 120 #[.map mb] W fun e w' => e = .returned (.func (.func 172) #[] #[.pointer (some ⟨W.heap.size, 0, none⟩)]) ∧ w' = W.alloc (.cells #[.map mb] 157) :=
  callsIn_wide.1 (AnyZI.keys_in Tryz.keysA Fence.wide 5 trivial rfl mb W)
set_option maxHeartbeats 1000000 in
theorem sortedK (b nn : Nat) (D0 : DataW Unit) (w : World) (hown : w.ownsMap Tryz.prog 3 (plainElem Tryz.prog 3) b nn D0) (hmax : Maps.size D0 ≤ maxLen) (hbytes : Maps.size D0 * 8 ≤ 140737488355328) :
    Calls Tryz.prog 119 #[.func (.func 172) #[] #[.pointer (some ⟨w.heap.size, 0, none⟩)]] (w.alloc (.cells #[.map (some b)] 157)) fun e w' => ∃ (v : Value) (ss : List Int), e = .returned v ∧ ss.Perm (intKeys D0) ∧
      w'.ownsRow (w.heap.size + 1) 3 1 v ss.length ((ss.mergeSort (fun x y => decide (x ≤ y))).map encZ) ∧ Below (w.heap.size + 1) (w.alloc (.cells #[.map (some b)] 157)) w' := by
  have hbl := hown.lt
  have hseq : SeqGives Fence.wide 2 Tryz.prog 172 #[.pointer (some ⟨w.heap.size, 0, none⟩)] encZ (fun ss => ss.Perm (intKeys D0)) (Maps.size D0) (w.alloc (.cells #[.map (some b)] 157)) :=
    AnyZI.keys_gives (ρ := Tryz.keysA_ren) { Tryz.keysA with } Fence.wide _ trivial rfl (by omega) w.heap.size b nn D0 _ (by simp) (by simp) (by
      obtain ⟨es, clock, hb, Ft, hs, hD⟩ := hown
      exact ⟨es, clock, (Below.heap_alloc _ _ b hbl).trans hb, Ft, hs, hD⟩)
  have cS := AnyZI.sorted_in Tryz.sortedA Fence.wide 5 trivial trivial trivial trivial rfl (by omega) (sortsA _) (enters_of Tryz.func171 (by kernel_rfl) rfl) 172 #[.pointer (some ⟨w.heap.size, 0, none⟩)] trivial (enters_of Tryz.func172 (by kernel_rfl) rfl) _ _ hmax hbytes _ hseq
  change CallsIn _ _ Tryz.prog 119 _ _ _ at cS
  refine (callsIn_wide.1 cS).mono ?_
  rintro e w' ⟨v, ss, rfl, hS, hrow, hnil, hb⟩
  simp only [World.size_alloc] at hrow hb
  exact ⟨v, ss, rfl, hS, hrow, hb⟩
theorem ownShape {B : Nat} {W : World} {e : TypeId} {s : Nat} {v : Value} {n : Nat} {xs : List Value} (h : W.ownsRow B e s v n xs) : ∃ a c, v = .slice a n c := by
  rcases h.2 with ⟨rfl, rfl⟩ | ⟨g, c, cur, rfl, _⟩
  · exact ⟨none, 0, rfl⟩
  · exact ⟨_, _, rfl⟩
theorem perm_keys {W : World} {b nn : Nat} {D : DataW Unit} {S : List Int} (hown : W.ownsMap Tryz.prog 3 (plainElem Tryz.prog 3) b nn D) (hn : S.Nodup) (hh : ∀ y, Maps.has D (.int .i64 y) = decide (y ∈ S)) : S.Perm (intKeys D) :=
  CollectedI.perm (left := fun _ => false) ⟨hn, fun x => by rw [hh x]; simp⟩ hown Tryz.keyInt Tryz.underlying3 (fun _ => rfl)
theorem size_keys {D : DataW Unit} (h : IsMap D) : Maps.size D = (intKeys D).length := by
  obtain ⟨es, rfl⟩ := h
  simp [Maps.size_eq, intKeys]
theorem makeNone (w : World) : (Instr.makeMap 157 none).run Tryz.prog w = .ok (.map (some w.heap.size)) (w.alloc (.map #[] 0)) := by
  simp [Instr.makeMap, Result.andThen]
/-- What is known at the beginning of a round: what was put by ahead of k is reached. -/
structure RM (ds : List InoD) (S Bs : List Int) (k : Nat) : Prop where
  done : ∀ (i : Nat) (y : Int), i < k → Bs[i]? = some y → (look ds y).isSome = true → y ∈ S
  closed : ∀ y ∈ S, ∀ e ∈ dirEnts ds y, (look ds e.2).isSome = true → e.2 ∈ S ∨ e.2 ∈ Bs
  leads : ∀ y ∈ S, Leads ds 1 y
  bleads : ∀ y ∈ Bs, (look ds y).isSome = true → Leads ds 1 y
  one : (1 : Int) ∈ Bs
  count : Bs.length ≤ 1 + mXE * S.length
  wfs : ∀ y ∈ Bs, (Lit.int .i64 y).wf = true
  le : k ≤ Bs.length
theorem RM.start (ds : List InoD) : RM ds [] [1] 0 :=
  ⟨fun i y hi => by omega, fun y hy => by simp at hy, fun y hy => by simp at hy, fun y hy hl => by
    have : y = 1 := by simpa using hy
    subst this
    exact Leads.self hl, by simp, by simp, fun y hy => by
    have : y = 1 := by simpa using hy
    subst this
    decide, Nat.zero_le _⟩
theorem RM.step {ds : List InoD} {S Bs S' Bs' : List Int} {k : Nat} {x : Int} (h : RM ds S Bs k) (hx : Bs[k]? = some x) (g : RP ds S Bs x 0 S' Bs') : RM ds S' Bs' (k + 1) := by
  have hk := (List.getElem?_eq_some_iff.1 hx).1
  have hpre : ∀ i, i < Bs.length → Bs'[i]? = Bs[i]? := fun i hi => by
    obtain ⟨l, hl⟩ := g.pre
    rw [← hl, List.getElem?_append_left hi]
  have hl1 : ∀ y, Leads ds x y → Leads ds 1 y := fun y hy => by
    cases hl : (look ds x).isSome with
    | false => exact (leads_none hl hy).elim
    | true => exact (h.bleads x (List.mem_of_getElem? hx) hl).trans hy
  refine ⟨fun i y hi hy hl => ?_, fun y hy e he hl => ?_, fun y hy => ?_, fun y hy hl => ?_, pre_mem g.pre h.one, ?_, g.wfs h.wfs, ?_⟩
  · rw [hpre i (by omega)] at hy
    rcases (show i < k ∨ i = k by omega) with hi | rfl
    · exact g.sub y (h.done i y hi hy hl)
    · rw [hx] at hy
      cases hy
      rcases g.self hl with h1 | h1
      · exact h1
      · exact absurd h1.1 (by decide)
  · by_cases hyS : y ∈ S
    · rcases h.closed y hyS e he hl with h1 | h1
      · exact .inl (g.sub _ h1)
      · exact .inr (pre_mem g.pre h1)
    · exact g.closed y hy hyS e he hl
  · rcases g.leads y hy with h1 | h1
    · exact h.leads y h1
    · exact hl1 y h1
  · rcases g.bleads y hy with h1 | h1
    · exact h.bleads y h1 hl
    · exact hl1 y h1
  · have h1 := h.count
    have h2 := g.count
    omega
  · have := g.pre.length_le
    omega
/-- So much is left to be done. -/
def leftV (n : Nat) (S Bs : List Int) (k : Nat) : Nat := mXE * (n - S.length) + Bs.length - k
theorem left_step {ds : List InoD} {n k : Nat} {S Bs S' Bs' : List Int} {x : Int} (hn : S'.length ≤ n) (hs : S.length ≤ S'.length) (hk : k < Bs.length) (g : RP ds S Bs x 0 S' Bs') : leftV n S' Bs' (k + 1) < leftV n S Bs k := by
  have h1 := g.count
  have h2 := g.pre.length_le
  have e1 : mXE * (n - S.length) = mXE * n - mXE * S.length := Nat.mul_sub ..
  have e2 : mXE * (n - S'.length) = mXE * n - mXE * S'.length := Nat.mul_sub ..
  have e3 : mXE * S.length ≤ mXE * S'.length := Nat.mul_le_mul_left _ hs
  have e4 : mXE * S'.length ≤ mXE * n := Nat.mul_le_mul_left _ hn
  unfold leftV
  rw [e1, e2]
  omega
theorem RM.closed_end {ds : List InoD} {S Bs : List Int} {k : Nat} (h : RM ds S Bs k) (hk : Bs.length ≤ k) : Closed ds (· ∈ S) := fun y hy e he hl => by
  rcases h.closed y hy e he hl with h1 | h1
  · exact h1
  · obtain ⟨i, hi⟩ := List.getElem?_of_mem h1
    exact h.done i _ (by have := (List.getElem?_eq_some_iff.1 hi).1; omega) hi hl
theorem RM.one_end {ds : List InoD} {S Bs : List Int} {k : Nat} (h : RM ds S Bs k) (hk : Bs.length ≤ k) (hl : (look ds 1).isSome = true) : (1 : Int) ∈ S := by
  obtain ⟨i, hi⟩ := List.getElem?_of_mem h.one
  exact h.done i _ (by have := (List.getElem?_eq_some_iff.1 hi).1; omega) hi hl
theorem least_nat {p : Nat → Prop} (h : ∃ k, p k) : ∃ k, p k ∧ ∀ j, p j → k ≤ j := by
  obtain ⟨k, hk⟩ := h
  induction k using Nat.strongRecOn with
  | ind k ih =>
    by_cases c : ∃ j, j < k ∧ p j
    · obtain ⟨j, hj, hp⟩ := c
      exact ih j hj hp
    · exact ⟨k, hk, fun j hj => Nat.le_of_not_lt fun hlt => c ⟨j, hlt, hj⟩⟩
/-- A measure that is the least of what may be. -/
theorem least_fn {α β : Type} (p : α → β → Nat → Prop) : ∃ f : α → β → Nat, ∀ x y, (∃ k, p x y k) → p x y (f x y) ∧ ∀ k, p x y k → f x y ≤ k := by
  have h : ∀ q : α × β, ∃ k, (∃ j, p q.1 q.2 j) → p q.1 q.2 k ∧ ∀ j, p q.1 q.2 j → k ≤ j := fun q => by
    by_cases c : ∃ j, p q.1 q.2 j
    · obtain ⟨k, hk⟩ := least_nat c
      exact ⟨k, fun _ => hk⟩
    · exact ⟨0, fun c' => absurd c' c⟩
  obtain ⟨f, hf⟩ := Classical.axiomOfChoice h
  exact ⟨fun x y => f (x, y), fun x y hk => hf (x, y) hk⟩
theorem row_one {W : World} {B g : Nat} {x : Int} (hB : B ≤ g) (h : Blk W g 3 #[.int .i64 x]) : W.ownsRow B 3 1 (.slice (some ⟨g, 0, none⟩) 1 1) 1 (iV [x]) := ⟨rfl, .inr ⟨g, 1, _, rfl, hB, h, Nat.le_refl _, by unfold maxLen; omega, rfl, rfl⟩⟩
theorem RC.drew {wb W : World} {P Q X Tb Fb pm qm : Nat} {ds : List InoD} {S Bs : List Int} (h : RC wb W P Q X Tb Fb pm qm ds S Bs) : RC wb W.drew P Q X Tb Fb pm qm ds S Bs := by
  obtain ⟨cnt, D, h1, h2, h3, h4⟩ := h.re
  obtain ⟨g, c, h5, h6⟩ := h.bx
  exact ⟨h.b.drew, h.zP, h.zQ, h.zF, h.lo, h.loX, h.nP, h.nQ, h.nF, h.nPX, h.nQX, h.nFX, h.inT, ⟨cnt, D, h1, h2, h3, h4.drew⟩, ⟨g, c, h5, h6.drew⟩⟩
/-- What the program's Reached answers. -/
def ReachPost (w : World) (ds : List InoD) (e : Ending) (w' : World) : Prop :=
  ∃ v, e = .returned v ∧ w'.ownsRow w.heap.size 3 1 v (reachD ds).length ((reachD ds).map encZ) ∧ Below w.heap.size w w'
set_option maxRecDepth 100000 in
set_option maxHeartbeats 4000000 in
theorem reachedI (a : Option Addr) (n cap : Nat) (nx : Int) (rs : List InoR) (w : World) (ht : TR w a n rs) (hwf : ∀ r ∈ rs, (Lit.int .i64 r.D.ino).wf = true) (hwe : ∀ r ∈ rs, ∀ e ∈ r.D.ents, (Lit.int .i64 e.2).wf = true) :
    Calls Tryz.prog 83 #[.agg #[.slice a n cap, .int .i64 nx]] w fun e w' => ReachPost w (rs.map InoR.D) e w' := by
  have hmn := makeNone
  have hmf : ∀ (fn : Fn) (first cap : Array Value) (w : World), (Instr.makeFunc fn first cap).run Tryz.prog w = .ok (.func fn first cap) w := fun _ _ _ _ => rfl
  have hsf := fun (a : Addr) (c : Array Value) (w : World) => run_store Tryz.prog w a (.func (.func 118) #[] c) .plain rfl
  have B0 : Below w.heap.size w (w.alloc (.cells #[.slice a n cap, .int .i64 nx] 47)) := (Below.refl _ w).alloc (Nat.le_refl _) _
  have z0 := Blk.new w 47 #[.slice a n cap, .int .i64 nx]
  have hcB := byNumber_any a n cap nx rs _ ht.len (by have := ht.n; omega) hwf (ht.rd.keep B0)
  have HT : Hid _ := ht.keep B0
  have HE : Hid _ := hwe
  have hn1 := ht.n
  have hdl : Hid ((rs.map InoR.D).length = n) := by show _ = _; rw [List.length_map, ht.len]
  obtain ⟨ds, hds⟩ : ∃ ds, rs.map InoR.D = ds := ⟨_, rfl⟩
  rw [hds] at hdl ⊢
  have HDS : Hid _ := hds
  clear ht hwe hwf hds
  go_enter Tryz.func83, Tryz.ntmps83
  go_wp2_with fail
  obtain ⟨W0, hW0⟩ : ∃ W, w.alloc (.cells #[.slice a n cap, .int .i64 nx] 47) = W := ⟨_, rfl⟩
  rw [hW0] at B0 z0 hcB HT ⊢
  clear hW0
  (with_reducible refine hcB.mono ?_)
  rintro e w1 ⟨cnt, Dp, rfl, hcnt, hM, hown, b1⟩
  obtain ⟨pm, hpm⟩ : ∃ pm, W0.heap.size + 1 = pm := ⟨_, rfl⟩
  rw [hpm] at hown ⊢
  have B1 := B0.trans (b1.mono B0.size)
  clear hcB
  go_wp2_with fail
  have hRC : RC w1 ((((((w1.alloc (.map #[] 0)).alloc (.cells #[.int .i64 1] 3)).alloc (.cells #[.map (some pm)] 157)).alloc (.cells #[.map (some w1.heap.size)] 157)).alloc (.cells #[.slice (some ⟨w1.heap.size + 1, 0, none⟩) 1 1] 117)).alloc (.cells #[.func (.func 118) #[] #[.pointer (some ⟨w1.heap.size + 1 + 1, 0, none⟩), .pointer (some ⟨w1.heap.size + 1 + 1 + 1, 0, none⟩), .pointer (some ⟨w1.heap.size + 1 + 1 + 1 + 1, 0, none⟩), .pointer (some ⟨w.heap.size, 0, none⟩), .pointer (some ⟨w1.heap.size + 1 + 1 + 1 + 1 + 1, 0, none⟩)]] 166)) (w1.heap.size + 1 + 1) (w1.heap.size + 1 + 1 + 1) (w1.heap.size + 1 + 1 + 1 + 1) w.heap.size (w1.heap.size + 1 + 1 + 1 + 1 + 1) pm w1.heap.size ds [] [1] := by
    have zP := ((Blk.new ((w1.alloc (.map #[] 0)).alloc (.cells #[.int .i64 1] 3)) 157 #[.map (some pm)]).alloc (.cells #[.map (some w1.heap.size)] 157) |>.alloc (.cells #[.slice (some ⟨w1.heap.size + 1, 0, none⟩) 1 1] 117)).alloc (.cells #[.func (.func 118) #[] #[.pointer (some ⟨w1.heap.size + 1 + 1, 0, none⟩), .pointer (some ⟨w1.heap.size + 1 + 1 + 1, 0, none⟩), .pointer (some ⟨w1.heap.size + 1 + 1 + 1 + 1, 0, none⟩), .pointer (some ⟨w.heap.size, 0, none⟩), .pointer (some ⟨w1.heap.size + 1 + 1 + 1 + 1 + 1, 0, none⟩)]] 166)
    have zQ := ((Blk.new (((w1.alloc (.map #[] 0)).alloc (.cells #[.int .i64 1] 3)).alloc (.cells #[.map (some pm)] 157)) 157 #[.map (some w1.heap.size)]).alloc (.cells #[.slice (some ⟨w1.heap.size + 1, 0, none⟩) 1 1] 117)).alloc (.cells #[.func (.func 118) #[] #[.pointer (some ⟨w1.heap.size + 1 + 1, 0, none⟩), .pointer (some ⟨w1.heap.size + 1 + 1 + 1, 0, none⟩), .pointer (some ⟨w1.heap.size + 1 + 1 + 1 + 1, 0, none⟩), .pointer (some ⟨w.heap.size, 0, none⟩), .pointer (some ⟨w1.heap.size + 1 + 1 + 1 + 1 + 1, 0, none⟩)]] 166)
    have zX := (Blk.new ((((w1.alloc (.map #[] 0)).alloc (.cells #[.int .i64 1] 3)).alloc (.cells #[.map (some pm)] 157)).alloc (.cells #[.map (some w1.heap.size)] 157)) 117 #[.slice (some ⟨w1.heap.size + 1, 0, none⟩) 1 1]).alloc (.cells #[.func (.func 118) #[] #[.pointer (some ⟨w1.heap.size + 1 + 1, 0, none⟩), .pointer (some ⟨w1.heap.size + 1 + 1 + 1, 0, none⟩), .pointer (some ⟨w1.heap.size + 1 + 1 + 1 + 1, 0, none⟩), .pointer (some ⟨w.heap.size, 0, none⟩), .pointer (some ⟨w1.heap.size + 1 + 1 + 1 + 1 + 1, 0, none⟩)]] 166)
    have zF := Blk.new (((((w1.alloc (.map #[] 0)).alloc (.cells #[.int .i64 1] 3)).alloc (.cells #[.map (some pm)] 157)).alloc (.cells #[.map (some w1.heap.size)] 157)).alloc (.cells #[.slice (some ⟨w1.heap.size + 1, 0, none⟩) 1 1] 117)) 166 #[.func (.func 118) #[] #[.pointer (some ⟨w1.heap.size + 1 + 1, 0, none⟩), .pointer (some ⟨w1.heap.size + 1 + 1 + 1, 0, none⟩), .pointer (some ⟨w1.heap.size + 1 + 1 + 1 + 1, 0, none⟩), .pointer (some ⟨w.heap.size, 0, none⟩), .pointer (some ⟨w1.heap.size + 1 + 1 + 1 + 1 + 1, 0, none⟩)]]
    have zR := ((((Blk.new (w1.alloc (.map #[] 0)) 3 #[.int .i64 1]).alloc (.cells #[.map (some pm)] 157)).alloc (.cells #[.map (some w1.heap.size)] 157)).alloc (.cells #[.slice (some ⟨w1.heap.size + 1, 0, none⟩) 1 1] 117)).alloc (.cells #[.func (.func 118) #[] #[.pointer (some ⟨w1.heap.size + 1 + 1, 0, none⟩), .pointer (some ⟨w1.heap.size + 1 + 1 + 1, 0, none⟩), .pointer (some ⟨w1.heap.size + 1 + 1 + 1 + 1, 0, none⟩), .pointer (some ⟨w.heap.size, 0, none⟩), .pointer (some ⟨w1.heap.size + 1 + 1 + 1 + 1 + 1, 0, none⟩)]] 166)
    have hom := (((((World.ownsMap_made (H := Unit) w1 Tryz.prog 3 (plainElem Tryz.prog 3)).alloc (.cells #[.int .i64 1] 3)).alloc (.cells #[.map (some pm)] 157)).alloc (.cells #[.map (some w1.heap.size)] 157)).alloc (.cells #[.slice (some ⟨w1.heap.size + 1, 0, none⟩) 1 1] 117)).alloc (.cells #[.func (.func 118) #[] #[.pointer (some ⟨w1.heap.size + 1 + 1, 0, none⟩), .pointer (some ⟨w1.heap.size + 1 + 1 + 1, 0, none⟩), .pointer (some ⟨w1.heap.size + 1 + 1 + 1 + 1, 0, none⟩), .pointer (some ⟨w.heap.size, 0, none⟩), .pointer (some ⟨w1.heap.size + 1 + 1 + 1 + 1 + 1, 0, none⟩)]] 166)
    simp only [World.size_alloc] at zP zQ zX zF zR
    have hb : Below w1.heap.size w1 ((((((w1.alloc (.map #[] 0)).alloc (.cells #[.int .i64 1] 3)).alloc (.cells #[.map (some pm)] 157)).alloc (.cells #[.map (some w1.heap.size)] 157)).alloc (.cells #[.slice (some ⟨w1.heap.size + 1, 0, none⟩) 1 1] 117)).alloc (.cells #[.func (.func 118) #[] #[.pointer (some ⟨w1.heap.size + 1 + 1, 0, none⟩), .pointer (some ⟨w1.heap.size + 1 + 1 + 1, 0, none⟩), .pointer (some ⟨w1.heap.size + 1 + 1 + 1 + 1, 0, none⟩), .pointer (some ⟨w.heap.size, 0, none⟩), .pointer (some ⟨w1.heap.size + 1 + 1 + 1 + 1 + 1, 0, none⟩)]] 166)) := ((((((Below.refl _ w1).alloc (Nat.le_refl _) _).alloc (by simp) _).alloc (by simp; omega) _).alloc (by simp; omega) _).alloc (by simp; omega) _).alloc (by simp; omega) _
    exact ⟨hb, zP, zQ, zF, Nat.le_refl _, by omega, by omega, by omega, by omega, by omega, by omega, by omega, ⟨List.nodup_nil, fun x hx => by simp at hx⟩, ⟨0, _, Nat.le_refl _, fun y => by simp [Maps.has], isMap_empty, hom⟩, ⟨_, 1, zX, row_one (Nat.le_succ _) zR⟩⟩
  have hcl := fun (x : Int) (W : World) (S Bs : List Int) (hx : (Lit.int .i64 x).wf = true) (hb : Bs.length ≤ 1 + mXE * S.length) (h : RC w1 W (w1.heap.size + 1 + 1) (w1.heap.size + 1 + 1 + 1) (w1.heap.size + 1 + 1 + 1 + 1) w.heap.size (w1.heap.size + 1 + 1 + 1 + 1 + 1) pm w1.heap.size (rs.map InoR.D) S Bs) => reachC (w1.heap.size + 1 + 1) (w1.heap.size + 1 + 1 + 1) (w1.heap.size + 1 + 1 + 1 + 1) w.heap.size (w1.heap.size + 1 + 1 + 1 + 1 + 1) pm w1.heap.size a n cap nx rs w1 (HT.out.keep b1) (z0.keep b1) cnt Dp hM hown HE.out n x 0 W S Bs hx (by omega) (by omega) hb h
  rw [HDS.out] at hcl
  obtain ⟨P, hP⟩ : ∃ P, w1.heap.size + 1 + 1 = P := ⟨_, rfl⟩
  rw [hP] at hRC hcl ⊢
  obtain ⟨Q, hQ⟩ : ∃ Q, P + 1 = Q := ⟨_, rfl⟩
  rw [hQ] at hRC hcl ⊢
  obtain ⟨X, hX⟩ : ∃ X, Q + 1 = X := ⟨_, rfl⟩
  rw [hX] at hRC hcl ⊢
  obtain ⟨Fb, hF⟩ : ∃ Fb, X + 1 = Fb := ⟨_, rfl⟩
  rw [hF] at hRC hcl ⊢
  obtain ⟨mea, hmea⟩ := least_fn (fun (i : Value) (wi : World) (v : Nat) => ∃ (k : Nat) (S Bs : List Int), i = .int .i64 k ∧ RC w1 wi P Q X w.heap.size Fb pm w1.heap.size ds S Bs ∧ RM ds S Bs k ∧ v = leftV n S Bs k)
  have HMEA : Hid _ := hmea
  have HCL : Hid _ := hcl
  have HRC : Hid _ := hRC
  have HB1 : Hid _ := B1
  have hBn : Hid (n ≤ 1048576) := hn1
  have hbb : Hid _ := b1
  clear hRC hM hown z0 hcl hmea hP hQ hX hF HT HE B0 B1 b1 hcnt
  go_loopw [7] (fun i wi => Hid (∃ (v k : Nat) (S Bs : List Int), i = .int .i64 k ∧ RC w1 wi P Q X w.heap.size Fb pm w1.heap.size ds S Bs ∧ RM ds S Bs k ∧ v = leftV n S Bs k)) (fun i wi => mea i wi)
  case atStart => exact ⟨_, 0, [], [1], rfl, HRC.out, RM.start ds, rfl⟩
  case round =>
    have hq := HMEA.out _ _ hrel.out
    obtain ⟨⟨k, S, Bs, rfl, hC, hMk, hmv⟩, -⟩ := hq
    clear hrel HRC
    obtain ⟨gb, cb, hbx⟩ := hC.bx
    have y0 := hbx.cell.cell 0
    have yF := hC.zF.cell 0
    have yQ := hC.zQ.cell 0
    simp at y0 yF yQ
    obtain ⟨lb, hlb⟩ : ∃ lb, Bs.length = lb := ⟨_, rfl⟩
    rw [hlb] at y0
    have hlen := hC.inT.len
    rw [hdl.out] at hlen
    have hlb2 : lb ≤ 2000000000000 := by
      have h1 := hMk.count
      have : mXE * S.length ≤ 1048576 * 1048576 := Nat.mul_le_mul (by unfold mXE; omega) (by have := hBn.out; omega)
      omega
    have hkl := hMk.le
    rw [hlb] at hkl
    by_cases hkn : k < lb
    · have hki : (k : Int) < (lb : Int) := by omega
      have hk0 : (0 : Int) ≤ (k : Int) := by omega
      have hkb : k < Bs.length := by omega
      obtain ⟨y, hy⟩ : ∃ y, Bs[k]? = some y := ⟨_, List.getElem?_eq_getElem hkb⟩
      have hcr : wr.cell? ⟨gb, k, none⟩ = some (.int .i64 y) := by
        rw [World.ownsRow.cellAt hbx.row k (by omega)]
        exact iV_at hy
      have hcall := HCL.out y wr.drew S Bs (hMk.wfs y (List.mem_of_getElem? hy)) hMk.count hC.drew
      rw [show ((0 : Nat) : Int) = 0 from rfl] at hcall
      have HY : Hid _ := hy
      have HMK : Hid _ := hMk
      have HMV : Hid _ := hmv
      have HKB : Hid _ := hkb
      have HND : Hid _ := hC.inT.nd
      clear hbx hlb hlen hMk hmv hC yQ hy hkb
      go_upto_region 7 with fail
      go_region_law (first
        | (go_simp; (with_reducible refine hcall.mono ?_); rintro e w5 ⟨rfl, S2, B2, hC5, hP5⟩; dsimp only)
        | fail)
      all_goals (
        have hP5 : RP ds S Bs y 0 S2 B2 := hP5
        have hsub := sub_len HND.out hP5.sub
        have hl2 := hC5.inT.len
        rw [hdl.out] at hl2
        have hstep : Hid _ := left_step hl2 hsub HKB.out hP5
        have hnx : Hid (∃ (v k' : Nat) (S Bs : List Int), (.int .i64 ((k + 1 : Nat) : Int) : Value) = .int .i64 k' ∧ RC w1 w5 P Q X w.heap.size Fb pm w1.heap.size ds S Bs ∧ RM ds S Bs k' ∧ v = leftV n S Bs k') := ⟨_, k + 1, S2, B2, rfl, hC5, HMK.out.step HY.out hP5, rfl⟩
        have hms : Hid (mea (.int .i64 ((k + 1 : Nat) : Int)) w5 < mea (.int .i64 (k : Int)) wr) := by
          have h1 := (HMEA.out (.int .i64 ((k + 1 : Nat) : Int)) w5 hnx.out).2 _ ⟨k + 1, S2, B2, rfl, hC5, HMK.out.step HY.out hP5, rfl⟩
          have h2 := hstep.out
          rw [HMV.out]
          exact Nat.lt_of_le_of_lt h1 h2
        rw [show ((k + 1 : Nat) : Int) = (k : Int) + 1 by omega] at hnx hms
        clear hcall hP5 hC5 y0 yF hcr hstep hsub hl2
        go_wp2
        go_roundw
        case rel => exact hnx
        case measure => exact hms.out)
    · have hki : ¬ (k : Int) < (lb : Int) := by omega
      have hkb : Bs.length ≤ k := by omega
      have HB5 : Hid _ := HB1.out.trans (hC.b.mono HB1.out.size)
      obtain ⟨cn, D, hcn, hhas, hIM, hqo⟩ := hC.re
      have hpk := perm_keys hqo hC.inT.nd hhas
      have hsz : Maps.size D ≤ 1048576 := by
        rw [size_keys hIM, ← hpk.length_eq]
        have := hBn.out
        omega
      have hst := sortedK w1.heap.size cn D wr hqo (by unfold maxLen; omega) (by omega)
      have HRD : Hid (∀ ss : List Int, ss.Perm (intKeys D) → ss.mergeSort (fun x y => decide (x ≤ y)) = reachD ds) := by
        intro ss hss
        have hsp := hss.trans hpk.symm
        refine reachD_sort (hsp.nodup_iff.2 hC.inT.nd) (fun y => ?_)
        rw [hsp.mem_iff]
        refine reachD_iff (S := S) (hMk.one_end hkb) (hMk.closed_end hkb) hMk.leads (fun hl => ?_) y
        refine List.eq_nil_iff_forall_not_mem.2 (fun y hy => ?_)
        exact leads_none hl (hMk.leads y hy)
      clear hC hMk hmv hbx hpk hlen hsz hhas hIM hqo hcn hlb
      go_wp2_with fail
      (with_reducible refine (keysK (some w1.heap.size) wr).mono ?_)
      rintro e w6 ⟨rfl, hw6⟩
      obtain rfl := hw6.symm
      clear hw6
      go_wp2_with fail
      (with_reducible refine hst.mono ?_)
      rintro e w7 ⟨v, ss, rfl, hS, hrow, hb7⟩
      have hlq := congrArg List.length (HRD.out ss hS)
      rw [List.length_mergeSort] at hlq
      rw [HRD.out ss hS, hlq] at hrow
      have hbb : Below w.heap.size w (wr.alloc (.cells #[.map (some w1.heap.size)] 157)) := HB5.out.alloc HB5.out.size _
      have hz5 := HB5.out.size
      have hend : Hid (ReachPost w ds (.returned v) w7) := ⟨v, rfl, ownsRow_base_a hrow (by omega), hbb.trans (hb7.mono (by omega))⟩
      clear hrow hb7 hbb yQ hst hlq
      go_wp2
      go_ret
      exact hend.out
end

section
open Go.RowKit
set_option maxRecDepth 100000 in
set_option maxHeartbeats 4000000 in
theorem linksI (a : Option Addr) (n cap : Nat) (nx x : Int) (rs : List InoR) (w : World) (ht : TR w a n rs) :
    Calls Tryz.prog 82 #[.agg #[.slice a n cap, .int .i64 nx], .int .i64 x] w fun e w' => e = .returned (.int .i64 (linksD (rs.map InoR.D) x : Nat)) ∧ Below w.heap.size w w' := by
  have B0 : Below w.heap.size w (w.alloc (.cells #[.slice a n cap, .int .i64 nx] 47)) := (Below.refl _ w).alloc (Nat.le_refl _) _
  have z0 := Blk.new w 47 #[.slice a n cap, .int .i64 nx]
  have ht0 := ht.keep B0
  have HB : Hid _ := B0
  have HT : Hid _ := ht0
  have hln : Hid (rs.length = n) := ht.len
  have hn1 := ht.n
  obtain ⟨R, hR⟩ : ∃ R, linksD (rs.map InoR.D) x = R := ⟨_, rfl⟩
  rw [hR]
  have HR : Hid _ := hR
  clear ht ht0 hR B0
  go_enter Tryz.func82, Tryz.ntmps82
  have t0 := z0.cell 0
  simp at t0
  go_wp2
  obtain ⟨W0, hW0⟩ : ∃ W, w.alloc (.cells #[.slice a n cap, .int .i64 nx] 47) = W := ⟨_, rfl⟩
  rw [hW0] at z0 HB HT ⊢
  clear hW0 z0 t0
  go_loopw [5, 13] (fun c i wr => ∃ k m : Nat, k ≤ n ∧ i = .int .i64 k ∧ c = .int .i64 m ∧ m ≤ k * 1048576 ∧ Hid (linksD ((rs.map InoR.D).take k) x = m) ∧ Hid (Below W0.heap.size W0 wr)) (fun _ i _ => n - (intOf i).toNat)
  case atStart => exact ⟨0, 0, Nat.zero_le _, rfl, rfl, Nat.zero_le _, rfl, Below.refl _ _⟩
  case round =>
    obtain ⟨k, m, hk, rfl, rfl, hm, hlk, hB⟩ := hrel
    by_cases hkn : k < n
    · have hki : (k : Int) < (n : Int) := by omega
      have hk0 : (0 : Int) ≤ (k : Int) := by omega
      obtain ⟨r, hrk⟩ : ∃ r, rs[k]? = some r := ⟨_, List.getElem?_eq_getElem (by rw [hln.out]; exact hkn)⟩
      have hTr := HT.out.keep hB.out
      obtain ⟨b, off, rfl, hlt, hc⟩ := RdI.lt hTr.rd (by intro h; rw [h] at hrk; simp at hrk)
      obtain ⟨x6, xr⟩ := hc k r hrk
      have hsm := hTr.small r (List.mem_of_getElem? hrk)
      have hes := hsm.ents
      have hnx : Hid (∀ q : Nat, q = linksIn r.D x → linksD ((rs.map InoR.D).take (k + 1)) x = m + q) := by
        intro q hq
        rw [linksD_snoc _ _ _ r.D (by simp [hrk]), hlk.out, hq]
      have hle := linksIn_le r.D x
      obtain ⟨es, hes'⟩ : ∃ es, r.D.ents = es := ⟨_, rfl⟩
      have hre : RdP wr r.a2 (eP es) := by rw [← hes']; exact xr.ents
      obtain ⟨x0, x1, x2, x3, x4, x5⟩ := x6
      rw [hes'] at x4 hes hle
      have hli : Hid (linksIn r.D x = if r.D.kind = 2 then cntE es x else 0) := by show _ = _; unfold linksIn cntE; rw [hes']
      obtain ⟨n2, hn2⟩ : ∃ n2, es.length = n2 := ⟨_, rfl⟩
      rw [hn2] at x4 hes hle
      have HN : Hid _ := hn2
      generalize r.D.ino = i1 at x0
      generalize r.D.kind = i2 at x1 hli
      generalize r.D.links = i3 at x2
      generalize r.D.data.length = n1 at x3
      generalize r.D.attrs.length = n3 at x5
      have bx := Blk.new wr 68 #[.int .i64 i1, .int .i64 i2, .int .i64 i3, .slice r.a1 n1 r.c1, .slice r.a2 n2 r.c2, .slice r.a3 n3 r.c3]
      have hbA : Below wr.heap.size wr (wr.alloc (.cells #[.int .i64 i1, .int .i64 i2, .int .i64 i3, .slice r.a1 n1 r.c1, .slice r.a2 n2 r.c2, .slice r.a3 n3 r.c3] 68)) := (Below.refl _ wr).alloc (Nat.le_refl _) _
      have HE : Hid _ := RdP.keep hre hbA
      have HBA : Hid (Below W0.heap.size W0 (wr.alloc (.cells #[.int .i64 i1, .int .i64 i2, .int .i64 i3, .slice r.a1 n1 r.c1, .slice r.a2 n2 r.c2, .slice r.a3 n3 r.c3] 68))) := hB.out.trans (hbA.mono hB.out.size)
      have y1 := bx.cell 1
      have y4 := bx.cell 4
      simp at y1 y4
      clear hc xr hsm hrk hlk hes' hn2 hre hTr bx hbA
      by_cases hk2 : i2 = 2
      · subst hk2
        have hlq : Hid (linksIn r.D x = cntE es x) := by show _ = _; rw [hli.out, if_pos rfl]
        go_wp2
        obtain ⟨Wb, hWb⟩ : ∃ W, wr.alloc (.cells #[.int .i64 i1, .int .i64 2, .int .i64 i3, .slice r.a1 n1 r.c1, .slice r.a2 n2 r.c2, .slice r.a3 n3 r.c3] 68) = W := ⟨_, rfl⟩
        rw [hWb] at HE HBA ⊢
        clear hWb y1 y4 x0 x1 x2 x3 x4 x5
        go_loopw [5, 23] (fun c j wi => ∃ p q : Nat, p ≤ n2 ∧ j = .int .i64 p ∧ c = .int .i64 ((m + q : Nat) : Int) ∧ q ≤ p ∧ Hid (cntE (es.take p) x = q) ∧ Hid (Below Wb.heap.size Wb wi)) (fun _ j _ => n2 - (intOf j).toNat)
        case atStart => exact ⟨0, 0, Nat.zero_le _, rfl, rfl, Nat.zero_le _, rfl, Below.refl _ _⟩
        case round =>
          obtain ⟨p, q, hp, rfl, rfl, hq, hcq, hBi⟩ := hrel
          by_cases hpn : p < n2
          · have hpi : (p : Int) < (n2 : Int) := by omega
            have hp0 : (0 : Int) ≤ (p : Int) := by omega
            have hpl : p < es.length := by rw [HN.out]; exact hpn
            obtain ⟨eb, eo, hea, helt, hec⟩ := RdP.lt (RdP.keep HE.out hBi.out) (by intro h; have := congrArg List.length h; rw [eP_length] at this; simp at this; rw [this] at hpl; simp at hpl)
            have hx := hec p (by rw [eP_length]; exact hpl)
            rw [eP_at es p hpl] at hx
            obtain ⟨zn, hz⟩ : ∃ z, es[p].1 = z := ⟨_, rfl⟩
            obtain ⟨u, hu⟩ : ∃ u, es[p].2 = u := ⟨_, rfl⟩
            have hsn := cntE_snoc es x p es[p] (List.getElem?_eq_getElem hpl)
            rw [hz, hu] at hx
            rw [hu, hcq.out] at hsn
            obtain ⟨x1, x2⟩ := hx
            dsimp only at x1 x2
            rw [hea]
            have bA : Below wr.heap.size wr (wr.alloc (.cells #[.string zn, .int .i64 u] 154)) := (Below.refl _ wr).alloc (Nat.le_refl _) _
            have HBI : Hid (Below Wb.heap.size Wb (wr.alloc (.cells #[.string zn, .int .i64 u] 154))) := hBi.out.trans (bA.mono hBi.out.size)
            clear hec hz hu hcq bA
            by_cases hux : u = x
            · have hub : (u == x) = true := by simp [hux]
              have hs1 : Hid (cntE (es.take (p + 1)) x = q + 1) := by show _ = _; rw [hsn, if_pos hux]
              subst hux
              clear hsn
              go_wp2
              go_roundw
              case rel => exact ⟨p + 1, q + 1, by omega, by go_num, by go_num, by omega, hs1, HBI⟩
              case measure => simp [intOf]; omega
            · have hub : (u == x) = false := by simpa using hux
              have hs1 : Hid (cntE (es.take (p + 1)) x = q) := by show _ = _; rw [hsn, if_neg hux]; rfl
              clear hsn
              go_wp2
              go_roundw
              case rel => exact ⟨p + 1, q, by omega, by go_num, by go_num, by omega, hs1, HBI⟩
              case measure => simp [intOf]; omega
          · have hpi : ¬ (p : Int) < (n2 : Int) := by omega
            have hfin : Hid (linksD ((rs.map InoR.D).take (k + 1)) x = m + q) := by
              refine hnx.out q ?_
              rw [hlq.out, ← hcq.out, List.take_of_length_le (by rw [HN.out]; omega)]
            have hB2 : Hid _ := HBA.out.trans (hBi.out.mono HBA.out.size)
            go_wp2
            go_roundw
            case rel => exact ⟨k + 1, m + q, by omega, by go_num, by go_num, by omega, hfin, hB2⟩
            case measure => simp [intOf]; omega
      · have hkb : (i2 == 2) = false := by simpa using hk2
        have hkc : (i2 != 2) = true := by simpa using hk2
        have hfin : Hid (linksD ((rs.map InoR.D).take (k + 1)) x = m) := by
          have := hnx.out 0 (by rw [hli.out, if_neg hk2])
          show _ = _
          simpa using this
        go_wp2
        go_roundw
        case rel => exact ⟨k + 1, m, by omega, by go_num, rfl, Nat.le_trans hm (Nat.mul_le_mul_right _ (Nat.le_succ k)), hfin, HBA⟩
        case measure => simp [intOf]; omega
    · have hki : ¬ (k : Int) < (n : Int) := by omega
      have hend : Hid ((m : Int) = (R : Int)) := by
        have h1 := hlk.out
        rw [List.take_of_length_le (by rw [List.length_map, hln.out]; omega), HR.out] at h1
        show _ = _
        rw [h1]
      have hfb : Hid _ := HB.out.trans (hB.out.mono HB.out.size)
      go_wp2
      go_ret
      exact ⟨ret_int hend.out, hfb.out⟩
end

section
open Go.RowKit
theorem inoOk_pos {D : InoD} (h : inoOk D = true) : 1 ≤ D.ino := by
  rw [inoOk_parts] at h
  simp only [Bool.and_eq_true, decide_eq_true_eq] at h
  exact h.1.1.1.1.1
theorem asc_ge {xs : List Int} (h : ascN xs = true) (hp : ∀ x ∈ xs, 1 ≤ x) (k : Nat) (hk : k < xs.length) : (k : Int) + 1 ≤ xs.getD k 0 := by
  unfold ascN at h
  rw [List.all_eq_true] at h
  induction k with
  | zero =>
    have : xs.getD 0 0 ∈ xs := by
      rw [List.getD_eq_getElem?_getD, List.getElem?_eq_getElem hk]
      exact List.getElem_mem hk
    have := hp _ this
    omega
  | succ k ih =>
    have h1 := ih (by omega)
    have h2 := h (k + 1) (List.mem_range.2 hk)
    simp only [Nat.add_sub_cancel, Nat.add_eq_zero_iff, Nat.one_ne_zero, and_false, decide_false, Bool.false_or, decide_eq_true_eq] at h2
    omega
theorem steps_all (nx : Int) (rs : List InoR) : (List.range rs.length).all (stepT nx rs) = (rs.all (goodR nx) && ascN (inos rs)) := by
  rw [Bool.eq_iff_iff]
  simp only [List.all_eq_true, Bool.and_eq_true, List.mem_range]
  have hat : ∀ i, i < rs.length → rs.getD i inoZ ∈ rs ∧ (inos rs).getD i 0 = (rs.getD i inoZ).D.ino := fun i hi => by
    rw [List.getD_eq_getElem?_getD, List.getElem?_eq_getElem hi]
    refine ⟨List.getElem_mem hi, ?_⟩
    exact inos_at (List.getElem?_eq_getElem hi)
  constructor
  · intro h
    refine ⟨fun r hr => ?_, ?_⟩
    · obtain ⟨i, hi, rfl⟩ := List.mem_iff_getElem.1 hr
      have h1 := h i hi
      unfold stepT at h1
      rw [show rs.getD i inoZ = rs[i] by simp [List.getD_eq_getElem?_getD, hi]] at h1
      simp only [Bool.and_eq_true] at h1
      unfold goodR
      rw [h1.1, h1.2.1]
      rfl
    · unfold ascN
      rw [List.all_eq_true]
      intro i hi
      rw [List.mem_range, inos_length] at hi
      have h1 := h i hi
      unfold stepT at h1
      simp only [Bool.and_eq_true] at h1
      rw [(hat i hi).2, (hat (i - 1) (by omega)).2]
      exact h1.2.2
  · rintro ⟨hg, ha⟩ i hi
    have h1 := hg _ (hat i hi).1
    unfold goodR at h1
    simp only [Bool.and_eq_true] at h1
    unfold ascN at ha
    rw [List.all_eq_true] at ha
    have h2 := ha i (by rw [List.mem_range, inos_length]; exact hi)
    rw [(hat i hi).2, (hat (i - 1) (by omega)).2] at h2
    unfold stepT
    rw [h1.1, h1.2, h2]
    rfl
theorem tab_same (nx : Int) (rs : List InoR) : tabI nx rs = tabS nx rs := by
  unfold tabI tabS
  rw [steps_all]
  cases hg : rs.all (goodR nx) with
  | false => simp
  | true =>
    cases ha : ascN (inos rs) with
    | false => simp
    | true =>
      have hpos : ∀ x ∈ inos rs, 1 ≤ x := fun x hx => by
        obtain ⟨r, hr, rfl⟩ := List.mem_map.1 hx
        have := List.all_eq_true.1 hg r hr
        unfold goodR at this
        simp only [Bool.and_eq_true] at this
        exact inoOk_pos this.1
      cases hf : firstAt (inos rs) 1 with
      | none =>
        have hno : ¬ (1 ≤ rs.length ∧ (rs.getD 0 inoZ).D.ino = 1) := by
          rintro ⟨h1, h2⟩
          unfold firstAt at hf
          rw [List.findIdx?_eq_none_iff] at hf
          have hm : (rs.getD 0 inoZ).D.ino ∈ inos rs := by
            rw [List.getD_eq_getElem?_getD, List.getElem?_eq_getElem (show 0 < rs.length by omega)]
            exact List.mem_map_of_mem (List.getElem_mem _)
          have := hf _ hm
          rw [h2] at this
          simp at this
        simp only [Bool.false_and, Bool.and_false, Bool.true_and]
        symm
        by_cases h1 : 1 ≤ rs.length
        · have h2 : ¬ (rs.getD 0 inoZ).D.ino = 1 := fun h => hno ⟨h1, h⟩
          rw [decide_eq_false h2]
          simp
        · rw [decide_eq_false h1]
          simp
      | some p =>
        have hp := firstAt_lt hf
        have hp0 : p = 0 := by
          have h1 := asc_ge ha hpos p (by rw [inos_length]; exact hp)
          unfold firstAt at hf
          obtain ⟨h2, h3, _⟩ := List.findIdx?_eq_some_iff_getElem.1 hf
          simp at h3
          rw [List.getD_eq_getElem?_getD, List.getElem?_eq_getElem h2, Option.getD_some, h3] at h1
          omega
        subst hp0
        have hone : (rs.getD 0 inoZ).D.ino = 1 := by
          unfold firstAt at hf
          obtain ⟨h2, h3, _⟩ := List.findIdx?_eq_some_iff_getElem.1 hf
          simp only [beq_iff_eq] at h3
          rw [← h3]
          simp [inos, List.getD_eq_getElem?_getD, hp]
        rw [decide_eq_true (show 1 ≤ rs.length by omega), decide_eq_true hone]
        simp
        cases decide (rs.length ≤ 30) <;> cases decide (2 ≤ nx) <;> cases decide (nx ≤ 1000) <;> simp
end

section
open Go.RowKit Go.Maps
theorem entAt_num {es : List (ByteArray × Int)} (h : entsOk es = true) : ∀ e ∈ es, 2 ≤ e.2 ∧ e.2 ≤ 1000 := by
  intro e he
  obtain ⟨k, hk⟩ := List.getElem?_of_mem he
  have hl := (List.getElem?_eq_some_iff.1 hk).1
  unfold entsOk at h
  simp only [Bool.and_eq_true, List.all_eq_true, List.mem_range] at h
  have h1 := h.1 k hl
  unfold entAt at h1
  have hg : es.getD k entD = e := by rw [List.getD_eq_getElem?_getD, hk]; rfl
  rw [hg] at h1
  simp only [Bool.and_eq_true, decide_eq_true_eq] at h1
  exact h1.1.2
theorem tab_wf {nx : Int} {ds : List InoD} (h : tabD nx ds = true) : ∀ D ∈ ds, ∀ e ∈ D.ents, (Lit.int .i64 e.2).wf = true := by
  intro D hD e he
  have h1 := ((tabD_ok h).2.2.2.2.1 D hD).1
  have h2 := entAt_num (ok_parts h1).2.2.1 e he
  obtain ⟨k, hk⟩ : ∃ k : Nat, e.2 = (k : Int) := ⟨e.2.toNat, by omega⟩
  rw [hk]
  exact WalkArith.wf_i64 (by omega)
/-- Each inode has as many links as entries lead to it. -/
def linkedD (ds l : List InoD) : Bool := l.all fun D => decide ((linksD ds D.ino : Int) = D.links)
theorem treeD_split (nx : Int) (ds : List InoD) : treeD nx ds = (tabD nx ds && (linkedD ds ds && (decide ((reachD ds).length = ds.length) && leadD ds))) := by
  unfold treeD linkedD leadD
  have : (ds.all fun D => decide ((linksD ds D.ino : Int) = D.links) && D.ents.all fun e => (look ds e.2).isSome) = ((ds.all fun D => decide ((linksD ds D.ino : Int) = D.links)) && ds.all fun D => D.ents.all (goodE ds)) := by
    rw [Bool.eq_iff_iff]
    simp only [Bool.and_eq_true, List.all_eq_true]
    constructor
    · exact fun h => ⟨fun D hD => (h D hD).1, fun D hD e he => (h D hD).2 e he⟩
    · exact fun h D hD => ⟨h.1 D hD, fun e he => h.2 D hD e he⟩
  rw [this]
  cases tabD nx ds <;> cases decide ((reachD ds).length = ds.length) <;> cases (ds.all fun D => decide ((linksD ds D.ino : Int) = D.links)) <;> rfl
set_option maxRecDepth 100000 in
set_option maxHeartbeats 4000000 in
theorem treeI (a : Option Addr) (n cap : Nat) (nx : Int) (rs : List InoR) (w : World) (ht : TR w a n rs) (hwf : ∀ r ∈ rs, (Lit.int .i64 r.D.ino).wf = true) :
    Calls Tryz.prog 46 #[.agg #[.slice a n cap, .int .i64 nx]] w fun e w' => e = .returned (.bool (treeD nx (rs.map InoR.D))) ∧ Below w.heap.size w w' := by
  have B0 : Below w.heap.size w (w.alloc (.cells #[.slice a n cap, .int .i64 nx] 47)) := (Below.refl _ w).alloc (Nat.le_refl _) _
  have z0 := Blk.new w 47 #[.slice a n cap, .int .i64 nx]
  have hcT := tabOkI a n cap nx rs _ ht.len (by have := ht.n; omega) hwf ht.small (ht.rd.keep B0)
  rw [tab_same, tabS_D] at hcT
  obtain ⟨ds, hds⟩ : ∃ ds, rs.map InoR.D = ds := ⟨_, rfl⟩
  rw [hds] at hcT ⊢
  have HDS : Hid _ := hds
  have hdl : Hid (ds.length = n) := by show _ = _; rw [← hds, List.length_map, ht.len]
  obtain ⟨R, hR⟩ : ∃ R, treeD nx ds = R := ⟨_, rfl⟩
  rw [hR]
  rw [treeD_split, hdl.out] at hR
  have HT : Hid _ := ht
  have HW : Hid _ := hwf
  have hn1 := ht.n
  clear ht hwf hds
  cases htab : tabD nx ds with
  | false =>
    rw [htab] at hcT hR
    have hend : Hid (false = R) := hR
    clear hR htab
    go_enter Tryz.func46, Tryz.ntmps46
    go_wp2_with fail
    (with_reducible refine hcT.mono ?_)
    rintro e w1 ⟨rfl, b1⟩
    have B1 := B0.trans (b1.mono B0.size)
    clear z0 hcT
    go_wp2
    go_ret
    exact ⟨ret_bool hend.out, B1⟩
  | true =>
    have hwe : ∀ r ∈ rs, ∀ e ∈ r.D.ents, (Lit.int .i64 e.2).wf = true := fun r hr => tab_wf htab r.D (by rw [← HDS.out]; exact List.mem_map_of_mem hr)
    have HE : Hid _ := hwe
    rw [htab] at hcT hR
    rw [Bool.true_and] at hR
    have HR : Hid ((linkedD ds (ds.drop 0) && (decide ((reachD ds).length = n) && leadD ds)) = R) := hR
    clear hR htab hwe
    go_enter Tryz.func46, Tryz.ntmps46
    go_wp2_with fail
    (with_reducible refine hcT.mono ?_)
    rintro e w1 ⟨rfl, b1⟩
    have B1 := B0.trans (b1.mono B0.size)
    have z1 := z0.keep b1
    have t0 := z1.cell 0
    simp at t0
    clear z0 hcT B0 b1
    have HZ : Hid _ := z1
    have HB1 : Hid _ := B1
    clear z1 B1
    go_wp2
    clear t0
    go_loopw [11] (fun i wr => ∃ k : Nat, k ≤ n ∧ i = .int .i64 k ∧ Hid ((linkedD ds (ds.drop k) && (decide ((reachD ds).length = n) && leadD ds)) = R) ∧ Hid (Below w1.heap.size w1 wr)) (fun i _ => n - (intOf i).toNat)
    case atStart => exact ⟨0, Nat.zero_le _, rfl, HR, Below.refl _ _⟩
    case round =>
      obtain ⟨k, hk, rfl, hall, hB⟩ := hrel
      obtain ⟨U, hU⟩ : ∃ U, U = wr := ⟨_, rfl⟩
      subst hU
      clear HR
      have zU := Blk.keep HZ.out hB.out
      have t0 := zU.cell 0
      have t1 := zU.cell 1
      simp at t0 t1
      have hTr := HT.out.keep (HB1.out.trans (hB.out.mono HB1.out.size))
      by_cases hkn : k < n
      · have hki : (k : Int) < (n : Int) := by omega
        have hk0 : (0 : Int) ≤ (k : Int) := by omega
        obtain ⟨r, hrk⟩ : ∃ r, rs[k]? = some r := ⟨_, List.getElem?_eq_getElem (by rw [hTr.len]; exact hkn)⟩
        obtain ⟨b, off, rfl, hlt, hc⟩ := RdI.lt hTr.rd (by intro h; rw [h] at hrk; simp at hrk)
        obtain ⟨x6, xr⟩ := hc k r hrk
        obtain ⟨x0, x1, x2, x3, x4, x5⟩ := x6
        have hall' := hall.out
        unfold linkedD at hall'
        rw [all_drop (x := r.D) _ (by rw [← HDS.out]; simp [hrk])] at hall'
        generalize r.D.ino = i1 at x0 hall'
        generalize r.D.kind = i2 at x1
        generalize r.D.links = i3 at x2 hall'
        generalize r.D.data.length = n1 at x3
        generalize r.D.ents.length = n2 at x4
        generalize r.D.attrs.length = n3 at x5
        obtain ⟨V, hV⟩ : ∃ V, U.alloc (.cells #[.int .i64 i1, .int .i64 i2, .int .i64 i3, .slice r.a1 n1 r.c1, .slice r.a2 n2 r.c2, .slice r.a3 n3 r.c3] 68) = V := ⟨_, rfl⟩
        have bx := Blk.new U 68 #[.int .i64 i1, .int .i64 i2, .int .i64 i3, .slice r.a1 n1 r.c1, .slice r.a2 n2 r.c2, .slice r.a3 n3 r.c3]
        have hbA : Below U.heap.size U (U.alloc (.cells #[.int .i64 i1, .int .i64 i2, .int .i64 i3, .slice r.a1 n1 r.c1, .slice r.a2 n2 r.c2, .slice r.a3 n3 r.c3] 68)) := (Below.refl _ U).alloc (Nat.le_refl _) _
        rw [hV] at bx hbA
        have zV := zU.keep hbA
        have hcK := linksI (some ⟨b, off, none⟩) n cap nx i1 rs V.drew (hTr.keep hbA.drew)
        rw [HDS.out] at hcK
        have hKK : Hid (∀ W : World, Below V.heap.size V W → W.cell? ⟨w.heap.size, 0, none⟩ = some (.slice (some ⟨b, off, none⟩) n cap) ∧ W.cell? ⟨w.heap.size, 1, none⟩ = some (.int .i64 nx) ∧ W.cell? ⟨U.heap.size, 0, none⟩ = some (.int .i64 i1) ∧ W.cell? ⟨U.heap.size, 2, none⟩ = some (.int .i64 i3)) := fun W hW => ⟨(zV.keep hW).cell 0, (zV.keep hW).cell 1, (bx.keep hW).cell 0, (bx.keep hW).cell 2⟩
        have HBA : Hid _ := hB.out.trans (hbA.mono hB.out.size)
        generalize linksD ds i1 = lk at hcK hall'
        clear hc hrk xr bx hbA hall hTr zU zV
        by_cases hlk : i3 = (lk : Int)
        · have hlb : (i3 != (lk : Int)) = false := by simp [hlk]
          have hlb' : (i3 == (lk : Int)) = true := by simp [hlk]
          rw [decide_eq_true hlk.symm, Bool.true_and] at hall'
          have hnx : Hid _ := hall'
          clear hlk hall'
          go_upto_region 6 with fail
          clear hV
          obtain ⟨g0, g1, g2, g3⟩ := hKK.out _ (Below.refl _ _)
          go_region_held3 (fun W : World => W.cell? ⟨w.heap.size, 0, none⟩ = some (.slice (some ⟨b, off, none⟩) n cap) ∧ W.cell? ⟨w.heap.size, 1, none⟩ = some (.int .i64 nx) ∧ W.cell? ⟨U.heap.size, 0, none⟩ = some (.int .i64 i1) ∧ W.cell? ⟨U.heap.size, 2, none⟩ = some (.int .i64 i3)) (go_keep) ((go_at_call 82; (with_reducible refine hcK.mono ?_); rintro e w2 ⟨rfl, hb2⟩; obtain ⟨p0, p1, p2, p3⟩ := hKK.out w2 ((Below.refl _ _).drew.trans hb2)))
          have hB2 : Hid (Below w1.heap.size w1 w2) := HBA.out.trans (((Below.refl _ _).drew.trans hb2).mono HBA.out.size)
          clear p0 p1 p2 p3 g0 g1 g2 g3 t0 t1 x0 x1 x2 x3 x4 x5 hcK hb2
          go_wp2
          go_roundw
          case rel => exact ⟨k + 1, by omega, by go_num, hnx, hB2⟩
          case measure => simp [intOf]; omega
        · have hlb : (i3 != (lk : Int)) = true := by simpa using hlk
          have hlb' : (i3 == (lk : Int)) = false := by simpa using hlk
          rw [decide_eq_false (fun h => hlk h.symm), Bool.false_and, Bool.false_and] at hall'
          have hend : Hid (false = R) := hall'
          clear hlk hall'
          go_upto_region 6 with fail
          clear hV
          obtain ⟨g0, g1, g2, g3⟩ := hKK.out _ (Below.refl _ _)
          go_region_held3 (fun W : World => W.cell? ⟨w.heap.size, 0, none⟩ = some (.slice (some ⟨b, off, none⟩) n cap) ∧ W.cell? ⟨w.heap.size, 1, none⟩ = some (.int .i64 nx) ∧ W.cell? ⟨U.heap.size, 0, none⟩ = some (.int .i64 i1) ∧ W.cell? ⟨U.heap.size, 2, none⟩ = some (.int .i64 i3)) (go_keep) ((go_at_call 82; (with_reducible refine hcK.mono ?_); rintro e w2 ⟨rfl, hb2⟩; obtain ⟨p0, p1, p2, p3⟩ := hKK.out w2 ((Below.refl _ _).drew.trans hb2)))
          have hB2 : Hid (Below w.heap.size w w2) := HB1.out.trans ((HBA.out.trans (((Below.refl _ _).drew.trans hb2).mono HBA.out.size)).mono HB1.out.size)
          clear p0 p1 p2 p3 g0 g1 g2 g3 t0 t1 x0 x1 x2 x3 x4 x5 hcK hb2
          go_wp2
          go_ret
          exact ⟨ret_bool hend.out, hB2.out⟩
      · have hki : ¬ (k : Int) < (n : Int) := by omega
        have hall' := hall.out
        rw [List.drop_of_length_le (by rw [hdl.out]; omega)] at hall'
        have hR2 : Hid ((decide ((reachD ds).length = n) && leadD ds) = R) := hall'
        clear hall hall'
        have HBU : Hid (Below w.heap.size w U) := HB1.out.trans (hB.out.mono HB1.out.size)
        have hcR := reachedI a n cap nx rs U.drew (hTr.keep (Below.refl _ _).drew) HW.out HE.out
        have HCL : Hid _ := fun (W : World) (hW : Below U.heap.size U W) => leadI a n cap nx rs W (hTr.keep hW) HW.out HE.out
        have HK : Hid (∀ W : World, Below U.heap.size U W → W.cell? ⟨w.heap.size, 0, none⟩ = some (.slice a n cap) ∧ W.cell? ⟨w.heap.size, 1, none⟩ = some (.int .i64 nx)) := fun W hW => ⟨(zU.keep hW).cell 0, (zU.keep hW).cell 1⟩
        rw [HDS.out] at hcR HCL
        clear hTr zU
        obtain ⟨m, hm⟩ : ∃ m, (reachD ds).length = m := ⟨_, rfl⟩
        have hcR' : Calls Tryz.prog 83 #[.agg #[.slice a n cap, .int .i64 nx]] U.drew fun e w' => ∃ a' c', e = .returned (.slice a' m c') ∧ Below U.heap.size U w' := by
          refine hcR.mono fun e w' hp => ?_
          obtain ⟨v, rfl, ho, hb⟩ := hp
          rw [hm] at ho
          obtain ⟨a', c', rfl⟩ := ownShape ho
          exact ⟨a', c', rfl, (Below.refl _ U).drew.trans hb⟩
        clear hcR
        rw [hm] at hR2
        clear hm
        by_cases hmn : m = n
        · have hmb : ((m : Int) != (n : Int)) = false := by simp [hmn]
          have hmb' : ((m : Int) == (n : Int)) = true := by simp [hmn]
          have hmi : (m : Int) = (n : Int) := by omega
          have hR3 := hR2.out
          rw [decide_eq_true hmn, Bool.true_and] at hR3
          have HR3 : Hid _ := hR3
          clear hR2 hR3 hmn
          go_upto_region 9 with fail
          refine wp_region_noPanic ?_
          refine wp_region_held_drew (S := fun W : World => W.cell? ⟨w.heap.size, 0, none⟩ = some (.slice a n cap) ∧ W.cell? ⟨w.heap.size, 1, none⟩ = some (.int .i64 nx)) (by kernel_rfl) (by go_keep) (fun hS => ?_)
          refine wpAnyH_take (i := 0) (v := ?gv1) rfl (by kernel_rfl) (by kernel_rfl) (by kernel_rfl) (fun _ _ _ h => h) (Or.inl ⟨by kernel_rfl, ?gy1⟩) (by assumption) ?gr1
          case gy1 => (intro w' hSw; (try dsimp only at hSw); go_simp; (try with_reducible rfl))
          try simp only [Act.put, List.setIfInBounds_toArray, List.set_cons_zero, List.set_cons_succ, List.getElem_toArray, List.getElem_cons_zero]
          refine wpAnyH_take (i := 3) (v := ?gv2) rfl (by kernel_rfl) (by kernel_rfl) (by kernel_rfl) (fun _ _ _ h => h) (Or.inl ⟨by kernel_rfl, ?gy2⟩) (by assumption) ?gr2
          case gy2 => (intro w' hSw; (try dsimp only at hSw); go_simp; (try with_reducible rfl))
          try simp only [Act.put, List.setIfInBounds_toArray, List.set_cons_zero, List.set_cons_succ, List.getElem_toArray, List.getElem_cons_succ, List.getElem_cons_zero]
          refine wpAnyH_take (i := 4) (v := ?gv3) rfl (by kernel_rfl) (by kernel_rfl) (by kernel_rfl) (fun _ _ _ h => h) (Or.inl ⟨by kernel_rfl, ?gy3⟩) (by assumption) ?gr3
          case gy3 => (intro w' hSw; (try dsimp only at hSw); go_simp; (try with_reducible rfl))
          try simp only [Act.put, List.setIfInBounds_toArray, List.set_cons_zero, List.set_cons_succ, List.getElem_toArray, List.getElem_cons_succ, List.getElem_cons_zero]
          refine wpAnyH_take (i := 5) (v := ?gv4) rfl (by kernel_rfl) (by kernel_rfl) (by kernel_rfl) (fun _ _ _ h => h) (Or.inl ⟨by kernel_rfl, ?gy4⟩) (by assumption) ?gr4
          case gy4 => (intro w' hSw; (try dsimp only at hSw); go_simp; (try with_reducible rfl))
          try simp only [Act.put, List.setIfInBounds_toArray, List.set_cons_zero, List.set_cons_succ, List.getElem_toArray, List.getElem_cons_succ, List.getElem_cons_zero]
          refine wpAnyH_ready (rs := [1]) (by kernel_rfl) (by simp) ?_
          refine AllReadyH.cons rfl (fun K hK => ?_) AllReadyH.nil
          go_simp
          go_at_call 83
          (with_reducible refine hcR'.mono ?_)
          rintro e w3 ⟨ra, rc, rfl, B3⟩
          clear hS
          dsimp only
          refine Shut.out hK _ _ (HK.out w3 B3) (fun hS => ?_)
          try simp only [Act.put, List.setIfInBounds_toArray, List.set_cons_zero, List.set_cons_succ, List.getElem_toArray, List.getElem_cons_succ, List.getElem_cons_zero]
          refine wpAnyH_take (i := 2) (v := ?gv5) rfl (by kernel_rfl) (by kernel_rfl) (by kernel_rfl) (fun _ _ _ h => h) (Or.inl ⟨by kernel_rfl, ?gy5⟩) (by assumption) ?gr5
          case gy5 => (intro w' hSw; (try dsimp only at hSw); go_simp; (try with_reducible rfl))
          try simp only [Act.put, List.setIfInBounds_toArray, List.set_cons_zero, List.set_cons_succ, List.getElem_toArray, List.getElem_cons_succ, List.getElem_cons_zero]
          refine wpAnyH_take (i := 6) (v := ?gv6) rfl (by kernel_rfl) (by kernel_rfl) (by kernel_rfl) (fun _ _ _ h => h) (Or.inl ⟨by kernel_rfl, ?gy6⟩) (by assumption) ?gr6
          case gy6 => (intro w' hSw; (try dsimp only at hSw); go_simp; (try with_reducible rfl))
          try simp only [Act.put, List.setIfInBounds_toArray, List.set_cons_zero, List.set_cons_succ, List.getElem_toArray, List.getElem_cons_succ, List.getElem_cons_zero]
          refine wpAnyH_take (i := 7) (v := ?gv7) rfl (by kernel_rfl) (by kernel_rfl) (by kernel_rfl) (fun _ _ _ h => h) (Or.inl ⟨by kernel_rfl, ?gy7⟩) (by assumption) ?gr7
          case gy7 => (intro w' hSw; (try dsimp only at hSw); go_simp; (try with_reducible rfl))
          try simp only [Act.put, List.setIfInBounds_toArray, List.set_cons_zero, List.set_cons_succ, List.getElem_toArray, List.getElem_cons_succ, List.getElem_cons_zero]
          refine wpAnyH_take (i := 8) (v := ?gv8) rfl (by kernel_rfl) (by kernel_rfl) (by kernel_rfl) (fun _ _ _ h => h) (Or.inl ⟨by kernel_rfl, ?gy8⟩) (by assumption) ?gr8
          case gy8 => (intro w' hSw; (try dsimp only at hSw); go_simp; (try with_reducible rfl))
          try simp only [Act.put, List.setIfInBounds_toArray, List.set_cons_zero, List.set_cons_succ, List.getElem_toArray, List.getElem_cons_succ, List.getElem_cons_zero]
          refine wpAnyH_ready (rs := [9]) (by kernel_rfl) (by simp) ?_
          refine AllReadyH.cons rfl (fun K hK => ?_) AllReadyH.nil
          go_simp
          go_at_call 84
          (with_reducible refine (HCL.out w3 B3).mono ?_)
          rintro e w4 ⟨rfl, b4⟩
          have B4 : Below U.heap.size U w4 := B3.trans (b4.mono B3.size)
          clear hS
          dsimp only
          refine Shut.out hK _ _ (HK.out w4 B4) (fun hS => ?_)
          try simp only [Act.put, List.setIfInBounds_toArray, List.set_cons_zero, List.set_cons_succ, List.getElem_toArray, List.getElem_cons_succ, List.getElem_cons_zero]
          refine wpAnyH_take (i := 10) (v := ?gv9) rfl (by kernel_rfl) (by kernel_rfl) (by kernel_rfl) (fun _ _ _ h => h) (Or.inl ⟨by kernel_rfl, ?gy9⟩) (by assumption) ?gr9
          case gy9 => (intro w' hSw; (try dsimp only at hSw); go_simp; (try with_reducible rfl))
          try simp only [Act.put, List.setIfInBounds_toArray, List.set_cons_zero, List.set_cons_succ, List.getElem_toArray, List.getElem_cons_succ, List.getElem_cons_zero]
          refine wpAnyH_take (i := 11) (v := ?gv10) rfl (by kernel_rfl) (by kernel_rfl) (by kernel_rfl) (fun _ _ _ h => h) (Or.inl ⟨by kernel_rfl, ?gy10⟩) (by assumption) ?gr10
          case gy10 => (intro w' hSw; (try dsimp only at hSw); go_simp; (try with_reducible rfl))
          try simp only [Act.put, List.setIfInBounds_toArray, List.set_cons_zero, List.set_cons_succ, List.getElem_toArray, List.getElem_cons_succ, List.getElem_cons_zero]
          refine wpAnyH_done (by kernel_rfl) (NoPanic.normal ?_) _
          clear t0 t1 hcR'
          have hfb : Hid _ := HBU.out.trans (B4.mono HBU.out.size)
          go_wp2
          go_ret
          exact ⟨ret_bool HR3.out, hfb.out⟩
        · have hmb : ((m : Int) != (n : Int)) = true := by simp; omega
          have hmb' : ((m : Int) == (n : Int)) = false := by simp; omega
          have hmi : ¬ (m : Int) = (n : Int) := by omega
          have hR3 := hR2.out
          rw [decide_eq_false hmn, Bool.false_and] at hR3
          have HR3 : Hid (false = R) := hR3
          clear hR2 hR3 hmn
          go_upto_region 9 with fail
          refine wp_region_noPanic ?_
          refine wp_region_held_drew (S := fun W : World => W.cell? ⟨w.heap.size, 0, none⟩ = some (.slice a n cap) ∧ W.cell? ⟨w.heap.size, 1, none⟩ = some (.int .i64 nx)) (by kernel_rfl) (by go_keep) (fun hS => ?_)
          refine wpAnyH_take (i := 0) (v := ?gv11) rfl (by kernel_rfl) (by kernel_rfl) (by kernel_rfl) (fun _ _ _ h => h) (Or.inl ⟨by kernel_rfl, ?gy11⟩) (by assumption) ?gr11
          case gy11 => (intro w' hSw; (try dsimp only at hSw); go_simp; (try with_reducible rfl))
          try simp only [Act.put, List.setIfInBounds_toArray, List.set_cons_zero, List.set_cons_succ, List.getElem_toArray, List.getElem_cons_zero]
          refine wpAnyH_take (i := 3) (v := ?gv12) rfl (by kernel_rfl) (by kernel_rfl) (by kernel_rfl) (fun _ _ _ h => h) (Or.inl ⟨by kernel_rfl, ?gy12⟩) (by assumption) ?gr12
          case gy12 => (intro w' hSw; (try dsimp only at hSw); go_simp; (try with_reducible rfl))
          try simp only [Act.put, List.setIfInBounds_toArray, List.set_cons_zero, List.set_cons_succ, List.getElem_toArray, List.getElem_cons_succ, List.getElem_cons_zero]
          refine wpAnyH_take (i := 4) (v := ?gv13) rfl (by kernel_rfl) (by kernel_rfl) (by kernel_rfl) (fun _ _ _ h => h) (Or.inl ⟨by kernel_rfl, ?gy13⟩) (by assumption) ?gr13
          case gy13 => (intro w' hSw; (try dsimp only at hSw); go_simp; (try with_reducible rfl))
          try simp only [Act.put, List.setIfInBounds_toArray, List.set_cons_zero, List.set_cons_succ, List.getElem_toArray, List.getElem_cons_succ, List.getElem_cons_zero]
          refine wpAnyH_take (i := 5) (v := ?gv14) rfl (by kernel_rfl) (by kernel_rfl) (by kernel_rfl) (fun _ _ _ h => h) (Or.inl ⟨by kernel_rfl, ?gy14⟩) (by assumption) ?gr14
          case gy14 => (intro w' hSw; (try dsimp only at hSw); go_simp; (try with_reducible rfl))
          try simp only [Act.put, List.setIfInBounds_toArray, List.set_cons_zero, List.set_cons_succ, List.getElem_toArray, List.getElem_cons_succ, List.getElem_cons_zero]
          refine wpAnyH_ready (rs := [1]) (by kernel_rfl) (by simp) ?_
          refine AllReadyH.cons rfl (fun K hK => ?_) AllReadyH.nil
          go_simp
          go_at_call 83
          (with_reducible refine hcR'.mono ?_)
          rintro e w3 ⟨ra, rc, rfl, B3⟩
          clear hS
          dsimp only
          refine Shut.out hK _ _ (HK.out w3 B3) (fun hS => ?_)
          try simp only [Act.put, List.setIfInBounds_toArray, List.set_cons_zero, List.set_cons_succ, List.getElem_toArray, List.getElem_cons_succ, List.getElem_cons_zero]
          refine wpAnyH_take (i := 2) (v := ?gv15) rfl (by kernel_rfl) (by kernel_rfl) (by kernel_rfl) (fun _ _ _ h => h) (Or.inl ⟨by kernel_rfl, ?gy15⟩) (by assumption) ?gr15
          case gy15 => (intro w' hSw; (try dsimp only at hSw); go_simp; (try with_reducible rfl))
          try simp only [Act.put, List.setIfInBounds_toArray, List.set_cons_zero, List.set_cons_succ, List.getElem_toArray, List.getElem_cons_succ, List.getElem_cons_zero]
          refine wpAnyH_take (i := 6) (v := ?gv16) rfl (by kernel_rfl) (by kernel_rfl) (by kernel_rfl) (fun _ _ _ h => h) (Or.inl ⟨by kernel_rfl, ?gy16⟩) (by assumption) ?gr16
          case gy16 => (intro w' hSw; (try dsimp only at hSw); go_simp; (try with_reducible rfl))
          try simp only [Act.put, List.setIfInBounds_toArray, List.set_cons_zero, List.set_cons_succ, List.getElem_toArray, List.getElem_cons_succ, List.getElem_cons_zero]
          refine wpAnyH_take (i := 7) (v := ?gv17) rfl (by kernel_rfl) (by kernel_rfl) (by kernel_rfl) (fun _ _ _ h => h) (Or.inl ⟨by kernel_rfl, ?gy17⟩) (by assumption) ?gr17
          case gy17 => (intro w' hSw; (try dsimp only at hSw); go_simp; (try with_reducible rfl))
          try simp only [Act.put, List.setIfInBounds_toArray, List.set_cons_zero, List.set_cons_succ, List.getElem_toArray, List.getElem_cons_succ, List.getElem_cons_zero]
          refine wpAnyH_take (i := 8) (v := undef) rfl (by kernel_rfl) (by kernel_rfl) (by kernel_rfl) (fun _ _ _ h => h) (Or.inr ⟨by kernel_rfl, rfl⟩) (by assumption) ?_
          try simp only [Act.put, List.setIfInBounds_toArray, List.set_cons_zero, List.set_cons_succ, List.getElem_toArray, List.getElem_cons_succ, List.getElem_cons_zero]
          refine wpAnyH_take (i := 9) (v := undef) rfl (by kernel_rfl) (by kernel_rfl) (by kernel_rfl) (fun _ _ _ h => h) (Or.inr ⟨by kernel_rfl, rfl⟩) (by assumption) ?_
          try simp only [Act.put, List.setIfInBounds_toArray, List.set_cons_zero, List.set_cons_succ, List.getElem_toArray, List.getElem_cons_succ, List.getElem_cons_zero]
          refine wpAnyH_take (i := 10) (v := ?gv18) rfl (by kernel_rfl) (by kernel_rfl) (by kernel_rfl) (fun _ _ _ h => h) (Or.inl ⟨by kernel_rfl, ?gy18⟩) (by assumption) ?gr18
          case gy18 => (intro w' hSw; (try dsimp only at hSw); go_simp; (try with_reducible rfl))
          try simp only [Act.put, List.setIfInBounds_toArray, List.set_cons_zero, List.set_cons_succ, List.getElem_toArray, List.getElem_cons_succ, List.getElem_cons_zero]
          refine wpAnyH_take (i := 11) (v := ?gv19) rfl (by kernel_rfl) (by kernel_rfl) (by kernel_rfl) (fun _ _ _ h => h) (Or.inl ⟨by kernel_rfl, ?gy19⟩) (by assumption) ?gr19
          case gy19 => (intro w' hSw; (try dsimp only at hSw); go_simp; (try with_reducible rfl))
          try simp only [Act.put, List.setIfInBounds_toArray, List.set_cons_zero, List.set_cons_succ, List.getElem_toArray, List.getElem_cons_succ, List.getElem_cons_zero]
          refine wpAnyH_done (by kernel_rfl) (NoPanic.normal ?_) _
          clear t0 t1 hcR'
          have hfb : Hid _ := HBU.out.trans (B3.mono HBU.out.size)
          go_wp2
          go_ret
          exact ⟨ret_bool HR3.out, hfb.out⟩
end

section
open Go.RowKit
/-- What is known of the inodes of a tree. -/
theorem tree_facts {nx : Int} {rs : List InoR} (h : treeD nx (rs.map InoR.D) = true) : (∀ r ∈ rs, r.D.kind = 1 ∨ r.D.kind = 2) ∧ (∀ r ∈ rs, (Lit.int .i64 r.D.ino).wf = true) ∧ ∀ r ∈ rs, ∀ e ∈ r.D.ents, (Lit.int .i64 e.2).wf = true := by
  have h1 := (treeD_parts h).1
  refine ⟨fun r hr => ?_, fun r hr => ?_, fun r hr => tab_wf h1 r.D (List.mem_map_of_mem hr)⟩
  · have h2 := ((tabD_ok h1).2.2.2.2.1 r.D (List.mem_map_of_mem hr)).1
    have h3 := (ok_parts h2).2.2.2.1
    unfold kindR at h3
    simp only [Bool.or_eq_true, Bool.and_eq_true, decide_eq_true_eq] at h3
    rcases h3 with h3 | h3
    · exact .inl h3.1
    · exact .inr h3.1
  · have h2 := ((tabD_ok h1).2.2.2.2.1 r.D (List.mem_map_of_mem hr)).1
    unfold inoOk at h2
    simp only [Bool.and_eq_true, decide_eq_true_eq] at h2
    have h3 := h2.1.1.1.1.1.1
    obtain ⟨k, hk⟩ : ∃ k : Nat, r.D.ino = (k : Int) := ⟨r.D.ino.toNat, by omega⟩
    rw [hk]
    exact WalkArith.wf_i64 (by omega)
/-- What a method answers: a table and a code as an error. -/
def EMeth (w : World) (nx : Int) (ds : List InoD) (c : Int) (e : Ending) (w' : World) : Prop :=
  ∃ (ra : Option Addr) (rn rc : Nat) (rx : Int), e = .returned (.tuple #[.agg #[.slice ra rn rc, .int .i64 rx], errV c]) ∧ Below w.heap.size w w' ∧ (c = 0 → TabAt w nx ds (.agg #[.slice ra rn rc, .int .i64 rx]) w')
theorem copyT {w W V : World} {n : Nat} {nx : Int} {rs : List InoR} {e : Ending} {R : Nat} {u0 u1 : Value} (h : CopyTPost W n nx rs e V) (hb : Below w.heap.size w W) (hR : w.heap.size ≤ R) (hz : Blk W R 47 #[u0, u1]) : ∃ (g : Nat), e = .returned (.agg #[.slice (some ⟨g, 0, none⟩) n n, .int .i64 nx]) ∧ Below W.heap.size W V ∧ ∀ (V' : World), Below V.heap.size V V' → ∀ c : Int, TabC w nx (rs.map InoR.D) c (.returned (.tuple #[.agg #[.slice (some ⟨g, 0, none⟩) n n, .int .i64 nx], .int .i64 c])) ((V'.setCell ⟨R, 0, none⟩ (.slice (some ⟨g, 0, none⟩) n n)).setCell ⟨R, 1, none⟩ (.int .i64 nx)) := by
  obtain ⟨g, js, rfl, hl, hq, hbV⟩ := h
  refine ⟨g, rfl, hbV, fun V' hV' c => ?_⟩
  have h1 := ((hq.dqa.keep hV').cong (ds' := (rs.map InoR.D).map lift) (by rw [lift_map])).boxed ((hb.trans (hbV.mono hb.size)).trans (hV'.mono (by have := hb.size; have := hbV.size; omega))) hR hz.lt (.slice (some ⟨g, 0, none⟩) n n) (.int .i64 nx)
  refine ⟨some ⟨g, 0, none⟩, n, js, ?_, ?_, h1.2⟩
  · rw [hl]
  · rw [hl]
    exact h1.1
theorem methT {w W V : World} {nx : Int} {ds : List InoD} {v0 v1 : Value} {R : Nat} {u0 u1 : Value} (h : TabAt W nx ds (.agg #[v0, v1]) V) (hb : Below w.heap.size w W) (hR : w.heap.size ≤ R) (hz : Blk W R 47 #[u0, u1]) : ∀ (V' : World), Below V.heap.size V V' → TabC w nx ds 0 (.returned (.tuple #[.agg #[v0, v1], .int .i64 0])) ((V'.setCell ⟨R, 0, none⟩ v0).setCell ⟨R, 1, none⟩ v1) := by
  obtain ⟨a, c, js, hv, hq, hbV⟩ := h
  intro V' hV'
  have h1 := (hq.keep hV').boxed ((hb.trans (hbV.mono hb.size)).trans (hV'.mono (by have := hb.size; have := hbV.size; omega))) hR hz.lt v0 v1
  exact ⟨a, c, js, by rw [hv], h1.1, h1.2⟩
/-- What is known behind the method's call: its table in a box of the call's own. -/
structure CHR (w1 : World) (nx : Int) (ds : List InoD) (c : Int) (A : Nat) (v0 v1 : Value) (wx : World) : Prop where
  lo : w1.heap.size ≤ A
  z : Blk wx A 47 #[v0, v1]
  b : Below w1.heap.size w1 wx
  tab : c = 0 → TabAt w1 nx ds (.agg #[v0, v1]) wx
theorem chr_new {w1 W V : World} {nx : Int} {ds : List InoD} {c : Int} {v0 v1 : Value} (B : Below w1.heap.size w1 V) (_b : Below W.heap.size W V) (hl : w1.heap.size ≤ W.heap.size) (t : c = 0 → TabAt W nx ds (.agg #[v0, v1]) V) : CHR w1 nx ds c V.heap.size v0 v1 (V.alloc (.cells #[v0, v1] 47)) := by
  refine ⟨B.size, Blk.new V _ _, B.alloc B.size _, fun h => ?_⟩
  obtain ⟨a, cc, js, hv, hq, _⟩ := t h
  exact ⟨a, cc, js, hv, (hq.keep ((Below.refl _ V).alloc (Nat.le_refl _) _)).lower hl, B.alloc B.size _⟩
theorem chr_old {w1 W V : World} {nx : Int} {ds : List InoD} {c : Int} {v0 v1 u0 u1 : Value} {A : Nat} (B : Below w1.heap.size w1 V) (hA : w1.heap.size ≤ A) (z : Blk V A 47 #[u0, u1]) (hW : A < W.heap.size) (t : c = 0 → TabAt W nx ds (.agg #[v0, v1]) V) : CHR w1 nx ds c A v0 v1 ((V.setCell ⟨A, 0, none⟩ v0).setCell ⟨A, 1, none⟩ v1) := by
  have hb := (B.setCell (p := ⟨A, 0, none⟩) hA v0).setCell (p := ⟨A, 1, none⟩) hA v1
  refine ⟨hA, blk2 z v0 v1, hb, fun h => ?_⟩
  obtain ⟨a, cc, js, hv, hq, _⟩ := t h
  exact ⟨a, cc, js, hv, ((hq.setX hW 0 v0).setX hW 1 v1).lower (by omega), hb⟩
theorem changesI (w : World) : Calls Tryz.prog 110 #[] w fun e w' => e = .returned (.agg #[.func (.func 154) #[] #[], .func (.func 155) #[] #[], .func (.func 156) #[] #[], .func (.func 157) #[] #[], .func (.func 158) #[] #[], .func (.func 159) #[] #[], .func (.func 160) #[] #[], .func (.func 161) #[] #[], .func (.func 162) #[] #[]]) ∧ Below w.heap.size w w' := by
  have hend : Hid (Below w.heap.size w (w.alloc (.cells #[.func (.func 154) #[] #[], .func (.func 155) #[] #[], .func (.func 156) #[] #[], .func (.func 157) #[] #[], .func (.func 158) #[] #[], .func (.func 159) #[] #[], .func (.func 160) #[] #[], .func (.func 161) #[] #[], .func (.func 162) #[] #[]] 151))) := (Below.refl _ w).alloc (Nat.le_refl _) _
  have zf := Blk.new w 151 #[.func (.func 154) #[] #[], .func (.func 155) #[] #[], .func (.func 156) #[] #[], .func (.func 157) #[] #[], .func (.func 158) #[] #[], .func (.func 159) #[] #[], .func (.func 160) #[] #[], .func (.func 161) #[] #[], .func (.func 162) #[] #[]]
  go_enter Tryz.func110, Tryz.ntmps110
  have hsf := fun (F : Nat) (a : Addr) (w : World) => run_store Tryz.prog w a (.func (.func F) #[] #[]) .plain rfl
  have d0 := zf.cell 0
  have d1 := zf.cell 1
  have d2 := zf.cell 2
  have d3 := zf.cell 3
  have d4 := zf.cell 4
  have d5 := zf.cell 5
  have d6 := zf.cell 6
  have d7 := zf.cell 7
  have d8 := zf.cell 8
  simp at d0 d1 d2 d3 d4 d5 d6 d7 d8
  clear zf
  go_wp2
  refine bodyPost_ret (v := .agg #[.func (.func 154) #[] #[], .func (.func 155) #[] #[], .func (.func 156) #[] #[], .func (.func 157) #[] #[], .func (.func 158) #[] #[], .func (.func 159) #[] #[], .func (.func 160) #[] #[], .func (.func 161) #[] #[], .func (.func 162) #[] #[]]) (by simp [results, Tryz.f110, go_sem]) rfl ?_
  exact ⟨rfl, hend.out⟩
end

section
open Go.RowKit
/-- The inode of a path, but one of this kind. -/
def badK (k : Int) (ds : List InoD) (s : ByteArray) : InoD × Int := if (statD ds s).2 = 0 ∧ (statD ds s).1.kind = k then (inoZ.D, 3) else statD ds s
theorem badK_file {ds : List InoD} (h : ∀ D ∈ ds, D.kind = 1 ∨ D.kind = 2) (s : ByteArray) : badK 2 ds s = fileD ds s := by
  unfold badK fileD
  by_cases h0 : (statD ds s).2 = 0
  · have hm : (statD ds s).1 ∈ ds := by
      revert h0
      unfold statD
      split
      · split
        · intro h; simp at h
        · rename_i D hD
          intro _
          exact (look_mem hD).1
      · rename_i hc
        intro h
        exact absurd h hc
    have hk := h _ hm
    by_cases h2 : (statD ds s).1.kind = 2
    · rw [if_pos ⟨h0, h2⟩, if_pos ⟨h0, by omega⟩]
    · rw [if_neg (fun c => h2 c.2), if_neg (fun c => h2 (by omega))]
  · rw [if_neg (fun c => h0 c.1), if_neg (fun c => h0 c.1)]
set_option maxRecDepth 100000 in
set_option maxHeartbeats 4000000 in
theorem fileI (a : Option Addr) (n cap : Nat) (nx : Int) (rs : List InoR) (s : ByteArray) (w : World) (ht : TR w a n rs) (hK : ∀ r ∈ rs, r.D.kind = 1 ∨ r.D.kind = 2) (hwf : ∀ r ∈ rs, (Lit.int .i64 r.D.ino).wf = true) (hwe : ∀ r ∈ rs, ∀ e ∈ r.D.ents, (Lit.int .i64 e.2).wf = true) (hs : s.size ≤ 4000000) :
    Calls Tryz.prog 205 #[.agg #[.slice a n cap, .int .i64 nx], .string s] w fun e w' => EStat w (badK 2 (rs.map InoR.D) s).1 (badK 2 (rs.map InoR.D) s).2 e w' := by
  have B0 : Below w.heap.size w ((w.alloc (.cells #[.slice a n cap, .int .i64 nx] 47)).alloc (.cells #[.int .i64 0, .int .i64 0, .int .i64 0, .slice none 0 0, .slice none 0 0, .slice none 0 0] 68)) := ((Below.refl _ w).alloc (Nat.le_refl _) _).alloc (by simp) _
  have zT : Blk ((w.alloc (.cells #[.slice a n cap, .int .i64 nx] 47)).alloc (.cells #[.int .i64 0, .int .i64 0, .int .i64 0, .slice none 0 0, .slice none 0 0, .slice none 0 0] 68)) w.heap.size 47 #[.slice a n cap, .int .i64 nx] := (Blk.new w _ _).alloc _
  have zR := Blk.new (w.alloc (.cells #[.slice a n cap, .int .i64 nx] 47)) 68 #[.int .i64 0, .int .i64 0, .int .i64 0, .slice none 0 0, .slice none 0 0, .slice none 0 0]
  simp only [World.size_alloc] at zR
  obtain ⟨D, c, hDc⟩ : ∃ D c, statD (rs.map InoR.D) s = (D, c) := ⟨_, _, rfl⟩
  have hp : Hid (∀ (e : Ending) (w' : World) (E : InoD) (q : Int), (if c = 0 ∧ D.kind = 2 then (inoZ.D, (3 : Int)) else (D, c)) = (E, q) → EStat w E q e w' → EStat w (badK 2 (rs.map InoR.D) s).1 (badK 2 (rs.map InoR.D) s).2 e w') := fun e w' E q h hh => by
    unfold badK
    rw [hDc]
    dsimp only
    rw [h]
    exact hh
  generalize EStat w (badK 2 (rs.map InoR.D) s).1 (badK 2 (rs.map InoR.D) s).2 = P at hp ⊢
  go_enter Tryz.func205, Tryz.ntmps205
  go_wp2_with fail
  obtain ⟨W0, hW0⟩ : ∃ W, ((w.alloc (.cells #[.slice a n cap, .int .i64 nx] 47)).alloc (.cells #[.int .i64 0, .int .i64 0, .int .i64 0, .slice none 0 0, .slice none 0 0, .slice none 0 0] 68)) = W := ⟨_, rfl⟩
  rw [hW0] at B0 zT zR ⊢
  clear hW0
  have hcS := statI a n cap nx rs s W0 (ht.keep B0) hK hwf hwe hs
  rw [hDc] at hcS
  dsimp only at hcS
  clear hDc zT ht
  (with_reducible refine hcS.mono ?_)
  rintro e w2 ⟨b1, d1, b2, d2, b3, d3, rfl, g2, bb2⟩
  clear hcS
  have zr := zR.keep bb2
  have hb2 := B0.trans (bb2.mono B0.size)
  have hs1 : w.heap.size + 1 < W0.heap.size := zR.lt
  have z3 := zr.alloc (.cells #[.int .i64 D.ino, .int .i64 D.kind, .int .i64 D.links, .slice b1 D.data.length d1, .slice b2 D.ents.length d2, .slice b3 D.attrs.length d3] 68)
  have hb3 := hb2.alloc hb2.size (.cells #[.int .i64 D.ino, .int .i64 D.kind, .int .i64 D.links, .slice b1 D.data.length d1, .slice b2 D.ents.length d2, .slice b3 D.attrs.length d3] 68)
  have zX := Blk.new w2 68 #[.int .i64 D.ino, .int .i64 D.kind, .int .i64 D.links, .slice b1 D.data.length d1, .slice b2 D.ents.length d2, .slice b3 D.attrs.length d3]
  have g3 := (g2.keep (Nat.le_refl _) ((Below.refl _ w2).alloc (Nat.le_refl _) (.cells #[.int .i64 D.ino, .int .i64 D.kind, .int .i64 D.links, .slice b1 D.data.length d1, .slice b2 D.ents.length d2, .slice b3 D.attrs.length d3] 68))).wider (T' := (w2.alloc (.cells #[.int .i64 D.ino, .int .i64 D.kind, .int .i64 D.links, .slice b1 D.data.length d1, .slice b2 D.ents.length d2, .slice b3 D.attrs.length d3] 68)).heap.size) (Nat.le_refl _) (by simp)
  obtain ⟨t0, t1, t2, t3, t4, t5⟩ := z3.six
  have fz0 := z3.frozen 0
  have fz1 := z3.frozen 1
  have fz2 := z3.frozen 2
  have fz3 := z3.frozen 3
  have fz4 := z3.frozen 4
  have fz5 := z3.frozen 5
  obtain ⟨x0, x1, x2, x3, x4, x5⟩ := zX.six
  obtain ⟨W3, hW3⟩ : ∃ W, w2.alloc (.cells #[.int .i64 D.ino, .int .i64 D.kind, .int .i64 D.links, .slice b1 D.data.length d1, .slice b2 D.ents.length d2, .slice b3 D.attrs.length d3] 68) = W := ⟨_, rfl⟩
  have HZ3 : Hid _ := z3
  have HB3 : Hid _ := hb3
  have HG3 : Hid _ := g3
  rw [hW3] at HZ3 HB3 HG3 t0 t1 t2 t3 t4 t5 fz0 fz1 fz2 fz3 fz4 fz5 x0 x1 x2 x3 x4 x5
  have hfin : Hid ((if c = 0 ∧ D.kind = 2 then (inoZ.D, (3 : Int)) else (D, c)) = (D, c) → P (.returned (.tuple #[.agg #[.int .i64 D.ino, .int .i64 D.kind, .int .i64 D.links, .slice b1 D.data.length d1, .slice b2 D.ents.length d2, .slice b3 D.attrs.length d3], errV c])) ((((((W3.setCell ⟨w.heap.size + 1, 0, none⟩ (.int .i64 D.ino)).setCell ⟨w.heap.size + 1, 1, none⟩ (.int .i64 D.kind)).setCell ⟨w.heap.size + 1, 2, none⟩ (.int .i64 D.links)).setCell ⟨w.heap.size + 1, 3, none⟩ (.slice b1 D.data.length d1)).setCell ⟨w.heap.size + 1, 4, none⟩ (.slice b2 D.ents.length d2)).setCell ⟨w.heap.size + 1, 5, none⟩ (.slice b3 D.attrs.length d3))) := fun h => by
    have hf := at_stored HB3.out HG3.out HZ3.out hs1 (.int .i64 D.ino) (.int .i64 D.kind) (.int .i64 D.links) (.slice b1 D.data.length d1) (.slice b2 D.ents.length d2) (.slice b3 D.attrs.length d3)
    exact hp.out _ _ _ _ h ⟨b1, d1, b2, d2, b3, d3, rfl, hf.1, hf.2⟩
  have HF : Hid _ := blk6 HZ3.out (.int .i64 D.ino) (.int .i64 D.kind) (.int .i64 D.links) (.slice b1 D.data.length d1) (.slice b2 D.ents.length d2) (.slice b3 D.attrs.length d3)
  clear z3 hb3 g3 zr hb2 g2 bb2 zX zR B0
  by_cases hc0 : c = 0
  · subst hc0
    rw [errV_zero]
    by_cases hk : D.kind = 2
    · have hkb : (D.kind == 2) = true := by simp [hk]
      have HE : Hid ((if (0 : Int) = 0 ∧ D.kind = 2 then (inoZ.D, (3 : Int)) else (D, 0)) = (inoZ.D, 3)) := if_pos ⟨rfl, hk⟩
      have HEE : Hid _ := HE
      clear hk
      go_wp2
      have zf := blk6 HZ3.out (.int .i64 0) (.int .i64 0) (.int .i64 0) (.slice none 0 0) (.slice none 0 0) (.slice none 0 0)
      obtain ⟨dd0, dd1, dd2, dd3, dd4, dd5⟩ := zf.six
      refine bodyPost_ret (v := .tuple #[.agg #[.int .i64 0, .int .i64 0, .int .i64 0, .slice none 0 0, .slice none 0 0, .slice none 0 0], .iface 139 (.int .i64 3)]) (by simp [results, Tryz.f205, go_sem, dd0, dd1, dd2, dd3, dd4, dd5]) rfl ?_
      exact hp.out _ _ _ _ HEE.out (eStat_zero rfl (at_stored HB3.out (inoG_zero W3 (w.heap.size + 1 + 1) W3.heap.size) HZ3.out (Nat.lt_succ_self _) _ _ _ _ _ _).2)
    · have hkb : (D.kind == 2) = false := by simpa using hk
      have HE : Hid _ := hfin.out (if_neg (by simp [hk]))
      clear hk
      go_wp2
      obtain ⟨dd0, dd1, dd2, dd3, dd4, dd5⟩ := Blk.six HF.out
      refine bodyPost_ret (v := .tuple #[.agg #[.int .i64 D.ino, .int .i64 D.kind, .int .i64 D.links, .slice b1 D.data.length d1, .slice b2 D.ents.length d2, .slice b3 D.attrs.length d3], .nilIface]) (by simp [results, Tryz.f205, go_sem, dd0, dd1, dd2, dd3, dd4, dd5]) rfl ?_
      exact HE.out
  · have HE : Hid _ := hfin.out (if_neg (by simp [hc0]))
    rw [errV_some hc0] at HE ⊢
    clear hc0
    go_wp2
    obtain ⟨dd0, dd1, dd2, dd3, dd4, dd5⟩ := Blk.six HF.out
    refine bodyPost_ret (v := .tuple #[.agg #[.int .i64 D.ino, .int .i64 D.kind, .int .i64 D.links, .slice b1 D.data.length d1, .slice b2 D.ents.length d2, .slice b3 D.attrs.length d3], .iface 139 (.int .i64 c)]) (by simp [results, Tryz.f205, go_sem, dd0, dd1, dd2, dd3, dd4, dd5]) rfl ?_
    exact HE.out
set_option maxRecDepth 100000 in
set_option maxHeartbeats 4000000 in
theorem dirI (a : Option Addr) (n cap : Nat) (nx : Int) (rs : List InoR) (s : ByteArray) (w : World) (ht : TR w a n rs) (hK : ∀ r ∈ rs, r.D.kind = 1 ∨ r.D.kind = 2) (hwf : ∀ r ∈ rs, (Lit.int .i64 r.D.ino).wf = true) (hwe : ∀ r ∈ rs, ∀ e ∈ r.D.ents, (Lit.int .i64 e.2).wf = true) (hs : s.size ≤ 4000000) :
    Calls Tryz.prog 211 #[.agg #[.slice a n cap, .int .i64 nx], .string s] w fun e w' => EStat w (badK 1 (rs.map InoR.D) s).1 (badK 1 (rs.map InoR.D) s).2 e w' := by
  have B0 : Below w.heap.size w ((w.alloc (.cells #[.slice a n cap, .int .i64 nx] 47)).alloc (.cells #[.int .i64 0, .int .i64 0, .int .i64 0, .slice none 0 0, .slice none 0 0, .slice none 0 0] 68)) := ((Below.refl _ w).alloc (Nat.le_refl _) _).alloc (by simp) _
  have zT : Blk ((w.alloc (.cells #[.slice a n cap, .int .i64 nx] 47)).alloc (.cells #[.int .i64 0, .int .i64 0, .int .i64 0, .slice none 0 0, .slice none 0 0, .slice none 0 0] 68)) w.heap.size 47 #[.slice a n cap, .int .i64 nx] := (Blk.new w _ _).alloc _
  have zR := Blk.new (w.alloc (.cells #[.slice a n cap, .int .i64 nx] 47)) 68 #[.int .i64 0, .int .i64 0, .int .i64 0, .slice none 0 0, .slice none 0 0, .slice none 0 0]
  simp only [World.size_alloc] at zR
  obtain ⟨D, c, hDc⟩ : ∃ D c, statD (rs.map InoR.D) s = (D, c) := ⟨_, _, rfl⟩
  have hp : Hid (∀ (e : Ending) (w' : World) (E : InoD) (q : Int), (if c = 0 ∧ D.kind = 1 then (inoZ.D, (3 : Int)) else (D, c)) = (E, q) → EStat w E q e w' → EStat w (badK 1 (rs.map InoR.D) s).1 (badK 1 (rs.map InoR.D) s).2 e w') := fun e w' E q h hh => by
    unfold badK
    rw [hDc]
    dsimp only
    rw [h]
    exact hh
  generalize EStat w (badK 1 (rs.map InoR.D) s).1 (badK 1 (rs.map InoR.D) s).2 = P at hp ⊢
  go_enter Tryz.func211, Tryz.ntmps211
  go_wp2_with fail
  obtain ⟨W0, hW0⟩ : ∃ W, ((w.alloc (.cells #[.slice a n cap, .int .i64 nx] 47)).alloc (.cells #[.int .i64 0, .int .i64 0, .int .i64 0, .slice none 0 0, .slice none 0 0, .slice none 0 0] 68)) = W := ⟨_, rfl⟩
  rw [hW0] at B0 zT zR ⊢
  clear hW0
  have hcS := statI a n cap nx rs s W0 (ht.keep B0) hK hwf hwe hs
  rw [hDc] at hcS
  dsimp only at hcS
  clear hDc zT ht
  (with_reducible refine hcS.mono ?_)
  rintro e w2 ⟨b1, d1, b2, d2, b3, d3, rfl, g2, bb2⟩
  clear hcS
  have zr := zR.keep bb2
  have hb2 := B0.trans (bb2.mono B0.size)
  have hs1 : w.heap.size + 1 < W0.heap.size := zR.lt
  have z3 := zr.alloc (.cells #[.int .i64 D.ino, .int .i64 D.kind, .int .i64 D.links, .slice b1 D.data.length d1, .slice b2 D.ents.length d2, .slice b3 D.attrs.length d3] 68)
  have hb3 := hb2.alloc hb2.size (.cells #[.int .i64 D.ino, .int .i64 D.kind, .int .i64 D.links, .slice b1 D.data.length d1, .slice b2 D.ents.length d2, .slice b3 D.attrs.length d3] 68)
  have zX := Blk.new w2 68 #[.int .i64 D.ino, .int .i64 D.kind, .int .i64 D.links, .slice b1 D.data.length d1, .slice b2 D.ents.length d2, .slice b3 D.attrs.length d3]
  have g3 := (g2.keep (Nat.le_refl _) ((Below.refl _ w2).alloc (Nat.le_refl _) (.cells #[.int .i64 D.ino, .int .i64 D.kind, .int .i64 D.links, .slice b1 D.data.length d1, .slice b2 D.ents.length d2, .slice b3 D.attrs.length d3] 68))).wider (T' := (w2.alloc (.cells #[.int .i64 D.ino, .int .i64 D.kind, .int .i64 D.links, .slice b1 D.data.length d1, .slice b2 D.ents.length d2, .slice b3 D.attrs.length d3] 68)).heap.size) (Nat.le_refl _) (by simp)
  obtain ⟨t0, t1, t2, t3, t4, t5⟩ := z3.six
  have fz0 := z3.frozen 0
  have fz1 := z3.frozen 1
  have fz2 := z3.frozen 2
  have fz3 := z3.frozen 3
  have fz4 := z3.frozen 4
  have fz5 := z3.frozen 5
  obtain ⟨x0, x1, x2, x3, x4, x5⟩ := zX.six
  obtain ⟨W3, hW3⟩ : ∃ W, w2.alloc (.cells #[.int .i64 D.ino, .int .i64 D.kind, .int .i64 D.links, .slice b1 D.data.length d1, .slice b2 D.ents.length d2, .slice b3 D.attrs.length d3] 68) = W := ⟨_, rfl⟩
  have HZ3 : Hid _ := z3
  have HB3 : Hid _ := hb3
  have HG3 : Hid _ := g3
  rw [hW3] at HZ3 HB3 HG3 t0 t1 t2 t3 t4 t5 fz0 fz1 fz2 fz3 fz4 fz5 x0 x1 x2 x3 x4 x5
  have hfin : Hid ((if c = 0 ∧ D.kind = 1 then (inoZ.D, (3 : Int)) else (D, c)) = (D, c) → P (.returned (.tuple #[.agg #[.int .i64 D.ino, .int .i64 D.kind, .int .i64 D.links, .slice b1 D.data.length d1, .slice b2 D.ents.length d2, .slice b3 D.attrs.length d3], errV c])) ((((((W3.setCell ⟨w.heap.size + 1, 0, none⟩ (.int .i64 D.ino)).setCell ⟨w.heap.size + 1, 1, none⟩ (.int .i64 D.kind)).setCell ⟨w.heap.size + 1, 2, none⟩ (.int .i64 D.links)).setCell ⟨w.heap.size + 1, 3, none⟩ (.slice b1 D.data.length d1)).setCell ⟨w.heap.size + 1, 4, none⟩ (.slice b2 D.ents.length d2)).setCell ⟨w.heap.size + 1, 5, none⟩ (.slice b3 D.attrs.length d3))) := fun h => by
    have hf := at_stored HB3.out HG3.out HZ3.out hs1 (.int .i64 D.ino) (.int .i64 D.kind) (.int .i64 D.links) (.slice b1 D.data.length d1) (.slice b2 D.ents.length d2) (.slice b3 D.attrs.length d3)
    exact hp.out _ _ _ _ h ⟨b1, d1, b2, d2, b3, d3, rfl, hf.1, hf.2⟩
  have HF : Hid _ := blk6 HZ3.out (.int .i64 D.ino) (.int .i64 D.kind) (.int .i64 D.links) (.slice b1 D.data.length d1) (.slice b2 D.ents.length d2) (.slice b3 D.attrs.length d3)
  clear z3 hb3 g3 zr hb2 g2 bb2 zX zR B0
  by_cases hc0 : c = 0
  · subst hc0
    rw [errV_zero]
    by_cases hk : D.kind = 1
    · have hkb : (D.kind == 1) = true := by simp [hk]
      have HE : Hid ((if (0 : Int) = 0 ∧ D.kind = 1 then (inoZ.D, (3 : Int)) else (D, 0)) = (inoZ.D, 3)) := if_pos ⟨rfl, hk⟩
      have HEE : Hid _ := HE
      clear hk
      go_wp2
      have zf := blk6 HZ3.out (.int .i64 0) (.int .i64 0) (.int .i64 0) (.slice none 0 0) (.slice none 0 0) (.slice none 0 0)
      obtain ⟨dd0, dd1, dd2, dd3, dd4, dd5⟩ := zf.six
      refine bodyPost_ret (v := .tuple #[.agg #[.int .i64 0, .int .i64 0, .int .i64 0, .slice none 0 0, .slice none 0 0, .slice none 0 0], .iface 139 (.int .i64 3)]) (by simp [results, Tryz.f211, go_sem, dd0, dd1, dd2, dd3, dd4, dd5]) rfl ?_
      exact hp.out _ _ _ _ HEE.out (eStat_zero rfl (at_stored HB3.out (inoG_zero W3 (w.heap.size + 1 + 1) W3.heap.size) HZ3.out (Nat.lt_succ_self _) _ _ _ _ _ _).2)
    · have hkb : (D.kind == 1) = false := by simpa using hk
      have HE : Hid _ := hfin.out (if_neg (by simp [hk]))
      clear hk
      go_wp2
      obtain ⟨dd0, dd1, dd2, dd3, dd4, dd5⟩ := Blk.six HF.out
      refine bodyPost_ret (v := .tuple #[.agg #[.int .i64 D.ino, .int .i64 D.kind, .int .i64 D.links, .slice b1 D.data.length d1, .slice b2 D.ents.length d2, .slice b3 D.attrs.length d3], .nilIface]) (by simp [results, Tryz.f211, go_sem, dd0, dd1, dd2, dd3, dd4, dd5]) rfl ?_
      exact HE.out
  · have HE : Hid _ := hfin.out (if_neg (by simp [hc0]))
    rw [errV_some hc0] at HE ⊢
    clear hc0
    go_wp2
    obtain ⟨dd0, dd1, dd2, dd3, dd4, dd5⟩ := Blk.six HF.out
    refine bodyPost_ret (v := .tuple #[.agg #[.int .i64 D.ino, .int .i64 D.kind, .int .i64 D.links, .slice b1 D.data.length d1, .slice b2 D.ents.length d2, .slice b3 D.attrs.length d3], .iface 139 (.int .i64 c)]) (by simp [results, Tryz.f211, go_sem, dd0, dd1, dd2, dd3, dd4, dd5]) rfl ?_
    exact HE.out
end
end Go.Proofs.YtbjfihabkpianaaGreatDoor
