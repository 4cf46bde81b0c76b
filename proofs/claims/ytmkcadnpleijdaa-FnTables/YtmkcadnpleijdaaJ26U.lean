/-
  Joined: TbE, RegV.
-/
import Derived.Test.YtmkcadnpleijdaaJ25U
import Derived.Test.YtmkcadnpleijdaaJ21U
namespace Go.Proofs.Ytmkcadnpleijdaa
section
open Go.RowKit
theorem tbPut_byt (nx : Int) (ps : List RwD) : Byt (tbPut nx ps) := by
  have be : ∀ xs : List Int, Byt (encs xs) := fun xs z hz => by
    unfold encs at hz
    obtain ⟨x, _, hx⟩ := List.mem_flatMap.1 hz
    exact enc_byt' x z hx
  unfold tbPut
  split
  · unfold tbEnc
    intro z hz
    rcases List.mem_append.1 hz with h | h
    · exact be _ z h
    · obtain ⟨p, _, hp⟩ := List.mem_flatMap.1 h
      unfold rwEnc at hp
      rcases List.mem_append.1 hp with h2 | h2
      · rcases List.mem_append.1 h2 with h3 | h3
        · exact be _ z h3
        · unfold encTs at h3
          obtain ⟨x, _, hx⟩ := List.mem_flatMap.1 h3
          unfold encT at hx
          rcases List.mem_append.1 hx with h4 | h4
          · exact enc_byt' _ z h4
          · exact strZ_byt' x z h4
      · exact be _ z h2
  · intro z hz
    simp at hz
end

section
section
variable {P : Program} {ops : Array Oper} {Q : Exit → Act → World → Prop} {md : Region.Mode}
def dstOf (ops : Array Oper) (i : Nat) : Option Tmp := (ops[i]?).bind (·.dst)
/-- The operation i waits for the operation j. -/
def depB (md : Region.Mode) (ops : Array Oper) (i j : Nat) : Bool := ((ops[i]?).map fun o => o.after.any fun e => Region.binds md e && e.on == j).getD false
/-- No operation but L writes to t. -/
def noDst (ops : Array Oper) (L t : Nat) : Bool := (List.range ops.size).all fun i => i == L || dstOf ops i != some t
/-- Each waits for earlier ones alone, none for L; no two write to one place; all places are there. -/
def fitB (md : Region.Mode) (ops : Array Oper) (L sz : Nat) : Bool :=
  ((List.range ops.size).all fun i => ((ops[i]?).map fun o => o.after.all fun e => !Region.binds md e || (decide (e.on < i) && e.on != L)).getD false) &&
  ((List.range ops.size).all fun i => (List.range ops.size).all fun j => i == j || i == L || j == L || dstOf ops i == none || dstOf ops i != dstOf ops j) &&
  ((List.range ops.size).all fun i => i == L || ((dstOf ops i).map fun d => decide (d < sz)).getD true)
/-- j waits for i, whether straight or by others. -/
def preL (md : Region.Mode) (ops : Array Oper) : Nat → Nat → Nat → Bool
  | 0, j, i => j == i
  | f + 1, j, i => j == i || (List.range ops.size).any fun m => depB md ops j m && preL md ops f m i
/-- Each operation but L comes ahead of M or waits for it. -/
def sideB (md : Region.Mode) (ops : Array Oper) (L M f : Nat) : Bool := (List.range ops.size).all fun i => i == L || i == M || depB md ops i M || preL md ops f M i
/-- The operation j has come up, and this is what it yielded. -/
def HasV (ops : Array Oper) (J : Nat → Value → World → Prop) (a : Act) (W : World) (j : Nat) : Prop := ∃ v, (∀ d, dstOf ops j = some d → a.tmps[d]? = some v) ∧ J j v W
structure InvV (md : Region.Mode) (ops : Array Oper) (L M : Nat) (a0 : Act) (S : Bool → World → Prop) (J : Bool → Nat → Value → World → Prop) (listed : Array Bool) (a : Act) (W : World) : Prop where
  s : S (listed.getD M false) W
  df : a.defers = a0.defers
  sz : a.tmps.size = a0.tmps.size
  old : ∀ t, noDst ops L t = true → a.tmps[t]? = a0.tmps[t]?
  shut : ∀ j i, j ≠ L → depB md ops j i = true → listed.getD j false = true → listed.getD i false = true
  got : ∀ i, i ≠ L → i < ops.size → listed.getD i false = true → HasV ops (J (listed.getD M false)) a W i
/-- What is asked of an operation. -/
def StepV (P : Program) (md : Region.Mode) (ops : Array Oper) (Q : Exit → Act → World → Prop) (L M : Nat) (a0 : Act) (S : Bool → World → Prop) (J : Bool → Nat → Value → World → Prop) (i : Nat) : Prop :=
  ∀ o, ops[i]? = some o → ∀ b a W, (i = M → b = false) → (depB md ops i M = true → b = true) → (depB md ops i M = false → b = false) → S b W → (∀ t, noDst ops L t = true → a.tmps[t]? = a0.tmps[t]?) → (∀ j, depB md ops i j = true → HasV ops (J b) a W j) → ∀ K : Act → World → Prop, (∀ v W', S (b || i == M) W' → J (b || i == M) i v W' → (∀ j u, j ≠ i → (depB md ops j M = true → b = true) → J b j u W → J (b || i == M) j u W') → K (a.put o.dst v) W') →
    if Region.wanted o (yielded ops a.tmps) = true then Oper.wp P o a W K Q else K (a.put o.dst undef) W
theorem HasV.eval {J : Nat → Value → World → Prop} {a : Act} {W : World} {j d : Nat} (h : HasV ops J a W j) (hd : dstOf ops j = some d) : ∃ v, a.eval (.tmp d) = v ∧ J j v W := by
  obtain ⟨v, h1, h2⟩ := h
  refine ⟨v, ?_, h2⟩
  have := h1 d hd
  simp only [Act.eval, Array.getD_eq_getD_getElem?, this, Option.getD_some]
theorem eval_of {a : Act} {t : Nat} {v : Value} (h : a.tmps[t]? = some v) : a.eval (.tmp t) = v := by simp only [Act.eval, Array.getD_eq_getD_getElem?, h, Option.getD_some]
theorem count_less (p : Nat → Bool) (i : Nat) : ∀ n, List.countP (fun k => p k && k != i) (List.range n) ≤ List.countP p (List.range n) ∧ (i < n → p i = true → List.countP (fun k => p k && k != i) (List.range n) < List.countP p (List.range n)) := by
  intro n
  induction n with
  | zero => simp
  | succ n ih =>
    rw [List.range_succ, List.countP_append, List.countP_append]
    obtain ⟨h1, h2⟩ := ih
    have e1 : List.countP (fun k => p k && k != i) [n] ≤ List.countP p [n] := by
      cases hp : p n <;> simp [hp]
      split <;> omega
    constructor
    · omega
    · intro hi hp
      by_cases hn : n = i
      · subst hn
        have e2 : List.countP (fun k => p k && k != n) [n] = 0 := by simp
        have e3 : List.countP p [n] = 1 := by simp [hp]
        omega
      · have := h2 (by omega) hp
        omega
def unl (ops : Array Oper) (listed : Array Bool) : Nat := List.countP (fun k => !listed.getD k true) (List.range ops.size)
theorem unl_set {listed : Array Bool} {i : Nat} (hs : listed.size = ops.size) (hi : i < ops.size) (h : listed.getD i true = false) : unl ops (listed.setIfInBounds i true) < unl ops listed := by
  unfold unl
  have := (count_less (fun k => !listed.getD k true) i ops.size).2 hi (by simp [h])
  refine Nat.lt_of_le_of_lt (Nat.le_of_eq ?_) this
  refine List.countP_congr fun k hk => ?_
  by_cases hki : k = i
  · subst hki
    rw [set_getD_eq (by omega)]
    simp
  · rw [set_getD_ne (fun e => hki e.symm)]
    simp [hki]
theorem fit_order {L sz : Nat} (h : fitB md ops L sz = true) {i : Nat} {o : Oper} (ho : ops[i]? = some o) : ∀ e ∈ o.after, Region.binds md e = true → e.on < i ∧ e.on ≠ L := by
  unfold fitB at h
  simp only [Bool.and_eq_true, List.all_eq_true, List.mem_range] at h
  have h1 := h.1.1 i (Array.getElem?_eq_some_iff.1 ho).1
  rw [ho] at h1
  simp only [Option.map_some, Option.getD_some, Array.all_eq_true_iff_forall_mem] at h1
  intro e he hb
  have h2 := h1 e he
  rw [hb] at h2
  simpa using h2
theorem fit_one {L sz : Nat} (h : fitB md ops L sz = true) {i j d : Nat} (hi : i < ops.size) (hj : j < ops.size) (hiL : i ≠ L) (hjL : j ≠ L) (h1 : dstOf ops i = some d) (h2 : dstOf ops j = some d) : i = j := by
  unfold fitB at h
  simp only [Bool.and_eq_true, List.all_eq_true, List.mem_range] at h
  have h3 := h.1.2 i hi j hj
  rw [h1, h2] at h3
  simp [hiL, hjL] at h3
  exact h3
theorem fit_in {L sz : Nat} (h : fitB md ops L sz = true) {i d : Nat} (hi : i < ops.size) (hiL : i ≠ L) (h1 : dstOf ops i = some d) : d < sz := by
  unfold fitB at h
  simp only [Bool.and_eq_true, List.all_eq_true, List.mem_range] at h
  have h3 := h.2 i hi
  rw [h1] at h3
  simpa [hiL] using h3
theorem all_listedV {L sz : Nat} (h : fitB md ops L sz = true) {listed : Array Bool} (hs : listed.size = ops.size) (hr : Region.ready md ops listed = []) : ∀ i, i < ops.size → listed.getD i true = true := by
  intro i
  induction i using Nat.strongRecOn with
  | ind i ih =>
    intro hi
    cases hl : listed.getD i true with
    | true => rfl
    | false =>
      have ho : ops[i]? = some ops[i] := Array.getElem?_eq_getElem hi
      have : i ∈ Region.ready md ops listed := mem_ready.2 ⟨hl, _, ho, fun e he hb => by
        have h1 := (fit_order h ho e he hb).1
        rw [← getD_both (by omega)]
        exact ih e.on h1 (by omega)⟩
      rw [hr] at this
      cases this
theorem noDst_ne {L t i : Nat} (h : noDst ops L t = true) (hi : i < ops.size) (hiL : i ≠ L) : dstOf ops i ≠ some t := by
  unfold noDst at h
  simp only [List.all_eq_true, List.mem_range] at h
  have := h i hi
  simpa [hiL] using this
theorem put_at (a : Act) (dst : Option Tmp) (v : Value) (t : Nat) : (a.put dst v).tmps[t]? = if dst = some t ∧ t < a.tmps.size then some v else a.tmps[t]? := by
  cases dst with
  | none => simp [Act.put]
  | some d =>
    simp only [Act.put, Option.some.injEq, Array.getElem?_setIfInBounds]
    by_cases h : d = t
    · subst h
      by_cases h2 : d < a.tmps.size
      · simp [h2]
      · simp [h2]
    · simp [h]
theorem put_size (a : Act) (dst : Option Tmp) (v : Value) : (a.put dst v).tmps.size = a.tmps.size := by cases dst <;> simp [Act.put]
theorem put_defers (a : Act) (dst : Option Tmp) (v : Value) : (a.put dst v).defers = a.defers := by cases dst <;> rfl
theorem dep_in {i j L sz : Nat} (hfit : fitB md ops L sz = true) (h : depB md ops i j = true) : i < ops.size ∧ j < i ∧ j ≠ L := by
  unfold depB at h
  cases ho : ops[i]? with
  | none => rw [ho] at h; simp at h
  | some o =>
    rw [ho] at h
    simp only [Option.map_some, Option.getD_some, Array.any_eq_true, Bool.and_eq_true, beq_iff_eq] at h
    obtain ⟨x, hx, hb, rfl⟩ := h
    have hlt := fit_order hfit ho _ (Array.getElem_mem hx) hb
    exact ⟨(Array.getElem?_eq_some_iff.1 ho).1, hlt⟩
theorem pre_listed {L sz : Nat} (hfit : fitB md ops L sz = true) {listed : Array Bool} (hsh : ∀ j i, j ≠ L → depB md ops j i = true → listed.getD j false = true → listed.getD i false = true) : ∀ (f j i : Nat), j ≠ L → preL md ops f j i = true → listed.getD j false = true → listed.getD i false = true := by
  intro f
  induction f with
  | zero => intro j i _ h hl; simp only [preL, beq_iff_eq] at h; subst h; exact hl
  | succ f ih =>
    intro j i hj h hl
    simp only [preL, Bool.or_eq_true, beq_iff_eq, List.any_eq_true, Bool.and_eq_true] at h
    rcases h with rfl | ⟨m, _, hd, hp⟩
    · exact hl
    · exact ih m i (dep_in hfit hd).2.2 hp (hsh j m hj hd hl)
theorem wpAny_inv {L M : Nat} {a0 : Act} (S : Bool → World → Prop) (J : Bool → Nat → Value → World → Prop) (hfit : fitB md ops L a0.tmps.size = true) (hML : M ≠ L) (f : Nat) (hside : sideB md ops L M f = true)
    (step : ∀ i, i < ops.size → i ≠ L → StepV P md ops Q L M a0 S J i)
    (fin : ∀ a W, S (decide (M < ops.size)) W → a.defers = a0.defers → a.tmps.size = a0.tmps.size → (∀ t, noDst ops L t = true → a.tmps[t]? = a0.tmps[t]?) → (∀ i, i < ops.size → i ≠ L → HasV ops (J (decide (M < ops.size))) a W i) → Q .normal a W) :
    ∀ (fuel : Nat) (listed : Array Bool) (a : Act) (W : World), listed.size = ops.size → unl ops listed ≤ fuel → (L < ops.size → listed.getD L true = true) → InvV md ops L M a0 S J listed a W → wpAny P md ops Q fuel listed a W := by
  have hend : ∀ (listed : Array Bool) (a : Act) (W : World), listed.size = ops.size → Region.ready md ops listed = [] → InvV md ops L M a0 S J listed a W → Q .normal a W := fun listed a W hs hr h => by
    have hb : listed.getD M false = decide (M < ops.size) := by
      by_cases hM : M < ops.size
      · rw [decide_eq_true hM, ← getD_both (by omega)]
        exact all_listedV hfit hs hr M hM
      · rw [decide_eq_false hM]
        simp [Array.getD, show ¬ M < listed.size by omega]
    have hS := h.s
    rw [hb] at hS
    refine fin a W hS h.df h.sz h.old (fun i hi hiL => ?_)
    have := h.got i hiL hi (by rw [← getD_both (by omega)]; exact all_listedV hfit hs hr i hi)
    rw [hb] at this
    exact this
  intro fuel
  induction fuel with
  | zero =>
    intro listed a W hs hu _ h
    have hr : Region.ready md ops listed = [] := by
      refine List.eq_nil_iff_forall_not_mem.2 fun i hi => ?_
      obtain ⟨h1, o, ho, _⟩ := mem_ready.1 hi
      have := unl_set hs (Array.getElem?_eq_some_iff.1 ho).1 h1
      omega
    exact ⟨hr, hend listed a W hs hr h⟩
  | succ fuel ih =>
    intro listed a W hs hu hL h
    refine ⟨fun hr => hend listed a W hs hr h, fun i hi => ?_⟩
    obtain ⟨h1, o, ho, hall⟩ := mem_ready.1 hi
    have hiz : i < ops.size := (Array.getElem?_eq_some_iff.1 ho).1
    have hiL : i ≠ L := fun e => by subst e; rw [hL hiz] at h1; cases h1
    have hfl : (listed.setIfInBounds i true).getD M false = (listed.getD M false || i == M) := by
      by_cases hiM : i = M
      · subst hiM
        rw [set_getD_eq (by omega)]
        simp
      · rw [set_getD_ne hiM]
        simp [hiM]
    have hall' : ∀ j, depB md ops i j = true → listed.getD j false = true ∧ j < ops.size ∧ j ≠ L := fun j hj => by
      unfold depB at hj
      rw [ho] at hj
      simp only [Option.map_some, Option.getD_some, Array.any_eq_true, Bool.and_eq_true, beq_iff_eq] at hj
      obtain ⟨x, hx, hb, rfl⟩ := hj
      have hm := Array.getElem_mem hx
      have hlt := fit_order hfit ho _ hm hb
      exact ⟨hall _ hm hb, by omega, hlt.2⟩
    refine wpOp_step ho fun K hK => ?_
    refine step i hiz hiL o ho (listed.getD M false) a W (fun e => by subst e; rw [← getD_both (by omega)]; exact h1) (fun hd => (hall' M hd).1) (fun hd => ?_) h.s h.old (fun j hj => h.got _ (hall' j hj).2.2 (hall' j hj).2.1 (hall' j hj).1) K (fun v W' hS' hJ hst => hK _ _ (ih _ _ _ (by simp [hs]) (by have := unl_set hs hiz h1; omega) (fun hLs => by rw [set_getD_ne hiL]; exact hL hLs) ⟨by rw [hfl]; exact hS', ?_, ?_, ?_, ?_, ?_⟩))
    · by_cases hiM : i = M
      · subst hiM; rw [← getD_both (by omega)]; exact h1
      · unfold sideB at hside
        simp only [List.all_eq_true, List.mem_range, Bool.or_eq_true, beq_iff_eq] at hside
        have h2 := hside i hiz
        cases hl : listed.getD M false with
        | false => rfl
        | true =>
          rcases h2 with ((h2 | h2) | h2) | h2
          · exact absurd h2 hiL
          · exact absurd h2 hiM
          · rw [hd] at h2; cases h2
          · have := pre_listed hfit h.shut f M i hML h2 hl
            rw [← getD_both (by omega), h1] at this
            cases this
    · rw [put_defers]; exact h.df
    · rw [put_size]; exact h.sz
    · intro t ht
      rw [put_at]
      have hne := noDst_ne ht hiz hiL
      have hd : dstOf ops i = o.dst := by simp [dstOf, ho]
      rw [hd] at hne
      rw [if_neg (fun h => hne h.1)]
      exact h.old t ht
    · intro j m hjL hd hl
      by_cases hji : j = i
      · subst hji
        exact getD_set_true (hall' m hd).1
      · rw [set_getD_ne (fun e => hji e.symm)] at hl
        exact getD_set_true (h.shut j m hjL hd hl)
    · intro k hkL hkz hk
      have hd : dstOf ops i = o.dst := by simp [dstOf, ho]
      rw [hfl]
      by_cases hki : k = i
      · subst hki
        refine ⟨v, fun d hd' => ?_, hJ⟩
        rw [put_at]
        rw [hd] at hd'
        have := fit_in hfit hiz hiL (hd.trans hd')
        rw [if_pos ⟨hd', by rw [h.sz]; exact this⟩]
      · rw [set_getD_ne (fun e => hki e.symm)] at hk
        obtain ⟨v', hv1, hv2⟩ := h.got k hkL hkz hk
        refine ⟨v', fun d hd' => ?_, hst k v' hki (fun hd2 => h.shut k M hkL hd2 hk) hv2⟩
        rw [put_at, if_neg (fun h => hki (fit_one hfit hkz hiz hkL hiL hd' (hd.trans h.1)))]
        exact hv1 d hd'
/-- The beginning, where the operation L waits for all others (the store at the end), and M is one of them. -/
theorem wp_region_inv (L M n : Nat) (S : Bool → World → Prop) (J : Bool → Nat → Value → World → Prop) {id : Nat} {a : Act} {w : World} (hm : P.follows .mixedOrders = true) (hL : lastOne .any ops L = true) (hn : ops.size = n + 1) (hfit : fitB .any ops L a.tmps.size = true) (hML : M ≠ L) (hMn : M ≤ n) (f : Nat) (hside : sideB .any ops L M f = true) (hS : S false w.drew)
    (step : ∀ i, i < n + 1 → i ≠ L → StepV P .any ops (ThenL P ops Q L) L M a S J i)
    (fin : ∀ a' W, S true W → a'.defers = a.defers → a'.tmps.size = a.tmps.size → (∀ t, noDst ops L t = true → a'.tmps[t]? = a.tmps[t]?) → (∀ i, i < n + 1 → i ≠ L → HasV ops (J true) a' W i) → ThenL P ops Q L .normal a' W) : (Code.region id ops true).wp P Q a w := by
  refine wp_region_any hm ?_
  have hlt := last_lt hL
  have hg : ∀ i, i ≠ L → ((Array.replicate ops.size false).setIfInBounds L true).getD i false = false := fun i hne => by
    rw [set_getD_ne (fun e => hne e.symm)]
    by_cases hi : i < ops.size
    · simp [Array.getD, hi]
    · simp [Array.getD, hi]
  have hu : unl ops ((Array.replicate ops.size false).setIfInBounds L true) ≤ n := by
    have h1 := unl_set (ops := ops) (listed := Array.replicate ops.size false) (i := L) (by simp) hlt (by simp [Array.getD, hlt])
    have h2 : unl ops (Array.replicate ops.size false) ≤ ops.size := by
      unfold unl
      refine Nat.le_trans List.countP_le_length ?_
      simp
    omega
  have hdM : decide (M < ops.size) = true := decide_eq_true (by omega)
  have key := wpAny_inv (P := P) (md := .any) (Q := ThenL P ops Q L) (a0 := a) S J hfit hML f hside (fun i hi hne => step i (by omega) hne) (fun a W h1 h2 h3 h4 h5 => fin a W (by rw [hdM] at h1; exact h1) h2 h3 h4 (fun i hi hne => by have := h5 i (by omega) hne; rw [hdM] at this; exact this)) n ((Array.replicate ops.size false).setIfInBounds L true) a w.drew (by simp) hu (fun _ => set_getD_eq (by simpa using hlt)) ⟨by rw [hg M hML]; exact hS, rfl, rfl, fun _ _ => rfl, fun j i hj hd h => (by rw [hg j hj] at h; cases h), fun i hne hi h => (by rw [hg i hne] at h; cases h)⟩
  have := wpAny_thenL (Q := Q) (P := P) hL n (Array.replicate ops.size false) a w.drew (by simp) (by simp [Array.getD, hlt]) (fun j o ho hl => by have := (Array.getElem?_eq_some_iff.1 ho).1; simp [Array.getD, this] at hl) key
  rw [← hn] at this
  exact this
/-- The places behind such a region, written out. -/
theorem puts_eq : ∀ (l : List (Nat × Value)) (ts ts0 : Array Value), ts.size = ts0.size → (∀ p ∈ l, ts[p.1]? = some p.2) → (∀ t, (∃ p ∈ l, p.1 = t) ∨ ts[t]? = ts0[t]?) → ts = l.foldl (fun x p => x.setIfInBounds p.1 p.2) ts0 := by
  intro l
  induction l with
  | nil =>
    intro ts ts0 hs _ h
    refine Array.ext_getElem? fun t => ?_
    rcases h t with ⟨p, hp, _⟩ | h1
    · simp at hp
    · exact h1
  | cons p l ih =>
    intro ts ts0 hs h1 h2
    refine ih ts (ts0.setIfInBounds p.1 p.2) (by simp [hs]) (fun q hq => h1 q (List.mem_cons_of_mem _ hq)) (fun t => ?_)
    by_cases ht : p.1 = t
    · right
      have h3 := h1 p (by simp)
      have h4 := (Array.getElem?_eq_some_iff.1 h3).1
      rw [← ht, h3, Array.getElem?_setIfInBounds]
      simp [← hs, h4]
    · rcases h2 t with ⟨q, hq, hqt⟩ | h3
      · rcases List.mem_cons.1 hq with rfl | hq'
        · exact absurd hqt ht
        · exact .inl ⟨q, hq', hqt⟩
      · right
        rw [h3, Array.getElem?_setIfInBounds]
        simp [ht]
/-- Where the operations but L write to. -/
def dstsL (ops : Array Oper) (L : Nat) : List Nat := (List.range ops.size).filterMap fun i => if i == L then none else dstOf ops i
theorem noDst_of {L t : Nat} (h : t ∉ dstsL ops L) : noDst ops L t = true := by
  unfold noDst
  simp only [List.all_eq_true, List.mem_range]
  intro i hi
  cases hiL : i == L with
  | true => rfl
  | false =>
    simp only [Bool.false_or]
    cases hd : dstOf ops i with
    | none => simp
    | some d =>
      have : d ∈ dstsL ops L := List.mem_filterMap.2 ⟨i, List.mem_range.2 hi, by rw [hiL]; exact hd⟩
      simp
      intro e
      subst e
      exact h this
theorem puts_act {L : Nat} {a' a : Act} (l : List (Nat × Value)) (hd : l.map Prod.fst = dstsL ops L) (hdf : a'.defers = a.defers) (hsz : a'.tmps.size = a.tmps.size) (hold : ∀ t, noDst ops L t = true → a'.tmps[t]? = a.tmps[t]?) (h1 : ∀ p ∈ l, a'.tmps[p.1]? = some p.2) : a' = ⟨l.foldl (fun x p => x.setIfInBounds p.1 p.2) a.tmps, a.defers⟩ := by
  obtain ⟨ts, ds⟩ := a'
  simp only at hdf
  subst hdf
  congr 1
  refine puts_eq l ts a.tmps hsz h1 fun t => ?_
  by_cases ht : t ∈ dstsL ops L
  · rw [← hd] at ht
    obtain ⟨p, hp, e⟩ := List.mem_map.1 ht
    exact .inl ⟨p, hp, e⟩
  · exact .inr (hold t (noDst_of ht))
end
end
end Go.Proofs.Ytmkcadnpleijdaa
