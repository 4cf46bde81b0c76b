/-
  Joined: RegV, Draws, DrAn.
-/
import Derived.Test.YtpejfkgbfdkdnaaJ35B
import Derived.Deep.DrawnRows
namespace Go.Proofs.Ytpejfkgbfdkdnaa
section
section
variable {P : Program} {ops : Array Oper} {Q : Exit → Act → World → Prop} {md : Region.Mode}
def dstOf (ops : Array Oper) (i : Nat) : Option Tmp := (ops[i]?).bind (·.dst)
/-- The operation i waits for the operation j. -/
def depB (md : Region.Mode) (ops : Array Oper) (i j : Nat) : Bool := ((ops[i]?).map fun o => o.after.any fun e => Region.binds md e && e.on == j).getD false
/-- No operation but L writes to t. -/
def noDst (ops : Array Oper) (L t : Nat) : Bool := (List.range ops.size).all fun i => i == L || dstOf ops i != some t
/-- Each waits for earlier ones alone, none for L; no two write to one place; all places are there. -/
def fitB (md : Region.Mode) (ops : Array Oper) (L sz : Nat) : Bool :=
  ((List.range ops.size).all fun i => ((ops[i]?).map fun o => o.after.all fun e => !Region.binds md e || (decide (e.on < i) && e.on != L)).getD false) &&
  ((List.range ops.size).all fun i => (List.range ops.size).all fun j => i == j || i == L || j == L || dstOf ops i == none || dstOf ops i != dstOf ops j) &&
  ((List.range ops.size).all fun i => i == L || ((dstOf ops i).map fun d => decide (d < sz)).getD true)
/-- j waits for i, whether straight or by others. -/
def preL (md : Region.Mode) (ops : Array Oper) : Nat → Nat → Nat → Bool
  | 0, j, i => j == i
  | f + 1, j, i => j == i || (List.range ops.size).any fun m => depB md ops j m && preL md ops f m i
/-- Each operation but L comes ahead of M or waits for it. -/
def sideB (md : Region.Mode) (ops : Array Oper) (L M f : Nat) : Bool := (List.range ops.size).all fun i => i == L || i == M || depB md ops i M || preL md ops f M i
/-- The operation j has come up, and this is what it yielded. -/
def HasV (ops : Array Oper) (J : Nat → Value → World → Prop) (a : Act) (W : World) (j : Nat) : Prop := ∃ v, (∀ d, dstOf ops j = some d → a.tmps[d]? = some v) ∧ J j v W
structure InvV (md : Region.Mode) (ops : Array Oper) (L M : Nat) (a0 : Act) (S : Bool → World → Prop) (J : Bool → Nat → Value → World → Prop) (listed : Array Bool) (a : Act) (W : World) : Prop where
  s : S (listed.getD M false) W
  df : a.defers = a0.defers
  sz : a.tmps.size = a0.tmps.size
  old : ∀ t, noDst ops L t = true → a.tmps[t]? = a0.tmps[t]?
  shut : ∀ j i, j ≠ L → depB md ops j i = true → listed.getD j false = true → listed.getD i false = true
  got : ∀ i, i ≠ L → i < ops.size → listed.getD i false = true → HasV ops (J (listed.getD M false)) a W i
/-- What is asked of an operation. -/
def StepV (P : Program) (md : Region.Mode) (ops : Array Oper) (Q : Exit → Act → World → Prop) (L M : Nat) (a0 : Act) (S : Bool → World → Prop) (J : Bool → Nat → Value → World → Prop) (i : Nat) : Prop :=
  ∀ o, ops[i]? = some o → ∀ b a W, (i = M → b = false) → (depB md ops i M = true → b = true) → (depB md ops i M = false → b = false) → S b W → (∀ t, noDst ops L t = true → a.tmps[t]? = a0.tmps[t]?) → (∀ j, depB md ops i j = true → HasV ops (J b) a W j) → ∀ K : Act → World → Prop, (∀ v W', S (b || i == M) W' → J (b || i == M) i v W' → (∀ j u, j ≠ i → (depB md ops j M = true → b = true) → J b j u W → J (b || i == M) j u W') → K (a.put o.dst v) W') →
    if Region.wanted o (yielded ops a.tmps) = true then Oper.wp P o a W K Q else K (a.put o.dst undef) W
theorem HasV.eval {J : Nat → Value → World → Prop} {a : Act} {W : World} {j d : Nat} (h : HasV ops J a W j) (hd : dstOf ops j = some d) : ∃ v, a.eval (.tmp d) = v ∧ J j v W := by
  obtain ⟨v, h1, h2⟩ := h
  refine ⟨v, ?_, h2⟩
  have := h1 d hd
  simp only [Act.eval, Array.getD_eq_getD_getElem?, this, Option.getD_some]
theorem eval_of {a : Act} {t : Nat} {v : Value} (h : a.tmps[t]? = some v) : a.eval (.tmp t) = v := by simp only [Act.eval, Array.getD_eq_getD_getElem?, h, Option.getD_some]
theorem count_less (p : Nat → Bool) (i : Nat) : ∀ n, List.countP (fun k => p k && k != i) (List.range n) ≤ List.countP p (List.range n) ∧ (i < n → p i = true → List.countP (fun k => p k && k != i) (List.range n) < List.countP p (List.range n)) := by
  intro n
  induction n with
  | zero => simp
  | succ n ih =>
    rw [List.range_succ, List.countP_append, List.countP_append]
    obtain ⟨h1, h2⟩ := ih
    have e1 : List.countP (fun k => p k && k != i) [n] ≤ List.countP p [n] := by
      cases hp : p n <;> simp [hp]
      split <;> omega
    constructor
    · omega
    · intro hi hp
      by_cases hn : n = i
      · subst hn
        have e2 : List.countP (fun k => p k && k != n) [n] = 0 := by simp
        have e3 : List.countP p [n] = 1 := by simp [hp]
        omega
      · have := h2 (by omega) hp
        omega
def unl (ops : Array Oper) (listed : Array Bool) : Nat := List.countP (fun k => !listed.getD k true) (List.range ops.size)
theorem unl_set {listed : Array Bool} {i : Nat} (hs : listed.size = ops.size) (hi : i < ops.size) (h : listed.getD i true = false) : unl ops (listed.setIfInBounds i true) < unl ops listed := by
  unfold unl
  have := (count_less (fun k => !listed.getD k true) i ops.size).2 hi (by simp [h])
  refine Nat.lt_of_le_of_lt (Nat.le_of_eq ?_) this
  refine List.countP_congr fun k hk => ?_
  by_cases hki : k = i
  · subst hki
    rw [set_getD_eq (by omega)]
    simp
  · rw [set_getD_ne (fun e => hki e.symm)]
    simp [hki]
theorem fit_order {L sz : Nat} (h : fitB md ops L sz = true) {i : Nat} {o : Oper} (ho : ops[i]? = some o) : ∀ e ∈ o.after, Region.binds md e = true → e.on < i ∧ e.on ≠ L := by
  unfold fitB at h
  simp only [Bool.and_eq_true, List.all_eq_true, List.mem_range] at h
  have h1 := h.1.1 i (Array.getElem?_eq_some_iff.1 ho).1
  rw [ho] at h1
  simp only [Option.map_some, Option.getD_some, Array.all_eq_true_iff_forall_mem] at h1
  intro e he hb
  have h2 := h1 e he
  rw [hb] at h2
  simpa using h2
theorem fit_one {L sz : Nat} (h : fitB md ops L sz = true) {i j d : Nat} (hi : i < ops.size) (hj : j < ops.size) (hiL : i ≠ L) (hjL : j ≠ L) (h1 : dstOf ops i = some d) (h2 : dstOf ops j = some d) : i = j := by
  unfold fitB at h
  simp only [Bool.and_eq_true, List.all_eq_true, List.mem_range] at h
  have h3 := h.1.2 i hi j hj
  rw [h1, h2] at h3
  simp [hiL, hjL] at h3
  exact h3
theorem fit_in {L sz : Nat} (h : fitB md ops L sz = true) {i d : Nat} (hi : i < ops.size) (hiL : i ≠ L) (h1 : dstOf ops i = some d) : d < sz := by
  unfold fitB at h
  simp only [Bool.and_eq_true, List.all_eq_true, List.mem_range] at h
  have h3 := h.2 i hi
  rw [h1] at h3
  simpa [hiL] using h3
theorem all_listedV {L sz : Nat} (h : fitB md ops L sz = true) {listed : Array Bool} (hs : listed.size = ops.size) (hr : Region.ready md ops listed = []) : ∀ i, i < ops.size → listed.getD i true = true := by
  intro i
  induction i using Nat.strongRecOn with
  | ind i ih =>
    intro hi
    cases hl : listed.getD i true with
    | true => rfl
    | false =>
      have ho : ops[i]? = some ops[i] := Array.getElem?_eq_getElem hi
      have : i ∈ Region.ready md ops listed := mem_ready.2 ⟨hl, _, ho, fun e he hb => by
        have h1 := (fit_order h ho e he hb).1
        rw [← getD_both (by omega)]
        exact ih e.on h1 (by omega)⟩
      rw [hr] at this
      cases this
theorem noDst_ne {L t i : Nat} (h : noDst ops L t = true) (hi : i < ops.size) (hiL : i ≠ L) : dstOf ops i ≠ some t := by
  unfold noDst at h
  simp only [List.all_eq_true, List.mem_range] at h
  have := h i hi
  simpa [hiL] using this
theorem put_at (a : Act) (dst : Option Tmp) (v : Value) (t : Nat) : (a.put dst v).tmps[t]? = if dst = some t ∧ t < a.tmps.size then some v else a.tmps[t]? := by
  cases dst with
  | none => simp [Act.put]
  | some d =>
    simp only [Act.put, Option.some.injEq, Array.getElem?_setIfInBounds]
    by_cases h : d = t
    · subst h
      by_cases h2 : d < a.tmps.size
      · simp [h2]
      · simp [h2]
    · simp [h]
theorem put_size (a : Act) (dst : Option Tmp) (v : Value) : (a.put dst v).tmps.size = a.tmps.size := by cases dst <;> simp [Act.put]
theorem put_defers (a : Act) (dst : Option Tmp) (v : Value) : (a.put dst v).defers = a.defers := by cases dst <;> rfl
theorem dep_in {i j L sz : Nat} (hfit : fitB md ops L sz = true) (h : depB md ops i j = true) : i < ops.size ∧ j < i ∧ j ≠ L := by
  unfold depB at h
  cases ho : ops[i]? with
  | none => rw [ho] at h; simp at h
  | some o =>
    rw [ho] at h
    simp only [Option.map_some, Option.getD_some, Array.any_eq_true, Bool.and_eq_true, beq_iff_eq] at h
    obtain ⟨x, hx, hb, rfl⟩ := h
    have hlt := fit_order hfit ho _ (Array.getElem_mem hx) hb
    exact ⟨(Array.getElem?_eq_some_iff.1 ho).1, hlt⟩
theorem pre_listed {L sz : Nat} (hfit : fitB md ops L sz = true) {listed : Array Bool} (hsh : ∀ j i, j ≠ L → depB md ops j i = true → listed.getD j false = true → listed.getD i false = true) : ∀ (f j i : Nat), j ≠ L → preL md ops f j i = true → listed.getD j false = true → listed.getD i false = true := by
  intro f
  induction f with
  | zero => intro j i _ h hl; simp only [preL, beq_iff_eq] at h; subst h; exact hl
  | succ f ih =>
    intro j i hj h hl
    simp only [preL, Bool.or_eq_true, beq_iff_eq, List.any_eq_true, Bool.and_eq_true] at h
    rcases h with rfl | ⟨m, _, hd, hp⟩
    · exact hl
    · exact ih m i (dep_in hfit hd).2.2 hp (hsh j m hj hd hl)
theorem wpAny_inv {L M : Nat} {a0 : Act} (S : Bool → World → Prop) (J : Bool → Nat → Value → World → Prop) (hfit : fitB md ops L a0.tmps.size = true) (hML : M ≠ L) (f : Nat) (hside : sideB md ops L M f = true)
    (step : ∀ i, i < ops.size → i ≠ L → StepV P md ops Q L M a0 S J i)
    (fin : ∀ a W, S (decide (M < ops.size)) W → a.defers = a0.defers → a.tmps.size = a0.tmps.size → (∀ t, noDst ops L t = true → a.tmps[t]? = a0.tmps[t]?) → (∀ i, i < ops.size → i ≠ L → HasV ops (J (decide (M < ops.size))) a W i) → Q .normal a W) :
    ∀ (fuel : Nat) (listed : Array Bool) (a : Act) (W : World), listed.size = ops.size → unl ops listed ≤ fuel → (L < ops.size → listed.getD L true = true) → InvV md ops L M a0 S J listed a W → wpAny P md ops Q fuel listed a W := by
  have hend : ∀ (listed : Array Bool) (a : Act) (W : World), listed.size = ops.size → Region.ready md ops listed = [] → InvV md ops L M a0 S J listed a W → Q .normal a W := fun listed a W hs hr h => by
    have hb : listed.getD M false = decide (M < ops.size) := by
      by_cases hM : M < ops.size
      · rw [decide_eq_true hM, ← getD_both (by omega)]
        exact all_listedV hfit hs hr M hM
      · rw [decide_eq_false hM]
        simp [Array.getD, show ¬ M < listed.size by omega]
    have hS := h.s
    rw [hb] at hS
    refine fin a W hS h.df h.sz h.old (fun i hi hiL => ?_)
    have := h.got i hiL hi (by rw [← getD_both (by omega)]; exact all_listedV hfit hs hr i hi)
    rw [hb] at this
    exact this
  intro fuel
  induction fuel with
  | zero =>
    intro listed a W hs hu _ h
    have hr : Region.ready md ops listed = [] := by
      refine List.eq_nil_iff_forall_not_mem.2 fun i hi => ?_
      obtain ⟨h1, o, ho, _⟩ := mem_ready.1 hi
      have := unl_set hs (Array.getElem?_eq_some_iff.1 ho).1 h1
      omega
    exact ⟨hr, hend listed a W hs hr h⟩
  | succ fuel ih =>
    intro listed a W hs hu hL h
    refine ⟨fun hr => hend listed a W hs hr h, fun i hi => ?_⟩
    obtain ⟨h1, o, ho, hall⟩ := mem_ready.1 hi
    have hiz : i < ops.size := (Array.getElem?_eq_some_iff.1 ho).1
    have hiL : i ≠ L := fun e => by subst e; rw [hL hiz] at h1; cases h1
    have hfl : (listed.setIfInBounds i true).getD M false = (listed.getD M false || i == M) := by
      by_cases hiM : i = M
      · subst hiM
        rw [set_getD_eq (by omega)]
        simp
      · rw [set_getD_ne hiM]
        simp [hiM]
    have hall' : ∀ j, depB md ops i j = true → listed.getD j false = true ∧ j < ops.size ∧ j ≠ L := fun j hj => by
      unfold depB at hj
      rw [ho] at hj
      simp only [Option.map_some, Option.getD_some, Array.any_eq_true, Bool.and_eq_true, beq_iff_eq] at hj
      obtain ⟨x, hx, hb, rfl⟩ := hj
      have hm := Array.getElem_mem hx
      have hlt := fit_order hfit ho _ hm hb
      exact ⟨hall _ hm hb, by omega, hlt.2⟩
    refine wpOp_step ho fun K hK => ?_
    refine step i hiz hiL o ho (listed.getD M false) a W (fun e => by subst e; rw [← getD_both (by omega)]; exact h1) (fun hd => (hall' M hd).1) (fun hd => ?_) h.s h.old (fun j hj => h.got _ (hall' j hj).2.2 (hall' j hj).2.1 (hall' j hj).1) K (fun v W' hS' hJ hst => hK _ _ (ih _ _ _ (by simp [hs]) (by have := unl_set hs hiz h1; omega) (fun hLs => by rw [set_getD_ne hiL]; exact hL hLs) ⟨by rw [hfl]; exact hS', ?_, ?_, ?_, ?_, ?_⟩))
    · by_cases hiM : i = M
      · subst hiM; rw [← getD_both (by omega)]; exact h1
      · unfold sideB at hside
        simp only [List.all_eq_true, List.mem_range, Bool.or_eq_true, beq_iff_eq] at hside
        have h2 := hside i hiz
        cases hl : listed.getD M false with
        | false => rfl
        | true =>
          rcases h2 with ((h2 | h2) | h2) | h2
          · exact absurd h2 hiL
          · exact absurd h2 hiM
          · rw [hd] at h2; cases h2
          · have := pre_listed hfit h.shut f M i hML h2 hl
            rw [← getD_both (by omega), h1] at this
            cases this
    · rw [put_defers]; exact h.df
    · rw [put_size]; exact h.sz
    · intro t ht
      rw [put_at]
      have hne := noDst_ne ht hiz hiL
      have hd : dstOf ops i = o.dst := by simp [dstOf, ho]
      rw [hd] at hne
      rw [if_neg (fun h => hne h.1)]
      exact h.old t ht
    · intro j m hjL hd hl
      by_cases hji : j = i
      · subst hji
        exact getD_set_true (hall' m hd).1
      · rw [set_getD_ne (fun e => hji e.symm)] at hl
        exact getD_set_true (h.shut j m hjL hd hl)
    · intro k hkL hkz hk
      have hd : dstOf ops i = o.dst := by simp [dstOf, ho]
      rw [hfl]
      by_cases hki : k = i
      · subst hki
        refine ⟨v, fun d hd' => ?_, hJ⟩
        rw [put_at]
        rw [hd] at hd'
        have := fit_in hfit hiz hiL (hd.trans hd')
        rw [if_pos ⟨hd', by rw [h.sz]; exact this⟩]
      · rw [set_getD_ne (fun e => hki e.symm)] at hk
        obtain ⟨v', hv1, hv2⟩ := h.got k hkL hkz hk
        refine ⟨v', fun d hd' => ?_, hst k v' hki (fun hd2 => h.shut k M hkL hd2 hk) hv2⟩
        rw [put_at, if_neg (fun h => hki (fit_one hfit hkz hiz hkL hiL hd' (hd.trans h.1)))]
        exact hv1 d hd'
/-- The beginning, where the operation L waits for all others (the store at the end), and M is one of them. -/
theorem wp_region_inv (L M n : Nat) (S : Bool → World → Prop) (J : Bool → Nat → Value → World → Prop) {id : Nat} {a : Act} {w : World} (hm : P.follows .mixedOrders = true) (hL : lastOne .any ops L = true) (hn : ops.size = n + 1) (hfit : fitB .any ops L a.tmps.size = true) (hML : M ≠ L) (hMn : M ≤ n) (f : Nat) (hside : sideB .any ops L M f = true) (hS : S false w.drew)
    (step : ∀ i, i < n + 1 → i ≠ L → StepV P .any ops (ThenL P ops Q L) L M a S J i)
    (fin : ∀ a' W, S true W → a'.defers = a.defers → a'.tmps.size = a.tmps.size → (∀ t, noDst ops L t = true → a'.tmps[t]? = a.tmps[t]?) → (∀ i, i < n + 1 → i ≠ L → HasV ops (J true) a' W i) → ThenL P ops Q L .normal a' W) : (Code.region id ops true).wp P Q a w := by
  refine wp_region_any hm ?_
  have hlt := last_lt hL
  have hg : ∀ i, i ≠ L → ((Array.replicate ops.size false).setIfInBounds L true).getD i false = false := fun i hne => by
    rw [set_getD_ne (fun e => hne e.symm)]
    by_cases hi : i < ops.size
    · simp [Array.getD, hi]
    · simp [Array.getD, hi]
  have hu : unl ops ((Array.replicate ops.size false).setIfInBounds L true) ≤ n := by
    have h1 := unl_set (ops := ops) (listed := Array.replicate ops.size false) (i := L) (by simp) hlt (by simp [Array.getD, hlt])
    have h2 : unl ops (Array.replicate ops.size false) ≤ ops.size := by
      unfold unl
      refine Nat.le_trans List.countP_le_length ?_
      simp
    omega
  have hdM : decide (M < ops.size) = true := decide_eq_true (by omega)
  have key := wpAny_inv (P := P) (md := .any) (Q := ThenL P ops Q L) (a0 := a) S J hfit hML f hside (fun i hi hne => step i (by omega) hne) (fun a W h1 h2 h3 h4 h5 => fin a W (by rw [hdM] at h1; exact h1) h2 h3 h4 (fun i hi hne => by have := h5 i (by omega) hne; rw [hdM] at this; exact this)) n ((Array.replicate ops.size false).setIfInBounds L true) a w.drew (by simp) hu (fun _ => set_getD_eq (by simpa using hlt)) ⟨by rw [hg M hML]; exact hS, rfl, rfl, fun _ _ => rfl, fun j i hj hd h => (by rw [hg j hj] at h; cases h), fun i hne hi h => (by rw [hg i hne] at h; cases h)⟩
  have := wpAny_thenL (Q := Q) (P := P) hL n (Array.replicate ops.size false) a w.drew (by simp) (by simp [Array.getD, hlt]) (fun j o ho hl => by have := (Array.getElem?_eq_some_iff.1 ho).1; simp [Array.getD, this] at hl) key
  rw [← hn] at this
  exact this
/-- The places behind such a region, written out. -/
theorem puts_eq : ∀ (l : List (Nat × Value)) (ts ts0 : Array Value), ts.size = ts0.size → (∀ p ∈ l, ts[p.1]? = some p.2) → (∀ t, (∃ p ∈ l, p.1 = t) ∨ ts[t]? = ts0[t]?) → ts = l.foldl (fun x p => x.setIfInBounds p.1 p.2) ts0 := by
  intro l
  induction l with
  | nil =>
    intro ts ts0 hs _ h
    refine Array.ext_getElem? fun t => ?_
    rcases h t with ⟨p, hp, _⟩ | h1
    · simp at hp
    · exact h1
  | cons p l ih =>
    intro ts ts0 hs h1 h2
    refine ih ts (ts0.setIfInBounds p.1 p.2) (by simp [hs]) (fun q hq => h1 q (List.mem_cons_of_mem _ hq)) (fun t => ?_)
    by_cases ht : p.1 = t
    · right
      have h3 := h1 p (by simp)
      have h4 := (Array.getElem?_eq_some_iff.1 h3).1
      rw [← ht, h3, Array.getElem?_setIfInBounds]
      simp [← hs, h4]
    · rcases h2 t with ⟨q, hq, hqt⟩ | h3
      · rcases List.mem_cons.1 hq with rfl | hq'
        · exact absurd hqt ht
        · exact .inl ⟨q, hq', hqt⟩
      · right
        rw [h3, Array.getElem?_setIfInBounds]
        simp [ht]
/-- Where the operations but L write to. -/
def dstsL (ops : Array Oper) (L : Nat) : List Nat := (List.range ops.size).filterMap fun i => if i == L then none else dstOf ops i
theorem noDst_of {L t : Nat} (h : t ∉ dstsL ops L) : noDst ops L t = true := by
  unfold noDst
  simp only [List.all_eq_true, List.mem_range]
  intro i hi
  cases hiL : i == L with
  | true => rfl
  | false =>
    simp only [Bool.false_or]
    cases hd : dstOf ops i with
    | none => simp
    | some d =>
      have : d ∈ dstsL ops L := List.mem_filterMap.2 ⟨i, List.mem_range.2 hi, by rw [hiL]; exact hd⟩
      simp
      intro e
      subst e
      exact h this
theorem puts_act {L : Nat} {a' a : Act} (l : List (Nat × Value)) (hd : l.map Prod.fst = dstsL ops L) (hdf : a'.defers = a.defers) (hsz : a'.tmps.size = a.tmps.size) (hold : ∀ t, noDst ops L t = true → a'.tmps[t]? = a.tmps[t]?) (h1 : ∀ p ∈ l, a'.tmps[p.1]? = some p.2) : a' = ⟨l.foldl (fun x p => x.setIfInBounds p.1 p.2) a.tmps, a.defers⟩ := by
  obtain ⟨ts, ds⟩ := a'
  simp only at hdf
  subst hdf
  congr 1
  refine puts_eq l ts a.tmps hsz h1 fun t => ?_
  by_cases ht : t ∈ dstsL ops L
  · rw [← hd] at ht
    obtain ⟨p, hp, e⟩ := List.mem_map.1 ht
    exact .inl ⟨p, hp, e⟩
  · exact .inr (hold t (noDst_of ht))
end
end

section
open Go.RowKit
theorem Own.cap {w : World} {g n c : Nat} {zs : List Int} (h : Own w g n c zs) : n ≤ c := by
  rcases h.2 with ⟨h', _⟩ | ⟨g', cap', cur, h', _, _, hc, _⟩
  · simp at h'
  · simp only [Value.slice.injEq, Option.some.injEq, Addr.mk.injEq, and_true, true_and] at h'
    omega
theorem Byt.append {a b : List Int} (ha : Byt a) (hb : Byt b) : Byt (a ++ b) := by
  intro z hz
  rcases List.mem_append.1 hz with h | h
  · exact ha z h
  · exact hb z h
theorem Rd.take {w : World} {a : Option Addr} {zs : List Int} (h : Rd w a zs) (q : Nat) : Rd w a (zs.take q) := by
  rcases h with h | ⟨b, off, e, hc⟩
  · exact .inl (by rw [h]; simp)
  · refine .inr ⟨b, off, e, fun j hj => ?_⟩
    rw [List.length_take] at hj
    rw [hc j (by omega)]
    have hq : j < q := by omega
    simp [List.getD_eq_getElem?_getD, hq]
end

section
open Go.RowKit
/-- One page of a block is another. -/
theorem NewBs.pg {W W2 : World} {B g n c k m P : Nat} {ds : List BkD} {bs : List BkR} {b : BkR} {p q : PgR} (h : NewBs W B (.slice (some ⟨g, 0, none⟩) n c) ds bs) (hn : bs.length = n) (hb : bs[k]? = some b) (hba : b.a = some ⟨P, 0, none⟩) (hp : b.ps[m]? = some p)
    (s3 : OwnE pgE 74 W2 (.slice (some ⟨P, 0, none⟩) b.ps.length b.cap) b.ps.length (b.ps.set m q)) (hset : ∀ j, j ≠ P → j < W.heap.size → W2.heap[j]? = W.heap[j]?) (hqo : q.own W2) (hqf : ∀ j ∈ pgK.fp q, j ∈ pgK.fp p ∨ W.heap.size ≤ j) (hqd : (pgK.fp q).Nodup) :
    NewBs W2 B (.slice (some ⟨g, 0, none⟩) n c) (ds.set k ⟨(b.ps.map PgR.D).set m q.D, b.wear, b.bad⟩) (bs.set k ⟨b.a, b.cap, b.ps.set m q, b.wear, b.bad⟩) := by
  have hr := h.row
  have hgl : g < W.heap.size := h.own.lt g (fpBs_row rfl)
  have hbm : b ∈ bs := List.mem_of_getElem? hb
  have hOP : OwnPs W b.v b.ps := h.own.2 b hbm
  have hbv : b.v = .slice (some ⟨P, 0, none⟩) b.ps.length b.cap := by unfold BkR.v; rw [hba]
  have hnd : (fpPs b.v b.ps).Nodup := flat_nodup' (f := bkK.fp) h.inn.nd hbm
  have hPf : P ∈ fpPs b.v b.ps := fpPs_row (by rw [hbv]; rfl)
  have hPn : P ∉ pgK.fps b.ps := fun hf => (List.nodup_append.1 hnd).2.2 P (by rw [hbv]; simp [Value.ownBlock]) P hf rfl
  have hPl : P < W.heap.size := hOP.lt P hPf
  have hPg : g ≠ P := fun e => hr.1 (List.mem_flatMap.2 ⟨b, hbm, by rw [e]; exact hPf⟩)
  have hI : Inn pgK W 0 (b.ps.map PgR.D) b.ps := ⟨rfl, hOP.2, fun _ _ => Nat.zero_le _, (List.nodup_append.1 hnd).2.1⟩
  have hI2 := hI.put (w' := W2) (S := W.heap.size) (q := q) hp (fun j hj => hI.lt j hj) (Nat.zero_le _) hqo hqf hqd
    (fun j hj _ => hset j (fun e => by subst e; exact hPn hj) (hI.lt j hj))
  have hbv2 : BkR.v ⟨b.a, b.cap, b.ps.set m q, b.wear, b.bad⟩ = .slice (some ⟨P, 0, none⟩) b.ps.length b.cap := by unfold BkR.v; rw [hba, List.length_set]
  have hfb : ∀ j ∈ bkK.fp (⟨b.a, b.cap, b.ps.set m q, b.wear, b.bad⟩ : BkR), j ∈ bkK.fp b ∨ W.heap.size ≤ j := fun j hj => by
    have hj' : j ∈ fpPs (.slice (some ⟨P, 0, none⟩) b.ps.length b.cap) (b.ps.set m q) := by rw [← hbv2]; exact hj
    rcases List.mem_append.1 hj' with h1 | h1
    · have : j = P := by simpa [Value.ownBlock] using h1
      subst this
      exact .inl hPf
    · obtain ⟨y, hy, hyf⟩ := List.mem_flatMap.1 h1
      rcases mem_set hy with rfl | ⟨i, _, hyi⟩
      · rcases hqf j hyf with h2 | h2
        · exact .inl (List.mem_append_right _ (List.mem_flatMap.2 ⟨p, List.mem_of_getElem? hp, h2⟩))
        · exact .inr h2
      · exact .inl (List.mem_append_right _ (List.mem_flatMap.2 ⟨y, List.mem_of_getElem? hyi, hyf⟩))
  have hP2 : P ∉ pgK.fps (b.ps.set m q) := fun hf => by
    obtain ⟨y, hy, hyf⟩ := List.mem_flatMap.1 hf
    rcases mem_set hy with rfl | ⟨i, _, hyi⟩
    · rcases hqf P hyf with h2 | h2
      · exact hPn (List.mem_flatMap.2 ⟨p, List.mem_of_getElem? hp, h2⟩)
      · omega
    · exact hPn (List.mem_flatMap.2 ⟨y, List.mem_of_getElem? hyi, hyf⟩)
  have hB0 : B ≤ W.heap.size := Nat.le_trans hr.2 (by omega)
  have hin := h.inn.put (w' := W2) (S := W.heap.size) (q := (⟨b.a, b.cap, b.ps.set m q, b.wear, b.bad⟩ : BkR)) hb (fun j hj => h.inn.lt j hj) hB0
    (by
      show OwnPs W2 (BkR.v ⟨b.a, b.cap, b.ps.set m q, b.wear, b.bad⟩) (b.ps.set m q)
      rw [hbv2]
      exact ⟨by rw [List.length_set]; exact s3, hI2.own⟩)
    hfb
    (by
      show (fpPs (BkR.v ⟨b.a, b.cap, b.ps.set m q, b.wear, b.bad⟩) (b.ps.set m q)).Nodup
      rw [hbv2]
      refine List.nodup_append.2 ⟨by simp [Value.ownBlock], hI2.nd, fun a ha c hc e => ?_⟩
      subst e
      have : a = P := by simpa [Value.ownBlock] using ha
      subst this
      exact hP2 hc)
    (fun j hj hnj => hset j (fun e => by subst e; exact hnj hPf) (h.inn.lt j hj))
  have hD : bkK.D (⟨b.a, b.cap, b.ps.set m q, b.wear, b.bad⟩ : BkR) = ⟨(b.ps.map PgR.D).set m q.D, b.wear, b.bad⟩ := by
    show BkD.mk ((b.ps.set m q).map PgR.D) b.wear b.bad = _
    rw [List.map_set]
  rw [hD] at hin
  refine hin.newBs ?_ (Nat.le_refl _) (fun j hj => ?_)
  · rw [List.length_set, hn]
    have h1 : OwnE bkE 39 W2 (.slice (some ⟨g, 0, none⟩) n c) n bs := by
      have := h.own.1
      rw [hn] at this
      exact this.block fun j hj => by
        simp [Value.ownBlock] at hj
        subst hj
        exact hset _ hPg hgl
    have h2 := bkE.xv_set bs k 0 b ⟨b.a, b.cap, b.ps.set m q, b.wear, b.bad⟩ (.slice b.a b.ps.length b.cap) hb (by decide) (by
      show [Value.slice b.a (b.ps.set m q).length b.cap, Value.int .i64 b.wear, Value.bool b.bad] = _
      rw [List.length_set]
      rfl)
    rw [set_same (bkE.xv_at bs k 0 b hb (by decide))] at h2
    unfold OwnE at h1 ⊢
    rw [← h2]
    exact h1
  · simp [Value.ownBlock] at hj
    subst hj
    refine ⟨hr.2, fun hf => ?_⟩
    obtain ⟨x, hx, hxf⟩ := List.mem_flatMap.1 hf
    rcases mem_set hx with rfl | ⟨j, _, hxj⟩
    · rcases hfb g hxf with h1 | h1
      · exact hr.1 (List.mem_flatMap.2 ⟨b, hbm, h1⟩)
      · omega
    · exact hr.1 (List.mem_flatMap.2 ⟨x, List.mem_of_getElem? hxj, hxf⟩)
/-- A chip that can be read as long as the blocks from B on are what they were. -/
def ACR (B : Nat) (w : World) (a : Option Addr) (n : Nat) (qs : List BkR) : Prop := ∀ W : World, (∀ k, B ≤ k → k < w.heap.size → W.heap[k]? = w.heap[k]?) → CR W a n qs
theorem ACR.cr {B n : Nat} {w : World} {a : Option Addr} {qs : List BkR} (h : ACR B w a n qs) : CR w a n qs := h w fun _ _ _ => rfl
theorem ACR.less {B B' n : Nat} {w : World} {a : Option Addr} {qs : List BkR} (h : ACR B w a n qs) (hB : B' ≤ B) : ACR B' w a n qs := fun W hW => h W fun k h1 h2 => hW k (Nat.le_trans hB h1) h2
theorem ACR.far {B n X i : Nat} {w : World} {a : Option Addr} {qs : List BkR} (h : ACR B w a n qs) (hX : X < B) (v : Value) : ACR B (w.setCell ⟨X, i, none⟩ v) a n qs := fun W hW => h W fun k h1 h2 => (hW k h1 (by rw [size_setC]; exact h2)).trans (Below.heap_setCell _ _ _ _ (by show k ≠ X; omega))
theorem ACR.svs {B n : Nat} {F : List Nat} {w w' : World} {a : Option Addr} {qs : List BkR} (h : ACR B w a n qs) (k : Sv F w w') (hF : ∀ g ∈ F, g < B) : ACR B w' a n qs := fun W hW => h W fun i h1 h2 => (hW i h1 (Nat.lt_of_lt_of_le h2 k.size)).trans (k.block i h2 (fun hf => by have := hF i hf; omega))
theorem NewBs.acr {w : World} {B n c : Nat} {a : Option Addr} {ds : List BkD} {qs : List BkR} (h : NewBs w B (.slice a n c) ds qs) (hn : qs.length = n) (ht : totB ds ≤ 1048576) : ACR B w a n qs := fun W hW => ⟨hn, by rw [h.D]; exact ht, by
  have h1 : OwnBs W (.slice a n c) qs := h.own.block fun j hj => hW j (h.new j hj) (h.own.lt j hj)
  have := h1.rd
  exact this⟩
theorem totB_take (i : Nat) (ds : List BkD) : totB (ds.take i) ≤ totB ds := by
  have : totB ds = totB (ds.take i) + totB (ds.drop i) := by rw [← totB_append, List.take_append_drop]
  omega
/-- Its first blocks. -/
theorem ACR.take {w : World} {B n : Nat} {a : Option Addr} {qs : List BkR} (h : ACR B w a n qs) (m : Nat) (hm : m ≤ n) : ACR B w a m (qs.take m) := fun W hW => by
  have h1 := h W hW
  refine ⟨by rw [List.length_take, h1.len]; omega, by rw [List.map_take]; exact Nat.le_trans (totB_take _ _) h1.tot, ?_⟩
  rcases h1.rd with h0 | ⟨b, off, rfl, hc⟩
  · exact .inl (by rw [h0]; simp)
  · exact .inr ⟨b, off, rfl, fun i r hi => hc i r (by rw [List.getElem?_take] at hi; split at hi <;> simp_all)⟩
/-- A block's pages but the first. -/
theorem NewBs.cut {w : World} {B g n c k P cp : Nat} {ds : List BkD} {qs : List BkR} {b : BkR} (h : NewBs w B (.slice (some ⟨g, 0, none⟩) n c) ds qs) (hn : qs.length = n) (hb : qs[k]? = some b) (hba : b.a = some ⟨P, 0, none⟩) (ht : totB ds ≤ 1048576) :
    ACR B (w.setCell ⟨g, k * 3, none⟩ (.slice (some ⟨P, 2, none⟩) (b.ps.drop 1).length cp)) (some ⟨g, 0, none⟩) n (qs.set k ⟨some ⟨P, 2, none⟩, cp, b.ps.drop 1, b.wear, b.bad⟩) := fun W hW => by
  have hr := h.row
  have hbm : b ∈ qs := List.mem_of_getElem? hb
  have hset : ∀ j, j ≠ g → (w.setCell ⟨g, k * 3, none⟩ (.slice (some ⟨P, 2, none⟩) (b.ps.drop 1).length cp)).heap[j]? = w.heap[j]? := fun j hj => Below.heap_setCell _ _ _ _ hj
  have hown : OwnE bkE 39 w (.slice (some ⟨g, 0, none⟩) n c) n qs := by have := h.own.1; rw [hn] at this; exact this
  have s := hown.set k 0 b ⟨some ⟨P, 2, none⟩, cp, b.ps.drop 1, b.wear, b.bad⟩ (.slice (some ⟨P, 2, none⟩) (b.ps.drop 1).length cp) hb (by decide) rfl
  have hgl : g < w.heap.size := h.own.lt g (fpBs_row rfl)
  have s2 := s.block (w' := W) fun j hj => by
    simp [Value.ownBlock] at hj
    subst hj
    exact hW _ hr.2 (by rw [size_setC]; exact hgl)
  have hrd : ∀ r ∈ qs, RdPs W r.a r.ps := fun r hrm => by
    have h1 := h.own.2 r hrm
    have h2 : OwnPs W r.v r.ps := h1.block fun j hj => by
      have hjl := h1.lt j hj
      have hjf : j ∈ bkK.fps qs := List.mem_flatMap.2 ⟨r, hrm, hj⟩
      have hjB : B ≤ j := h.new j (fpBs_bk hrm hj)
      rw [hW j hjB (by rw [size_setC]; exact hjl)]
      exact hset j (fun e => by subst e; exact hr.1 hjf)
    exact OwnPs.rd (n := r.ps.length) (c := r.cap) h2
  obtain ⟨a', c', e, hR⟩ := s2.rd (rd := fun r => RdPs W r.a r.ps) (fun r hr2 => by
    rcases mem_set hr2 with rfl | ⟨i, _, hi⟩
    · have h3 := hrd b hbm
      rw [hba] at h3
      rcases h3 with h0 | ⟨b', off, h4, hc⟩
      · exact .inl (by show b.ps.drop 1 = []; rw [h0]; rfl)
      · simp only [Option.some.injEq, Addr.mk.injEq] at h4
        obtain ⟨rfl, rfl, _⟩ := h4
        refine .inr ⟨_, 2, rfl, fun i r hi => ?_⟩
        have h5 := hc (1 + i) r (by rw [List.getElem?_drop] at hi; exact hi)
        refine ⟨fun j hj => ?_, h5.2⟩
        have h6 := h5.1 j hj
        have e1 : 0 + (1 + i) * pgE.k + j = 2 + i * pgE.k + j := by show 0 + (1 + i) * 2 + j = 2 + i * 2 + j; omega
        rw [e1] at h6
        exact h6
    · exact hrd r (List.mem_of_getElem? hi))
  simp only [Value.slice.injEq] at e
  refine ⟨by rw [List.length_set]; exact hn, ?_, by rw [e.1]; exact hR⟩
  rw [List.map_set, h.D]
  refine Nat.le_trans (totB_set ds k b.D _ (by rw [← h.D, List.getElem?_map, hb]; rfl) ?_) ht
  show totP ((b.ps.drop 1).map PgR.D) ≤ totP (b.ps.map PgR.D)
  cases b.ps with
  | nil => simp
  | cons x l => rw [List.drop_one, List.tail_cons, List.map_cons, totP_cons]; omega
/-- A page is used. -/
theorem NewBs.used {W : World} {B g n c k m P : Nat} {ds : List BkD} {bs : List BkR} {b : BkR} {p : PgR} (h : NewBs W B (.slice (some ⟨g, 0, none⟩) n c) ds bs) (hn : bs.length = n) (hb : bs[k]? = some b) (hba : b.a = some ⟨P, 0, none⟩) (hp : b.ps[m]? = some p) :
    NewBs (W.setCell ⟨P, m * 2, none⟩ (.bool true)) B (.slice (some ⟨g, 0, none⟩) n c) (ds.set k ⟨(b.ps.map PgR.D).set m ⟨true, p.zs⟩, b.wear, b.bad⟩) (bs.set k ⟨b.a, b.cap, b.ps.set m ⟨true, p.a, p.cap, p.zs⟩, b.wear, b.bad⟩) := by
  have hbm : b ∈ bs := List.mem_of_getElem? hb
  have hOP : OwnPs W b.v b.ps := h.own.2 b hbm
  have hbv : b.v = .slice (some ⟨P, 0, none⟩) b.ps.length b.cap := by unfold BkR.v; rw [hba]
  have hrow : OwnE pgE 74 W (.slice (some ⟨P, 0, none⟩) b.ps.length b.cap) b.ps.length b.ps := by have := hOP.1; rw [hbv] at this; exact this
  have hnd : (fpPs b.v b.ps).Nodup := flat_nodup' (f := bkK.fp) h.inn.nd hbm
  have hPn : P ∉ pgK.fps b.ps := fun hf => (List.nodup_append.1 hnd).2.2 P (by rw [hbv]; simp [Value.ownBlock]) P hf rfl
  have hset : ∀ j, j ≠ P → (W.setCell ⟨P, m * 2, none⟩ (.bool true)).heap[j]? = W.heap[j]? := fun j hj => Below.heap_setCell _ _ _ _ hj
  have hpm := List.mem_of_getElem? hp
  refine h.pg (q := ⟨true, p.a, p.cap, p.zs⟩) hn hb hba hp (hrow.set m 0 p ⟨true, p.a, p.cap, p.zs⟩ (.bool true) hp (by decide) rfl) (fun j hj _ => hset j hj) ?_ (fun j hj => .inl hj) (by
    show ((Value.slice p.a p.zs.length p.cap).ownBlock.toList).Nodup
    cases (Value.slice p.a p.zs.length p.cap).ownBlock <;> simp)
  exact PgR.own.block (hOP.2 p hpm) fun j hj => hset j (fun e => by
    subst e
    exact hPn (List.mem_flatMap.2 ⟨p, hpm, by show j ∈ (Value.slice p.a p.zs.length p.cap).ownBlock.toList; rw [show (Value.slice p.a p.zs.length p.cap).ownBlock = some j from hj]; simp⟩))
/-- A page's bytes are others. -/
theorem NewBs.bytes {W W1 : World} {B g n c k m P nq qc : Nat} {qa : Option Addr} {zs : List Int} {ds : List BkD} {bs : List BkR} {b : BkR} {p : PgR} (h : NewBs W B (.slice (some ⟨g, 0, none⟩) n c) ds bs) (hn : bs.length = n) (hb : bs[k]? = some b) (hba : b.a = some ⟨P, 0, none⟩) (hp : b.ps[m]? = some p) (b1 : Below W.heap.size W W1) (hz : zs.length = nq)
    (hq : RowB W1 (.slice qa nq qc) nq zs) (hqc : nq ≤ qc) (hqn : ∀ j, (Value.slice qa nq qc).ownBlock = some j → W.heap.size ≤ j) :
    NewBs (W1.setCell ⟨P, m * 2 + 1, none⟩ (.slice qa nq qc)) B (.slice (some ⟨g, 0, none⟩) n c) (ds.set k ⟨(b.ps.map PgR.D).set m ⟨p.used, zs⟩, b.wear, b.bad⟩) (bs.set k ⟨b.a, b.cap, b.ps.set m ⟨p.used, qa, qc, zs⟩, b.wear, b.bad⟩) := by
  subst hz
  have hbm : b ∈ bs := List.mem_of_getElem? hb
  have hOP : OwnPs W b.v b.ps := h.own.2 b hbm
  have hbv : b.v = .slice (some ⟨P, 0, none⟩) b.ps.length b.cap := by unfold BkR.v; rw [hba]
  have hrow : OwnE pgE 74 W1 (.slice (some ⟨P, 0, none⟩) b.ps.length b.cap) b.ps.length b.ps := by have := hOP.1.keep b1; rw [hbv] at this; exact this
  have hPl : P < W.heap.size := hOP.lt P (fpPs_row (by rw [hbv]; rfl))
  have hset : ∀ j, j ≠ P → (W1.setCell ⟨P, m * 2 + 1, none⟩ (.slice qa zs.length qc)).heap[j]? = W1.heap[j]? := fun j hj => Below.heap_setCell _ _ _ _ hj
  refine h.pg (q := ⟨p.used, qa, qc, zs⟩) hn hb hba hp (hrow.set m 1 p ⟨p.used, qa, qc, zs⟩ (.slice qa zs.length qc) hp (by decide) rfl) (fun j hj hl => (hset j hj).trans (b1.block j hl)) ?_ (fun j hj => .inr (hqn j (by simpa [pgK, PgR.v] using hj))) (by
    show ((Value.slice qa zs.length qc).ownBlock.toList).Nodup
    cases (Value.slice qa zs.length qc).ownBlock <;> simp)
  exact ⟨RowB.block hq fun j hj => hset j (fun e => by subst e; have := hqn j hj; omega), hqc⟩
end
end Go.Proofs.Ytpejfkgbfdkdnaa
