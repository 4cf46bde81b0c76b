/-
  Joined: Tree, UsageS, FsOkM.
-/
import Derived.Test.YtfjlemnohjnkhaaGreatTabOkSF
import Derived.Test.YtfjlemnohjnkhaaGreatJ13F
import Derived.Test.YtfjlemnohjnkhaaGreatAscTF
namespace Go.Proofs.YtfjlemnohjnkhaaGreat
section
open Go.RowKit
/-- x ahead of the last ones that are greater. -/
def insBy {α : Type} (gt : α → Bool) (l : List α) (x : α) : List α := (l.reverse.dropWhile gt).reverse ++ x :: (l.reverse.takeWhile gt).reverse
theorem takeWhile_app {α : Type} (p : α → Bool) (l m : List α) (h : ∀ y ∈ l, p y = true) : (l ++ m).takeWhile p = l ++ m.takeWhile p ∧ (l ++ m).dropWhile p = m.dropWhile p := by
  induction l with
  | nil => exact ⟨rfl, rfl⟩
  | cons y l ih =>
    have h1 := h y (List.mem_cons_self ..)
    have h2 := ih fun z hz => h z (List.mem_cons_of_mem _ hz)
    simp [h1, h2.1, h2.2]
theorem insBy_at {α : Type} {gt : α → Bool} {l : List α} {x : α} {k : Nat} (hk : k ≤ l.length) (h1 : ∀ y ∈ l.drop k, gt y = true) (h2 : k = 0 ∨ ∃ y, l[k - 1]? = some y ∧ gt y = false) : insBy gt l x = l.take k ++ x :: l.drop k := by
  have e : l.reverse = (l.drop k).reverse ++ (l.take k).reverse := by rw [← List.reverse_append, List.take_append_drop]
  have hh := takeWhile_app gt (l.drop k).reverse (l.take k).reverse (fun y hy => h1 y (List.mem_reverse.1 hy))
  unfold insBy
  rw [e, hh.1, hh.2]
  have h3 : (l.take k).reverse.takeWhile gt = [] ∧ (l.take k).reverse.dropWhile gt = (l.take k).reverse := by
    rcases h2 with rfl | ⟨y, hy, hg⟩
    · simp
    · have hk0 : k ≠ 0 := by
        rintro rfl
        obtain ⟨y', hy'⟩ : ∃ y', l[0]? = some y' := ⟨y, hy⟩
        have := h1 y (by simpa using List.mem_of_getElem? hy)
        rw [this] at hg
        simp at hg
      have e2 : (l.take k).reverse = y :: (l.take (k - 1)).reverse := by
        have : l.take k = l.take (k - 1) ++ [y] := by
          obtain ⟨m, rfl⟩ : ∃ m, k = m + 1 := ⟨k - 1, by omega⟩
          rw [Nat.add_sub_cancel] at hy ⊢
          rw [List.take_add_one, hy]
          rfl
        rw [this]
        simp
      rw [e2]
      simp [hg]
  rw [h3.1, h3.2]
  simp
theorem insBy_perm {α : Type} (gt : α → Bool) (l : List α) (x : α) : ∃ a b, l = a ++ b ∧ insBy gt l x = a ++ x :: b := by
  refine ⟨(l.reverse.dropWhile gt).reverse, (l.reverse.takeWhile gt).reverse, ?_, rfl⟩
  rw [← List.reverse_append, List.takeWhile_append_dropWhile, List.reverse_reverse]
theorem insBy_mem {α : Type} {gt : α → Bool} {l : List α} {x y : α} : y ∈ insBy gt l x ↔ y = x ∨ y ∈ l := by
  obtain ⟨a, b, h1, h2⟩ := insBy_perm gt l x
  rw [h2]
  subst h1
  simp only [List.mem_append, List.mem_cons]
  constructor
  · rintro (h | h | h)
    · exact .inr (.inl h)
    · exact .inl h
    · exact .inr (.inr h)
  · rintro (h | h | h)
    · exact .inr (.inl h)
    · exact .inl h
    · exact .inr (.inr h)
theorem insBy_len {α : Type} (gt : α → Bool) (l : List α) (x : α) : (insBy gt l x).length = l.length + 1 := by
  obtain ⟨a, b, h1, h2⟩ := insBy_perm gt l x
  rw [h2]
  subst h1
  simp
  omega
/-- How many entries of all directories lead to this number. -/
def linksIn (D : InoD) (x : Int) : Nat := if D.kind = 2 then (D.ents.filter fun e => e.2 == x).length else 0
def linksD (ds : List InoD) (x : Int) : Nat := (ds.map fun D => linksIn D x).sum
/-- A number put in order, if it is not there. -/
def putI (l : List Int) (x : Int) : List Int := if x ∈ l then l else insBy (fun y => decide (x < y)) l x
def dirEnts (ds : List InoD) (x : Int) : List (ByteArray × Int) := match look ds x with
  | some D => if D.kind = 2 then D.ents else []
  | none => []
def addE (ds : List InoD) (o : List Int) (es : List (ByteArray × Int)) : List Int := es.foldl (fun o e => if (look ds e.2).isSome then putI o e.2 else o) o
/-- What is reached by one entry more. -/
def nextD (ds : List InoD) (l : List Int) : List Int := l.foldl (fun o x => addE ds o (dirEnts ds x)) l
def reachN (ds : List InoD) : Nat → List Int
  | 0 => [1]
  | k + 1 => nextD ds (reachN ds k)
def reachD (ds : List InoD) : List Int := if (look ds 1).isSome then reachN ds ds.length else []
/-- Numbers of the table, none twice. -/
structure InTab (ds : List InoD) (l : List Int) : Prop where
  nd : l.Nodup
  mem : ∀ x ∈ l, (look ds x).isSome = true
theorem InTab.put {ds : List InoD} {l : List Int} (h : InTab ds l) {x : Int} (hx : (look ds x).isSome = true) : InTab ds (putI l x) := by
  unfold putI
  split
  · exact h
  · rename_i hn
    refine ⟨?_, fun y hy => ?_⟩
    · obtain ⟨a, b, h1, h2⟩ := insBy_perm (fun y => decide (x < y)) l x
      rw [h2]
      have hnd := h.nd
      rw [h1, List.nodup_append] at hnd
      have hna : x ∉ a ∧ x ∉ b := by
        rw [h1] at hn
        simpa [List.mem_append, not_or] using hn
      rw [List.nodup_append]
      refine ⟨hnd.1, List.nodup_cons.2 ⟨hna.2, hnd.2.1⟩, fun y hy z hz => ?_⟩
      rcases List.mem_cons.1 hz with rfl | hz
      · exact fun e => hna.1 (e ▸ hy)
      · exact hnd.2.2 y hy z hz
    · rcases insBy_mem.1 hy with rfl | hy
      · exact hx
      · exact h.mem y hy
theorem InTab.add {ds : List InoD} {l : List Int} (h : InTab ds l) (es : List (ByteArray × Int)) : InTab ds (addE ds l es) := by
  unfold addE
  induction es generalizing l with
  | nil => exact h
  | cons e es ih =>
    rw [List.foldl_cons]
    apply ih
    split
    · rename_i hx
      exact h.put hx
    · exact h
theorem InTab.fold {ds : List InoD} {o : List Int} (h : InTab ds o) (l : List Int) : InTab ds (l.foldl (fun o x => addE ds o (dirEnts ds x)) o) := by
  induction l generalizing o with
  | nil => exact h
  | cons x l ih =>
    rw [List.foldl_cons]
    exact ih (h.add _)
theorem InTab.next {ds : List InoD} {l : List Int} (h : InTab ds l) : InTab ds (nextD ds l) := h.fold l
theorem InTab.reach {ds : List InoD} (h : (look ds 1).isSome = true) (k : Nat) : InTab ds (reachN ds k) := by
  induction k with
  | zero => exact ⟨by simp [reachN], fun x hx => by simp [reachN] at hx; subst hx; exact h⟩
  | succ k ih => exact ih.next
theorem sub_len {α : Type} [BEq α] [LawfulBEq α] : ∀ {l m : List α}, l.Nodup → (∀ x ∈ l, x ∈ m) → l.length ≤ m.length
  | [], _, _, _ => Nat.zero_le _
  | x :: l, m, hn, hs => by
    have hx := hs x (List.mem_cons_self ..)
    have hn' := List.nodup_cons.1 hn
    have h1 := sub_len (l := l) (m := m.erase x) hn'.2 (fun y hy => (List.mem_erase_of_ne (by rintro rfl; exact hn'.1 hy)).2 (hs y (List.mem_cons_of_mem _ hy)))
    have h2 := List.length_erase_of_mem hx
    have h3 := List.length_pos_of_mem hx
    simp only [List.length_cons]
    omega
theorem look_ino {ds : List InoD} {x : Int} (h : (look ds x).isSome = true) : x ∈ ds.map InoD.ino := by
  obtain ⟨D, hD⟩ := Option.isSome_iff_exists.1 h
  obtain ⟨h1, h2⟩ := look_mem hD
  exact h2 ▸ List.mem_map_of_mem h1
theorem InTab.len {ds : List InoD} {l : List Int} (h : InTab ds l) : l.length ≤ ds.length := by
  have := sub_len h.nd (m := ds.map InoD.ino) (fun x hx => look_ino (h.mem x hx))
  simpa using this
/-- A table that is right; a tree. -/
def tabD (nx : Int) (ds : List InoD) : Bool := tabS nx (ds.map lift)
def treeD (nx : Int) (ds : List InoD) : Bool := tabD nx ds && (decide ((reachD ds).length = ds.length) && ds.all fun D => decide ((linksD ds D.ino : Int) = D.links) && D.ents.all fun e => (look ds e.2).isSome)
theorem getD_lift (rs : List InoR) (i : Nat) : (((rs.map InoR.D).map lift).getD i inoZ).D = (rs.getD i inoZ).D := by
  rw [List.getD_eq_getElem?_getD, List.getD_eq_getElem?_getD, List.getElem?_map, List.getElem?_map]
  cases rs[i]? <;> rfl
theorem tabS_D (nx : Int) (rs : List InoR) : tabS nx rs = tabD nx (rs.map InoR.D) := by
  unfold tabD tabS
  have h : stepT nx ((rs.map InoR.D).map lift) = stepT nx rs := by
    funext i
    unfold stepT
    simp only [getD_lift]
  simp only [List.length_map, getD_lift, h]
theorem tabD_ok {nx : Int} {ds : List InoD} (h : tabD nx ds = true) : 1 ≤ ds.length ∧ ds.length ≤ 30 ∧ 2 ≤ nx ∧ nx ≤ 1000 ∧ (∀ D ∈ ds, inoOk D = true ∧ D.ino < nx) ∧ ∃ D, ds[0]? = some D ∧ D.ino = 1 ∧ D.kind = 2 := by
  unfold tabD tabS at h
  simp only [List.length_map, Bool.and_eq_true, decide_eq_true_eq, List.all_eq_true, List.mem_range] at h
  obtain ⟨⟨h1, h2⟩, ⟨h3, h4⟩, h5, h6, h7⟩ := h
  refine ⟨h1, h2, h3, h4, fun D hD => ?_, ds[0], List.getElem?_eq_getElem (by omega), ?_, ?_⟩
  · obtain ⟨i, hi⟩ := List.getElem?_of_mem hD
    have hl := (List.getElem?_eq_some_iff.1 hi).1
    have := h5 i hl
    unfold stepT at this
    have e : ((ds.map lift).getD i inoZ).D = D := by
      rw [List.getD_eq_getElem?_getD, List.getElem?_map, hi]
      rfl
    rw [e] at this
    simp only [Bool.and_eq_true, decide_eq_true_eq] at this
    exact ⟨this.1, this.2.1⟩
  · rw [← h6, List.getD_eq_getElem?_getD, List.getElem?_map, List.getElem?_eq_getElem (by omega)]
    rfl
  · rw [← h7, List.getD_eq_getElem?_getD, List.getElem?_map, List.getElem?_eq_getElem (by omega)]
    rfl
end

section
open Go.RowKit
def attU (l : List (ByteArray × ByteArray)) : Nat := (l.map fun e => e.1.size + e.2.size).sum
def restU (ds : List InoD) : Nat := (ds.map fun D => D.data.length + attU D.attrs).sum
/-- What a table uses. -/
def usageD (ds : List InoD) : Nat := ds.length * 32 + restU ds
theorem attU_snoc {l : List (ByteArray × ByteArray)} {k : Nat} {q : ByteArray × ByteArray} (h : l[k]? = some q) : attU (l.take (k + 1)) = attU (l.take k) + (q.1.size + q.2.size) := by
  unfold attU
  rw [List.take_add_one, h]
  simp
theorem restU_snoc {ds : List InoD} {k : Nat} {D : InoD} (h : ds[k]? = some D) : restU (ds.take (k + 1)) = restU (ds.take k) + (D.data.length + attU D.attrs) := by
  unfold restU
  rw [List.take_add_one, h]
  simp
theorem usageD_snoc {ds : List InoD} {k : Nat} {D : InoD} (h : ds[k]? = some D) : usageD (ds.take (k + 1)) = usageD (ds.take k) + (32 + D.data.length + attU D.attrs) := by
  have hk := (List.getElem?_eq_some_iff.1 h).1
  unfold usageD
  rw [restU_snoc h, List.length_take, List.length_take]
  omega
set_option maxRecDepth 100000 in
set_option maxHeartbeats 4000000 in
theorem usageS (a : Option Addr) (n cap : Nat) (nx : Int) (rs : List InoR) (w : World) (ht : TR w a n rs) :
    Calls Tryz.prog 22 #[.agg #[.slice a n cap, .int .i64 nx]] w fun e w' => e = .returned (.int .i64 (usageD (rs.map InoR.D) : Nat)) ∧ Below w.heap.size w w' := by
  have B0 : Below w.heap.size w (w.alloc (.cells #[.slice a n cap, .int .i64 nx] 47)) := (Below.refl _ w).alloc (Nat.le_refl _) _
  have z0 := Blk.new w 47 #[.slice a n cap, .int .i64 nx]
  have ht0 := ht.keep B0
  have HB : Hid _ := B0
  have HT : Hid _ := ht0
  have hln : Hid (rs.length = n) := ht.len
  have hn1 := ht.n
  obtain ⟨R, hR⟩ : ∃ R, usageD (rs.map InoR.D) = R := ⟨_, rfl⟩
  rw [hR]
  have HR : Hid _ := hR
  clear ht ht0 hR B0
  go_enter Tryz.func22, Tryz.ntmps22
  go_wp2
  obtain ⟨W0, hW0⟩ : ∃ W, w.alloc (.cells #[.slice a n cap, .int .i64 nx] 47) = W := ⟨_, rfl⟩
  rw [hW0] at z0 HB HT ⊢
  clear hW0
  have HZ : Hid _ := z0
  clear z0
  go_loopw [3, 4] (fun c i wr => ∃ k m : Nat, k ≤ n ∧ i = .int .i64 k ∧ c = .int .i64 ((m : Nat) : Int) ∧ m ≤ k * 2199024304160 ∧ Hid (usageD ((rs.map InoR.D).take k) = m) ∧ Hid (Below W0.heap.size W0 wr)) (fun _ i _ => n - (intOf i).toNat)
  case atStart => exact ⟨0, 0, Nat.zero_le _, rfl, rfl, Nat.zero_le _, rfl, Below.refl _ _⟩
  case round =>
    obtain ⟨k, m, hk, rfl, rfl, hm, hlk, hB⟩ := hrel
    have zw := Blk.keep HZ.out hB.out
    have t0 := zw.cell 0
    simp at t0
    clear zw
    have hm2 : m ≤ 2305844108758876160 := by
      have : k * 2199024304160 ≤ 1048576 * 2199024304160 := Nat.mul_le_mul_right _ (by omega)
      omega
    by_cases hkn : k < n
    · have hki : (k : Int) < (n : Int) := by omega
      have hk0 : (0 : Int) ≤ (k : Int) := by omega
      obtain ⟨r, hrk⟩ : ∃ r, rs[k]? = some r := ⟨_, List.getElem?_eq_getElem (by rw [hln.out]; exact hkn)⟩
      have hTr := HT.out.keep hB.out
      obtain ⟨b, off, rfl, hlt, hc⟩ := RdI.lt hTr.rd (by intro h; rw [h] at hrk; simp at hrk)
      obtain ⟨x6, xr⟩ := hc k r hrk
      have hsm := hTr.small r (List.mem_of_getElem? hrk)
      have hds := hsm.data
      have hes := hsm.attrs
      have hnx : Hid (usageD ((rs.map InoR.D).take (k + 1)) = m + (32 + r.D.data.length + attU r.D.attrs)) := by
        show _ = _
        rw [usageD_snoc (D := r.D) (by simp [hrk]), hlk.out]
      obtain ⟨es, hes'⟩ : ∃ es, r.D.attrs = es := ⟨_, rfl⟩
      have hre : RdP wr r.a3 (aP es) := by rw [← hes']; exact xr.attrs
      have HSZ : Hid (∀ q ∈ es, q.1.size ≤ 1048576 ∧ q.2.size ≤ 1048576) := by rw [← hes']; exact hsm.attrsz
      obtain ⟨x0, x1, x2, x3, x4, x5⟩ := x6
      rw [hes'] at x5 hes hnx
      obtain ⟨n3, hn3⟩ : ∃ n3, es.length = n3 := ⟨_, rfl⟩
      rw [hn3] at x5 hes
      have HN : Hid _ := hn3
      generalize r.D.ino = i1 at x0
      generalize r.D.kind = i2 at x1
      generalize r.D.links = i3 at x2
      generalize r.D.data.length = n1 at x3 hds hnx
      generalize r.D.ents.length = n2 at x4
      have bx := Blk.new wr 85 #[.int .i64 i1, .int .i64 i2, .int .i64 i3, .slice r.a1 n1 r.c1, .slice r.a2 n2 r.c2, .slice r.a3 n3 r.c3]
      have hbA : Below wr.heap.size wr (wr.alloc (.cells #[.int .i64 i1, .int .i64 i2, .int .i64 i3, .slice r.a1 n1 r.c1, .slice r.a2 n2 r.c2, .slice r.a3 n3 r.c3] 85)) := (Below.refl _ wr).alloc (Nat.le_refl _) _
      have HE : Hid _ := RdP.keep hre hbA
      have HBA : Hid (Below W0.heap.size W0 (wr.alloc (.cells #[.int .i64 i1, .int .i64 i2, .int .i64 i3, .slice r.a1 n1 r.c1, .slice r.a2 n2 r.c2, .slice r.a3 n3 r.c3] 85))) := hB.out.trans (hbA.mono hB.out.size)
      have y3 := bx.cell 3
      have y5 := bx.cell 5
      simp at y3 y5
      have HBX : Hid _ := bx
      clear hc xr hsm hrk hlk hes' hn3 hre hTr bx hbA
      go_wp2
      obtain ⟨Wb, hWb⟩ : ∃ W, wr.alloc (.cells #[.int .i64 i1, .int .i64 i2, .int .i64 i3, .slice r.a1 n1 r.c1, .slice r.a2 n2 r.c2, .slice r.a3 n3 r.c3] 85) = W := ⟨_, rfl⟩
      rw [hWb] at HE HBA HBX ⊢
      clear hWb y3 y5 x0 x1 x2 x3 x4 x5
      go_loopw [3, 6] (fun c j wi => ∃ p q : Nat, p ≤ n3 ∧ j = .int .i64 p ∧ c = .int .i64 ((m + (32 + n1 + q) : Nat) : Int) ∧ q ≤ p * 2097152 ∧ Hid (attU (es.take p) = q) ∧ Hid (Below Wb.heap.size Wb wi)) (fun _ j _ => n3 - (intOf j).toNat)
      case atStart => exact ⟨0, 0, Nat.zero_le _, rfl, by go_num, Nat.zero_le _, rfl, Below.refl _ _⟩
      case round =>
        obtain ⟨p, q, hp, rfl, rfl, hq, hcq, hBi⟩ := hrel
        have y5 := Blk.cell (Blk.keep HBX.out hBi.out) 5
        simp at y5
        have hq2 : q ≤ 2199023255552 := by
          have : p * 2097152 ≤ 1048576 * 2097152 := Nat.mul_le_mul_right _ (by omega)
          omega
        by_cases hpn : p < n3
        · have hpi : (p : Int) < (n3 : Int) := by omega
          have hp0 : (0 : Int) ≤ (p : Int) := by omega
          have hpl : p < es.length := by rw [HN.out]; exact hpn
          obtain ⟨eb, eo, hea, helt, hec⟩ := RdP.lt (RdP.keep HE.out hBi.out) (by intro h; have := congrArg List.length h; rw [aP_length] at this; simp at this; rw [this] at hpl; simp at hpl)
          have hx := hec p (by rw [aP_length]; exact hpl)
          rw [aP_at es p hpl] at hx
          have hsn := attU_snoc (List.getElem?_eq_getElem hpl)
          have hss := HSZ.out es[p] (List.getElem_mem hpl)
          obtain ⟨zn, hz⟩ : ∃ z, es[p].1 = z := ⟨_, rfl⟩
          obtain ⟨u, hu⟩ : ∃ u, es[p].2 = u := ⟨_, rfl⟩
          rw [hz, hu] at hx hsn hss
          rw [hcq.out] at hsn
          obtain ⟨x1, x2⟩ := hx
          dsimp only at x1 x2
          obtain ⟨s1, s2⟩ := hss
          rw [hea] at y5
          have hs1 : Hid (attU (es.take (p + 1)) = q + (zn.size + u.size)) := hsn
          clear hec hz hu hcq hsn
          generalize hzn : zn.size = sn at s1 hs1
          generalize hun : u.size = su at s2 hs1
          go_wp2
          go_quiet (fail)
          go_wp2
          go_roundw
          case rel => exact ⟨p + 1, q + (sn + su), by omega, by go_num, by go_num, by omega, hs1, below_drewN hBi.out nq⟩
          case measure => simp [intOf]; omega
        · have hpi : ¬ (p : Int) < (n3 : Int) := by omega
          have hfin : Hid (usageD ((rs.map InoR.D).take (k + 1)) = m + (32 + n1 + q)) := by
            show _ = _
            rw [hnx.out, ← hcq.out, List.take_of_length_le (by rw [HN.out]; omega)]
          have hB2 : Hid _ := HBA.out.trans (hBi.out.mono HBA.out.size)
          go_wp2
          go_roundw
          case rel => exact ⟨k + 1, m + (32 + n1 + q), by omega, by go_num, by go_num, by omega, hfin, hB2⟩
          case measure => simp [intOf]; omega
    · have hki : ¬ (k : Int) < (n : Int) := by omega
      have hend : Hid (((m : Nat) : Int) = (R : Int)) := by
        have h1 := hlk.out
        rw [List.take_of_length_le (by rw [List.length_map, hln.out]; omega)] at h1
        have h2 := HR.out
        rw [h1] at h2
        show _ = _
        rw [h2]
      have hfb : Hid _ := HB.out.trans (hB.out.mono HB.out.size)
      go_wp2
      go_ret
      exact ⟨ret_int hend.out, hfb.out⟩
end

section
open Go.RowKit
/-- A volume is right, but for its number. -/
def volRight (d : VolD) : Bool := ((nameOk d.name.data.toList && (decide (32 ≤ d.limit) && decide (d.limit ≤ 4000))) && treeD d.nx d.ds) && decide ((usageD d.ds : Int) ≤ d.limit)
/-- The volume in the place k is right. -/
def volGood (nx : Int) (ds : List VolD) (d : VolD) (k : Nat) : Bool := ((volRight d && decide (1 ≤ d.id)) && decide (d.id < nx)) && (volNm ds d.name == (k : Int))
/-- A file system is right. -/
def fsOkD (nx : Int) (ds : List VolD) : Bool := (decide (ds.length ≤ 6) && (decide (1 ≤ nx) && decide (nx ≤ 99))) && ((List.range ds.length).all (fun k => volGood nx ds (ds.getD k volZ.D) k) && ascN (ds.map VolD.id))
theorem getV_at {vs : List VolR} {k : Nat} {r : VolR} (h : vs[k]? = some r) : (vs.map VolR.D).getD k volZ.D = r.D := by simp [List.getD_eq_getElem?_getD, h]
theorem fsOk_bad {nx : Int} {vs : List VolR} {k : Nat} {r : VolR} (hk : vs[k]? = some r) (h : volGood nx (vs.map VolR.D) r.D k = false) : fsOkD nx (vs.map VolR.D) = false := by
  unfold fsOkD
  have hl := (List.getElem?_eq_some_iff.1 hk).1
  have : (List.range (vs.map VolR.D).length).all (fun k => volGood nx (vs.map VolR.D) ((vs.map VolR.D).getD k volZ.D) k) = false := List.all_eq_false.2 ⟨k, List.mem_range.2 (by simpa using hl), by rw [getV_at hk, h]; simp⟩
  rw [this]
  simp
theorem fsOk_asc {nx : Int} {vs : List VolR} {j : Nat} {r t : VolR} (hj : vs[j]? = some r) (hk : vs[j + 1]? = some t) (h : t.id ≤ r.id) : fsOkD nx (vs.map VolR.D) = false := by
  unfold fsOkD
  have hl := (List.getElem?_eq_some_iff.1 hk).1
  have : ascN ((vs.map VolR.D).map VolD.id) = false := by
    unfold ascN
    refine List.all_eq_false.2 ⟨j + 1, List.mem_range.2 (by simpa using hl), ?_⟩
    simp only [Nat.add_sub_cancel, List.getD_eq_getElem?_getD, List.getElem?_map, hj, hk, Option.map_some, Option.getD_some]
    have e1 : r.D.id = r.id := rfl
    have e2 : t.D.id = t.id := rfl
    rw [e1, e2, decide_eq_false (show ¬ r.id < t.id by omega), decide_eq_false (show ¬ j + 1 = 0 by omega)]
    simp
  rw [this]
  simp
theorem fsOk_all {nx : Int} {vs : List VolR} (h1 : vs.length ≤ 6) (h2 : 1 ≤ nx) (h3 : nx ≤ 99) (h : ∀ (k : Nat) (r : VolR), k < vs.length → vs[k]? = some r → volGood nx (vs.map VolR.D) r.D k = true) : fsOkD nx (vs.map VolR.D) = ascN ((vs.map VolR.D).map VolD.id) := by
  unfold fsOkD
  have : (List.range (vs.map VolR.D).length).all (fun k => volGood nx (vs.map VolR.D) ((vs.map VolR.D).getD k volZ.D) k) = true := List.all_eq_true.2 fun k hk => by
    have hl : k < vs.length := by simpa using hk
    rw [getV_at (List.getElem?_eq_getElem hl)]
    exact h k _ hl (List.getElem?_eq_getElem hl)
  rw [this, List.length_map, decide_eq_true h1, decide_eq_true h2, decide_eq_true h3]
  simp
theorem ascV_yes {vs : List VolR} (h : ∀ (j : Nat) (r t : VolR), vs[j]? = some r → vs[j + 1]? = some t → r.id < t.id) : ascN ((vs.map VolR.D).map VolD.id) = true := by
  unfold ascN
  refine List.all_eq_true.2 fun k hk => ?_
  have hl : k < vs.length := by simpa using hk
  cases k with
  | zero => rfl
  | succ j =>
    have hr : vs[j]? = some vs[j] := List.getElem?_eq_getElem (by omega)
    have ht : vs[j + 1]? = some vs[j + 1] := List.getElem?_eq_getElem hl
    have h1 := h j _ _ hr ht
    simp only [Nat.add_sub_cancel, List.getD_eq_getElem?_getD, List.getElem?_map, hr, ht, Option.map_some, Option.getD_some]
    have e1 : (vs[j]'(by omega)).D.id = (vs[j]'(by omega)).id := rfl
    have e2 : vs[j + 1].D.id = vs[j + 1].id := rfl
    rw [e1, e2, decide_eq_true h1]
    simp
theorem fsOk_form {nx : Int} {vs : List VolR} (h : ¬ (vs.length ≤ 6 ∧ 1 ≤ nx ∧ nx ≤ 99)) : fsOkD nx (vs.map VolR.D) = false := by
  unfold fsOkD
  have : (decide ((vs.map VolR.D).length ≤ 6) && (decide (1 ≤ nx) && decide (nx ≤ 99))) = false := by
    rw [List.length_map]
    by_cases h1 : vs.length ≤ 6
    · by_cases h2 : 1 ≤ nx
      · rw [decide_eq_false (fun h3 => h ⟨h1, h2, h3⟩)]
        simp
      · rw [decide_eq_false h2]
        simp
    · rw [decide_eq_false h1]
      simp
  rw [this]
  simp
end
end Go.Proofs.YtfjlemnohjnkhaaGreat
