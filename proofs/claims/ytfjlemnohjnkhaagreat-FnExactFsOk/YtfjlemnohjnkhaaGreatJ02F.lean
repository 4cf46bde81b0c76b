/-
  Joined: Pairs, Inode.
-/
import Derived.Test.YtfjlemnohjnkhaaGreatJ01F
import Derived.Deep.RegionWith
import Derived.Laws.IdiomStrings
import Derived.Deep.Slices
namespace Go.Proofs.YtfjlemnohjnkhaaGreat
section
open Go.RowKit
abbrev VP := Value × Value
/-- The cells of pairs. -/
def pv (ps : List VP) : List Value := ps.flatMap fun p => [p.1, p.2]
theorem pv_length (ps : List VP) : (pv ps).length = ps.length * 2 := by
  induction ps with
  | nil => rfl
  | cons p ps ih => simp only [pv, List.flatMap_cons, List.length_append, List.length_cons, List.length_nil] at ih ⊢; omega
theorem pv_at (ps : List VP) (i : Nat) (h : i < ps.length) : (pv ps)[i * 2]? = some (ps.getD i (undef, undef)).1 ∧ (pv ps)[i * 2 + 1]? = some (ps.getD i (undef, undef)).2 := by
  induction ps generalizing i with
  | nil => simp at h
  | cons p ps ih =>
    cases i with
    | zero => simp [pv]
    | succ i =>
      have hi := ih i (by simpa using h)
      have e : (i + 1) * 2 = i * 2 + 2 := by omega
      simp only [pv, List.flatMap_cons, List.cons_append, List.nil_append] at hi ⊢
      rw [e]
      simp only [List.getElem?_cons_succ, List.getD_cons_succ]
      exact hi
theorem pv_set (ps : List VP) (i : Nat) (p : VP) (h : i < ps.length) : ((pv ps).set (i * 2) p.1).set (i * 2 + 1) p.2 = pv (ps.set i p) := by
  induction ps generalizing i with
  | nil => simp at h
  | cons q ps ih =>
    cases i with
    | zero => simp [pv]
    | succ i =>
      have hi := ih i (by simpa using h)
      have e : (i + 1) * 2 = i * 2 + 2 := by omega
      simp only [pv, List.flatMap_cons, List.cons_append, List.nil_append, List.set_cons_succ] at hi ⊢
      rw [e]
      simp only [List.set_cons_succ, hi]
/-- The pairs can be read from the address a on. -/
def RdP (w : World) (a : Option Addr) (ps : List VP) : Prop :=
  ps = [] ∨ ∃ b off, a = some ⟨b, off, none⟩ ∧ ∀ i, i < ps.length → w.cell? ⟨b, off + i * 2, none⟩ = some (ps.getD i (undef, undef)).1 ∧ w.cell? ⟨b, off + i * 2 + 1, none⟩ = some (ps.getD i (undef, undef)).2
theorem RdP.lt {w : World} {a : Option Addr} {ps : List VP} (h : RdP w a ps) (hz : ps ≠ []) : ∃ b off, a = some ⟨b, off, none⟩ ∧ b < w.heap.size ∧ ∀ i, i < ps.length → w.cell? ⟨b, off + i * 2, none⟩ = some (ps.getD i (undef, undef)).1 ∧ w.cell? ⟨b, off + i * 2 + 1, none⟩ = some (ps.getD i (undef, undef)).2 := by
  rcases h with h | ⟨b, off, rfl, hc⟩
  · exact absurd h hz
  · exact ⟨b, off, rfl, World.block_lt_of_cell? w _ (hc 0 (List.length_pos_iff.2 hz)).1, hc⟩
theorem RdP.keep {w w' : World} {a : Option Addr} {ps : List VP} (h : RdP w a ps) (hb : Below w.heap.size w w') : RdP w' a ps := by
  by_cases hz : ps = []
  · exact .inl hz
  · obtain ⟨b, off, rfl, hlt, hc⟩ := h.lt hz
    refine .inr ⟨b, off, rfl, fun i hi => ?_⟩
    rw [hb.cell (p := ⟨b, off + i * 2, none⟩) hlt, hb.cell (p := ⟨b, off + i * 2 + 1, none⟩) hlt]
    exact hc i hi
/-- The block g is the call's own row of pairs of type e. -/
def OwnP (e : TypeId) (w : World) (g n cap : Nat) (ps : List VP) : Prop := w.ownsRow 0 e 2 (.slice (some ⟨g, 0, none⟩) n cap) n (pv ps)
theorem OwnP.len {e : TypeId} {w : World} {g n cap : Nat} {ps : List VP} (h : OwnP e w g n cap ps) : ps.length = n := by
  have := h.1
  rw [pv_length] at this
  omega
theorem OwnP.lt {e : TypeId} {w : World} {g n cap : Nat} {ps : List VP} (h : OwnP e w g n cap ps) : g < w.heap.size := (World.ownsRow.lt h g rfl).2
theorem OwnP.keep {e : TypeId} {w w' : World} {g n cap : Nat} {ps : List VP} (h : OwnP e w g n cap ps) (hb : Below w.heap.size w w') : OwnP e w' g n cap ps := by
  refine ⟨h.1, ?_⟩
  rcases h.2 with h' | ⟨g', cap', cur, h', hb', hgg, rest⟩
  · exact .inl h'
  · exact .inr ⟨g', cap', cur, h', hb', (hb.block g' (Array.getElem?_eq_some_iff.1 hgg).1).trans hgg, rest⟩
theorem OwnP.kept {e : TypeId} {w w' : World} {g n c g2 : Nat} {ps : List VP} (h : OwnP e w g n c ps) (hg : w.grownBy w' (some g2)) (hne : g ≠ g2) : OwnP e w' g n c ps :=
  World.ownsRow.kept h hg (.inr (by simp [Value.ownBlock, hne]))
theorem add_at (g j : Nat) : (⟨g, 0, none⟩ : Addr).add j = ⟨g, j, none⟩ := by
  unfold Addr.add
  split
  · rename_i h; rw [h]
  · simp
theorem OwnP.cells {e : TypeId} {w : World} {g n cap : Nat} {ps : List VP} (h : OwnP e w g n cap ps) (i : Nat) (hi : i < n) : w.cell? ⟨g, i * 2, none⟩ = some (ps.getD i (undef, undef)).1 ∧ w.cell? ⟨g, i * 2 + 1, none⟩ = some (ps.getD i (undef, undef)).2 := by
  obtain ⟨h1, h2⟩ := pv_at ps i (by rw [h.len]; exact hi)
  have k1 := World.ownsRow.cells h (g := g) rfl (i * 2) _ h1
  have k2 := World.ownsRow.cells h (g := g) rfl (i * 2 + 1) _ h2
  rw [add_at] at k1 k2
  exact ⟨k1, k2⟩
theorem OwnP.rd {e : TypeId} {w : World} {g n cap : Nat} {ps : List VP} (h : OwnP e w g n cap ps) : RdP w (some ⟨g, 0, none⟩) ps := by
  refine .inr ⟨g, 0, rfl, fun i hi => ?_⟩
  have := h.cells i (by rw [← h.len]; exact hi)
  simpa using this
theorem ownP_stored {e : TypeId} {w : World} {g n cap : Nat} {ps : List VP} (h : OwnP e w g n cap ps) (k : Nat) (hk : k < n) (p : VP) : OwnP e ((w.setCell ⟨g, k * 2, none⟩ p.1).setCell ⟨g, k * 2 + 1, none⟩ p.2) g n cap (ps.set k p) := by
  have h1 := (World.ownsRow.stored h (k * 2) p.1).1
  have h2 := (World.ownsRow.stored h1 (k * 2 + 1) p.2).1
  unfold OwnP
  rw [pv_set ps k p (by rw [h.len]; exact hk)] at h2
  exact h2
theorem OwnP.frozen {e : TypeId} {w : World} {g n cap : Nat} {ps : List VP} (h : OwnP e w g n cap ps) (i : Nat) : w.frozen? ⟨g, i, none⟩ = false := World.ownsRow.frozenAt h i
set_option maxHeartbeats 400000 in
theorem toEnt_any (z : ByteArray) (x : Int) (w : World) :
    Calls Tryz.prog 171 #[.agg #[.string z, .int .i64 x]] w fun e w' => e = .returned (.agg #[.string z, .int .i64 x]) ∧ Below w.heap.size w w' := by
  go_enter Tryz.func171, Tryz.ntmps171
  go_wp2
  refine bodyPost_ret (v := .agg #[.string z, .int .i64 x]) (by simp [results, Tryz.f171, go_sem]) rfl ?_
  exact ⟨rfl, (((Below.refl _ w).alloc (Nat.le_refl _) _).alloc (by simp) _).alloc (by simp; omega) _⟩
set_option maxHeartbeats 400000 in
theorem toAttr_any (z y : ByteArray) (w : World) :
    Calls Tryz.prog 172 #[.agg #[.string z, .string y]] w fun e w' => e = .returned (.agg #[.string z, .string y]) ∧ Below w.heap.size w w' := by
  go_enter Tryz.func172, Tryz.ntmps172
  go_wp2
  refine bodyPost_ret (v := .agg #[.string z, .string y]) (by simp [results, Tryz.f172, go_sem]) rfl ?_
  exact ⟨rfl, (((Below.refl _ w).alloc (Nat.le_refl _) _).alloc (by simp) _).alloc (by simp; omega) _⟩
theorem Tryz.infoEnt : (Tryz.prog.info? 88).map (fun i => (i.zero, i.size, i.bytes)) = some (some (.agg #[.string ⟨#[]⟩, .int .i64 0]), 2, 24) := by kernel_rfl
theorem Tryz.infoAttr : (Tryz.prog.info? 90).map (fun i => (i.zero, i.size, i.bytes)) = some (some (.agg #[.string ⟨#[]⟩, .string ⟨#[]⟩]), 2, 32) := by kernel_rfl
/-- Entries, as cells. -/
def eP (es : List (ByteArray × Int)) : List VP := es.map fun e => (.string e.1, .int .i64 e.2)
theorem eP_length (es : List (ByteArray × Int)) : (eP es).length = es.length := by simp [eP]
theorem eP_at (es : List (ByteArray × Int)) (i : Nat) (h : i < es.length) : (eP es).getD i (undef, undef) = (.string es[i].1, .int .i64 es[i].2) := by simp [eP, h]
/-- Attributes, as cells. -/
def aP (es : List (ByteArray × ByteArray)) : List VP := es.map fun e => (.string e.1, .string e.2)
theorem aP_length (es : List (ByteArray × ByteArray)) : (aP es).length = es.length := by simp [aP]
theorem aP_at (es : List (ByteArray × ByteArray)) (i : Nat) (h : i < es.length) : (aP es).getD i (undef, undef) = (.string es[i].1, .string es[i].2) := by simp [aP, h]
/-- What lies in the copy behind k rounds. -/
def cpyP (d : VP) (ps : List VP) (k : Nat) : List VP := ps.take k ++ List.replicate (ps.length - k) d
theorem cpyP_zero (d : VP) (ps : List VP) : cpyP d ps 0 = List.replicate ps.length d := by simp [cpyP]
theorem cpyP_all (d : VP) (ps : List VP) : cpyP d ps ps.length = ps := by simp [cpyP]
theorem cpyP_set (d : VP) (ps : List VP) (k : Nat) (h : k < ps.length) : (cpyP d ps k).set k (ps.getD k (undef, undef)) = cpyP d ps (k + 1) := by
  unfold cpyP
  rw [List.set_append_right _ _ (by simp; omega)]
  have h1 : k - (ps.take k).length = 0 := by simp; omega
  rw [h1]
  obtain ⟨m, hm⟩ : ∃ m, ps.length - k = m + 1 := ⟨ps.length - k - 1, by omega⟩
  have h2 : ps.length - (k + 1) = m := by omega
  rw [hm, h2, List.replicate_succ, List.set_cons_zero, List.take_succ_eq_append_getElem h, List.append_assoc]
  simp [h]
theorem pv_replicate (n : Nat) (d : VP) : pv (List.replicate n d) = (List.range (n * 2)).map (fun i => if i % 2 = 0 then d.1 else d.2) := by
  apply List.ext_getElem?
  intro i
  by_cases hi : i < n * 2
  · obtain ⟨h1, h2⟩ := pv_at (List.replicate n d) (i / 2) (by simp; omega)
    have hd : (List.replicate n d).getD (i / 2) (undef, undef) = d := by simp [show i / 2 < n by omega]
    rw [hd] at h1 h2
    rcases Nat.mod_two_eq_zero_or_one i with e | e
    · rw [show i / 2 * 2 = i by omega] at h1
      rw [h1]; simp [hi, e]
    · rw [show i / 2 * 2 + 1 = i by omega] at h2
      rw [h2]; simp [hi, e]
  · rw [List.getElem?_eq_none (by rw [pv_length]; simp; omega), List.getElem?_eq_none (by simp; omega)]
theorem made_ownP {e : TypeId} {w : World} {g n : Nat} {v1 v2 : Value} (h : w.ownsRow 0 e 2 (.slice (some ⟨g, 0, none⟩) n n) n (madeCells (Value.agg #[v1, v2]).cells (n * 2)).toList) : OwnP e w g n n (List.replicate n (v1, v2)) := by
  unfold OwnP
  rw [pv_replicate]
  have e' : (madeCells (Value.agg #[v1, v2]).cells (n * 2)).toList = (List.range (n * 2)).map (fun i => if i % 2 = 0 then v1 else v2) := by
    apply List.ext_getElem
    · simp [madeCells]
    · intro i h1 h2
      simp only [madeCells, Value.cells, List.getElem_map, List.getElem_range]
      rcases Nat.mod_two_eq_zero_or_one i with e | e <;> simp [e]
  rw [← e']
  exact h
set_option maxHeartbeats 800000 in
theorem toEntS_any (a : Option Addr) (n cap : Nat) (es : List (ByteArray × Int)) (w : World) (hn : es.length = n) (hs : n ≤ 1048576) (hr : RdP w a (eP es)) :
    Calls Tryz.prog 153 #[.slice a n cap] w fun e w' => e = .returned (.slice (some ⟨w.heap.size, 0, none⟩) n n) ∧ OwnP 88 w' w.heap.size n n (eP es) ∧ Below w.heap.size w w' := by
  obtain ⟨i0, hi, hz0, hz1, hz2⟩ := info_parts Tryz.infoEnt
  have hm : n ≤ maxLen := by unfold maxLen; omega
  have hby : i0.bytes * n ≤ 281474976710656 := by rw [hz2]; omega
  by_cases h0 : n = 0
  · subst h0
    obtain rfl : es = [] := List.length_eq_zero_iff.1 hn
    go_enter Tryz.func153, Tryz.ntmps153
    go_wp2_with (at_make; refine wpList_make_full _ rfl (.tmp 6) (.tmp 6) 82 rfl 0 88 i0 (.agg #[.string ⟨#[]⟩, .int .i64 0]) 2 Tryz.underlying82 hi hz0 hz1 .i64 .i64 _ _ 0 rfl rfl rfl rfl hby hm (Nat.zero_le _) ?_; intro w1 hown hgrow)
    refine wp_loop_rounds 1 ?_; rw [rounds_succ]
    go_wp2
    go_ret
    exact ⟨rfl, made_ownP hown, (Below.refl _ _).grown hgrow (Nat.le_refl _) (by simp)⟩
  · obtain ⟨b, off, rfl, hlt, hc⟩ := hr.lt (by intro h; have := congrArg List.length h; rw [eP_length] at this; simp at this; subst this; simp at hn; omega)
    clear hr
    have hn' : Hid (es.length = n) := hn
    clear hn
    go_enter Tryz.func153, Tryz.ntmps153
    go_wp2_with (at_make; refine wpList_make_full _ rfl (.tmp 6) (.tmp 6) 82 rfl 0 88 i0 (.agg #[.string ⟨#[]⟩, .int .i64 0]) 2 Tryz.underlying82 hi hz0 hz1 .i64 .i64 _ _ n rfl rfl rfl rfl hby hm (Nat.zero_le _) ?_; intro w1 hown hgrow)
    have ho := made_ownP hown
    have hB : Below w.heap.size w w1 := (Below.refl _ _).grown hgrow (Nat.le_refl _) (by simp)
    clear hown hgrow
    go_loopw [4] (fun i wr => ∃ k : Nat, k ≤ n ∧ i = .int .i64 k ∧ OwnP 88 wr w.heap.size n n (cpyP (.string ⟨#[]⟩, .int .i64 0) (eP es) k) ∧ Below w.heap.size w wr) (fun i _ => n - (intOf i).toNat)
    case atStart => exact ⟨0, Nat.zero_le _, rfl, by rw [cpyP_zero, eP_length, hn'.out]; exact ho, hB⟩
    case round =>
      obtain ⟨k, hk, rfl, hown, hbel⟩ := hrel
      clear ho hB
      by_cases hkn : k < n
      · have hkl : k < es.length := by rw [hn'.out]; exact hkn
        have hki : (k : Int) < (n : Int) := by omega
        have hx := hc k (by rw [eP_length]; exact hkl)
        have hset := cpyP_set (.string ⟨#[]⟩, .int .i64 0) (eP es) k (by rw [eP_length]; exact hkl)
        rw [eP_at es k hkl] at hx hset
        obtain ⟨z, hz⟩ : ∃ z, es[k].1 = z := ⟨_, rfl⟩
        obtain ⟨y, hy⟩ : ∃ y, es[k].2 = y := ⟨_, rfl⟩
        rw [hz, hy] at hx hset
        have hcx : wr.cell? ⟨b, off + k * 2, none⟩ = _ := (hbel.cell (by exact hlt)).trans hx.1
        have hcy : wr.cell? ⟨b, off + k * 2 + 1, none⟩ = _ := (hbel.cell (by exact hlt)).trans hx.2
        dsimp only at hcx hcy
        go_wp2_with fail
        refine (toEnt_any z y wr).mono ?_
        rintro e w1 ⟨rfl, hb1⟩
        have ho1 := hown.keep hb1
        have hlc := ho1.lt
        obtain ⟨q1, q2⟩ := ho1.cells k hkn
        have f1 := ho1.frozen (k * 2)
        have f2 := ho1.frozen (k * 2 + 1)
        have hst := ownP_stored ho1 k hkn (.string z, .int .i64 y)
        rw [hset] at hst
        dsimp only at hst
        have hbel1 : Below w.heap.size w w1 := hbel.trans (hb1.mono hbel.size)
        have hbel' := (hbel1.setCell (p := ⟨w.heap.size, k * 2, none⟩) (Nat.le_refl _) (.string z)).setCell (p := ⟨w.heap.size, k * 2 + 1, none⟩) (Nat.le_refl _) (.int .i64 y)
        obtain ⟨V1, hV1⟩ : ∃ V, ((cpyP (.string ⟨#[]⟩, .int .i64 0) (eP es) k).getD k (undef, undef)).1 = V := ⟨_, rfl⟩
        obtain ⟨V2, hV2⟩ : ∃ V, ((cpyP (.string ⟨#[]⟩, .int .i64 0) (eP es) k).getD k (undef, undef)).2 = V := ⟨_, rfl⟩
        rw [hV1] at q1
        rw [hV2] at q2
        clear hset hown hbel ho1 hb1 hx hbel1 hV1 hV2 hz hy hcx hcy hlc
        go_wp2
        go_roundw
        case rel => exact ⟨k + 1, by omega, by go_num, hst, hbel'⟩
        case measure => simp [intOf]; omega
      · go_wp2
        go_ret
        obtain rfl : k = n := by omega
        refine ⟨rfl, ?_, hbel⟩
        have := hn'.out
        rw [← this, ← eP_length, cpyP_all, eP_length, this] at hown
        exact hown
set_option maxHeartbeats 800000 in
theorem toAttrS_any (a : Option Addr) (n cap : Nat) (es : List (ByteArray × ByteArray)) (w : World) (hn : es.length = n) (hs : n ≤ 1048576) (hr : RdP w a (aP es)) :
    Calls Tryz.prog 154 #[.slice a n cap] w fun e w' => e = .returned (.slice (some ⟨w.heap.size, 0, none⟩) n n) ∧ OwnP 90 w' w.heap.size n n (aP es) ∧ Below w.heap.size w w' := by
  obtain ⟨i0, hi, hz0, hz1, hz2⟩ := info_parts Tryz.infoAttr
  have hm : n ≤ maxLen := by unfold maxLen; omega
  have hby : i0.bytes * n ≤ 281474976710656 := by rw [hz2]; omega
  by_cases h0 : n = 0
  · subst h0
    obtain rfl : es = [] := List.length_eq_zero_iff.1 hn
    go_enter Tryz.func154, Tryz.ntmps154
    go_wp2_with (at_make; refine wpList_make_full _ rfl (.tmp 6) (.tmp 6) 83 rfl 0 90 i0 (.agg #[.string ⟨#[]⟩, .string ⟨#[]⟩]) 2 Tryz.underlying83 hi hz0 hz1 .i64 .i64 _ _ 0 rfl rfl rfl rfl hby hm (Nat.zero_le _) ?_; intro w1 hown hgrow)
    refine wp_loop_rounds 1 ?_; rw [rounds_succ]
    go_wp2
    go_ret
    exact ⟨rfl, made_ownP hown, (Below.refl _ _).grown hgrow (Nat.le_refl _) (by simp)⟩
  · obtain ⟨b, off, rfl, hlt, hc⟩ := hr.lt (by intro h; have := congrArg List.length h; rw [aP_length] at this; simp at this; subst this; simp at hn; omega)
    clear hr
    have hn' : Hid (es.length = n) := hn
    clear hn
    go_enter Tryz.func154, Tryz.ntmps154
    go_wp2_with (at_make; refine wpList_make_full _ rfl (.tmp 6) (.tmp 6) 83 rfl 0 90 i0 (.agg #[.string ⟨#[]⟩, .string ⟨#[]⟩]) 2 Tryz.underlying83 hi hz0 hz1 .i64 .i64 _ _ n rfl rfl rfl rfl hby hm (Nat.zero_le _) ?_; intro w1 hown hgrow)
    have ho := made_ownP hown
    have hB : Below w.heap.size w w1 := (Below.refl _ _).grown hgrow (Nat.le_refl _) (by simp)
    clear hown hgrow
    go_loopw [4] (fun i wr => ∃ k : Nat, k ≤ n ∧ i = .int .i64 k ∧ OwnP 90 wr w.heap.size n n (cpyP (.string ⟨#[]⟩, .string ⟨#[]⟩) (aP es) k) ∧ Below w.heap.size w wr) (fun i _ => n - (intOf i).toNat)
    case atStart => exact ⟨0, Nat.zero_le _, rfl, by rw [cpyP_zero, aP_length, hn'.out]; exact ho, hB⟩
    case round =>
      obtain ⟨k, hk, rfl, hown, hbel⟩ := hrel
      clear ho hB
      by_cases hkn : k < n
      · have hkl : k < es.length := by rw [hn'.out]; exact hkn
        have hki : (k : Int) < (n : Int) := by omega
        have hx := hc k (by rw [aP_length]; exact hkl)
        have hset := cpyP_set (.string ⟨#[]⟩, .string ⟨#[]⟩) (aP es) k (by rw [aP_length]; exact hkl)
        rw [aP_at es k hkl] at hx hset
        obtain ⟨z, hz⟩ : ∃ z, es[k].1 = z := ⟨_, rfl⟩
        obtain ⟨y, hy⟩ : ∃ y, es[k].2 = y := ⟨_, rfl⟩
        rw [hz, hy] at hx hset
        have hcx : wr.cell? ⟨b, off + k * 2, none⟩ = _ := (hbel.cell (by exact hlt)).trans hx.1
        have hcy : wr.cell? ⟨b, off + k * 2 + 1, none⟩ = _ := (hbel.cell (by exact hlt)).trans hx.2
        dsimp only at hcx hcy
        go_wp2_with fail
        refine (toAttr_any z y wr).mono ?_
        rintro e w1 ⟨rfl, hb1⟩
        have ho1 := hown.keep hb1
        have hlc := ho1.lt
        obtain ⟨q1, q2⟩ := ho1.cells k hkn
        have f1 := ho1.frozen (k * 2)
        have f2 := ho1.frozen (k * 2 + 1)
        have hst := ownP_stored ho1 k hkn (.string z, .string y)
        rw [hset] at hst
        dsimp only at hst
        have hbel1 : Below w.heap.size w w1 := hbel.trans (hb1.mono hbel.size)
        have hbel' := (hbel1.setCell (p := ⟨w.heap.size, k * 2, none⟩) (Nat.le_refl _) (.string z)).setCell (p := ⟨w.heap.size, k * 2 + 1, none⟩) (Nat.le_refl _) (.string y)
        obtain ⟨V1, hV1⟩ : ∃ V, ((cpyP (.string ⟨#[]⟩, .string ⟨#[]⟩) (aP es) k).getD k (undef, undef)).1 = V := ⟨_, rfl⟩
        obtain ⟨V2, hV2⟩ : ∃ V, ((cpyP (.string ⟨#[]⟩, .string ⟨#[]⟩) (aP es) k).getD k (undef, undef)).2 = V := ⟨_, rfl⟩
        rw [hV1] at q1
        rw [hV2] at q2
        clear hset hown hbel ho1 hb1 hx hbel1 hV1 hV2 hz hy hcx hcy hlc
        go_wp2
        go_roundw
        case rel => exact ⟨k + 1, by omega, by go_num, hst, hbel'⟩
        case measure => simp [intOf]; omega
      · go_wp2
        go_ret
        obtain rfl : k = n := by omega
        refine ⟨rfl, ?_, hbel⟩
        have := hn'.out
        rw [← this, ← aP_length, cpyP_all, aP_length, this] at hown
        exact hown
/-- Block B holds the cells vs, of type t. -/
def Blk (W : World) (B : Nat) (t : TypeId) (vs : Array Value) : Prop := W.heap[B]? = some (.cells vs t (0, 0))
theorem Blk.lt {W : World} {B : Nat} {t : TypeId} {vs : Array Value} (h : Blk W B t vs) : B < W.heap.size := (Array.getElem?_eq_some_iff.1 h).1
theorem Blk.cell {W : World} {B : Nat} {t : TypeId} {vs : Array Value} (h : Blk W B t vs) (j : Nat) : W.cell? ⟨B, j, none⟩ = vs[j]? := cell_of_row W B j vs t (0, 0) h
theorem Blk.frozen {W : World} {B : Nat} {t : TypeId} {vs : Array Value} (h : Blk W B t vs) (j : Nat) : W.frozen? ⟨B, j, none⟩ = false := frozen_of_row W B j vs t h
theorem Blk.new (W : World) (t : TypeId) (vs : Array Value) : Blk (W.alloc (.cells vs t)) W.heap.size t vs := heap_alloc_new W _
theorem Blk.keep {W W' : World} {B : Nat} {t : TypeId} {vs : Array Value} (h : Blk W B t vs) (hb : Below W.heap.size W W') : Blk W' B t vs := (hb.block B h.lt).trans h
theorem Blk.alloc {W : World} {B : Nat} {t : TypeId} {vs : Array Value} (h : Blk W B t vs) (o : Obj) : Blk (W.alloc o) B t vs := h.keep ((Below.refl _ W).alloc (Nat.le_refl _) o)
theorem Blk.set {W : World} {B : Nat} {t : TypeId} {vs : Array Value} (h : Blk W B t vs) (j : Nat) (v : Value) : Blk (W.setCell ⟨B, j, none⟩ v) B t (vs.setIfInBounds j v) := heap_setCell_same W B j vs t v h
theorem Blk.other {W : World} {B : Nat} {t : TypeId} {vs : Array Value} (h : Blk W B t vs) {B' : Nat} (hne : B ≠ B') (j : Nat) (v : Value) : Blk (W.setCell ⟨B', j, none⟩ v) B t vs := (heap_setCell_other W ⟨B', j, none⟩ B v hne).trans h
theorem Blk.kept {W W' : World} {B g : Nat} {t : TypeId} {vs : Array Value} (h : Blk W B t vs) (hg : W.grownBy W' (some g)) (hne : B ≠ g) : Blk W' B t vs := (hg.block B h.lt (by simpa using hne)).trans h
end

section
open Go.RowKit
/-- What an inode tells. -/
structure InoD where
  ino : Int
  kind : Int
  links : Int
  data : List Int
  ents : List (ByteArray × Int)
  attrs : List (ByteArray × ByteArray)
/-- An inode as a value: the slices lead to a1, a2, a3. -/
def inoV (D : InoD) (a1 : Option Addr) (c1 : Nat) (a2 : Option Addr) (c2 : Nat) (a3 : Option Addr) (c3 : Nat) : Value :=
  .agg #[.int .i64 D.ino, .int .i64 D.kind, .int .i64 D.links, .slice a1 D.data.length c1, .slice a2 D.ents.length c2, .slice a3 D.attrs.length c3]
/-- The inode's lists can be read. -/
structure InoRd (w : World) (D : InoD) (a1 a2 a3 : Option Addr) : Prop where
  data : Rd w a1 D.data
  byt : Byt D.data
  ents : RdP w a2 (eP D.ents)
  attrs : RdP w a3 (aP D.attrs)
theorem InoRd.keep {w w' : World} {D : InoD} {a1 a2 a3 : Option Addr} (h : InoRd w D a1 a2 a3) (hb : Below w.heap.size w w') : InoRd w' D a1 a2 a3 :=
  ⟨h.data.keep hb, h.byt, h.ents.keep hb, h.attrs.keep hb⟩
/-- The inode's lists are rows of the call's own. -/
structure InoOwn (w : World) (D : InoD) (g1 c1 g2 c2 g3 c3 : Nat) : Prop where
  data : Own w g1 D.data.length c1 D.data
  byt : Byt D.data
  ents : OwnP 88 w g2 D.ents.length c2 (eP D.ents)
  attrs : OwnP 90 w g3 D.attrs.length c3 (aP D.attrs)
theorem InoOwn.rd {w : World} {D : InoD} {g1 c1 g2 c2 g3 c3 : Nat} (h : InoOwn w D g1 c1 g2 c2 g3 c3) : InoRd w D (some ⟨g1, 0, none⟩) (some ⟨g2, 0, none⟩) (some ⟨g3, 0, none⟩) :=
  ⟨h.data.rd, h.byt, h.ents.rd, h.attrs.rd⟩
theorem InoOwn.keep {w w' : World} {D : InoD} {g1 c1 g2 c2 g3 c3 : Nat} (h : InoOwn w D g1 c1 g2 c2 g3 c3) (hb : Below w.heap.size w w') : InoOwn w' D g1 c1 g2 c2 g3 c3 :=
  ⟨h.data.keep hb h.data.lt, h.byt, h.ents.keep hb, h.attrs.keep hb⟩
theorem size_setC (w : World) (a : Addr) (v : Value) : (w.setCell a v).heap.size = w.heap.size := by simp [World.setCell]
theorem gr_setC (w : World) (gc j : Nat) (v : Value) : w.grownBy (w.setCell ⟨gc, j, none⟩ v) (some gc) :=
  ⟨rfl, rfl, rfl, by simp [World.setCell], fun k _ hk => heap_setCell_other w ⟨gc, j, none⟩ k v (fun e => hk (by simp [e]))⟩
set_option maxHeartbeats 1600000 in
theorem toInode_any (D : InoD) (a1 a2 a3 : Option Addr) (c1 c2 c3 : Nat) (w : World) (h1 : D.data.length ≤ 1048576) (h2 : D.ents.length ≤ 1048576) (h3 : D.attrs.length ≤ 1048576) (hr : InoRd w D a1 a2 a3) :
    Calls Tryz.prog 124 #[inoV D a1 c1 a2 c2 a3 c3] w fun e w' => ∃ g1 g2 g3 : Nat, e = .returned (inoV D (some ⟨g1, 0, none⟩) D.data.length (some ⟨g2, 0, none⟩) D.ents.length (some ⟨g3, 0, none⟩) D.attrs.length) ∧ w.heap.size ≤ g1 ∧ g1 < g2 ∧ g2 < g3 ∧ InoOwn w' D g1 D.data.length g2 D.ents.length g3 D.attrs.length ∧ Below w.heap.size w w' := by
  obtain ⟨ino, kind, links, data, ents, attrs⟩ := D
  obtain ⟨n1, hn1⟩ : ∃ n, data.length = n := ⟨_, rfl⟩
  obtain ⟨n2, hn2⟩ : ∃ n, ents.length = n := ⟨_, rfl⟩
  obtain ⟨n3, hn3⟩ : ∃ n, attrs.length = n := ⟨_, rfl⟩
  dsimp only at h1 h2 h3
  unfold inoV
  dsimp only
  rw [hn1] at h1
  rw [hn2] at h2
  rw [hn3] at h3
  simp only [hn1, hn2, hn3]
  have k1 : Hid (data.length = n1) := hn1
  have k2 : Hid (ents.length = n2) := hn2
  have k3 : Hid (attrs.length = n3) := hn3
  clear hn1 hn2 hn3
  obtain ⟨r1, r2, r3, r4⟩ := hr
  dsimp only at r1 r2 r3 r4
  go_enter Tryz.func124, Tryz.ntmps124
  go_wp2_with fail
  have z0 : Blk (((w.alloc (.cells #[.int .i64 ino, .int .i64 kind, .int .i64 links, .slice a1 n1 c1, .slice a2 n2 c2, .slice a3 n3 c3] 155)).alloc (.cells #[.int .i64 0, .int .i64 0, .int .i64 0, .slice none 0 0, .slice none 0 0, .slice none 0 0] 85)).alloc (.cells #[.int .i64 ino, .int .i64 kind, .int .i64 links, .slice none 0 0, .slice none 0 0, .slice none 0 0] 85)) w.heap.size 155 #[.int .i64 ino, .int .i64 kind, .int .i64 links, .slice a1 n1 c1, .slice a2 n2 c2, .slice a3 n3 c3] := ((Blk.new w 155 _).alloc _).alloc _
  have z1 := (Blk.new (w.alloc (.cells #[.int .i64 ino, .int .i64 kind, .int .i64 links, .slice a1 n1 c1, .slice a2 n2 c2, .slice a3 n3 c3] 155)) 85 #[.int .i64 0, .int .i64 0, .int .i64 0, .slice none 0 0, .slice none 0 0, .slice none 0 0]).alloc (.cells #[.int .i64 ino, .int .i64 kind, .int .i64 links, .slice none 0 0, .slice none 0 0, .slice none 0 0] 85)
  have z2 := Blk.new ((w.alloc (.cells #[.int .i64 ino, .int .i64 kind, .int .i64 links, .slice a1 n1 c1, .slice a2 n2 c2, .slice a3 n3 c3] 155)).alloc (.cells #[.int .i64 0, .int .i64 0, .int .i64 0, .slice none 0 0, .slice none 0 0, .slice none 0 0] 85)) 85 #[.int .i64 ino, .int .i64 kind, .int .i64 links, .slice none 0 0, .slice none 0 0, .slice none 0 0]
  simp only [World.size_alloc] at z1 z2
  have hB0 : Below w.heap.size w (((w.alloc (.cells #[.int .i64 ino, .int .i64 kind, .int .i64 links, .slice a1 n1 c1, .slice a2 n2 c2, .slice a3 n3 c3] 155)).alloc (.cells #[.int .i64 0, .int .i64 0, .int .i64 0, .slice none 0 0, .slice none 0 0, .slice none 0 0] 85)).alloc (.cells #[.int .i64 ino, .int .i64 kind, .int .i64 links, .slice none 0 0, .slice none 0 0, .slice none 0 0] 85)) := (((Below.refl _ w).alloc (Nat.le_refl _) _).alloc (by simp) _).alloc (by simp; omega) _
  have hs0 : (((w.alloc (.cells #[.int .i64 ino, .int .i64 kind, .int .i64 links, .slice a1 n1 c1, .slice a2 n2 c2, .slice a3 n3 c3] 155)).alloc (.cells #[.int .i64 0, .int .i64 0, .int .i64 0, .slice none 0 0, .slice none 0 0, .slice none 0 0] 85)).alloc (.cells #[.int .i64 ino, .int .i64 kind, .int .i64 links, .slice none 0 0, .slice none 0 0, .slice none 0 0] 85)).heap.size = w.heap.size + 1 + 1 + 1 := by simp
  obtain ⟨W0, hW0⟩ : ∃ W0, (((w.alloc (.cells #[.int .i64 ino, .int .i64 kind, .int .i64 links, .slice a1 n1 c1, .slice a2 n2 c2, .slice a3 n3 c3] 155)).alloc (.cells #[.int .i64 0, .int .i64 0, .int .i64 0, .slice none 0 0, .slice none 0 0, .slice none 0 0] 85)).alloc (.cells #[.int .i64 ino, .int .i64 kind, .int .i64 links, .slice none 0 0, .slice none 0 0, .slice none 0 0] 85)) = W0 := ⟨_, rfl⟩
  rw [hW0] at z0 z1 z2 hB0 hs0 ⊢
  clear hW0
  refine (toByteS_any a1 n1 c1 data W0 k1.out h1 (r1.keep hB0)).mono ?_
  rintro e w1 ⟨rfl, o1, b1⟩
  rw [hs0] at o1 ⊢
  have hs1 := o1.lt
  have y0 := z0.keep b1
  have y1 := z1.keep b1
  have y2 := z2.keep b1
  have x0 := y0.cell 4
  have x2 := y2.cell 3
  have f2 := y2.frozen 3
  have B1 : Below w.heap.size w (w1.setCell ⟨w.heap.size + 1 + 1, 3, none⟩ (.slice (some ⟨w.heap.size + 1 + 1 + 1, 0, none⟩) n1 n1)) := (hB0.trans (b1.mono (by omega))).setCell (p := ⟨w.heap.size + 1 + 1, 3, none⟩) (by simp only; omega) (.slice (some ⟨w.heap.size + 1 + 1 + 1, 0, none⟩) n1 n1)
  have u0 := y0.other (B' := w.heap.size + 1 + 1) (by omega) 3 (.slice (some ⟨w.heap.size + 1 + 1 + 1, 0, none⟩) n1 n1)
  have u1 := y1.other (B' := w.heap.size + 1 + 1) (by omega) 3 (.slice (some ⟨w.heap.size + 1 + 1 + 1, 0, none⟩) n1 n1)
  have u2 := y2.set 3 (.slice (some ⟨w.heap.size + 1 + 1 + 1, 0, none⟩) n1 n1)
  have p1 : Own (w1.setCell ⟨w.heap.size + 1 + 1, 3, none⟩ (.slice (some ⟨w.heap.size + 1 + 1 + 1, 0, none⟩) n1 n1)) (w.heap.size + 1 + 1 + 1) n1 n1 data := o1.kept (gr_setC w1 (w.heap.size + 1 + 1) 3 _) (by omega)
  have hs1' : (w1.setCell ⟨w.heap.size + 1 + 1, 3, none⟩ (.slice (some ⟨w.heap.size + 1 + 1 + 1, 0, none⟩) n1 n1)).heap.size = w1.heap.size := size_setC w1 _ _
  clear z0 z1 z2 y0 y1 y2 o1 b1 hB0
  go_wp2_with fail
  clear x0 x2 f2
  obtain ⟨W1, hW1⟩ : ∃ W1, w1.setCell ⟨w.heap.size + 1 + 1, 3, none⟩ (.slice (some ⟨w.heap.size + 1 + 1 + 1, 0, none⟩) n1 n1) = W1 := ⟨_, rfl⟩
  rw [hW1] at B1 u0 u1 u2 p1 hs1' ⊢
  clear hW1
  refine (toEntS_any a2 n2 c2 ents W1 k2.out h2 (r3.keep B1)).mono ?_
  rintro e w2 ⟨rfl, o2, b2⟩
  obtain ⟨G2, hG2⟩ : ∃ G, W1.heap.size = G := ⟨_, rfl⟩
  rw [hG2] at o2 ⊢
  have hs2 := o2.lt
  have hg12 : w.heap.size + 1 + 1 + 1 < G2 := by omega
  have y0 := u0.keep b2
  have y1 := u1.keep b2
  have y2 := u2.keep b2
  have p1' := p1.keep b2 p1.lt
  have x0 := y0.cell 5
  have x2 := y2.cell 4
  have f2 := y2.frozen 4
  have B2 : Below w.heap.size w (w2.setCell ⟨w.heap.size + 1 + 1, 4, none⟩ (.slice (some ⟨G2, 0, none⟩) n2 n2)) := (B1.trans (b2.mono (by omega))).setCell (p := ⟨w.heap.size + 1 + 1, 4, none⟩) (by simp only; omega) _
  have v0 := y0.other (B' := w.heap.size + 1 + 1) (by omega) 4 (.slice (some ⟨G2, 0, none⟩) n2 n2)
  have v1 := y1.other (B' := w.heap.size + 1 + 1) (by omega) 4 (.slice (some ⟨G2, 0, none⟩) n2 n2)
  have v2 := y2.set 4 (.slice (some ⟨G2, 0, none⟩) n2 n2)
  have p2 := p1'.kept (gr_setC w2 (w.heap.size + 1 + 1) 4 (.slice (some ⟨G2, 0, none⟩) n2 n2)) (by omega)
  have e2 := o2.kept (gr_setC w2 (w.heap.size + 1 + 1) 4 (.slice (some ⟨G2, 0, none⟩) n2 n2)) (by omega)
  have hs2' : (w2.setCell ⟨w.heap.size + 1 + 1, 4, none⟩ (.slice (some ⟨G2, 0, none⟩) n2 n2)).heap.size = w2.heap.size := size_setC w2 _ _
  clear u0 u1 u2 y0 y1 y2 o2 b2 B1 p1 p1'
  go_wp2_with fail
  clear x0 x2 f2
  obtain ⟨W2, hW2⟩ : ∃ W2, w2.setCell ⟨w.heap.size + 1 + 1, 4, none⟩ (.slice (some ⟨G2, 0, none⟩) n2 n2) = W2 := ⟨_, rfl⟩
  rw [hW2] at B2 v0 v1 v2 p2 e2 hs2' ⊢
  clear hW2
  refine (toAttrS_any a3 n3 c3 attrs W2 k3.out h3 (r4.keep B2)).mono ?_
  rintro e w3 ⟨rfl, o3, b3⟩
  obtain ⟨G3, hG3⟩ : ∃ G, W2.heap.size = G := ⟨_, rfl⟩
  rw [hG3] at o3 ⊢
  have hs3 := o3.lt
  have hg23 : G2 < G3 := by omega
  have y1 := v1.keep b3
  have y2 := v2.keep b3
  have p3 := p2.keep b3 p2.lt
  have e3 := e2.keep b3
  have B3 : Below w.heap.size w w3 := B2.trans (b3.mono (by omega))
  have t2 := y2.cell 5
  have f2 := y2.frozen 5
  have i0 := y2.cell 0
  have i1 := y2.cell 1
  have i2 := y2.cell 2
  have i3 := y2.cell 3
  have i4 := y2.cell 4
  have j0 := y1.cell 0
  have j1 := y1.cell 1
  have j2 := y1.cell 2
  have j3 := y1.cell 3
  have j4 := y1.cell 4
  have j5 := y1.cell 5
  have m0 := y1.frozen 0
  have m1 := y1.frozen 1
  have m2 := y1.frozen 2
  have m3 := y1.frozen 3
  have m4 := y1.frozen 4
  have m5 := y1.frozen 5
  simp at i0 i1 i2 i3 i4 t2 j0 j1 j2 j3 j4 j5
  have zf := ((((((((y1.other (B' := w.heap.size + 1 + 1) (by omega) 5 (.slice (some ⟨G3, 0, none⟩) n3 n3)).set 0 (.int .i64 ino)).set 1 (.int .i64 kind)).set 2 (.int .i64 links)).set 3 (.slice (some ⟨w.heap.size + 1 + 1 + 1, 0, none⟩) n1 n1)).set 4 (.slice (some ⟨G2, 0, none⟩) n2 n2)).set 5 (.slice (some ⟨G3, 0, none⟩) n3 n3)))
  have ga := gr_setC w3 (w.heap.size + 1 + 1) 5 (.slice (some ⟨G3, 0, none⟩) n3 n3)
  have gb := ((((((gr_setC (w3.setCell ⟨w.heap.size + 1 + 1, 5, none⟩ (.slice (some ⟨G3, 0, none⟩) n3 n3)) (w.heap.size + 1) 0 (.int .i64 ino)).trans (gr_setC ((w3.setCell ⟨w.heap.size + 1 + 1, 5, none⟩ (.slice (some ⟨G3, 0, none⟩) n3 n3)).setCell ⟨w.heap.size + 1, 0, none⟩ (.int .i64 ino)) (w.heap.size + 1) 1 (.int .i64 kind))).trans (gr_setC (((w3.setCell ⟨w.heap.size + 1 + 1, 5, none⟩ (.slice (some ⟨G3, 0, none⟩) n3 n3)).setCell ⟨w.heap.size + 1, 0, none⟩ (.int .i64 ino)).setCell ⟨w.heap.size + 1, 1, none⟩ (.int .i64 kind)) (w.heap.size + 1) 2 (.int .i64 links))).trans (gr_setC ((((w3.setCell ⟨w.heap.size + 1 + 1, 5, none⟩ (.slice (some ⟨G3, 0, none⟩) n3 n3)).setCell ⟨w.heap.size + 1, 0, none⟩ (.int .i64 ino)).setCell ⟨w.heap.size + 1, 1, none⟩ (.int .i64 kind)).setCell ⟨w.heap.size + 1, 2, none⟩ (.int .i64 links)) (w.heap.size + 1) 3 (.slice (some ⟨w.heap.size + 1 + 1 + 1, 0, none⟩) n1 n1))).trans (gr_setC (((((w3.setCell ⟨w.heap.size + 1 + 1, 5, none⟩ (.slice (some ⟨G3, 0, none⟩) n3 n3)).setCell ⟨w.heap.size + 1, 0, none⟩ (.int .i64 ino)).setCell ⟨w.heap.size + 1, 1, none⟩ (.int .i64 kind)).setCell ⟨w.heap.size + 1, 2, none⟩ (.int .i64 links)).setCell ⟨w.heap.size + 1, 3, none⟩ (.slice (some ⟨w.heap.size + 1 + 1 + 1, 0, none⟩) n1 n1)) (w.heap.size + 1) 4 (.slice (some ⟨G2, 0, none⟩) n2 n2))).trans (gr_setC ((((((w3.setCell ⟨w.heap.size + 1 + 1, 5, none⟩ (.slice (some ⟨G3, 0, none⟩) n3 n3)).setCell ⟨w.heap.size + 1, 0, none⟩ (.int .i64 ino)).setCell ⟨w.heap.size + 1, 1, none⟩ (.int .i64 kind)).setCell ⟨w.heap.size + 1, 2, none⟩ (.int .i64 links)).setCell ⟨w.heap.size + 1, 3, none⟩ (.slice (some ⟨w.heap.size + 1 + 1 + 1, 0, none⟩) n1 n1)).setCell ⟨w.heap.size + 1, 4, none⟩ (.slice (some ⟨G2, 0, none⟩) n2 n2)) (w.heap.size + 1) 5 (.slice (some ⟨G3, 0, none⟩) n3 n3)))
  have P3 := (p3.kept ga (by omega)).kept gb (by omega)
  have E3 := (e3.kept ga (by omega)).kept gb (by omega)
  have A3 := (o3.kept ga (by omega)).kept gb (by omega)
  have BF : Below w.heap.size w (((((((w3.setCell ⟨w.heap.size + 1 + 1, 5, none⟩ (.slice (some ⟨G3, 0, none⟩) n3 n3)).setCell ⟨w.heap.size + 1, 0, none⟩ (.int .i64 ino)).setCell ⟨w.heap.size + 1, 1, none⟩ (.int .i64 kind)).setCell ⟨w.heap.size + 1, 2, none⟩ (.int .i64 links)).setCell ⟨w.heap.size + 1, 3, none⟩ (.slice (some ⟨w.heap.size + 1 + 1 + 1, 0, none⟩) n1 n1)).setCell ⟨w.heap.size + 1, 4, none⟩ (.slice (some ⟨G2, 0, none⟩) n2 n2)).setCell ⟨w.heap.size + 1, 5, none⟩ (.slice (some ⟨G3, 0, none⟩) n3 n3)) := (B3.grown ga B3.size (by intro k hk; simp at hk; omega)).grown gb (by have := ga.size; have := B3.size; omega) (by intro k hk; simp at hk; omega)
  have d0 := zf.cell 0
  have d1 := zf.cell 1
  have d2 := zf.cell 2
  have d3 := zf.cell 3
  have d4 := zf.cell 4
  have d5 := zf.cell 5
  simp at d0 d1 d2 d3 d4 d5
  have HF : Hid (Own (((((((w3.setCell ⟨w.heap.size + 1 + 1, 5, none⟩ (.slice (some ⟨G3, 0, none⟩) n3 n3)).setCell ⟨w.heap.size + 1, 0, none⟩ (.int .i64 ino)).setCell ⟨w.heap.size + 1, 1, none⟩ (.int .i64 kind)).setCell ⟨w.heap.size + 1, 2, none⟩ (.int .i64 links)).setCell ⟨w.heap.size + 1, 3, none⟩ (.slice (some ⟨w.heap.size + 1 + 1 + 1, 0, none⟩) n1 n1)).setCell ⟨w.heap.size + 1, 4, none⟩ (.slice (some ⟨G2, 0, none⟩) n2 n2)).setCell ⟨w.heap.size + 1, 5, none⟩ (.slice (some ⟨G3, 0, none⟩) n3 n3)) (w.heap.size + 1 + 1 + 1) n1 n1 data ∧ OwnP 88 (((((((w3.setCell ⟨w.heap.size + 1 + 1, 5, none⟩ (.slice (some ⟨G3, 0, none⟩) n3 n3)).setCell ⟨w.heap.size + 1, 0, none⟩ (.int .i64 ino)).setCell ⟨w.heap.size + 1, 1, none⟩ (.int .i64 kind)).setCell ⟨w.heap.size + 1, 2, none⟩ (.int .i64 links)).setCell ⟨w.heap.size + 1, 3, none⟩ (.slice (some ⟨w.heap.size + 1 + 1 + 1, 0, none⟩) n1 n1)).setCell ⟨w.heap.size + 1, 4, none⟩ (.slice (some ⟨G2, 0, none⟩) n2 n2)).setCell ⟨w.heap.size + 1, 5, none⟩ (.slice (some ⟨G3, 0, none⟩) n3 n3)) G2 n2 n2 (eP ents) ∧ OwnP 90 (((((((w3.setCell ⟨w.heap.size + 1 + 1, 5, none⟩ (.slice (some ⟨G3, 0, none⟩) n3 n3)).setCell ⟨w.heap.size + 1, 0, none⟩ (.int .i64 ino)).setCell ⟨w.heap.size + 1, 1, none⟩ (.int .i64 kind)).setCell ⟨w.heap.size + 1, 2, none⟩ (.int .i64 links)).setCell ⟨w.heap.size + 1, 3, none⟩ (.slice (some ⟨w.heap.size + 1 + 1 + 1, 0, none⟩) n1 n1)).setCell ⟨w.heap.size + 1, 4, none⟩ (.slice (some ⟨G2, 0, none⟩) n2 n2)).setCell ⟨w.heap.size + 1, 5, none⟩ (.slice (some ⟨G3, 0, none⟩) n3 n3)) G3 n3 n3 (aP attrs) ∧ Below w.heap.size w (((((((w3.setCell ⟨w.heap.size + 1 + 1, 5, none⟩ (.slice (some ⟨G3, 0, none⟩) n3 n3)).setCell ⟨w.heap.size + 1, 0, none⟩ (.int .i64 ino)).setCell ⟨w.heap.size + 1, 1, none⟩ (.int .i64 kind)).setCell ⟨w.heap.size + 1, 2, none⟩ (.int .i64 links)).setCell ⟨w.heap.size + 1, 3, none⟩ (.slice (some ⟨w.heap.size + 1 + 1 + 1, 0, none⟩) n1 n1)).setCell ⟨w.heap.size + 1, 4, none⟩ (.slice (some ⟨G2, 0, none⟩) n2 n2)).setCell ⟨w.heap.size + 1, 5, none⟩ (.slice (some ⟨G3, 0, none⟩) n3 n3))) := ⟨P3, E3, A3, BF⟩
  clear zf ga gb P3 E3 A3 BF p3 e3 o3 B3 y1 y2 v0 v1 v2 p2 e2 B2 b3
  go_wp2
  refine bodyPost_ret (v := .agg #[.int .i64 ino, .int .i64 kind, .int .i64 links, .slice (some ⟨w.heap.size + 1 + 1 + 1, 0, none⟩) n1 n1, .slice (some ⟨G2, 0, none⟩) n2 n2, .slice (some ⟨G3, 0, none⟩) n3 n3]) (by simp [results, Tryz.f124, go_sem, d0, d1, d2, d3, d4, d5]) rfl ?_
  obtain ⟨P3, E3, A3, BF⟩ := HF.out
  refine ⟨w.heap.size + 1 + 1 + 1, G2, G3, rfl, by omega, hg12, hg23, ⟨?_, r2, ?_, ?_⟩, BF⟩
  · dsimp only; rw [k1.out]; exact P3
  · dsimp only; rw [k2.out]; exact E3
  · dsimp only; rw [k3.out]; exact A3
end
end Go.Proofs.YtfjlemnohjnkhaaGreat
