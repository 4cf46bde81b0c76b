/-
  Rows whose elements are two cells each (entries, attributes): read, owned, copied.
-/
import Derived.Test.YtfjlemnohjnkhaaRows
import Derived.Test.YtfjlemnohjnkhaaBase
import Derived.Test.YtfjlemnohjnkhaaCrc
import Derived.Test.YtfjlemnohjnkhaaMark
import Derived.WalkKit
import Derived.WalkSpells
import Derived.WalkLawsBesides
import Derived.Deep.QuietTactic
import Derived.BigQuiet
import Derived.OpenShut
import Derived.Laws.BitsAllLaws
import Derived.Maps.AppendAt
import Derived.Lib.SliceRun
import Derived.Lib.Strings
import Derived.Deep.RegionWith
import Derived.Laws.IdiomStrings
import Derived.Deep.Slices
namespace Go.Proofs.Ytfjlemnohjnkhaa
open Go.RowKit
abbrev VP := Value × Value
/-- The cells of pairs. -/
def pv (ps : List VP) : List Value := ps.flatMap fun p => [p.1, p.2]
theorem pv_length (ps : List VP) : (pv ps).length = ps.length * 2 := by
  induction ps with
  | nil => rfl
  | cons p ps ih => simp only [pv, List.flatMap_cons, List.length_append, List.length_cons, List.length_nil] at ih ⊢; omega
theorem pv_at (ps : List VP) (i : Nat) (h : i < ps.length) : (pv ps)[i * 2]? = some (ps.getD i (undef, undef)).1 ∧ (pv ps)[i * 2 + 1]? = some (ps.getD i (undef, undef)).2 := by
  induction ps generalizing i with
  | nil => simp at h
  | cons p ps ih =>
    cases i with
    | zero => simp [pv]
    | succ i =>
      have hi := ih i (by simpa using h)
      have e : (i + 1) * 2 = i * 2 + 2 := by omega
      simp only [pv, List.flatMap_cons, List.cons_append, List.nil_append] at hi ⊢
      rw [e]
      simp only [List.getElem?_cons_succ, List.getD_cons_succ]
      exact hi
theorem pv_set (ps : List VP) (i : Nat) (p : VP) (h : i < ps.length) : ((pv ps).set (i * 2) p.1).set (i * 2 + 1) p.2 = pv (ps.set i p) := by
  induction ps generalizing i with
  | nil => simp at h
  | cons q ps ih =>
    cases i with
    | zero => simp [pv]
    | succ i =>
      have hi := ih i (by simpa using h)
      have e : (i + 1) * 2 = i * 2 + 2 := by omega
      simp only [pv, List.flatMap_cons, List.cons_append, List.nil_append, List.set_cons_succ] at hi ⊢
      rw [e]
      simp only [List.set_cons_succ, hi]
/-- The pairs can be read from the address a on. -/
def RdP (w : World) (a : Option Addr) (ps : List VP) : Prop :=
  ps = [] ∨ ∃ b off, a = some ⟨b, off, none⟩ ∧ ∀ i, i < ps.length → w.cell? ⟨b, off + i * 2, none⟩ = some (ps.getD i (undef, undef)).1 ∧ w.cell? ⟨b, off + i * 2 + 1, none⟩ = some (ps.getD i (undef, undef)).2
theorem RdP.lt {w : World} {a : Option Addr} {ps : List VP} (h : RdP w a ps) (hz : ps ≠ []) : ∃ b off, a = some ⟨b, off, none⟩ ∧ b < w.heap.size ∧ ∀ i, i < ps.length → w.cell? ⟨b, off + i * 2, none⟩ = some (ps.getD i (undef, undef)).1 ∧ w.cell? ⟨b, off + i * 2 + 1, none⟩ = some (ps.getD i (undef, undef)).2 := by
  rcases h with h | ⟨b, off, rfl, hc⟩
  · exact absurd h hz
  · exact ⟨b, off, rfl, World.block_lt_of_cell? w _ (hc 0 (List.length_pos_iff.2 hz)).1, hc⟩
theorem RdP.keep {w w' : World} {a : Option Addr} {ps : List VP} (h : RdP w a ps) (hb : Below w.heap.size w w') : RdP w' a ps := by
  by_cases hz : ps = []
  · exact .inl hz
  · obtain ⟨b, off, rfl, hlt, hc⟩ := h.lt hz
    refine .inr ⟨b, off, rfl, fun i hi => ?_⟩
    rw [hb.cell (p := ⟨b, off + i * 2, none⟩) hlt, hb.cell (p := ⟨b, off + i * 2 + 1, none⟩) hlt]
    exact hc i hi
/-- The block g is the call's own row of pairs of type e. -/
def OwnP (e : TypeId) (w : World) (g n cap : Nat) (ps : List VP) : Prop := w.ownsRow 0 e 2 (.slice (some ⟨g, 0, none⟩) n cap) n (pv ps)
theorem OwnP.len {e : TypeId} {w : World} {g n cap : Nat} {ps : List VP} (h : OwnP e w g n cap ps) : ps.length = n := by
  have := h.1
  rw [pv_length] at this
  omega
theorem OwnP.lt {e : TypeId} {w : World} {g n cap : Nat} {ps : List VP} (h : OwnP e w g n cap ps) : g < w.heap.size := (World.ownsRow.lt h g rfl).2
theorem OwnP.keep {e : TypeId} {w w' : World} {g n cap : Nat} {ps : List VP} (h : OwnP e w g n cap ps) (hb : Below w.heap.size w w') : OwnP e w' g n cap ps := by
  refine ⟨h.1, ?_⟩
  rcases h.2 with h' | ⟨g', cap', cur, h', hb', hgg, rest⟩
  · exact .inl h'
  · exact .inr ⟨g', cap', cur, h', hb', (hb.block g' (Array.getElem?_eq_some_iff.1 hgg).1).trans hgg, rest⟩
theorem OwnP.kept {e : TypeId} {w w' : World} {g n c g2 : Nat} {ps : List VP} (h : OwnP e w g n c ps) (hg : w.grownBy w' (some g2)) (hne : g ≠ g2) : OwnP e w' g n c ps :=
  World.ownsRow.kept h hg (.inr (by simp [Value.ownBlock, hne]))
theorem add_at (g j : Nat) : (⟨g, 0, none⟩ : Addr).add j = ⟨g, j, none⟩ := by
  unfold Addr.add
  split
  · rename_i h; rw [h]
  · simp
theorem OwnP.cells {e : TypeId} {w : World} {g n cap : Nat} {ps : List VP} (h : OwnP e w g n cap ps) (i : Nat) (hi : i < n) : w.cell? ⟨g, i * 2, none⟩ = some (ps.getD i (undef, undef)).1 ∧ w.cell? ⟨g, i * 2 + 1, none⟩ = some (ps.getD i (undef, undef)).2 := by
  obtain ⟨h1, h2⟩ := pv_at ps i (by rw [h.len]; exact hi)
  have k1 := World.ownsRow.cells h (g := g) rfl (i * 2) _ h1
  have k2 := World.ownsRow.cells h (g := g) rfl (i * 2 + 1) _ h2
  rw [add_at] at k1 k2
  exact ⟨k1, k2⟩
theorem OwnP.rd {e : TypeId} {w : World} {g n cap : Nat} {ps : List VP} (h : OwnP e w g n cap ps) : RdP w (some ⟨g, 0, none⟩) ps := by
  refine .inr ⟨g, 0, rfl, fun i hi => ?_⟩
  have := h.cells i (by rw [← h.len]; exact hi)
  simpa using this
theorem ownP_stored {e : TypeId} {w : World} {g n cap : Nat} {ps : List VP} (h : OwnP e w g n cap ps) (k : Nat) (hk : k < n) (p : VP) : OwnP e ((w.setCell ⟨g, k * 2, none⟩ p.1).setCell ⟨g, k * 2 + 1, none⟩ p.2) g n cap (ps.set k p) := by
  have h1 := (World.ownsRow.stored h (k * 2) p.1).1
  have h2 := (World.ownsRow.stored h1 (k * 2 + 1) p.2).1
  unfold OwnP
  rw [pv_set ps k p (by rw [h.len]; exact hk)] at h2
  exact h2
theorem OwnP.frozen {e : TypeId} {w : World} {g n cap : Nat} {ps : List VP} (h : OwnP e w g n cap ps) (i : Nat) : w.frozen? ⟨g, i, none⟩ = false := World.ownsRow.frozenAt h i
set_option maxHeartbeats 400000 in
theorem toEnt_any (z : ByteArray) (x : Int) (w : World) :
    Calls Try.prog 75 #[.agg #[.string z, .int .i64 x]] w fun e w' => e = .returned (.agg #[.string z, .int .i64 x]) ∧ Below w.heap.size w w' := by
  go_enter Try.func75, Try.ntmps75
  go_wp2
  refine bodyPost_ret (v := .agg #[.string z, .int .i64 x]) (by simp [results, Try.f75, go_sem]) rfl ?_
  exact ⟨rfl, (((Below.refl _ w).alloc (Nat.le_refl _) _).alloc (by simp) _).alloc (by simp; omega) _⟩
set_option maxHeartbeats 400000 in
theorem toAttr_any (z y : ByteArray) (w : World) :
    Calls Try.prog 76 #[.agg #[.string z, .string y]] w fun e w' => e = .returned (.agg #[.string z, .string y]) ∧ Below w.heap.size w w' := by
  go_enter Try.func76, Try.ntmps76
  go_wp2
  refine bodyPost_ret (v := .agg #[.string z, .string y]) (by simp [results, Try.f76, go_sem]) rfl ?_
  exact ⟨rfl, (((Below.refl _ w).alloc (Nat.le_refl _) _).alloc (by simp) _).alloc (by simp; omega) _⟩
theorem Try.infoEnt : (Try.prog.info? 78).map (fun i => (i.zero, i.size, i.bytes)) = some (some (.agg #[.string ⟨#[]⟩, .int .i64 0]), 2, 24) := by kernel_rfl
theorem Try.infoAttr : (Try.prog.info? 80).map (fun i => (i.zero, i.size, i.bytes)) = some (some (.agg #[.string ⟨#[]⟩, .string ⟨#[]⟩]), 2, 32) := by kernel_rfl
/-- Entries, as cells. -/
def eP (es : List (ByteArray × Int)) : List VP := es.map fun e => (.string e.1, .int .i64 e.2)
theorem eP_length (es : List (ByteArray × Int)) : (eP es).length = es.length := by simp [eP]
theorem eP_at (es : List (ByteArray × Int)) (i : Nat) (h : i < es.length) : (eP es).getD i (undef, undef) = (.string es[i].1, .int .i64 es[i].2) := by simp [eP, h]
/-- Attributes, as cells. -/
def aP (es : List (ByteArray × ByteArray)) : List VP := es.map fun e => (.string e.1, .string e.2)
theorem aP_length (es : List (ByteArray × ByteArray)) : (aP es).length = es.length := by simp [aP]
theorem aP_at (es : List (ByteArray × ByteArray)) (i : Nat) (h : i < es.length) : (aP es).getD i (undef, undef) = (.string es[i].1, .string es[i].2) := by simp [aP, h]
/-- What lies in the copy behind k rounds. -/
def cpyP (d : VP) (ps : List VP) (k : Nat) : List VP := ps.take k ++ List.replicate (ps.length - k) d
theorem cpyP_zero (d : VP) (ps : List VP) : cpyP d ps 0 = List.replicate ps.length d := by simp [cpyP]
theorem cpyP_all (d : VP) (ps : List VP) : cpyP d ps ps.length = ps := by simp [cpyP]
theorem cpyP_set (d : VP) (ps : List VP) (k : Nat) (h : k < ps.length) : (cpyP d ps k).set k (ps.getD k (undef, undef)) = cpyP d ps (k + 1) := by
  unfold cpyP
  rw [List.set_append_right _ _ (by simp; omega)]
  have h1 : k - (ps.take k).length = 0 := by simp; omega
  rw [h1]
  obtain ⟨m, hm⟩ : ∃ m, ps.length - k = m + 1 := ⟨ps.length - k - 1, by omega⟩
  have h2 : ps.length - (k + 1) = m := by omega
  rw [hm, h2, List.replicate_succ, List.set_cons_zero, List.take_succ_eq_append_getElem h, List.append_assoc]
  simp [h]
theorem pv_replicate (n : Nat) (d : VP) : pv (List.replicate n d) = (List.range (n * 2)).map (fun i => if i % 2 = 0 then d.1 else d.2) := by
  apply List.ext_getElem?
  intro i
  by_cases hi : i < n * 2
  · obtain ⟨h1, h2⟩ := pv_at (List.replicate n d) (i / 2) (by simp; omega)
    have hd : (List.replicate n d).getD (i / 2) (undef, undef) = d := by simp [show i / 2 < n by omega]
    rw [hd] at h1 h2
    rcases Nat.mod_two_eq_zero_or_one i with e | e
    · rw [show i / 2 * 2 = i by omega] at h1
      rw [h1]; simp [hi, e]
    · rw [show i / 2 * 2 + 1 = i by omega] at h2
      rw [h2]; simp [hi, e]
  · rw [List.getElem?_eq_none (by rw [pv_length]; simp; omega), List.getElem?_eq_none (by simp; omega)]
theorem made_ownP {e : TypeId} {w : World} {g n : Nat} {v1 v2 : Value} (h : w.ownsRow 0 e 2 (.slice (some ⟨g, 0, none⟩) n n) n (madeCells (Value.agg #[v1, v2]).cells (n * 2)).toList) : OwnP e w g n n (List.replicate n (v1, v2)) := by
  unfold OwnP
  rw [pv_replicate]
  have e' : (madeCells (Value.agg #[v1, v2]).cells (n * 2)).toList = (List.range (n * 2)).map (fun i => if i % 2 = 0 then v1 else v2) := by
    apply List.ext_getElem
    · simp [madeCells]
    · intro i h1 h2
      simp only [madeCells, Value.cells, List.getElem_map, List.getElem_range]
      rcases Nat.mod_two_eq_zero_or_one i with e | e <;> simp [e]
  rw [← e']
  exact h
set_option maxHeartbeats 800000 in
theorem toEntS_any (a : Option Addr) (n cap : Nat) (es : List (ByteArray × Int)) (w : World) (hn : es.length = n) (hs : n ≤ 1048576) (hr : RdP w a (eP es)) :
    Calls Try.prog 69 #[.slice a n cap] w fun e w' => e = .returned (.slice (some ⟨w.heap.size, 0, none⟩) n n) ∧ OwnP 78 w' w.heap.size n n (eP es) ∧ Below w.heap.size w w' := by
  obtain ⟨i0, hi, hz0, hz1, hz2⟩ := info_parts Try.infoEnt
  have hm : n ≤ maxLen := by unfold maxLen; omega
  have hby : i0.bytes * n ≤ 281474976710656 := by rw [hz2]; omega
  by_cases h0 : n = 0
  · subst h0
    obtain rfl : es = [] := List.length_eq_zero_iff.1 hn
    go_enter Try.func69, Try.ntmps69
    go_wp2_with (at_make; refine wpList_make_full _ rfl (.tmp 6) (.tmp 6) 63 rfl 0 78 i0 (.agg #[.string ⟨#[]⟩, .int .i64 0]) 2 Try.underlying63 hi hz0 hz1 .i64 .i64 _ _ 0 rfl rfl rfl rfl hby hm (Nat.zero_le _) ?_; intro w1 hown hgrow)
    refine wp_loop_rounds 1 ?_; rw [rounds_succ]
    go_wp2
    go_ret
    exact ⟨rfl, made_ownP hown, (Below.refl _ _).grown hgrow (Nat.le_refl _) (by simp)⟩
  · obtain ⟨b, off, rfl, hlt, hc⟩ := hr.lt (by intro h; have := congrArg List.length h; rw [eP_length] at this; simp at this; subst this; simp at hn; omega)
    clear hr
    have hn' : Hid (es.length = n) := hn
    clear hn
    go_enter Try.func69, Try.ntmps69
    go_wp2_with (at_make; refine wpList_make_full _ rfl (.tmp 6) (.tmp 6) 63 rfl 0 78 i0 (.agg #[.string ⟨#[]⟩, .int .i64 0]) 2 Try.underlying63 hi hz0 hz1 .i64 .i64 _ _ n rfl rfl rfl rfl hby hm (Nat.zero_le _) ?_; intro w1 hown hgrow)
    have ho := made_ownP hown
    have hB : Below w.heap.size w w1 := (Below.refl _ _).grown hgrow (Nat.le_refl _) (by simp)
    clear hown hgrow
    go_loopw [4] (fun i wr => ∃ k : Nat, k ≤ n ∧ i = .int .i64 k ∧ OwnP 78 wr w.heap.size n n (cpyP (.string ⟨#[]⟩, .int .i64 0) (eP es) k) ∧ Below w.heap.size w wr) (fun i _ => n - (intOf i).toNat)
    case atStart => exact ⟨0, Nat.zero_le _, rfl, by rw [cpyP_zero, eP_length, hn'.out]; exact ho, hB⟩
    case round =>
      obtain ⟨k, hk, rfl, hown, hbel⟩ := hrel
      clear ho hB
      by_cases hkn : k < n
      · have hkl : k < es.length := by rw [hn'.out]; exact hkn
        have hki : (k : Int) < (n : Int) := by omega
        have hx := hc k (by rw [eP_length]; exact hkl)
        have hset := cpyP_set (.string ⟨#[]⟩, .int .i64 0) (eP es) k (by rw [eP_length]; exact hkl)
        rw [eP_at es k hkl] at hx hset
        obtain ⟨z, hz⟩ : ∃ z, es[k].1 = z := ⟨_, rfl⟩
        obtain ⟨y, hy⟩ : ∃ y, es[k].2 = y := ⟨_, rfl⟩
        rw [hz, hy] at hx hset
        have hcx : wr.cell? ⟨b, off + k * 2, none⟩ = _ := (hbel.cell (by exact hlt)).trans hx.1
        have hcy : wr.cell? ⟨b, off + k * 2 + 1, none⟩ = _ := (hbel.cell (by exact hlt)).trans hx.2
        dsimp only at hcx hcy
        go_wp2_with fail
        refine (toEnt_any z y wr).mono ?_
        rintro e w1 ⟨rfl, hb1⟩
        have ho1 := hown.keep hb1
        have hlc := ho1.lt
        obtain ⟨q1, q2⟩ := ho1.cells k hkn
        have f1 := ho1.frozen (k * 2)
        have f2 := ho1.frozen (k * 2 + 1)
        have hst := ownP_stored ho1 k hkn (.string z, .int .i64 y)
        rw [hset] at hst
        dsimp only at hst
        have hbel1 : Below w.heap.size w w1 := hbel.trans (hb1.mono hbel.size)
        have hbel' := (hbel1.setCell (p := ⟨w.heap.size, k * 2, none⟩) (Nat.le_refl _) (.string z)).setCell (p := ⟨w.heap.size, k * 2 + 1, none⟩) (Nat.le_refl _) (.int .i64 y)
        obtain ⟨V1, hV1⟩ : ∃ V, ((cpyP (.string ⟨#[]⟩, .int .i64 0) (eP es) k).getD k (undef, undef)).1 = V := ⟨_, rfl⟩
        obtain ⟨V2, hV2⟩ : ∃ V, ((cpyP (.string ⟨#[]⟩, .int .i64 0) (eP es) k).getD k (undef, undef)).2 = V := ⟨_, rfl⟩
        rw [hV1] at q1
        rw [hV2] at q2
        clear hset hown hbel ho1 hb1 hx hbel1 hV1 hV2 hz hy hcx hcy hlc
        go_wp2
        go_roundw
        case rel => exact ⟨k + 1, by omega, by go_num, hst, hbel'⟩
        case measure => simp [intOf]; omega
      · go_wp2
        go_ret
        obtain rfl : k = n := by omega
        refine ⟨rfl, ?_, hbel⟩
        have := hn'.out
        rw [← this, ← eP_length, cpyP_all, eP_length, this] at hown
        exact hown
set_option maxHeartbeats 800000 in
theorem toAttrS_any (a : Option Addr) (n cap : Nat) (es : List (ByteArray × ByteArray)) (w : World) (hn : es.length = n) (hs : n ≤ 1048576) (hr : RdP w a (aP es)) :
    Calls Try.prog 70 #[.slice a n cap] w fun e w' => e = .returned (.slice (some ⟨w.heap.size, 0, none⟩) n n) ∧ OwnP 80 w' w.heap.size n n (aP es) ∧ Below w.heap.size w w' := by
  obtain ⟨i0, hi, hz0, hz1, hz2⟩ := info_parts Try.infoAttr
  have hm : n ≤ maxLen := by unfold maxLen; omega
  have hby : i0.bytes * n ≤ 281474976710656 := by rw [hz2]; omega
  by_cases h0 : n = 0
  · subst h0
    obtain rfl : es = [] := List.length_eq_zero_iff.1 hn
    go_enter Try.func70, Try.ntmps70
    go_wp2_with (at_make; refine wpList_make_full _ rfl (.tmp 6) (.tmp 6) 64 rfl 0 80 i0 (.agg #[.string ⟨#[]⟩, .string ⟨#[]⟩]) 2 Try.underlying64 hi hz0 hz1 .i64 .i64 _ _ 0 rfl rfl rfl rfl hby hm (Nat.zero_le _) ?_; intro w1 hown hgrow)
    refine wp_loop_rounds 1 ?_; rw [rounds_succ]
    go_wp2
    go_ret
    exact ⟨rfl, made_ownP hown, (Below.refl _ _).grown hgrow (Nat.le_refl _) (by simp)⟩
  · obtain ⟨b, off, rfl, hlt, hc⟩ := hr.lt (by intro h; have := congrArg List.length h; rw [aP_length] at this; simp at this; subst this; simp at hn; omega)
    clear hr
    have hn' : Hid (es.length = n) := hn
    clear hn
    go_enter Try.func70, Try.ntmps70
    go_wp2_with (at_make; refine wpList_make_full _ rfl (.tmp 6) (.tmp 6) 64 rfl 0 80 i0 (.agg #[.string ⟨#[]⟩, .string ⟨#[]⟩]) 2 Try.underlying64 hi hz0 hz1 .i64 .i64 _ _ n rfl rfl rfl rfl hby hm (Nat.zero_le _) ?_; intro w1 hown hgrow)
    have ho := made_ownP hown
    have hB : Below w.heap.size w w1 := (Below.refl _ _).grown hgrow (Nat.le_refl _) (by simp)
    clear hown hgrow
    go_loopw [4] (fun i wr => ∃ k : Nat, k ≤ n ∧ i = .int .i64 k ∧ OwnP 80 wr w.heap.size n n (cpyP (.string ⟨#[]⟩, .string ⟨#[]⟩) (aP es) k) ∧ Below w.heap.size w wr) (fun i _ => n - (intOf i).toNat)
    case atStart => exact ⟨0, Nat.zero_le _, rfl, by rw [cpyP_zero, aP_length, hn'.out]; exact ho, hB⟩
    case round =>
      obtain ⟨k, hk, rfl, hown, hbel⟩ := hrel
      clear ho hB
      by_cases hkn : k < n
      · have hkl : k < es.length := by rw [hn'.out]; exact hkn
        have hki : (k : Int) < (n : Int) := by omega
        have hx := hc k (by rw [aP_length]; exact hkl)
        have hset := cpyP_set (.string ⟨#[]⟩, .string ⟨#[]⟩) (aP es) k (by rw [aP_length]; exact hkl)
        rw [aP_at es k hkl] at hx hset
        obtain ⟨z, hz⟩ : ∃ z, es[k].1 = z := ⟨_, rfl⟩
        obtain ⟨y, hy⟩ : ∃ y, es[k].2 = y := ⟨_, rfl⟩
        rw [hz, hy] at hx hset
        have hcx : wr.cell? ⟨b, off + k * 2, none⟩ = _ := (hbel.cell (by exact hlt)).trans hx.1
        have hcy : wr.cell? ⟨b, off + k * 2 + 1, none⟩ = _ := (hbel.cell (by exact hlt)).trans hx.2
        dsimp only at hcx hcy
        go_wp2_with fail
        refine (toAttr_any z y wr).mono ?_
        rintro e w1 ⟨rfl, hb1⟩
        have ho1 := hown.keep hb1
        have hlc := ho1.lt
        obtain ⟨q1, q2⟩ := ho1.cells k hkn
        have f1 := ho1.frozen (k * 2)
        have f2 := ho1.frozen (k * 2 + 1)
        have hst := ownP_stored ho1 k hkn (.string z, .string y)
        rw [hset] at hst
        dsimp only at hst
        have hbel1 : Below w.heap.size w w1 := hbel.trans (hb1.mono hbel.size)
        have hbel' := (hbel1.setCell (p := ⟨w.heap.size, k * 2, none⟩) (Nat.le_refl _) (.string z)).setCell (p := ⟨w.heap.size, k * 2 + 1, none⟩) (Nat.le_refl _) (.string y)
        obtain ⟨V1, hV1⟩ : ∃ V, ((cpyP (.string ⟨#[]⟩, .string ⟨#[]⟩) (aP es) k).getD k (undef, undef)).1 = V := ⟨_, rfl⟩
        obtain ⟨V2, hV2⟩ : ∃ V, ((cpyP (.string ⟨#[]⟩, .string ⟨#[]⟩) (aP es) k).getD k (undef, undef)).2 = V := ⟨_, rfl⟩
        rw [hV1] at q1
        rw [hV2] at q2
        clear hset hown hbel ho1 hb1 hx hbel1 hV1 hV2 hz hy hcx hcy hlc
        go_wp2
        go_roundw
        case rel => exact ⟨k + 1, by omega, by go_num, hst, hbel'⟩
        case measure => simp [intOf]; omega
      · go_wp2
        go_ret
        obtain rfl : k = n := by omega
        refine ⟨rfl, ?_, hbel⟩
        have := hn'.out
        rw [← this, ← aP_length, cpyP_all, aP_length, this] at hown
        exact hown
/-- Block B holds the cells vs, of type t. -/
def Blk (W : World) (B : Nat) (t : TypeId) (vs : Array Value) : Prop := W.heap[B]? = some (.cells vs t (0, 0))
theorem Blk.lt {W : World} {B : Nat} {t : TypeId} {vs : Array Value} (h : Blk W B t vs) : B < W.heap.size := (Array.getElem?_eq_some_iff.1 h).1
theorem Blk.cell {W : World} {B : Nat} {t : TypeId} {vs : Array Value} (h : Blk W B t vs) (j : Nat) : W.cell? ⟨B, j, none⟩ = vs[j]? := cell_of_row W B j vs t (0, 0) h
theorem Blk.frozen {W : World} {B : Nat} {t : TypeId} {vs : Array Value} (h : Blk W B t vs) (j : Nat) : W.frozen? ⟨B, j, none⟩ = false := frozen_of_row W B j vs t h
theorem Blk.new (W : World) (t : TypeId) (vs : Array Value) : Blk (W.alloc (.cells vs t)) W.heap.size t vs := heap_alloc_new W _
theorem Blk.keep {W W' : World} {B : Nat} {t : TypeId} {vs : Array Value} (h : Blk W B t vs) (hb : Below W.heap.size W W') : Blk W' B t vs := (hb.block B h.lt).trans h
theorem Blk.alloc {W : World} {B : Nat} {t : TypeId} {vs : Array Value} (h : Blk W B t vs) (o : Obj) : Blk (W.alloc o) B t vs := h.keep ((Below.refl _ W).alloc (Nat.le_refl _) o)
theorem Blk.set {W : World} {B : Nat} {t : TypeId} {vs : Array Value} (h : Blk W B t vs) (j : Nat) (v : Value) : Blk (W.setCell ⟨B, j, none⟩ v) B t (vs.setIfInBounds j v) := heap_setCell_same W B j vs t v h
theorem Blk.other {W : World} {B : Nat} {t : TypeId} {vs : Array Value} (h : Blk W B t vs) {B' : Nat} (hne : B ≠ B') (j : Nat) (v : Value) : Blk (W.setCell ⟨B', j, none⟩ v) B t vs := (heap_setCell_other W ⟨B', j, none⟩ B v hne).trans h
theorem Blk.kept {W W' : World} {B g : Nat} {t : TypeId} {vs : Array Value} (h : Blk W B t vs) (hg : W.grownBy W' (some g)) (hne : B ≠ g) : Blk W' B t vs := (hg.block B h.lt (by simpa using hne)).trans h
end Go.Proofs.Ytfjlemnohjnkhaa
