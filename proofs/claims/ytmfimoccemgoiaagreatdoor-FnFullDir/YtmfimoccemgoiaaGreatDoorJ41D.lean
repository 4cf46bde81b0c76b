/-
  Joined: RenT, FullW.
-/
import Derived.Test.YtmfimoccemgoiaaGreatDoorJ40D
namespace Go.Proofs.YtmfimoccemgoiaaGreatDoor
section
open Go.RowKit
theorem spot_fr {ds : List InoD} (hK : ∀ D ∈ ds, D.kind = 1 ∨ D.kind = 2) (s : ByteArray) (fr : Int) : spotD ds s fr = if (dirFor ds s).2 ≠ 0 then (inoZ.D, ⟨#[]⟩, (dirFor ds s).2) else if 10 ≤ (dirFor ds s).1.ents.length ∧ (dirFor ds s).1.ino ≠ fr then (inoZ.D, ⟨#[]⟩, 5) else ((dirFor ds s).1, strB (parentOf s.data.toList).2.1, 0) := by
  unfold spotD dirFor badK
  by_cases h1 : (parentOf s.data.toList).2.2 = false
  · simp [h1]
  · by_cases h2 : (statD ds (strB (parentOf s.data.toList).1)).2 = 0
    · have hm := stat_in h2
      rcases hK _ hm with h3 | h3
      · simp [h1, h2, h3]
      · by_cases h4 : entOf (strB (parentOf s.data.toList).2.1) (statD ds (strB (parentOf s.data.toList).1)).1.ents = 0
        · by_cases h5 : 10 ≤ (statD ds (strB (parentOf s.data.toList).1)).1.ents.length ∧ (statD ds (strB (parentOf s.data.toList).1)).1.ino ≠ fr
          · simp [h1, h2, h3, h4, h5]
          · simp [h1, h2, h3, h4, h5]
        · simp [h1, h2, h3, h4]
    · simp [h1, h2]
/-- What is known where a rename is not refused ahead of its room. -/
theorem ren_dirs {nx : Int} {ds : List InoD} {s q : ByteArray} (h : treeD nx ds = true) (hK : ∀ D ∈ ds, D.kind = 1 ∨ D.kind = 2) (hp : (parentOf s.data.toList).2.2 = true) (hw : (walkP ds s).2 = 0) (hd : (dirFor ds q).2 = 0) : ∃ E, statD ds (strB (parentOf s.data.toList).1) = (E, 0) ∧ E.kind = 2 ∧ E ∈ ds ∧ (walkP ds (strB (parentOf s.data.toList).1)).1 = E.ino ∧ statD ds (strB (parentOf q.data.toList).1) = ((dirFor ds q).1, 0) ∧ (dirFor ds q).1.kind = 2 ∧ entOf (strB (parentOf q.data.toList).2.1) (dirFor ds q).1.ents = 0 := by
  obtain ⟨E, h1, h2⟩ := parent_stat hw hp
  obtain ⟨h3, h4⟩ := stat_look h1 (look_self (treeD_parts h).1)
  obtain ⟨h5, h6⟩ := dirFor_ok (show dirFor ds q = ((dirFor ds q).1, 0) from Prod.ext rfl hd)
  obtain ⟨h7, h8⟩ := badK_kind h5
  refine ⟨E, h1, h2, (look_mem h4).1, by rw [h3], h8, ?_, h6⟩
  rcases hK _ (dirFor_in hd) with h9 | h9
  · exact absurd h9 h7
  · exact h9
theorem ren_code {nx : Int} {ds : List InoD} {s q : ByteArray} (h : treeD nx ds = true) (hK : ∀ D ∈ ds, D.kind = 1 ∨ D.kind = 2) : renameD nx ds s q = if renC ds s q ≠ 0 then (ds, renC ds s q) else (renT ds s q (statD ds (strB (parentOf s.data.toList).1)).1 (statD (dropP ds s) (strB (parentOf q.data.toList).1)).1, 0) := by
  unfold renameD renC renT notR
  have hdp : setD ds { (statD ds (strB (parentOf s.data.toList).1)).1 with ents := cutE (statD ds (strB (parentOf s.data.toList).1)).1.ents (strB (parentOf s.data.toList).2.1) } = dropP ds s := rfl
  rw [hdp, spot_fr hK q]
  cases hp : (parentOf s.data.toList).2.2 with
  | false => simp [h]
  | true =>
    cases hq : (parentOf q.data.toList).2.2 with
    | false => simp [h]
    | true =>
      by_cases h0 : (walkP ds s).2 = 0
      · cases hb : belowOf s.data.toList q.data.toList with
        | true => simp [h, h0]
        | false =>
          by_cases h1 : (dirFor ds q).2 = 0
          · obtain ⟨E, e1, e2, _, e4, e5, e6, _⟩ := ren_dirs h hK hp h0 h1
            have hsame := same_above h hp hq e1 e5 e6
            rw [e4]
            by_cases h2 : 10 ≤ (dirFor ds q).1.ents.length
            · by_cases h3 : (dirFor ds q).1.ino = E.ino
              · have h4 := hsame.2 h3
                simp [h, h0, h1, h2, h3, h4]
              · have h4 : strB (parentOf s.data.toList).1 ≠ strB (parentOf q.data.toList).1 := fun c => h3 (hsame.1 c)
                simp [h, h0, h1, h2, h3, h4]
            · simp [h, h0, h1, h2]
          · simp [h, h0, h1]
      · simp [h, h0]
theorem ren_facts {ds : List InoD} {s q : ByteArray} (hC : renC ds s q = 0) : (parentOf s.data.toList).2.2 = true ∧ (parentOf q.data.toList).2.2 = true ∧ (walkP ds s).2 = 0 ∧ belowOf s.data.toList q.data.toList = false ∧ (dirFor ds q).2 = 0 ∧ ¬ (strB (parentOf s.data.toList).1 ≠ strB (parentOf q.data.toList).1 ∧ 10 ≤ (dirFor ds q).1.ents.length) := by
  unfold renC notR at hC
  split at hC
  · exact absurd hC (by decide)
  · rename_i h0
    split at hC
    · rename_i h
      exact absurd hC h
    · rename_i h1
      split at hC
      · exact absurd hC (by decide)
      · rename_i h2
        split at hC
        · rename_i h
          exact absurd hC h
        · rename_i h3
          split at hC
          · exact absurd hC (by decide)
          · rename_i h4
            simp only [Bool.not_eq_false, Bool.and_eq_true] at h0
            exact ⟨h0.1, h0.2, Classical.byContradiction fun c => h1 c, by simpa using h2, Classical.byContradiction fun c => h3 c, h4⟩
theorem ents_pair {es : List (ByteArray × Int)} (h : entsOk es = true) : es.Pairwise fun a b => Op.bytesLess a.1.toList b.1.toList = true := by
  rw [List.pairwise_iff_getElem]
  intro i j hi hj hij
  have := ents_ascM h j i hij hj
  simpa [hi, hj] using this
theorem pair_mono {es : List (ByteArray × Int)} (h : es.Pairwise fun a b => Op.bytesLess a.1.toList b.1.toList = true) (z : ByteArray) : ∀ (i j : Nat) (hi : i < es.length) (hj : j < es.length), i ≤ j → Op.bytesLess es[j].1.toList z.toList = true → Op.bytesLess es[i].1.toList z.toList = true := fun i j hi hj hij hz => by
  rcases Nat.lt_or_eq_of_le hij with h1 | rfl
  · exact less_trans (List.pairwise_iff_getElem.1 h i j hi hj h1) hz
  · exact hz
theorem ren_last {nx : Int} {ds : List InoD} {s q : ByteArray} (h : treeD nx ds = true) (hK : ∀ D ∈ ds, D.kind = 1 ∨ D.kind = 2) (hC : renC ds s q = 0) : statD (dropP ds s) (strB (parentOf q.data.toList).1) = ((statD (dropP ds s) (strB (parentOf q.data.toList).1)).1, 0) ∧ (statD (dropP ds s) (strB (parentOf q.data.toList).1)).1.kind = 2 ∧ (∃ D ∈ ds, (statD (dropP ds s) (strB (parentOf q.data.toList).1)).1 = D ∨ (statD (dropP ds s) (strB (parentOf q.data.toList).1)).1 = { D with ents := cutE D.ents (strB (parentOf s.data.toList).2.1) }) ∧ (∀ e ∈ (statD (dropP ds s) (strB (parentOf q.data.toList).1)).1.ents, e.1 ≠ strB (parentOf q.data.toList).2.1) ∧ (statD (dropP ds s) (strB (parentOf q.data.toList).1)).1.ents.Pairwise fun a b => Op.bytesLess a.1.toList b.1.toList = true := by
  obtain ⟨hp, hq, hw, hb, hd, _⟩ := ren_facts hC
  obtain ⟨E, e1, e2, e3, e4, e5, e6, e7⟩ := ren_dirs h hK hp hw hd
  have hst := stat_cut h hw hp hq hb e5
  have hDm := dirFor_in hd
  have hok := ok_parts ((tabD_ok (treeD_parts h).1).2.2.2.2.1 _ hDm).1
  have hpr := ents_pair hok.2.2.1
  have hno : ∀ e ∈ (dirFor ds q).1.ents, e.1 ≠ strB (parentOf q.data.toList).2.1 := entOf_zero e7 fun x hx => by
    have h1 := ((treeD_parts h).2.2 _ hDm).2 x hx
    cases hl : look ds x.2 with
    | none => rw [hl] at h1; cases h1
    | some F =>
      have h2 := look_mem hl
      have h3 := ((tabD_ok (treeD_parts h).1).2.2.2.2.1 F h2.1).1
      unfold inoOk at h3
      simp only [Bool.and_eq_true, decide_eq_true_eq] at h3
      omega
  rw [hst]
  dsimp only
  refine ⟨rfl, ?_⟩
  by_cases hx : (dirFor ds q).1.ino = (statD ds (strB (parentOf s.data.toList).1)).1.ino
  · rw [if_pos hx]
    exact ⟨e6, ⟨_, hDm, .inr rfl⟩, fun e he => hno e (List.mem_filter.1 he).1, hpr.filter _⟩
  · rw [if_neg hx]
    exact ⟨e6, ⟨_, hDm, .inl rfl⟩, hno, hpr⟩
theorem renameI (a : Option Addr) (n cap : Nat) (nx : Int) (rs : List InoR) (s q : ByteArray) (w : World) (ht : TR w a n rs) (hwf : ∀ r ∈ rs, (Lit.int .i64 r.D.ino).wf = true) (het : EtCell w) (hs : s.size ≤ 1048576) (hs1 : q.size ≤ 1048576) :
    Calls Tryz.prog 27 #[.agg #[.slice a n cap, .int .i64 nx], .string s, .string q] w fun e w' => TabC w nx (renameD nx (rs.map InoR.D) s q).1 (renameD nx (rs.map InoR.D) s q).2 e w' := by
  refine wrap_Rename a n cap nx s q w nx _ _ (fun W hW => ?_)
  refine changed_rename a n cap nx rs s q 0 none 0 0 ⟨#[]⟩ ⟨#[]⟩ W (ht.keep hW) hwf (het.keep hW) nx (renT (rs.map InoR.D) s q (statD (rs.map InoR.D) (strB (parentOf s.data.toList).1)).1 (statD (dropP (rs.map InoR.D) s) (strB (parentOf q.data.toList).1)).1) (renC (rs.map InoR.D) s q) nx _ _ ?_ ?_ ?_ ?_
  · intro h
    unfold renameD
    rw [if_pos (.inl h)]
    exact ⟨rfl, rfl, rfl⟩
  · intro h hc
    rw [ren_code h (tree_kind h), if_pos hc]
    exact ⟨rfl, rfl, rfl⟩
  · intro h hc
    rw [ren_code h (tree_kind h), if_neg (by rw [hc]; simp)]
    exact ⟨rfl, rfl, rfl⟩
  · intro h W' hW'
    refine renM a n cap nx rs s q 0 none 0 0 ⟨#[]⟩ ⟨#[]⟩ W' ((ht.keep hW).keep hW') h hs hs1 _ _ fun hC => ?_
    obtain ⟨hp, hq, hw, hb, hd, _⟩ := ren_facts hC
    obtain ⟨l1, l2, _, l4, l5⟩ := ren_last h (tree_kind h) hC
    refine ⟨parent_bad hw hp, ?_, fun e he => str_ne (l4 e he), pair_mono l5 _⟩
    show badK 1 (dropP (rs.map InoR.D) s) _ = _
    unfold badK
    rw [if_neg (fun c => by have := c.2; omega), ← l1]
end

section
open Go.RowKit
/-- What the frame tells of a slice of bytes that came in. -/
def ByteRow (w : World) (a : Option Addr) (len cap : Nat) (zs : List Int) : Prop :=
  (a = none ∧ len = 0 ∧ cap = 0 ∧ zs = []) ∨ ∃ x, a = some x ∧ len ≤ cap ∧ cap ≤ maxLen ∧ zs.length = cap ∧ (∀ i, i < zs.length → w.cell? (x.add i) = some (.int .u8 (zs.getD i 0))) ∧ ∀ n ∈ zs, (Lit.int .u8 n).wf = true
/-- A box that holds a table which can be read. -/
def TB (W : World) (X : Nat) (nx : Int) (ds : List InoD) : Prop := ∃ a n c rs, Blk W X 28 #[.slice a n c, .int .i64 nx] ∧ TR W a n rs ∧ rs.map InoR.D = ds
theorem TB.keep {W W' : World} {X : Nat} {nx : Int} {ds : List InoD} (h : TB W X nx ds) (hb : Below W.heap.size W W') : TB W' X nx ds := by
  obtain ⟨a, n, c, rs, h1, h2, h3⟩ := h
  exact ⟨a, n, c, rs, h1.keep hb, h2.keep hb, h3⟩
theorem TB.lt {W : World} {X : Nat} {nx : Int} {ds : List InoD} (h : TB W X nx ds) : X < W.heap.size := by
  obtain ⟨a, n, c, rs, h1, _⟩ := h
  exact h1.lt
/-- A table that was answered with a code, as it is read, in a box or not. -/
theorem TabC.open {w w' : World} {nx : Int} {ds : List InoD} {c : Int} {e : Ending} (h : TabC w nx ds c e w') (hs : ∀ D ∈ ds, InoSmall D) (hl : ds.length ≤ 1048576) : ∃ a n cc rs, e = .returned (.tuple #[.agg #[.slice a n cc, .int .i64 nx], .int .i64 c]) ∧ (∀ V', Below w'.heap.size w' V' → TR V' a n rs ∧ ∀ (X i : Nat) (u : Value), X < w.heap.size → TR (V'.setCell ⟨X, i, none⟩ u) a n rs ∧ ∀ (i' : Nat) (u' : Value), TR ((V'.setCell ⟨X, i, none⟩ u).setCell ⟨X, i', none⟩ u') a n rs) ∧ rs.map InoR.D = ds ∧ Below w.heap.size w w' := by
  obtain ⟨a, cc, js, rfl, hq, hb⟩ := h
  have h1 : (js.map InoJ.r).map InoR.D = ds := by rw [hq.ds, lift_map]
  have h2 : js.length = ds.length := by rw [← h1]; simp
  have hsm : ∀ r ∈ js.map InoJ.r, InoSmall r.D := fun r hr => hs r.D (by rw [← h1]; exact List.mem_map_of_mem hr)
  refine ⟨a, js.length, cc, js.map InoJ.r, rfl, fun V' hV => ⟨⟨by simp, by omega, hsm, (hq.keep hV).rd rfl⟩, fun X i u hX => ⟨⟨by simp, by omega, hsm, ((hq.keep hV).setX hX i u).rd rfl⟩, fun i' u' => ⟨by simp, by omega, hsm, (((hq.keep hV).setX hX i u).setX hX i' u').rd rfl⟩⟩⟩, h1, hb⟩
theorem fd_str {k : Nat} (hk : k < 10) : (⟨#[47, 100, 47]⟩ : ByteArray) ++ str [97 + (k : Int)] = fdP k := by
  have h : ∀ k : Fin 10, (⟨#[47, 100, 47]⟩ : ByteArray) ++ str [97 + ((k : Nat) : Int)] = fdP k := by decide
  exact h ⟨k, hk⟩
theorem str_one (x : Int) : (str [x]).size = 1 := rfl
theorem rd_one (W : World) (x : Int) : Rd (W.alloc (.cells #[.int .u8 x] 5)) (some ⟨W.heap.size, 0, none⟩) [x] := by
  refine .inr ⟨W.heap.size, 0, rfl, fun i hi => ?_⟩
  have : i = 0 := by simp at hi; omega
  subst this
  exact (Blk.new W 5 #[.int .u8 x]).cell 0
theorem big8_any (a : Option Addr) (n cap : Nat) (w : World) : Calls Tryz.prog 28 #[.slice a n cap] w fun e w' => e = .returned (.bool (decide ((1048576 : Int) < (n : Int)))) ∧ w' = w := by
  go_enter Tryz.func28, Tryz.ntmps28
  go_wp2
  go_ret
  exact ⟨rfl, rfl⟩
def atV8 (zs : List Int) (n i : Nat) : Nat := if i < n then (zs.getD i 0).toNat else (i * 31 + n * 7) % 256
theorem atV8_le (zs : List Int) (n i : Nat) (hb : Byt zs) : atV8 zs n i ≤ 255 := by
  unfold atV8
  obtain ⟨Z, hZ, hZ1⟩ := byt_at hb i
  split
  · rw [hZ]
    simp
    omega
  · omega
set_option maxHeartbeats 400000 in
theorem at8_any (a : Option Addr) (n cap : Nat) (zs : List Int) (i : Nat) (w : World) (hn : zs.length = n) (hs : n ≤ 1048576) (hi : i ≤ 1000) (hr : Rd w a zs) (hb : Byt zs) :
    Calls Tryz.prog 34 #[.slice a n cap, .int .i64 i] w fun e w' => e = .returned (.int .i64 (atV8 zs n i)) ∧ w' = w := by
  by_cases hin : i < n
  · obtain ⟨b, off, rfl, hlt, hc⟩ := hr.lt (by intro h; subst h; simp at hn; omega)
    have hcx := hc i (by omega)
    obtain ⟨Z, hZ, hZ1⟩ := byt_at hb i
    rw [hZ] at hcx
    have HV : atV8 zs n i = Z := by unfold atV8; rw [if_pos hin, hZ]; rfl
    rw [HV]
    clear HV hZ hr hc
    have hin' : (i : Int) < (n : Int) := by omega
    go_enter Tryz.func34, Tryz.ntmps34
    go_wp2
    go_ret
    exact ⟨rfl, rfl⟩
  · have HV : atV8 zs n i = (i * 31 + n * 7) % 256 := by unfold atV8; rw [if_neg hin]
    rw [HV]
    clear HV
    have hin' : ¬ (i : Int) < (n : Int) := by omega
    go_enter Tryz.func34, Tryz.ntmps34
    go_wp2
    go_ret
    exact ⟨ret_int (by omega), rfl⟩
/-- Behind the table's box, made ahead or behind. -/
def FUR (wr : World) (nk : Int) (U : List InoD) (s14 s15 : Value) (wx : World) : Prop := ∃ X : Nat, s14 = .pointer (some ⟨X, 0, none⟩) ∧ s15 = .int .i64 0 ∧ Hid (TB wx X nk U) ∧ Hid (Below wr.heap.size wr wx)
theorem fur_new {wr W w9 : World} {nk : Int} {U : List InoD} {a9 : Option Addr} {n9 c9 : Nat} {rs9 : List InoR} (hT : ∀ V', Below w9.heap.size w9 V' → TR V' a9 n9 rs9 ∧ ∀ (X i : Nat) (u : Value), X < W.heap.size → TR (V'.setCell ⟨X, i, none⟩ u) a9 n9 rs9 ∧ ∀ (i' : Nat) (u' : Value), TR ((V'.setCell ⟨X, i, none⟩ u).setCell ⟨X, i', none⟩ u') a9 n9 rs9) (hR : rs9.map InoR.D = U) (hC : Below wr.heap.size wr w9) : FUR wr nk U (.pointer (some ⟨w9.heap.size, 0, none⟩)) (.int .i64 0) (w9.alloc (.cells #[.slice a9 n9 c9, .int .i64 nk] 28)) :=
  ⟨_, rfl, rfl, ⟨a9, n9, c9, rs9, Blk.new w9 _ _, (hT _ ((Below.refl _ w9).alloc (Nat.le_refl _) _)).1, hR⟩, hC.alloc hC.size _⟩
theorem fur_old {wr W w9 : World} {nk : Int} {U : List InoD} {a9 : Option Addr} {n9 c9 X : Nat} {rs9 : List InoR} (hT : ∀ V', Below w9.heap.size w9 V' → TR V' a9 n9 rs9 ∧ ∀ (X i : Nat) (u : Value), X < W.heap.size → TR (V'.setCell ⟨X, i, none⟩ u) a9 n9 rs9 ∧ ∀ (i' : Nat) (u' : Value), TR ((V'.setCell ⟨X, i, none⟩ u).setCell ⟨X, i', none⟩ u') a9 n9 rs9) (hR : rs9.map InoR.D = U) (hC : Below wr.heap.size wr w9) (k : Blk w9 X 28 #[.slice none 0 0, .int .i64 0]) (hX : X < W.heap.size) (hw : wr.heap.size ≤ X) : FUR wr nk U (.pointer (some ⟨X, 0, none⟩)) (.int .i64 0) ((w9.setCell ⟨X, 0, none⟩ (.slice a9 n9 c9)).setCell ⟨X, 1, none⟩ (.int .i64 nk)) :=
  ⟨_, rfl, rfl, ⟨a9, n9, c9, rs9, blk2 k _ _, ((hT w9 (Below.refl _ _)).2 X 0 _ hX).2 1 _, hR⟩, (hC.setCell (p := ⟨X, 0, none⟩) hw _).setCell (p := ⟨X, 1, none⟩) hw _⟩
set_option maxRecDepth 100000 in
set_option maxHeartbeats 8000000 in
theorem walkFnFullDir (a : Option Addr) (n cap : Nat) (zs : List Int) (w : World) (hr : ByteRow w a n cap zs) (het : EtCell w) :
    Calls Tryz.prog 8 #[.slice a n cap] w fun e w' => e = .returned (.bool true) ∧ Below w.heap.size w w' := by
  by_cases hbig : (1048576 : Int) < (n : Int)
  · have hd : decide ((1048576 : Int) < (n : Int)) = true := decide_eq_true hbig
    have hc := big8_any a n cap w
    rw [hd] at hc
    go_enter Tryz.func8, Tryz.ntmps8
    go_wp2_with fail
    (with_reducible refine hc.mono ?_)
    rintro e w1 ⟨rfl, hw1⟩
    obtain rfl := hw1.symm
    go_wp2
    go_ret
    exact ⟨rfl, Below.refl _ _⟩
  have hd : decide ((1048576 : Int) < (n : Int)) = false := decide_eq_false hbig
  have hc := big8_any a n cap w
  rw [hd] at hc
  have HET : Hid _ := het
  have hn20 : n ≤ 1048576 := by omega
  clear hd hbig het
  go_enter Tryz.func8, Tryz.ntmps8
  go_wp2_with fail
  (with_reducible refine hc.mono ?_)
  rintro e w1 ⟨rfl, hw1⟩
  obtain rfl := hw1.symm
  clear hc
  go_wp2_with fail
  refine (tabNewI w).mono ?_
  rintro e w2 ⟨g1, rfl, hg1, o1, b2⟩
  have hT1 : TR w2 (some ⟨g1, 0, none⟩) 1 [ino1] := ⟨rfl, by omega, fun r hr => by simp at hr; subst hr; exact ino1_small, o1.rds fun r hr => by simp at hr; subst hr; exact ino1_rd w2⟩
  have hcD := makeDirI (some ⟨g1, 0, none⟩) 1 1 2 [ino1] ⟨#[47, 100]⟩ w2 hT1 (fun r hr => by simp at hr; subst hr; decide) (EtCell.keep HET.out b2) (by decide)
  go_wp2_with fail
  (with_reducible refine hcD.mono ?_)
  intro e w3 hp3
  have hp3' : TabC w2 (fdS 0).1 (fdS 0).2 0 e w3 := by
    have h := hp3
    rw [show (makeD 2 (List.map InoR.D [ino1]) ⟨#[47, 100]⟩ 2).2.2 = 0 from fd_dir] at h
    exact h
  obtain ⟨gs0, gl0, _⟩ := goodB_small (range_all fd_trees (show 0 < 11 by omega))
  obtain ⟨a3, n3, c3, rs3, rfl, hT3, hR3, b3⟩ := hp3'.open gs0 gl0
  obtain ⟨N0, hN0⟩ : ∃ x, (fdS 0).1 = x := ⟨_, rfl⟩
  rw [hN0]
  have bA : Below w3.heap.size w3 (w3.alloc (.cells #[.slice a3 n3 c3, .int .i64 N0] 28)) := (Below.refl _ w3).alloc (Nat.le_refl _) _
  have hB3 : Hid (Below w.heap.size w (w3.alloc (.cells #[.slice a3 n3 c3, .int .i64 N0] 28))) := (b2.trans (b3.mono b2.size)).trans (bA.mono (Nat.le_trans b2.size b3.size))
  have hTB0 : Hid (TB (w3.alloc (.cells #[.slice a3 n3 c3, .int .i64 N0] 28)) w3.heap.size (fdS 0).1 (fdS 0).2) := ⟨a3, n3, c3, rs3, by rw [hN0]; exact Blk.new w3 _ _, (hT3 _ bA).1, hR3⟩
  have hwT : Hid (w.heap.size ≤ w3.heap.size) := Nat.le_trans b2.size b3.size
  clear hp3 hp3' hT3 hR3 bA b2 b3 hcD hT1 o1 gs0 gl0 hN0 hg1
  go_wp2
  obtain ⟨W3, hW3⟩ : ∃ W, w3.alloc (.cells #[.slice a3 n3 c3, .int .i64 N0] 28) = W := ⟨_, rfl⟩
  rw [hW3] at hB3 hTB0 ⊢
  obtain ⟨T, hT⟩ : ∃ X, w3.heap.size = X := ⟨_, rfl⟩
  rw [hT] at hTB0 hwT ⊢
  clear hW3 hT
  go_loopw [5] (fun i wr => ∃ k : Nat, k ≤ 10 ∧ i = .int .i64 k ∧ Hid (TB wr T (fdS k).1 (fdS k).2) ∧ Hid (Below w.heap.size w wr)) (fun i _ => 10 - (intOf i).toNat)
  case atStart => exact ⟨0, by omega, rfl, hTB0, hB3⟩
  case round =>
    obtain ⟨k, hk, rfl, hTB, hB⟩ := hrel
    clear hTB0 hB3
    by_cases hkn : k < 10
    · have hki : (k : Int) < 10 := by omega
      obtain ⟨at', nt, ct, rst, zb, hTr, hRr⟩ := hTB.out
      obtain ⟨nk, hnk⟩ : ∃ x, (fdS k).1 = x := ⟨_, rfl⟩
      rw [hnk] at zb
      have t0 := zb.cell 0
      have t1 := zb.cell 1
      simp at t0 t1
      have hcv := conv_any (wr.alloc (.cells #[.int .u8 (97 + (k : Int))] 5)) (some ⟨wr.heap.size, 0, none⟩) 1 1 [97 + (k : Int)] rfl (rd_one wr _)
      have hzz := str_one (97 + (k : Int))
      have hfs := fd_str hkn
      obtain ⟨z, hz⟩ : ∃ z, str [97 + (k : Int)] = z := ⟨_, rfl⟩
      rw [hz] at hcv hzz hfs
      have hlim : ¬ 9223372036854775807 < (⟨#[47, 100, 47]⟩ : ByteArray).size + z.size := by rw [hzz]; decide
      clear hz
      have bz : Below wr.heap.size wr (wr.alloc (.cells #[.int .u8 (97 + (k : Int))] 5)) := (Below.refl _ wr).alloc (Nat.le_refl _) _
      obtain ⟨gsk, glk, gtk⟩ := goodB_small (range_all fd_trees (show k < 11 by omega))
      obtain ⟨gsn, gln, _⟩ := goodB_small (range_all fd_trees (show k + 1 < 11 by omega))
      have hcM := makeFileI at' nt ct nk rst (fdP k) _ (hTr.keep bz) (tree_facts (nx := (fdS k).1) (by rw [hRr]; exact gtk)).2.1 (EtCell.keep HET.out (hB.out.trans (bz.mono hB.out.size))) (show (fdP k).size ≤ 1048576 from by show (4 : Nat) ≤ _; omega)
      have hcM' : Calls Tryz.prog 23 #[.agg #[.slice at' nt ct, .int .i64 nk], .string (fdP k)] (wr.alloc (.cells #[.int .u8 (97 + (k : Int))] 5)) fun e w' => TabC (wr.alloc (.cells #[.int .u8 (97 + (k : Int))] 5)) (fdS (k + 1)).1 (fdS (k + 1)).2 0 e w' := by
        have h := hcM
        rw [hRr, ← hnk] at h
        rw [← hnk]
        have hc0 : (makeD (fdS k).1 (fdS k).2 (fdP k) 1).2.2 = 0 := by simpa using range_all fd_codes hkn
        rw [hc0] at h
        exact h
      clear hcM
      have HZB : Hid _ := zb
      have HLT : Hid (T < wr.heap.size) := zb.lt
      clear zb hTr hTB gsk glk gtk
      go_wp2_with fail
      (with_reducible refine hcM'.mono ?_)
      intro e w4 hp4
      obtain ⟨a4, n4, c4, rs4, rfl, hT4, hR4, b4⟩ := hp4.open gsn gln
      obtain ⟨nn, hnn⟩ : ∃ x, (fdS (k + 1)).1 = x := ⟨_, rfl⟩
      rw [hnn]
      have B4 : Below wr.heap.size wr w4 := bz.trans (b4.mono bz.size)
      have bX : Below w4.heap.size w4 (w4.alloc (.cells #[.slice a4 n4 c4, .int .i64 nn] 28)) := (Below.refl _ w4).alloc (Nat.le_refl _) _
      have zT4 := Blk.keep HZB.out (B4.trans (bX.mono B4.size))
      have hTlt : T < w4.heap.size := (Blk.keep HZB.out B4).lt
      have hTlz : T < (wr.alloc (.cells #[.int .u8 (97 + (k : Int))] 5)).heap.size := by have := HLT.out; simp; omega
      have f0 := zT4.frozen 0
      have f1 := zT4.frozen 1
      have d0 := zT4.cell 0
      have d1 := zT4.cell 1
      simp at d0 d1
      have hnx : Hid (TB (((w4.alloc (.cells #[.slice a4 n4 c4, .int .i64 nn] 28)).setCell ⟨T, 0, none⟩ (.slice a4 n4 c4)).setCell ⟨T, 1, none⟩ (.int .i64 nn)) T (fdS (k + 1)).1 (fdS (k + 1)).2) := ⟨a4, n4, c4, rs4, by rw [hnn]; exact blk2 zT4 _ _, (((hT4 _ bX).2 T 0 (.slice a4 n4 c4) hTlz).2 1 (.int .i64 nn)), hR4⟩
      have hBn : Hid (Below w.heap.size w (((w4.alloc (.cells #[.slice a4 n4 c4, .int .i64 nn] 28)).setCell ⟨T, 0, none⟩ (.slice a4 n4 c4)).setCell ⟨T, 1, none⟩ (.int .i64 nn))) := (((hB.out.trans (B4.mono hB.out.size)).trans (bX.mono (Nat.le_trans hB.out.size B4.size))).setCell (p := ⟨T, 0, none⟩) hwT.out _).setCell (p := ⟨T, 1, none⟩) hwT.out _
      have nT : ¬ T = w4.heap.size := by omega
      have nT' : ¬ w4.heap.size = T := by omega
      clear hcM' hp4 hT4 hR4 b4 B4 bX zT4 HZB HLT hcv hlim hzz hfs hTlt hTlz hB t0 t1 gsn gln hnn bz hnk hRr
      go_wp2
      go_roundw
      case rel => exact ⟨k + 1, by omega, by go_num, hnx, hBn⟩
      case measure => simp [intOf]; omega
    · have hki : ¬ (k : Int) < 10 := by omega
      obtain rfl : k = 10 := by omega
      obtain ⟨at', nt, ct, rst, zb, hTr, hRr⟩ := hTB.out
      obtain ⟨nk, hnk⟩ : ∃ x, (fdS 10).1 = x := ⟨_, rfl⟩
      obtain ⟨gs, gl, gt⟩ := goodB_small (range_all fd_trees (show 10 < 11 by omega))
      have hwf := (tree_facts (nx := (fdS 10).1) (rs := rst) (by rw [hRr]; exact gt)).2.1
      rw [hnk] at zb
      have hcF : ∀ W : World, Below wr.heap.size wr W → Calls Tryz.prog 23 #[.agg #[.slice at' nt ct, .int .i64 nk], .string fdZ] W fun e w' => ∃ a4 n4 c4 m4, e = .returned (.tuple #[.agg #[.slice a4 n4 c4, .int .i64 m4], .int .i64 5]) ∧ Below W.heap.size W w' := fun W hW => by
        have h := makeFileI at' nt ct nk rst fdZ W (hTr.keep hW) hwf (EtCell.keep HET.out (hB.out.trans (hW.mono hB.out.size))) (by decide)
        rw [hRr, ← hnk, fd_full] at h
        rw [← hnk]
        exact h.mono fun e w' ⟨a4, c4, js, h1, _, h3⟩ => ⟨a4, _, c4, _, h1, h3⟩
      have hcL : ∀ W : World, Below wr.heap.size wr W → Calls Tryz.prog 25 #[.agg #[.slice at' nt ct, .int .i64 nk], .string (fdP 0), .string fdZ] W fun e w' => ∃ a4 n4 c4 m4, e = .returned (.tuple #[.agg #[.slice a4 n4 c4, .int .i64 m4], .int .i64 5]) ∧ Below W.heap.size W w' := fun W hW => by
        have h := linkI at' nt ct nk rst (fdP 0) fdZ W (hTr.keep hW) hwf (EtCell.keep HET.out (hB.out.trans (hW.mono hB.out.size))) (by decide) (by decide)
        rw [hRr, ← hnk, fd_link] at h
        rw [← hnk]
        exact h.mono fun e w' ⟨a4, c4, js, h1, _, h3⟩ => ⟨a4, _, c4, _, h1, h3⟩
      have hcR : ∀ W : World, Below wr.heap.size wr W → Calls Tryz.prog 27 #[.agg #[.slice at' nt ct, .int .i64 nk], .string (fdP 0), .string fdZ] W fun e w' => ∃ a4 n4 c4 m4, e = .returned (.tuple #[.agg #[.slice a4 n4 c4, .int .i64 m4], .int .i64 0]) ∧ Below W.heap.size W w' := fun W hW => by
        have h := renameI at' nt ct nk rst (fdP 0) fdZ W (hTr.keep hW) hwf (EtCell.keep HET.out (hB.out.trans (hW.mono hB.out.size))) (by decide) (by decide)
        rw [hRr, ← hnk, fd_ren] at h
        rw [← hnk]
        exact h.mono fun e w' ⟨a4, c4, js, h1, _, h3⟩ => ⟨a4, _, c4, _, h1, h3⟩
      have e1 : fdZ = ⟨#[47, 100, 47, 122]⟩ := rfl
      have e2 : fdP 0 = ⟨#[47, 100, 47, 97]⟩ := rfl
      rw [e1] at hcF
      rw [e1, e2] at hcL hcR
      have t0 := zb.cell 0
      have t1 := zb.cell 1
      simp at t0 t1
      have HCL : Hid _ := hcL
      have HCR : Hid _ := hcR
      have HZ : Hid _ := zb
      clear hcL hcR
      go_wp2_with fail
      (with_reducible refine (hcF wr (Below.refl _ _)).mono ?_)
      rintro e w5 ⟨a5, n5, c5, m5, rfl, b5⟩
      have bx5 : Below wr.heap.size wr (w5.alloc (.cells #[.slice a5 n5 c5, .int .i64 m5] 28)) := b5.alloc b5.size _
      have t0 := (Blk.keep HZ.out bx5).cell 0
      have t1 := (Blk.keep HZ.out bx5).cell 1
      simp at t0 t1
      clear hcF
      go_wp2_with fail
      (with_reducible refine (HCL.out _ bx5).mono ?_)
      rintro e w6 ⟨a6, n6, c6, m6, rfl, b6⟩
      have B6 : Below wr.heap.size wr w6 := bx5.trans (b6.mono bx5.size)
      have bx6 : Below wr.heap.size wr (w6.alloc (.cells #[.slice a6 n6 c6, .int .i64 m6] 28)) := B6.alloc B6.size _
      have t0 := (Blk.keep HZ.out bx6).cell 0
      have t1 := (Blk.keep HZ.out bx6).cell 1
      simp at t0 t1
      clear bx5 b5 b6 B6
      go_wp2_with fail
      (with_reducible refine (HCR.out _ bx6).mono ?_)
      rintro e w7 ⟨a7, n7, c7, m7, rfl, b7⟩
      have B7 : Below wr.heap.size wr w7 := bx6.trans (b7.mono bx6.size)
      have bx7 : Below wr.heap.size wr (w7.alloc (.cells #[.slice a7 n7 c7, .int .i64 m7] 28)) := B7.alloc B7.size _
      obtain ⟨ys, hyl, hyr, hyb⟩ := rd_of_row hr
      have zT7 := Blk.keep HZ.out bx7
      clear bx6 b7 B7 t0 t1
      obtain ⟨v, hv⟩ : ∃ v, atV8 ys n 2 = v := ⟨_, rfl⟩
      have hv255 : v ≤ 255 := by rw [← hv]; exact atV8_le ys n 2 hyb
      have hAT : ∀ W : World, Below w.heap.size w W → Calls Tryz.prog 34 #[.slice a n cap, .int .i64 2] W fun e w' => e = .returned (.int .i64 (v : Int)) ∧ Below W.heap.size W w' := fun W hW => by
        have h := at8_any a n cap ys 2 W hyl (by omega) (by omega) (hyr.keep hW) hyb
        rw [hv] at h
        exact h.mono fun e w' h => ⟨h.1, by rw [h.2]; exact Below.refl _ _⟩
      obtain ⟨kk, hkk⟩ : ∃ k, v % 10 = k := ⟨_, rfl⟩
      have hkl : kk < 10 := by omega
      have hmod : (v : Int) % 10 = (kk : Int) := by omega
      have hmod2 : Int.tmod (v : Int) 10 = (kk : Int) := by rw [Int.tmod_eq_emod_of_nonneg (by omega)]; exact hmod
      obtain ⟨z, hz⟩ : ∃ z, str [97 + (kk : Int)] = z := ⟨_, rfl⟩
      have hzz : z.size = 1 := by rw [← hz]; rfl
      have hfs : (⟨#[47, 100, 47]⟩ : ByteArray) ++ z = fdP kk := by rw [← hz]; exact fd_str hkl
      have hlim : ¬ 9223372036854775807 < (⟨#[47, 100, 47]⟩ : ByteArray).size + z.size := by rw [hzz]; decide
      have hcv : ∀ W : World, (convert 37 9 (.slice (some ⟨W.heap.size, 0, none⟩) 1 1)).run Tryz.prog (W.alloc (.cells #[.int .u8 (97 + (kk : Int))] 5)) = .ok (.string z) (W.alloc (.cells #[.int .u8 (97 + (kk : Int))] 5)) := fun W => by rw [← hz]; exact conv_any _ _ 1 1 [97 + (kk : Int)] rfl (rd_one W _)
      have hcv3 : ∀ W : World, (convert 37 9 (.slice (some ⟨W.heap.size, 0, none⟩) 1 1)).run Tryz.prog ((W.alloc (.cells #[.int .u8 (97 + (kk : Int))] 5)).alloc (.cells #[.slice none 0 0, .int .i64 0] 28)) = .ok (.string z) ((W.alloc (.cells #[.int .u8 (97 + (kk : Int))] 5)).alloc (.cells #[.slice none 0 0, .int .i64 0] 28)) := fun W => by rw [← hz]; exact conv_any _ _ 1 1 [97 + (kk : Int)] rfl ((rd_one W _).keep ((Below.refl _ _).alloc (Nat.le_refl _) _))
      have hw64 : IntKind.i64.wrap (97 + (kk : Int)) = 97 + (kk : Int) := by rw [IntKind.wrap_i64]; omega
      have hw8 : IntKind.u8.wrap (97 + (kk : Int)) = 97 + (kk : Int) := (by decide : ∀ k : Fin 10, IntKind.u8.wrap (97 + ((k : Nat) : Int)) = 97 + ((k : Nat) : Int)) ⟨kk, hkl⟩
      obtain ⟨gsu, glu, gtu⟩ := goodB_small (range_all fd_left hkl)
      have hU0 : (unlinkD (fdS 10).1 (fdS 10).2 (fdP kk)).2 = 0 := by simpa using range_all fd_unl hkl
      have hN0 : (makeD (fdS 10).1 (unlinkD (fdS 10).1 (fdS 10).2 (fdP kk)).1 fdZ 1).2.2 = 0 := by simpa using range_all fd_now hkl
      obtain ⟨U, hU⟩ : ∃ U, (unlinkD (fdS 10).1 (fdS 10).2 (fdP kk)).1 = U := ⟨_, rfl⟩
      have hcU : ∀ W : World, Below wr.heap.size wr W → Calls Tryz.prog 30 #[.agg #[.slice at' nt ct, .int .i64 nk], .string (fdP kk)] W fun e w' => TabC W nk U 0 e w' := fun W hW => by
        have h := unlinkI at' nt ct nk rst (fdP kk) W (hTr.keep hW) hwf (EtCell.keep HET.out (hB.out.trans (hW.mono hB.out.size))) (show (fdP kk).size ≤ 4000000 from by show (4 : Nat) ≤ _; omega)
        rw [hRr, ← hnk, hU0, hU] at h
        rw [← hnk]
        exact h
      rw [hU] at gsu glu gtu hN0
      have HU : Hid _ := hcU
      have HAT : Hid _ := hAT
      have HGS : Hid _ := gsu
      have HCV : Hid _ := And.intro hcv hcv3
      clear hcU hAT hU0 hcv hcv3 hv hkk hz gsu hyr hyb hyl hU
      go_upto_region 14 with fail
      obtain ⟨W7, hW7⟩ : ∃ W, w7.alloc (.cells #[.slice a7 n7 c7, .int .i64 m7] 28) = W := ⟨_, rfl⟩
      rw [hW7] at zT7 bx7 ⊢
      clear hW7
      have bR : Below wr.heap.size wr W7 := bx7
      have bD : Below wr.heap.size wr W7.drew := bR.drew
      have t0 := zT7.cell 0
      have t1 := zT7.cell 1
      simp at t0 t1
      have hTW : T < W7.heap.size := zT7.lt
      have nTa : ¬ T = W7.heap.size := by omega
      have nTb : ¬ W7.heap.size = T := by omega
      have hBw : ∀ W : World, Below wr.heap.size wr W → Below w.heap.size w W := fun W hW => hB.out.trans (hW.mono hB.out.size)
      have HBW : Hid _ := hBw
      clear bx7 hBw
      go_cut [14, 15] (fun s14 s15 wx => FUR wr nk U s14 s15 wx)
      case first =>
        go_region_with (first
          | (go_at_call 34; (with_reducible refine (HAT.out _ (HBW.out _ (by first | with_reducible exact bD | with_reducible exact (below_al bR _).drew))).mono ?_); rintro e w8 ⟨rfl, b8⟩; have C8 : Below wr.heap.size wr w8 := below_tr (by first | with_reducible exact bD | with_reducible exact (below_al bR _).drew) b8; have y0 := (Blk.keep HZ.out C8).cell 0; have y1 := (Blk.keep HZ.out C8).cell 1; (simp at y0 y1); have hs8 := b8.size; (try simp at hs8); (first | (with_reducible (have kA : Blk w8 W7.heap.size 28 #[.slice none 0 0, .int .i64 0] := Blk.keep (W := (W7.alloc (.cells #[.slice none 0 0, .int .i64 0] 28)).drew) (Blk.drew (Blk.newAt rfl)) b8)) | skip); have q1 := HCV.out.1 w8; have q2 := HCV.out.1 (w8.alloc (.cells #[.slice none 0 0, .int .i64 0] 28)); have q3 := HCV.out.2 w8; (simp only [World.size_alloc] at q2); have hT8 : T < w8.heap.size := (Blk.keep HZ.out C8).lt; have nT1 : ¬ T = w8.heap.size := (by omega); have nT2 : ¬ w8.heap.size = T := (by omega); have nT3 : ¬ T = w8.heap.size + 1 := (by omega); have nT4 : ¬ w8.heap.size + 1 = T := (by omega))
          | (go_at_call 30; (with_reducible refine (HU.out _ (by first | with_reducible exact below_al C8 _ | with_reducible exact below_al (below_al C8 _) _)).mono ?_); intro e w9 hp9; obtain ⟨a9, n9, c9, rs9, rfl, hT9, hR9, b9⟩ := hp9.open HGS.out glu; have C9 : Below wr.heap.size wr w9 := below_tr (by first | with_reducible exact below_al C8 _ | with_reducible exact below_al (below_al C8 _) _) b9; have hs9 := b9.size; (try simp at hs9); have C89 : Below w8.heap.size w8 w9 := below_tr (by first | with_reducible exact below_al (Below.refl w8.heap.size w8) _ | with_reducible exact below_al (below_al (Below.refl w8.heap.size w8) _) _) b9; (try (have kA := kA.keep C89)); (first | (with_reducible (have kB : Blk w9 w8.heap.size 28 #[.slice none 0 0, .int .i64 0] := Blk.keep (W := (w8.alloc (.cells #[.slice none 0 0, .int .i64 0] 28)).alloc (.cells #[.int .u8 (97 + (kk : Int))] 5)) (Blk.alloc (Blk.newAt rfl) _) b9)) | (with_reducible (have kC : Blk w9 (w8.heap.size + 1) 28 #[.slice none 0 0, .int .i64 0] := Blk.keep (W := (w8.alloc (.cells #[.int .u8 (97 + (kk : Int))] 5)).alloc (.cells #[.slice none 0 0, .int .i64 0] 28)) (Blk.newAt (by simp)) b9)) | skip); (try (have lkA := kA.lt; have p1kA := kA.cell 0; have p2kA := kA.cell 1; (simp at p1kA p2kA); have f1kA := kA.frozen 0; have f2kA := kA.frozen 1; have n1kA : ¬ T = W7.heap.size := (by omega); have n2kA : ¬ W7.heap.size = T := (by omega))); (try (have lkB := kB.lt; have p1kB := kB.cell 0; have p2kB := kB.cell 1; (simp at p1kB p2kB); have f1kB := kB.frozen 0; have f2kB := kB.frozen 1; have n1kB : ¬ T = w8.heap.size := (by omega); have n2kB : ¬ w8.heap.size = T := (by omega))); (try (have lkC := kC.lt; have p1kC := kC.cell 0; have p2kC := kC.cell 1; (simp at p1kC p2kC); have f1kC := kC.frozen 0; have f2kC := kC.frozen 1; have n1kC : ¬ T = w8.heap.size + 1 := (by omega); have n2kC : ¬ w8.heap.size + 1 = T := (by omega))); skip))
        all_goals (go_wp2_with fail; go_meet; have hsC := C8.size; have hsR := bR.size; first | with_reducible exact fur_new hT9 hR9 C9 | with_reducible exact fur_old hT9 hR9 C9 kA (by simp <;> omega) (by omega) | with_reducible exact fur_old hT9 hR9 C9 kB (by simp <;> omega) (by omega) | with_reducible exact fur_old hT9 hR9 C9 kC (by simp <;> omega) (by omega) | fail)
      case rest =>
      obtain ⟨X, rfl, rfl, hTX, hBX⟩ := hcut
      obtain ⟨Wn, hwc⟩ : ∃ W, W = wc := ⟨_, rfl⟩
      subst hwc
      obtain ⟨au, nu, cu, rsu, zu, hTu, hRu⟩ := hTX.out
      have hwu := (tree_facts (nx := (fdS 10).1) (rs := rsu) (by rw [hRu]; exact gtu)).2.1
      have hcN : Calls Tryz.prog 23 #[.agg #[.slice au nu cu, .int .i64 nk], .string fdZ] Wn fun e w' => ∃ a4 n4 c4 m4, e = .returned (.tuple #[.agg #[.slice a4 n4 c4, .int .i64 m4], .int .i64 0]) ∧ Below Wn.heap.size Wn w' := by
        have h := makeFileI au nu cu nk rsu fdZ Wn hTu hwu (EtCell.keep HET.out (hB.out.trans (hBX.out.mono hB.out.size))) (by decide)
        rw [hRu, ← hnk, hN0] at h
        rw [← hnk]
        exact h.mono fun e w' ⟨a4, c4, js, h1, _, h3⟩ => ⟨a4, _, c4, _, h1, h3⟩
      rw [e1] at hcN
      have t0 := zu.cell 0
      have t1 := zu.cell 1
      simp at t0 t1
      have hBn : Hid (Below w.heap.size w Wn) := hB.out.trans (hBX.out.mono hB.out.size)
      clear hTX zu hTu hwu HU HAT HGS HCV bR bD hTW zT7
      go_wp2_with fail
      (with_reducible refine hcN.mono ?_)
      rintro e w10 ⟨a10, n10, c10, m10, rfl, b10⟩
      have hfin : Hid (Below w.heap.size w (w10.alloc (.cells #[.slice a10 n10 c10, .int .i64 m10] 28))) := (hBn.out.trans (b10.mono hBn.out.size)).alloc (Nat.le_trans hBn.out.size b10.size) _
      clear hcN t0 t1
      go_wp2
      go_ret
      exact ⟨rfl, hfin.out⟩
end
end Go.Proofs.YtmfimoccemgoiaaGreatDoor
