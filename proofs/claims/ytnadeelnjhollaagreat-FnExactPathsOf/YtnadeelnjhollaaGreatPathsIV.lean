/-
  What the program's PathsOf answers: its closure goes through a tree's directories; the paths are sorted behind that.
-/
import Derived.Test.YtnadeelnjhollaaGreatDropSV
import Derived.Test.YtnadeelnjhollaaGreatSortSV
import Derived.Test.YtnadeelnjhollaaGreatTTV
import Derived.Sort.OwnSorted
import Derived.Sort.Walk0
namespace Go.Proofs.YtnadeelnjhollaaGreat
open Go.RowKit Go.Maps Go.Sort Go.Shelf
theorem gtS_eq (z y : ByteArray) : gtS z y = decide (z.toList < y.toList) := by
  unfold gtS
  rw [bytesLess_eq]
  by_cases h1 : y.toList < z.toList
  · have h2 : ¬ z.toList < y.toList := fun h => List.lt_irrefl _ (List.lt_trans h1 h)
    simp [h1, h2]
  · by_cases h2 : y.toList = z.toList
    · rw [h2]
      simp [List.lt_irrefl]
    · have h3 : z.toList < y.toList := by
        have h4 : z.toList ≤ y.toList := h1
        exact Classical.byContradiction fun c => h2 (List.le_antisymm c h4)
      simp [h1, h2, h3]
theorem sorted_perm {l m : List (List UInt8)} (h1 : l.Pairwise (· ≤ ·)) (h2 : m.Pairwise (· ≤ ·)) (hp : l.Perm m) : l = m :=
  List.Perm.eq_of_pairwise (fun _ _ _ _ h3 h4 => List.le_antisymm h3 h4) h1 h2 hp
theorem insBy_sortedS {l : List ByteArray} {z : ByteArray} (h : (l.map ByteArray.toList).Pairwise (· ≤ ·)) : ((insBy (gtS z) l z).map ByteArray.toList).Pairwise (· ≤ ·) := by
  have e : l = (l.reverse.dropWhile (gtS z)).reverse ++ (l.reverse.takeWhile (gtS z)).reverse := by
    rw [← List.reverse_append, List.takeWhile_append_dropWhile, List.reverse_reverse]
  have hB : ∀ y ∈ (l.reverse.takeWhile (gtS z)).reverse, z.toList ≤ y.toList := fun y hy => by
    have := List.all_takeWhile (p := gtS z) (l := l.reverse)
    have := List.all_eq_true.1 this y (List.mem_reverse.1 hy)
    rw [gtS_eq] at this
    exact List.le_of_lt (by simpa using this)
  have hA : ∀ y ∈ (l.reverse.dropWhile (gtS z)).reverse, y.toList ≤ z.toList := by
    have hh := List.head?_dropWhile_not (gtS z) l.reverse
    cases hd : l.reverse.dropWhile (gtS z) with
    | nil => intro y hy; simp at hy
    | cons u t =>
      rw [hd] at hh
      simp at hh
      rw [gtS_eq] at hh
      have hu : u.toList ≤ z.toList := by
        have : ¬ z.toList < u.toList := by simpa using hh
        exact this
      intro y hy
      rw [List.reverse_cons] at hy
      rcases List.mem_append.1 hy with hy | hy
      · have h' := h
        rw [e, hd, List.reverse_cons, List.map_append, List.map_append] at h'
        have hp := (List.pairwise_append.1 (List.pairwise_append.1 h').1).2.2
        exact List.le_trans (hp y.toList (List.mem_map_of_mem hy) u.toList (by simp)) hu
      · have := List.mem_singleton.1 hy
        rw [this]
        exact hu
  unfold insBy
  have h' := h
  rw [e, List.map_append] at h'
  have h2 := List.pairwise_append.1 h'
  rw [List.map_append, List.map_cons]
  refine List.pairwise_append.2 ⟨h2.1, List.pairwise_cons.2 ⟨fun y hy => ?_, h2.2.1⟩, fun y hy x hx => ?_⟩
  · obtain ⟨y', hy', rfl⟩ := List.mem_map.1 hy
    exact hB y' hy'
  · rcases List.mem_cons.1 hx with rfl | hx
    · obtain ⟨y', hy', rfl⟩ := List.mem_map.1 hy
      exact hA y' hy'
    · exact h2.2.2 y hy x hx
theorem insBy_permS {α : Type} (gt : α → Bool) (l : List α) (x : α) : (insBy gt l x).Perm (x :: l) := by
  unfold insBy
  have e : l = (l.reverse.dropWhile gt).reverse ++ (l.reverse.takeWhile gt).reverse := by
    rw [← List.reverse_append, List.takeWhile_append_dropWhile, List.reverse_reverse]
  have h1 : ((l.reverse.dropWhile gt).reverse ++ x :: (l.reverse.takeWhile gt).reverse).Perm (x :: ((l.reverse.dropWhile gt).reverse ++ (l.reverse.takeWhile gt).reverse)) := List.perm_middle
  rw [← e] at h1
  exact h1
theorem sortS_ind (l : List ByteArray) : ∀ o : List ByteArray, (o.map ByteArray.toList).Pairwise (· ≤ ·) → ((l.foldl (fun o z => insBy (gtS z) o z) o).map ByteArray.toList).Pairwise (· ≤ ·) ∧ (l.foldl (fun o z => insBy (gtS z) o z) o).Perm (o ++ l) := by
  induction l with
  | nil => intro o h; exact ⟨h, by simp⟩
  | cons z l ih =>
    intro o h
    obtain ⟨h1, h2⟩ := ih (insBy (gtS z) o z) (insBy_sortedS h)
    refine ⟨h1, h2.trans ?_⟩
    exact ((insBy_permS (gtS z) o z).append_right l).trans (by
      rw [List.cons_append]
      exact List.perm_middle.symm)
/-- The sort of the library and that of the specification agree. -/
theorem sortS_merge (l : List ByteArray) : (l.map ByteArray.toList).mergeSort (fun x y => decide (x ≤ y)) = (sortS l).map ByteArray.toList := by
  obtain ⟨h1, h2⟩ := sortS_ind l [] (by simp)
  rw [List.nil_append] at h2
  refine sorted_perm ?_ h1 ((List.mergeSort_perm _ _).trans (h2.map _).symm)
  have h3 := List.pairwise_mergeSort (le := fun x y : List UInt8 => decide (x ≤ y)) (fun a b c => by simp only [decide_eq_true_eq]; exact List.le_trans) (fun a b => by simp only [Bool.or_eq_true, decide_eq_true_eq]; exact List.le_total a b) (l.map ByteArray.toList)
  exact h3.imp (fun {a b} h => by simpa using h)
theorem enc_toList (z : ByteArray) : encStr z.toList = .string z := by
  show Value.string ⟨z.toList.toArray⟩ = _
  rw [Lib.toList_data]
theorem enc_map (l : List ByteArray) : (l.map ByteArray.toList).map encStr = sV l := by
  unfold sV
  rw [List.map_map]
  exact List.map_congr_left fun z _ => enc_toList z
theorem sortI (B g c : Nat) (L : List ByteArray) (w : World) (hrow : w.ownsRow B 9 1 (.slice (some ⟨g, 0, none⟩) L.length c) L.length (sV L)) (hs : L.length ≤ 8000000) :
    Calls Tryz.prog 27 #[.slice (some ⟨g, 0, none⟩) L.length c] w fun e w' => e = .returned (.tuple #[]) ∧ w'.ownsRow B 9 1 (.slice (some ⟨g, 0, none⟩) L.length c) L.length (sV (sortS L)) ∧ w.grownBy w' (some g) := by
  rcases hrow.2 with ⟨h0, _⟩ | ⟨g', c', cur, hv, hB, hb, h1, h2, h3, h4⟩
  · cases h0
  · cases hv
    have hl : (L.map ByteArray.toList).length = L.length := by simp
    have h4' : cur.toList.take (L.map ByteArray.toList).length = (L.map ByteArray.toList).map encStr := by
      rw [hl, enc_map]
      simpa using h4
    have hc := AnyM.slices_Sort_string Tryz.sortStr g 0 c (L.map ByteArray.toList) w (holds_of_block hb h4') (Array.getElem?_eq_some_iff.1 hb).1 (by rw [hl]; omega)
    rw [hl] at hc
    refine hc.mono ?_
    rintro e w' ⟨rfl, n, os, rfl⟩
    refine ⟨rfl, ?_, grownBy_sorted _⟩
    have h5 := ownsRow_sorted (w := w) (n := n) (os := os) (ss := L.map ByteArray.toList) (ts := (L.map ByteArray.toList).mergeSort fun x y => decide (x ≤ y)) (by simp) hB hb (by rw [hl]; exact h1) h2 h3
    rw [hl, sortS_merge, enc_map] at h5
    rw [sortS_merge]
    exact h5
/-- What the closure sees: below w0 all is as it was; its variables; the paths so far. -/
structure PC (w0 W : World) (Tb P X Fb pm : Nat) (L : List ByteArray) : Prop where
  b : Below w0.heap.size w0 W
  zP : Blk W P 56 #[.map (some pm)]
  zF : Blk W Fb 58 #[.func (.func 26) #[] #[.pointer (some ⟨Tb, 0, none⟩), .pointer (some ⟨P, 0, none⟩), .pointer (some ⟨X, 0, none⟩), .pointer (some ⟨Fb, 0, none⟩)]]
  lo : w0.heap.size ≤ X
  nP : P ≠ X
  nF : Fb ≠ X
  px : ∃ g c, PX w0.heap.size W X g c L
theorem PX.neB {B : Nat} {w : World} {X g c : Nat} {L : List ByteArray} (h : PX B w X g c L) {b : Nat} {t : TypeId} {vs : Array Value} (hb : Blk w b t vs) (ht : t ≠ 9) : b ≠ g := by
  rintro rfl
  obtain ⟨_, cur, h1⟩ := row_at h.row (g := b) rfl
  have h2 : w.heap[b]? = _ := hb
  rw [h1] at h2
  simp at h2
  exact ht h2.2.symm
theorem PC.alloc {w0 W : World} {Tb P X Fb pm : Nat} {L : List ByteArray} (h : PC w0 W Tb P X Fb pm L) (o : Obj) : PC w0 (W.alloc o) Tb P X Fb pm L := by
  obtain ⟨g, c, h5⟩ := h.px
  exact ⟨h.b.alloc h.b.size _, h.zP.alloc _, h.zF.alloc _, h.lo, h.nP, h.nF, ⟨g, c, h5.keep ((Below.refl _ W).alloc (Nat.le_refl _) o)⟩⟩
theorem PC.app {w0 W W' : World} {Tb P X Fb pm : Nat} {L : List ByteArray} (h : PC w0 W Tb P X Fb pm L) {g c g' c' : Nat} {z : ByteArray} (hp : PX w0.heap.size W X g c L) (ho : W'.ownsRow w0.heap.size 9 1 (.slice (some ⟨g', 0, none⟩) (L.length + 1) c') (L.length + 1) (L.map Value.string ++ [.string z])) (hg : W.grownBy W' (some g)) (hat : g' = g ∨ g' = W.heap.size) : PC w0 (W'.setCell ⟨X, 0, none⟩ (.slice (some ⟨g', 0, none⟩) (L.length + 1) c')) Tb P X Fb pm (L ++ [z]) := by
  have hp2 := (PX.app hp ho hg hat).1
  have hl := hp.lt
  have hbl := h.b.size
  exact ⟨(h.b.grown hg hbl (fun j hj => by simp at hj; omega)).setCell (p := ⟨X, 0, none⟩) h.lo _, (h.zP.kept hg (hp.neB h.zP (by decide))).other h.nP _ _, (h.zF.kept hg (hp.neB h.zF (by decide))).other h.nF _ _, h.lo, h.nP, h.nF, ⟨g', c', hp2⟩⟩
set_option maxRecDepth 100000 in
set_option maxHeartbeats 4000000 in
theorem pathsC (Tb P X Fb pm : Nat) (a : Option Addr) (n cap : Nat) (nx : Int) (rs : List InoR) (w0 : World) (ht : TR w0 a n rs) (zT : Blk w0 Tb 30 #[.slice a n cap, .int .i64 nx]) (cp : Nat) (Dp : DataW Unit) (hM : MapIs Dp (inos rs)) (hpo : w0.ownsMap Tryz.prog 3 (plainElem Tryz.prog 3) pm cp Dp) (hwe : ∀ r ∈ rs, ∀ e ∈ r.D.ents, (Lit.int .i64 e.2).wf = true ∧ (look (rs.map InoR.D) e.2).isSome = true) (f : Nat) : ∀ (x : Int) (p : ByteArray) (w : World) (L : List ByteArray), (Lit.int .i64 x).wf = true → (look (rs.map InoR.D) x).isSome = true → levL (rs.map InoR.D) f [x] = [] → p.size + f * 1048577 ≤ 100000000 → L.length + (pathsF (rs.map InoR.D) f x p).length ≤ 1000000 → PC w0 w Tb P X Fb pm L →
    Calls Tryz.prog 26 #[.int .i64 x, .string p, .pointer (some ⟨Tb, 0, none⟩), .pointer (some ⟨P, 0, none⟩), .pointer (some ⟨X, 0, none⟩), .pointer (some ⟨Fb, 0, none⟩)] w fun e w' => e = .returned (.tuple #[]) ∧ PC w0 w' Tb P X Fb pm (L ++ pathsF (rs.map InoR.D) f x p) := by
  induction f with
  | zero => intro x p w L _ _ h; simp [levL] at h
  | succ f ih =>
    intro x p w L hwx hlx hlev hps hlen hC
    obtain ⟨ds, hds⟩ : ∃ ds, rs.map InoR.D = ds := ⟨_, rfl⟩
    rw [hds] at hlx hlev hlen ih hwe ⊢
    have hev := lev_ent hlev
    rw [pathsF_flat] at hlen ⊢
    have hMx := hM.2 x
    obtain ⟨pl, hfa⟩ : ∃ pl, firstAt (inos rs) x = some pl := by
      cases h : firstAt (inos rs) x with
      | none => rw [← hds, look_first_none h] at hlx; cases hlx
      | some pl => exact ⟨pl, rfl⟩
    have hat0 := hMx.2 pl hfa
    have hpl := firstAt_in hfa
    obtain ⟨r, hrp⟩ : ∃ r, rs[pl]? = some r := ⟨_, List.getElem?_eq_getElem hpl⟩
    have hlk : look ds x = some r.D := hds ▸ look_first hfa hrp
    have hes0 : entsAt ds x = r.D.ents := by unfold entsAt; rw [hlk]; rfl
    rw [hes0] at hev hlen ⊢
    have hkey : keyOf Tryz.prog 3 (.int .i64 x) = some (.int .i64 x) := keyOf_int_mk Tryz.underlying3 hwx
    have hplt := hpo.lt
    have hpw : w.ownsMap Tryz.prog 3 (plainElem Tryz.prog 3) pm cp Dp := by
      obtain ⟨es, clock, hb, Ft, hs, hD⟩ := hpo
      exact ⟨es, clock, (hC.b.block pm hplt).trans hb, Ft, hs, hD⟩
    have c1 := hC.zP.cell 0
    have zt := (zT.keep hC.b).cell 0
    simp at c1 zt
    have hTr := ht.keep hC.b
    have hpn : pl < n := by have := ht.len; omega
    have hn20 := ht.n
    have hpi : (pl : Int) < (n : Int) := by omega
    have hpp : (0 : Int) ≤ (pl : Int) := by omega
    have hpq : ¬ (pl : Int) < 0 := by omega
    obtain ⟨b, off, rfl, hlt, hc⟩ := RdI.lt hTr.rd (by intro h; rw [h] at hrp; simp at hrp)
    obtain ⟨x6, xr⟩ := hc pl r hrp
    have hsm := ht.small r (List.mem_of_getElem? hrp)
    have hwe' := hwe r (List.mem_of_getElem? hrp)
    obtain ⟨x0, x1, x2, x3, x4, x5⟩ := x6
    have hre0 : RdP w0 r.a2 (eP r.D.ents) := by
      obtain ⟨b', off', hb', _, hc'⟩ := RdI.lt ht.rd (by intro h; rw [h] at hrp; simp at hrp)
      exact (hc' pl r hrp).2.ents
    have hesz := hsm.entsz
    have hesl := hsm.ents
    obtain ⟨es, hes⟩ : ∃ es, r.D.ents = es := ⟨_, rfl⟩
    rw [hes] at x4 hev hlen hwe' hre0 hesz hesl ⊢
    obtain ⟨n2, hn2⟩ : ∃ n2, es.length = n2 := ⟨_, rfl⟩
    rw [hn2] at x4 hesl
    have HN : Hid _ := hn2
    obtain ⟨RL, hRL⟩ : ∃ R, es.flatMap (hP ds f p) = R := ⟨_, rfl⟩
    rw [hRL]
    have HRL : Hid _ := hRL
    have HIH : Hid _ := ih
    have HEV : Hid _ := hev
    have HLN : Hid _ := hlen
    have HSZ : Hid _ := hesz
    have HWE : Hid _ := hwe'
    have HRE : Hid _ := hre0
    have hC0 : Hid (PC w0 w Tb P X Fb pm (L ++ (es.take 0).flatMap (hP ds f p))) := by
      have := hC
      show PC _ _ _ _ _ _ _ _
      simpa using this
    obtain ⟨i0, hi, hz0, hz1, hz2⟩ := info_parts Tryz.info9
    clear hRL ih hev hlen hesz hwe' hre0 hlev hlx hMx hfa hpl hrp hlk hes0 hplt hTr hc xr hsm hes hn2 hpo hM hwe hds hC zT ht
    go_enter Tryz.func26, Tryz.ntmps26
    go_wp2_with (first
      | (at_lookup; refine wpList_lookup_own_int _ rfl _ _ 56 rfl 3 3 .i64 Tryz.keyInt Tryz.underlying56 Tryz.underlying3 (Tryz.zeroInt _) pm cp Dp rfl hpw _ _ rfl hkey ?_; intro c hat hwc; rw [hat0] at hat; simp at hat; subst hat)
      | go_in)
    clear hpw hkey hat0 x0 x1 x2 x3 x4 x5 c1 zt
    go_loopw [20] (fun j wi => ∃ q : Nat, q ≤ n2 ∧ j = .int .i64 q ∧ Hid (PC w0 wi Tb P X Fb pm (L ++ (es.take q).flatMap (hP ds f p)))) (fun j _ => n2 - (intOf j).toNat)
    case atStart => exact ⟨0, Nat.zero_le _, rfl, hC0⟩
    case round =>
      obtain ⟨q, hq, rfl, hCq⟩ := hrel
      clear hC0
      by_cases hqn : q < n2
      · have hqi : (q : Int) < (n2 : Int) := by omega
        have hq0 : (0 : Int) ≤ (q : Int) := by omega
        have hql : q < es.length := by rw [HN.out]; exact hqn
        have hqe : es[q]? = some es[q] := List.getElem?_eq_getElem hql
        obtain ⟨eb, eo, hea, helt, hec⟩ := RdP.lt (RdP.keep HRE.out hCq.out.b) (by intro h; have := congrArg List.length h; rw [eP_length] at this; simp at this; rw [this] at hql; simp at hql)
        have hx := hec q (by rw [eP_length]; exact hql)
        rw [eP_at es q hql] at hx
        have hev := HEV.out es[q] (List.getElem_mem hql)
        have hszq := HSZ.out es[q] (List.getElem_mem hql)
        have hwu := HWE.out es[q] (List.getElem_mem hql)
        have hft := flat_take (hP ds f p) hqe
        have hfl := flat_le (hP ds f p) hqe
        obtain ⟨nm, u, hnu⟩ : ∃ nm u, es[q] = (nm, u) := ⟨_, _, rfl⟩
        rw [hnu] at hx hev hszq hft hfl hwu
        obtain ⟨x1, x2⟩ := hx
        dsimp only at x1 x2 hev hszq hwu
        obtain ⟨z, hz⟩ : ∃ z, sub p (nm, u) = z := ⟨_, rfl⟩
        have hzs : z.size = p.size + 1 + nm.size := by rw [← hz]; unfold sub; simp [ByteArray.size_append]; rfl
        have hhP : hP ds f p (nm, u) = z :: pathsF ds f u z := by unfold hP; rw [hz]
        rw [hhP] at hft hfl
        have hz' : p ++ (⟨#[47]⟩ : ByteArray) ++ nm = z := hz
        obtain ⟨Lq, hLq⟩ : ∃ Lq, L ++ (es.take q).flatMap (hP ds f p) = Lq := ⟨_, rfl⟩
        have hLl : Lq.length + (1 + (pathsF ds f u z).length) ≤ 1000000 := by
          have h1 := HLN.out
          rw [← hLq, List.length_append]
          simp only [List.length_cons] at hfl
          omega
        have hLn : Hid (L ++ (es.take (q + 1)).flatMap (hP ds f p) = (Lq ++ [z]) ++ pathsF ds f u z) := by
          show _ = _
          rw [hft, ← hLq]
          simp
        rw [hLq] at hCq
        rw [hea]
        obtain ⟨W1, hW1⟩ : ∃ W, wr.alloc (.cells #[.string nm, .int .i64 u] 60) = W := ⟨_, rfl⟩
        have hCE := hCq.out.alloc (.cells #[.string nm, .int .i64 u] 60)
        have zE := Blk.new wr 60 #[.string nm, .int .i64 u]
        rw [hW1] at hCE zE
        obtain ⟨E, hE⟩ : ∃ E, wr.heap.size = E := ⟨_, rfl⟩
        rw [hE] at zE
        obtain ⟨gq, cq, hpx⟩ := hCE.px
        have e0 := zE.cell 0
        have y0 := hpx.cell.cell 0
        have yf := hpx.cell.frozen 0
        simp at e0 y0
        obtain ⟨lq, hlq⟩ : ∃ lq, Lq.length = lq := ⟨_, rfl⟩
        have hrow := hpx.row
        rw [hlq] at y0 hrow
        have hlq2 : lq ≤ 8000000 := by omega
        have hl1 : ¬ 9223372036854775807 < p.size + 1 := by omega
        have hl2 : ¬ 9223372036854775807 < p.size + 1 + nm.size := by omega
        have hneX := hpx.ne
        have hbz : w0.heap.size ≤ W1.heap.size := hCE.b.size
        have HLL : Hid _ := hLl
        have HLE : Hid _ := hev
        have HZS : Hid _ := hzs
        have HLQL : Hid _ := hlq
        have HPX : Hid _ := hpx
        have HCE : Hid _ := hCE
        have HZE : Hid _ := zE
        have HWU : Hid _ := hwu
        have hEX : E ≠ X := by have h1 := hpx.lt; have h2 := zE.lt; rintro rfl; have h3 : W1.heap[E]? = _ := zE; have h4 : W1.heap[E]? = _ := hpx.cell; rw [h3] at h4; simp at h4
        have hEg : E ≠ gq := hpx.neB zE (by decide)
        clear hec hqe hft hfl hnu hhP hLq hLl hev hzs hpx hz hlq hCE zE hwu
        go_wp2_with (at_builtin; refine wpList_app1 (W1.alloc (.cells #[.string z] 9)) rfl (.tmp 29) (.tmp 31) 26 9 rfl Tryz.underlying26 i0 (.string ⟨#[]⟩) 16 hi hz0 hz1 hz2 rfl (by omega) w0.heap.size gq lq cq (Lq.map Value.string) rfl (World.ownsRow.alloc hrow _) W1.heap.size (.string z) rfl (Blk.new W1 9 #[.string z] |>.cell 0) rfl hlq2 (by simp; omega) (W1.heap.size + 1) (by simp) ?_; intro g2 c2 W2 o2 hg2 hat2; have zc2 := ((HPX.out.cell).alloc (.cells #[.string z] 9)).kept hg2 (Ne.symm hneX); have hX2 := zc2.cell 0; have hXf2 := zc2.frozen 0; simp at hX2; have hP3 := PC.app (z := z) (HCE.out.alloc (.cells #[.string z] 9)) (HPX.out.keep ((Below.refl _ W1).alloc (Nat.le_refl _) _)) (by rw [HLQL.out]; exact o2) hg2 (by simpa using hat2); rw [HLQL.out] at hP3; have zE3 := ((Blk.alloc HZE.out (.cells #[.string z] 9)).kept hg2 hEg).other hEX 0 (.slice (some ⟨g2, 0, none⟩) (lq + 1) c2); obtain ⟨W3, hW3⟩ : ∃ W, W2.setCell ⟨X, 0, none⟩ (.slice (some ⟨g2, 0, none⟩) (lq + 1) c2) = W := ⟨_, rfl⟩; rw [hW3] at hP3 zE3; have cF := hP3.zF.cell 0; have e1 := zE3.cell 1; simp at cF e1)
        have hcR := HIH.out u z W3 (Lq ++ [z]) HWU.out.1 HWU.out.2 HLE.out (by have := HZS.out; omega) (by have := HLL.out; rw [List.length_append, List.length_singleton]; omega) hP3
        rw [← hLn.out] at hcR
        clear hP3 zE3 o2 hg2 zc2 hX2 hXf2 hat2 hrow hi hz0 hz1 hz2 e0 y0 yf
        (with_reducible refine hcR.mono ?_)
        rintro e w5 ⟨rfl, hC5⟩
        have hnx : Hid _ := hC5
        clear hcR hC5 cF e1 x1 x2 hW3 hW1
        go_wp2
        go_roundw
        case rel => exact ⟨q + 1, by omega, by go_num, hnx⟩
        case measure => simp [intOf]; omega
      · have hqi : ¬ (q : Int) < (n2 : Int) := by omega
        have hend : Hid (PC w0 wr Tb P X Fb pm (L ++ RL)) := by
          have h1 := hCq.out
          rw [List.take_of_length_le (by rw [HN.out]; omega), HRL.out] at h1
          exact h1
        go_wp2
        go_end0
        exact ⟨rfl, hend.out⟩
/-- A list of texts is answered, in a row of the call's own, or nothing. -/
def TextsPost (w : World) (L : List ByteArray) (e : Ending) (w' : World) : Prop :=
  ∃ v, e = .returned v ∧ w'.ownsRow w.heap.size 9 1 v L.length (sV L) ∧ Below w.heap.size w w'
set_option maxRecDepth 100000 in
set_option maxHeartbeats 4000000 in
theorem pathsI (a : Option Addr) (n cap : Nat) (nx : Int) (rs : List InoR) (w : World) (ht : TR w a n rs) (hwf : ∀ r ∈ rs, (Lit.int .i64 r.D.ino).wf = true) :
    Calls Tryz.prog 8 #[.agg #[.slice a n cap, .int .i64 nx]] w fun e w' => TextsPost w (pathsD nx (rs.map InoR.D)) e w' := by
  have hmf : ∀ (fn : Fn) (first cap : Array Value) (w : World), (Instr.makeFunc fn first cap).run Tryz.prog w = .ok (.func fn first cap) w := fun _ _ _ _ => rfl
  have hsf := fun (a : Addr) (c : Array Value) (w : World) => run_store Tryz.prog w a (.func (.func 26) #[] c) .plain rfl
  have B0 : Below w.heap.size w (w.alloc (.cells #[.slice a n cap, .int .i64 nx] 30)) := (Below.refl _ w).alloc (Nat.le_refl _) _
  have z0 := Blk.new w 30 #[.slice a n cap, .int .i64 nx]
  have hcT := treeI a n cap nx rs _ (ht.keep B0) hwf
  obtain ⟨ds, hds⟩ : ∃ ds, rs.map InoR.D = ds := ⟨_, rfl⟩
  rw [hds] at hcT ⊢
  obtain ⟨R, hR⟩ : ∃ R, pathsD nx ds = R := ⟨_, rfl⟩
  rw [hR]
  have HR : Hid _ := hR
  have HDS : Hid _ := hds
  clear hR hds
  go_enter Tryz.func8, Tryz.ntmps8
  go_wp2_with fail
  obtain ⟨W0, hW0⟩ : ∃ W, w.alloc (.cells #[.slice a n cap, .int .i64 nx] 30) = W := ⟨_, rfl⟩
  rw [hW0] at B0 z0 hcT ⊢
  clear hW0
  (with_reducible refine hcT.mono ?_)
  rintro e w1 ⟨rfl, b1⟩
  clear hcT
  have hb1 := B0.trans (b1.mono B0.size)
  have z1 := z0.keep b1
  have hT1 := ht.keep hb1
  clear z0 B0 b1 ht
  cases htr : treeD nx ds with
  | false =>
    have hR0 : R = [] := by rw [← HR.out]; unfold pathsD; rw [htr]; rfl
    subst hR0
    have hend : Hid (TextsPost w [] (.returned (.slice none 0 0)) w1) := ⟨_, rfl, ⟨rfl, .inl ⟨rfl, rfl⟩⟩, hb1⟩
    clear hT1 z1 hb1 hmf hsf htr HR
    go_wp2
    go_ret
    exact hend.out
  | true =>
    have htt := treeD_tr htr
    have hends := htt.ends
    have hfew := htt.few 31 ⟨#[]⟩
    have hRe : sortS (pathsF ds 31 1 ⟨#[]⟩) = R := by rw [← HR.out]; unfold pathsD; rw [htr]; rfl
    have hpar := treeD_parts htr
    have hwe : ∀ r ∈ rs, ∀ e ∈ r.D.ents, (Lit.int .i64 e.2).wf = true ∧ (look (rs.map InoR.D) e.2).isSome = true := fun r hr e he => by
      have hm : r.D ∈ ds := by rw [← HDS.out]; exact List.mem_map_of_mem hr
      rw [HDS.out]
      exact ⟨tab_wf hpar.1 r.D hm e he, (hpar.2.2 r.D hm).2 e he⟩
    have h1s : (look (rs.map InoR.D) 1).isSome = true := by
      rw [HDS.out]
      obtain ⟨D, hD, hD1, _⟩ := (tabD_ok hpar.1).2.2.2.2.2
      have := htt.asc D (List.mem_of_getElem? hD)
      rw [hD1] at this
      rw [this]
      rfl
    have hcB := byNumber_any a n cap nx rs w1 hT1.len (by have := hT1.n; omega) hwf hT1.rd
    have HWE : Hid _ := hwe
    have H1S : Hid _ := h1s
    have HT1 : Hid _ := hT1
    have HB1 : Hid _ := hb1
    have HEN : Hid _ := hends
    have HFE : Hid _ := hfew
    have HRE : Hid _ := hRe
    have t0 := z1.cell 0
    have t1 := z1.cell 1
    simp at t0 t1
    clear hwe h1s htt hends hfew hRe hpar hT1 hb1 htr hwf HR
    go_wp2_with fail
    (with_reducible refine hcB.mono ?_)
    rintro e w2 ⟨cnt, Dp, rfl, hcnt, hM, hown, b2⟩
    obtain ⟨pm, hpm⟩ : ∃ pm, w1.heap.size + 1 = pm := ⟨_, rfl⟩
    rw [hpm] at hown ⊢
    clear hcB t0 t1
    go_wp2_with fail
    have hPC : PC w2 ((((w2.alloc (.cells #[] 9)).alloc (.cells #[.map (some pm)] 56)).alloc (.cells #[.slice (some ⟨w2.heap.size, 0, none⟩) 0 0] 26)).alloc (.cells #[.func (.func 26) #[] #[.pointer (some ⟨w.heap.size, 0, none⟩), .pointer (some ⟨w2.heap.size + 1, 0, none⟩), .pointer (some ⟨w2.heap.size + 1 + 1, 0, none⟩), .pointer (some ⟨w2.heap.size + 1 + 1 + 1, 0, none⟩)]] 58)) w.heap.size (w2.heap.size + 1) (w2.heap.size + 1 + 1) (w2.heap.size + 1 + 1 + 1) pm [] := by
      have zP := ((Blk.new (w2.alloc (.cells #[] 9)) 56 #[.map (some pm)]).alloc (.cells #[.slice (some ⟨w2.heap.size, 0, none⟩) 0 0] 26)).alloc (.cells #[.func (.func 26) #[] #[.pointer (some ⟨w.heap.size, 0, none⟩), .pointer (some ⟨w2.heap.size + 1, 0, none⟩), .pointer (some ⟨w2.heap.size + 1 + 1, 0, none⟩), .pointer (some ⟨w2.heap.size + 1 + 1 + 1, 0, none⟩)]] 58)
      have zX := (Blk.new ((w2.alloc (.cells #[] 9)).alloc (.cells #[.map (some pm)] 56)) 26 #[.slice (some ⟨w2.heap.size, 0, none⟩) 0 0]).alloc (.cells #[.func (.func 26) #[] #[.pointer (some ⟨w.heap.size, 0, none⟩), .pointer (some ⟨w2.heap.size + 1, 0, none⟩), .pointer (some ⟨w2.heap.size + 1 + 1, 0, none⟩), .pointer (some ⟨w2.heap.size + 1 + 1 + 1, 0, none⟩)]] 58)
      have zF := Blk.new (((w2.alloc (.cells #[] 9)).alloc (.cells #[.map (some pm)] 56)).alloc (.cells #[.slice (some ⟨w2.heap.size, 0, none⟩) 0 0] 26)) 58 #[.func (.func 26) #[] #[.pointer (some ⟨w.heap.size, 0, none⟩), .pointer (some ⟨w2.heap.size + 1, 0, none⟩), .pointer (some ⟨w2.heap.size + 1 + 1, 0, none⟩), .pointer (some ⟨w2.heap.size + 1 + 1 + 1, 0, none⟩)]]
      have oE := (((World.ownsRow.alloc (empty_row w2 w2.heap.size 9 1 (Nat.le_refl _)) (.cells #[.map (some pm)] 56)).alloc (.cells #[.slice (some ⟨w2.heap.size, 0, none⟩) 0 0] 26)).alloc (.cells #[.func (.func 26) #[] #[.pointer (some ⟨w.heap.size, 0, none⟩), .pointer (some ⟨w2.heap.size + 1, 0, none⟩), .pointer (some ⟨w2.heap.size + 1 + 1, 0, none⟩), .pointer (some ⟨w2.heap.size + 1 + 1 + 1, 0, none⟩)]] 58))
      simp only [World.size_alloc] at zP zX zF
      have hb : Below w2.heap.size w2 ((((w2.alloc (.cells #[] 9)).alloc (.cells #[.map (some pm)] 56)).alloc (.cells #[.slice (some ⟨w2.heap.size, 0, none⟩) 0 0] 26)).alloc (.cells #[.func (.func 26) #[] #[.pointer (some ⟨w.heap.size, 0, none⟩), .pointer (some ⟨w2.heap.size + 1, 0, none⟩), .pointer (some ⟨w2.heap.size + 1 + 1, 0, none⟩), .pointer (some ⟨w2.heap.size + 1 + 1 + 1, 0, none⟩)]] 58)) := ((((Below.refl _ w2).alloc (Nat.le_refl _) _).alloc (by simp) _).alloc (by simp; omega) _).alloc (by simp; omega) _
      exact ⟨hb, zP, zF, by omega, by omega, by omega, ⟨w2.heap.size, 0, zX, oE⟩⟩
    have z2 := z1.keep b2
    have hcl := pathsC w.heap.size (w2.heap.size + 1) (w2.heap.size + 1 + 1) (w2.heap.size + 1 + 1 + 1) pm a n cap nx rs w2 (HT1.out.keep b2) z2 cnt Dp hM hown HWE.out 31 1 ⟨#[]⟩ _ [] (by decide) H1S.out (by rw [HDS.out]; exact HEN.out) (by decide) (by rw [HDS.out]; have := HFE.out; simp; omega) hPC
    rw [HDS.out, List.nil_append] at hcl
    obtain ⟨F, hF⟩ : ∃ F, pathsF ds 31 1 ⟨#[]⟩ = F := ⟨_, rfl⟩
    rw [hF] at hcl HFE HRE
    have hB2 := HB1.out.trans (b2.mono HB1.out.size)
    have HB2 : Hid _ := hB2
    clear hPC z1 z2 hM hown hF hmf hsf hcnt
    (with_reducible refine hcl.mono ?_)
    rintro e w5 ⟨rfl, hC5⟩
    obtain ⟨g, c, hpx⟩ := hC5.px
    have y0 := hpx.cell.cell 0
    simp at y0
    have hsz2 := hB2.size
    have hcs := sortI w2.heap.size g c F w5 hpx.row (by have := HFE.out; omega)
    obtain ⟨lf, hlf⟩ : ∃ lf, F.length = lf := ⟨_, rfl⟩
    have hlR : R.length = lf := by rw [← HRE.out, sortS_len, hlf]
    rw [hlf] at y0 hcs
    have HPX : Hid _ := hpx
    have HB5 : Hid _ := hC5.b
    have HLF : Hid _ := hlf
    have HLR : Hid _ := hlR
    clear hcl hC5 hpx hlf hlR
    go_wp2_with fail
    (with_reducible refine hcs.mono ?_)
    rintro e w6 ⟨rfl, o6, g6⟩
    have zx := HPX.out.cell.kept g6 (Ne.symm HPX.out.ne)
    rw [HLF.out] at zx
    have y6 := zx.cell 0
    simp at y6
    have hend : Hid (TextsPost w R (.returned (.slice (some ⟨g, 0, none⟩) lf c)) w6) := by
      have hb6 : Below w2.heap.size w2 w6 := HB5.out.grown g6 HB5.out.size (fun m hm => by simp at hm; have := HPX.out.lt; omega)
      refine ⟨_, rfl, ?_, HB2.out.trans (hb6.mono hsz2)⟩
      rw [HLR.out, ← HRE.out]
      exact row_lower o6 hsz2
    clear hcs y0 o6 g6 zx
    go_wp2
    go_ret
    exact hend.out
end Go.Proofs.YtnadeelnjhollaaGreat
