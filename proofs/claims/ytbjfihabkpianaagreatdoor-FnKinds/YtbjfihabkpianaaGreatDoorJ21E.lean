/-
  Joined: Spot6, CopyT.
-/
import Derived.Test.YtbjfihabkpianaaGreatDoorJ19E
import Derived.OwnWalk
import Derived.Deep.DeepAppendRoom
namespace Go.Proofs.YtbjfihabkpianaaGreatDoor
section
open Go.RowKit
theorem join_len {zs : List Str} (h : good zs = true) : (joinOf zs).length ≤ 451 := by
  unfold joinOf
  split
  · simp
  · try rw [if_pos h]
    have h1 := good_len h
    have h2 := good_all h
    have : ∀ l : List Str, (∀ z ∈ l, nameOk z = true) → (l.flatMap fun p => 47 :: p).length ≤ 15 * l.length := by
      intro l
      induction l with
      | nil => intro _; simp
      | cons z l ih =>
        intro hl
        have h3 := nameOk_len (hl z (List.mem_cons_self ..))
        have h4 := ih fun y hy => hl y (List.mem_cons_of_mem _ hy)
        simp only [List.flatMap_cons, List.length_append, List.length_cons] at h4 ⊢
        omega
    have := this zs h2
    omega
theorem parent_small (l : Str) : (parentOf l).1.length ≤ 451 ∧ (parentOf l).2.1.length ≤ 14 := by
  cases hs : splitOf l with
  | none => rw [pa_none hs]; simp
  | some ps =>
    obtain ⟨zs, hz, _⟩ := split_strs hs
    have hg := split_good hz
    rcases Nat.eq_zero_or_pos zs.length with h0 | h0
    · have : zs = [] := List.length_eq_zero_iff.1 h0
      subst this
      rw [pa_nil hz]
      simp
    · rw [pa_some hz h0]
      refine ⟨join_len (good_prefix hg ?_), ?_⟩
      · unfold strs
        rw [List.map_take]
        exact List.take_prefix _ _
      · have hm : zs.getD (zs.length - 1) ⟨#[]⟩ ∈ zs := by
          rw [List.getD_eq_getElem?_getD, List.getElem?_eq_getElem (by omega)]
          exact List.getElem_mem _
        have := good_all hg (zs.getD (zs.length - 1) ⟨#[]⟩).data.toList (List.mem_map_of_mem (f := fun z : ByteArray => z.data.toList) hm)
        exact nameOk_len this
/-- Where something new is put: the parent, the last name, and a code. -/
def spotD (ds : List InoD) (s : ByteArray) (fr : Int) : InoD × ByteArray × Int :=
  if (parentOf s.data.toList).2.2 = false then (inoZ.D, ⟨#[]⟩, 1)
  else if (statD ds (strB (parentOf s.data.toList).1)).2 ≠ 0 then (inoZ.D, ⟨#[]⟩, (statD ds (strB (parentOf s.data.toList).1)).2)
  else if (statD ds (strB (parentOf s.data.toList).1)).1.kind ≠ 2 then (inoZ.D, ⟨#[]⟩, 3)
  else if entOf (strB (parentOf s.data.toList).2.1) (statD ds (strB (parentOf s.data.toList).1)).1.ents ≠ 0 then (inoZ.D, ⟨#[]⟩, 4)
  else if 10 ≤ (statD ds (strB (parentOf s.data.toList).1)).1.ents.length ∧ (statD ds (strB (parentOf s.data.toList).1)).1.ino ≠ fr then (inoZ.D, ⟨#[]⟩, 5)
  else ((statD ds (strB (parentOf s.data.toList).1)).1, strB (parentOf s.data.toList).2.1, 0)
end

section
open Go.RowKit
theorem gr_none {W W' : World} (h : W.grownBy W' none) : Below W.heap.size W W' := ⟨h.os, h.tape, h.output, h.size, fun k hk => h.block k hk (by simp)⟩
/-- What is known while a table is copied by the program. -/
structure CT (w W : World) (nx : Int) (tv v : Value) (ds : List InoR) (js : List InoJ) : Prop where
  below : Below w.heap.size w W
  tb : Blk W w.heap.size 47 #[tv, .int .i64 nx]
  res : Blk W (w.heap.size + 1) 47 #[.slice none 0 0, .int .i64 0]
  q : DQT (w.heap.size + 2) W v ds js
theorem CT.keep {w W W' : World} {nx : Int} {tv v : Value} {ds : List InoR} {js : List InoJ} (h : CT w W nx tv v ds js) (hb : Below W.heap.size W W') : CT w W' nx tv v ds js :=
  ⟨h.below.trans (hb.mono h.below.size), h.tb.keep hb, h.res.keep hb, h.q.keep hb⟩
theorem CT.app {w W W1 W2 : World} {nx : Int} {tv : Value} {g k n : Nat} {ds : List InoR} {js : List InoJ} (h : CT w W nx tv (.slice (some ⟨g, 0, none⟩) k n) ds js) (hk : js.length = k) (hb : Below W.heap.size W W1) (r r' : InoR) (hD : r'.D = r.D) (hG : (⟨r', W.heap.size, W1.heap.size⟩ : InoJ).G W1) (o : Obj) (hg : (W1.alloc o).grownBy W2 (some g)) (ho : W2.ownsRow (w.heap.size + 2) 68 6 (.slice (some ⟨g, 0, none⟩) (k + 1) n) (k + 1) (iv (js.map InoJ.r) ++ r'.six)) :
    CT w W2 nx tv (.slice (some ⟨g, 0, none⟩) (k + 1) n) (ds ++ [r]) (js ++ [⟨r', W.heap.size, W1.heap.size⟩]) := by
  have hg2 : w.heap.size + 2 ≤ g := (World.ownsRow.lt h.q.row g rfl).1
  have hsz : w.heap.size + 2 ≤ W.heap.size := by have := h.res.lt; omega
  have h1 := h.keep (hb.trans (((Below.refl _ W1).alloc (Nat.le_refl _) o).mono hb.size))
  have b2 : Below w.heap.size w W2 := h1.below.grown hg h1.below.size (fun m hm => by simp at hm; omega)
  exact ⟨b2, h1.tb.kept hg (by omega), h1.res.kept hg (by omega), h.q.app hsz hb r r' hD hG o hg g (k + 1) n (by omega) ho (.inl rfl)⟩
/-- What copyTab answers. -/
def CopyTPost (w : World) (n : Nat) (nx : Int) (ds : List InoR) (e : Ending) (w' : World) : Prop :=
  ∃ (g : Nat) (js : List InoJ), e = .returned (.agg #[.slice (some ⟨g, 0, none⟩) n n, .int .i64 nx]) ∧ js.length = n ∧ DQT w.heap.size w' (.slice (some ⟨g, 0, none⟩) n n) ds js ∧ Below w.heap.size w w'
set_option maxRecDepth 100000 in
set_option maxHeartbeats 4000000 in
theorem copyTab_any (a : Option Addr) (n cap : Nat) (nx : Int) (rs : List InoR) (w : World) (hn : rs.length = n) (hs : n ≤ 1048576) (hsm : ∀ r ∈ rs, InoSmall r.D) (hr : RdI w a rs) :
    Calls Tryz.prog 109 #[.agg #[.slice a n cap, .int .i64 nx]] w fun e w' => CopyTPost w n nx rs e w' := by
  obtain ⟨ii, hii, zi0, zi1, zi2⟩ := info_parts Tryz.infoInode
  have hn' : Hid (rs.length = n) := hn
  have HR : Hid _ := hr
  have HS : Hid _ := hsm
  have B0 : Below w.heap.size w ((w.alloc (.cells #[.slice a n cap, .int .i64 nx] 47)).alloc (.cells #[.slice none 0 0, .int .i64 0] 47)) := ((Below.refl _ w).alloc (Nat.le_refl _) _).alloc (by simp) _
  have z0 := (Blk.new w 47 #[.slice a n cap, .int .i64 nx]).alloc (.cells #[.slice none 0 0, .int .i64 0] 47)
  have z1 := (Blk.new (w.alloc (.cells #[.slice a n cap, .int .i64 nx] 47)) 47 #[.slice none 0 0, .int .i64 0])
  simp only [World.size_alloc] at z1
  have hsz : ((w.alloc (.cells #[.slice a n cap, .int .i64 nx] 47)).alloc (.cells #[.slice none 0 0, .int .i64 0] 47)).heap.size = w.heap.size + 2 := by simp
  clear hr hsm hn
  go_enter Tryz.func109, Tryz.ntmps109
  go_upto_region 1 with fail
  obtain ⟨W0, hW0⟩ : ∃ W, (w.alloc (.cells #[.slice a n cap, .int .i64 nx] 47)).alloc (.cells #[.slice none 0 0, .int .i64 0] 47) = W := ⟨_, rfl⟩
  rw [hW0] at B0 z0 z1 hsz ⊢
  have HSZ : Hid _ := hsz
  clear hW0 hsz
  have t0 := z0.cell 0
  simp at t0
  go_upto_region 2 with (refine wpList_make_own W0 rfl _ _ 45 rfl (w.heap.size + 2) 68 ii _ 6 Tryz.underlying45 hii zi0 zi1 .i64 .i64 _ n rfl rfl rfl (by rw [zi2]; omega) (by unfold maxLen; omega) (by rw [HSZ.out]; exact Nat.le_refl _) ?_; intro w1 ho1 hg1)
  have bb1 := gr_none hg1
  have ct0 : CT w w1 nx (.slice a n cap) (.slice (some ⟨W0.heap.size, 0, none⟩) 0 n) [] [] := ⟨B0.trans (bb1.mono B0.size), z0.keep bb1, z1.keep bb1, ⟨rfl, ho1, JsQ.nil _ _, fun g _ i j e => by simp at e⟩⟩
  obtain ⟨g, hg⟩ : ∃ g, W0.heap.size = g := ⟨_, rfl⟩
  rw [hg] at ct0 ⊢
  clear hg HSZ bb1 hg1 ho1 z0 z1 B0 t0
  have t0 := ct0.tb.cell 0
  simp at t0
  go_wp2
  clear t0
  go_loopw [3, 13] (fun l i wr => ∃ (k : Nat) (js : List InoJ), k ≤ n ∧ i = .int .i64 k ∧ l = .slice (some ⟨g, 0, none⟩) k n ∧ js.length = k ∧ CT w wr nx (.slice a n cap) (.slice (some ⟨g, 0, none⟩) k n) (rs.take k) js) (fun _ i _ => n - (intOf i).toNat)
  case atStart => exact ⟨0, [], Nat.zero_le _, rfl, rfl, rfl, ct0⟩
  case round =>
    obtain ⟨k, js, hk, rfl, rfl, hjk, ct⟩ := hrel
    clear ct0
    by_cases hkn : k < n
    · have hki : (k : Int) < (n : Int) := by omega
      have hkz : (0 : Int) ≤ (k : Int) := by omega
      obtain ⟨r, hrk⟩ : ∃ r, rs[k]? = some r := ⟨_, List.getElem?_eq_getElem (by rw [hn'.out]; exact hkn)⟩
      obtain ⟨b, off, rfl, hlt, hc⟩ := (RdI.keep HR.out ct.below).lt (by intro h; have := hn'.out; rw [h] at this; simp at this; omega)
      obtain ⟨⟨x0, x1, x2, x3, x4, x5⟩, xr⟩ := hc k r hrk
      have hsr := HS.out r (List.mem_of_getElem? hrk)
      have hds : Hid (rs.take (k + 1) = rs.take k ++ [r]) := by show _ = _; rw [List.take_add_one, hrk]; rfl
      have b8 : Below wr.heap.size wr (wr.alloc (.cells #[.int .i64 r.D.ino, .int .i64 r.D.kind, .int .i64 r.D.links, .slice r.a1 r.D.data.length r.c1, .slice r.a2 r.D.ents.length r.c2, .slice r.a3 r.D.attrs.length r.c3] 68)) := (Below.refl _ wr).alloc (Nat.le_refl _) _
      have zE := Blk.new wr 68 #[.int .i64 r.D.ino, .int .i64 r.D.kind, .int .i64 r.D.links, .slice r.a1 r.D.data.length r.c1, .slice r.a2 r.D.ents.length r.c2, .slice r.a3 r.D.attrs.length r.c3]
      have ct8 := ct.keep b8
      have xr8 := InoRd.keep xr b8
      obtain ⟨ds, hds'⟩ : ∃ l, rs.take k = l := ⟨_, rfl⟩
      rw [hds'] at hds ct8
      clear hc hrk xr ct hds'
      go_upto_region 5 with fail
      obtain ⟨E, hE⟩ : ∃ E, wr.heap.size = E := ⟨_, rfl⟩
      obtain ⟨W8, hW8⟩ : ∃ W, wr.alloc (.cells #[.int .i64 r.D.ino, .int .i64 r.D.kind, .int .i64 r.D.links, .slice r.a1 r.D.data.length r.c1, .slice r.a2 r.D.ents.length r.c2, .slice r.a3 r.D.attrs.length r.c3] 68) = W := ⟨_, rfl⟩
      rw [hW8] at ct8 zE xr8 ⊢
      rw [hE] at zE ⊢
      clear hW8 hE b8 x0 x1 x2 x3 x4 x5 hlt
      have hcC := copyInode_any r.D r.a1 r.a2 r.a3 r.c1 r.c2 r.c3 W8 hsr xr8
      obtain ⟨e0, e1, e2, e3, e4, e5⟩ := zE.six
      go_wp2_with fail
      (with_reducible refine hcC.mono ?_)
      rintro e w10 ⟨b1, d1, b2, d2, b3, d3, rfl, gC, bC⟩
      have ct10 := ct8.keep bC
      have hrow := World.ownsRow.alloc ct10.q.row (.cells #[.int .i64 r.D.ino, .int .i64 r.D.kind, .int .i64 r.D.links, .slice b1 r.D.data.length d1, .slice b2 r.D.ents.length d2, .slice b3 r.D.attrs.length d3] 68)
      rw [hjk] at hrow
      clear hcC zE e0 e1 e2 e3 e4 e5
      go_wp2_with (at_builtin; refine wpList_append_own_spare _ rfl (.tmp 17) (.tmp 20) 45 rfl (w.heap.size + 2) 68 ii 6 Tryz.underlying45 hii zi1 g k n (iv (js.map InoJ.r)) rfl hrow ⟨w10.heap.size, 0, none⟩ 1 1 (InoR.six ⟨r.D, b1, d1, b2, d2, b3, d3⟩) rfl rfl (six_news w10 ⟨r.D, b1, d1, b2, d2, b3, d3⟩ _) (six_one _) (by omega) ?_; intro w12 ho12 hg12)
      have ct12 := ct8.app hjk bC r ⟨r.D, b1, d1, b2, d2, b3, d3⟩ rfl gC _ hg12 ho12
      clear ct10 hrow ct8
      go_roundw
      case rel => exact ⟨k + 1, js ++ [⟨⟨r.D, b1, d1, b2, d2, b3, d3⟩, W8.heap.size, w10.heap.size⟩], by omega, by go_num, rfl, by simp [hjk], by rw [hds.out]; exact ct12⟩
      case measure => simp [intOf]; omega
    · have hki : ¬ (k : Int) < (n : Int) := by omega
      obtain rfl : k = n := by omega
      have hke : rs.take k = rs := List.take_of_length_le (by rw [hn'.out]; omega)
      rw [hke] at ct
      clear hke
      have t1 := ct.tb.cell 1
      have r0 := ct.res.cell 0
      have r1 := ct.res.cell 1
      have f0 := ct.res.frozen 0
      have f1 := ct.res.frozen 1
      simp at t1 r0 r1
      have HG : Hid _ := ct
      clear ct
      go_wp2
      have zf := (HG.out.res.set 0 (.slice (some ⟨g, 0, none⟩) k k)).set 1 (.int .i64 nx)
      have dd0 := zf.cell 0
      have dd1 := zf.cell 1
      simp at dd0 dd1
      refine bodyPost_ret (v := .agg #[.slice (some ⟨g, 0, none⟩) k k, .int .i64 nx]) (by simp [results, Tryz.f109, go_sem, dd0, dd1]) rfl ?_
      refine ⟨g, js, rfl, hjk, ((HG.out.q.setX (X := w.heap.size + 1) (by omega) 0 (.slice (some ⟨g, 0, none⟩) k k)).setX (X := w.heap.size + 1) (by omega) 1 (.int .i64 nx)).lower (by omega), ?_⟩
      exact (HG.out.below.setCell (p := ⟨w.heap.size + 1, 0, none⟩) (by simp only; omega) _).setCell (p := ⟨w.heap.size + 1, 1, none⟩) (by simp only; omega) _
end
end Go.Proofs.YtbjfihabkpianaaGreatDoor
