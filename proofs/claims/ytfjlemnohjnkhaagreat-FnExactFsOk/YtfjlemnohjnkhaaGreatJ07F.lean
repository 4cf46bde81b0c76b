/-
  Joined: ToTab, MarkGI, Fresh.
-/
import Derived.Test.YtfjlemnohjnkhaaGreatJ06F
import Derived.Deep.AppendSrc
namespace Go.Proofs.YtfjlemnohjnkhaaGreat
section
open Go.RowKit
theorem Tryz.infoInode : (Tryz.prog.info? 85).map (fun i => (i.zero, i.size, i.bytes)) = some (some (.agg #[.int .i64 0, .int .i64 0, .int .i64 0, .slice none 0 0, .slice none 0 0, .slice none 0 0]), 6, 96) := by kernel_rfl
/-- What a copy of a row of inodes is: the same data, in rows of the call's own behind B. -/
def Cpd (w : World) (B : Nat) (rs ts : List InoR) : Prop := ts.map InoR.D = rs.map InoR.D ∧ ∀ r ∈ ts, r.own w B
theorem gr_more {w w1 : World} {g : Nat} (h : w.grownBy w1 (some g)) (j : Nat) (v : Value) : w.grownBy (w1.setCell ⟨g, j, none⟩ v) (some g) :=
  ⟨h.os, h.tape, h.output, by rw [size_setC]; exact h.size, fun m hm hk => (heap_setCell_other w1 ⟨g, j, none⟩ m v (fun e => hk (by simp [e]))).trans (h.block m hm hk)⟩
theorem six_gr (w : World) (g k : Nat) (v0 v1 v2 v3 v4 v5 : Value) : w.grownBy ((((((w.setCell ⟨g, k, none⟩ v0).setCell ⟨g, k + 1, none⟩ v1).setCell ⟨g, k + 2, none⟩ v2).setCell ⟨g, k + 3, none⟩ v3).setCell ⟨g, k + 4, none⟩ v4).setCell ⟨g, k + 5, none⟩ v5) (some g) :=
  gr_more (gr_more (gr_more (gr_more (gr_more (gr_setC w g k v0) (k + 1) v1) (k + 2) v2) (k + 3) v3) (k + 4) v4) (k + 5) v5
theorem set_mid {α : Type} (l : List α) (x z : α) (m : Nat) (h : 0 < m) : (l ++ List.replicate m z).set l.length x = (l ++ [x]) ++ List.replicate (m - 1) z := by
  obtain ⟨m, rfl⟩ : ∃ q, m = q + 1 := ⟨m - 1, by omega⟩
  rw [List.set_append_right _ _ (Nat.le_refl _), Nat.sub_self, List.replicate_succ, List.set_cons_zero]
  simp
set_option maxHeartbeats 3200000 in
theorem toInodeS_any (a : Option Addr) (n cap : Nat) (rs : List InoR) (w : World) (hn : rs.length = n) (hs : n ≤ 1048576) (hsm : ∀ r ∈ rs, InoSmall r.D) (hr : RdI w a rs) :
    Calls Tryz.prog 101 #[.slice a n cap] w fun e w' => ∃ ts, e = .returned (.slice (some ⟨w.heap.size, 0, none⟩) n n) ∧ Cpd w' (w.heap.size + 1) rs ts ∧ OwnI w' w.heap.size n n ts ∧ Below w.heap.size w w' := by
  obtain ⟨i0, hi, hz0, hz1, hz2⟩ := info_parts Tryz.infoInode
  have hm : n ≤ maxLen := by unfold maxLen; omega
  have hby : i0.bytes * n ≤ 281474976710656 := by rw [hz2]; omega
  by_cases h0 : n = 0
  · subst h0
    obtain rfl : rs = [] := List.length_eq_zero_iff.1 hn
    go_enter Tryz.func101, Tryz.ntmps101
    go_wp2_with (at_make; refine wpList_make_full _ rfl (.tmp 6) (.tmp 6) 45 rfl 0 85 i0 (.agg #[.int .i64 0, .int .i64 0, .int .i64 0, .slice none 0 0, .slice none 0 0, .slice none 0 0]) 6 Tryz.underlying45 hi hz0 hz1 .i64 .i64 _ _ 0 rfl rfl rfl rfl hby hm (Nat.zero_le _) ?_; intro w1 hown hgrow)
    refine wp_loop_rounds 1 ?_; rw [rounds_succ]
    go_wp2
    go_ret
    exact ⟨[], rfl, ⟨rfl, fun r hr => by simp at hr⟩, made_ownI hown, (Below.refl _ _).grown hgrow (Nat.le_refl _) (by simp)⟩
  · obtain ⟨b, off, rfl, hlt, hc⟩ := hr.lt (by intro h; subst h; simp at hn; omega)
    have hn' : Hid (rs.length = n) := hn
    have HC : Hid _ := hc
    have HS : Hid _ := hsm
    clear hr hn hc hsm
    go_enter Tryz.func101, Tryz.ntmps101
    go_wp2_with (at_make; refine wpList_make_full _ rfl (.tmp 6) (.tmp 6) 45 rfl 0 85 i0 (.agg #[.int .i64 0, .int .i64 0, .int .i64 0, .slice none 0 0, .slice none 0 0, .slice none 0 0]) 6 Tryz.underlying45 hi hz0 hz1 .i64 .i64 _ _ n rfl rfl rfl rfl hby hm (Nat.zero_le _) ?_; intro w1 hown hgrow)
    have ho := made_ownI hown
    have hB : Below w.heap.size w w1 := (Below.refl _ _).grown hgrow (Nat.le_refl _) (by simp)
    clear hown hgrow
    go_loopw [4] (fun i wr => ∃ (k : Nat) (ts : List InoR), k ≤ n ∧ i = .int .i64 k ∧ ts.length = k ∧ Hid (Cpd wr (w.heap.size + 1) (rs.take k) ts) ∧ OwnI wr w.heap.size n n (ts ++ List.replicate (n - k) inoZ) ∧ Below w.heap.size w wr) (fun i _ => n - (intOf i).toNat)
    case atStart => exact ⟨0, [], Nat.zero_le _, rfl, rfl, ⟨rfl, fun r hr => by simp at hr⟩, ho, hB⟩
    case round =>
      obtain ⟨k, ts, hk, rfl, htk, hcp, hown, hbel⟩ := hrel
      clear ho hB
      by_cases hkn : k < n
      · have hkl : k < rs.length := by rw [hn'.out]; exact hkn
        have hki : (k : Int) < (n : Int) := by omega
        obtain ⟨r, hrk⟩ : ∃ r, rs[k]? = some r := ⟨_, List.getElem?_eq_getElem hkl⟩
        obtain ⟨x6, xr⟩ := HC.out k r hrk
        have hsr := HS.out r (List.mem_of_getElem? hrk)
        have hcall := toInode_any r.D r.a1 r.a2 r.a3 r.c1 r.c2 r.c3 wr hsr.data hsr.ents hsr.attrs (xr.keep hbel)
        have hmid := set_mid ts
        obtain ⟨x0, x1, x2, x3, x4, x5⟩ := x6.keep hbel hlt
        have hrD : Hid ((rs.take (k + 1)).map InoR.D = (rs.take k).map InoR.D ++ [r.D]) := by
          show _ = _
          rw [List.take_add_one, hrk]
          simp
        obtain ⟨D, hDr⟩ : ∃ D, r.D = D := ⟨_, rfl⟩
        rw [hDr] at x0 x1 x2 x3 x4 x5 hcall hrD
        obtain ⟨n1, hn1⟩ : ∃ n, D.data.length = n := ⟨_, rfl⟩
        obtain ⟨n2, hn2⟩ : ∃ n, D.ents.length = n := ⟨_, rfl⟩
        obtain ⟨n3, hn3⟩ : ∃ n, D.attrs.length = n := ⟨_, rfl⟩
        unfold inoV at hcall
        rw [hn1] at x3 hcall
        rw [hn2] at x4 hcall
        rw [hn3] at x5 hcall
        have HN : Hid (D.data.length = n1 ∧ D.ents.length = n2 ∧ D.attrs.length = n3) := ⟨hn1, hn2, hn3⟩
        have hwz := hbel.size
        clear x6 xr hsr hn1 hn2 hn3 hrk hkl hDr
        go_wp2_with fail
        refine hcall.mono ?_
        rintro e w1 ⟨g1, g2, g3, rfl, hg1, hg2, hg3, hio, hb1⟩
        have ho1 := hown.keep hb1
        have hlc := ho1.lt
        have hq : OwnI w1 w.heap.size n n (ts ++ List.replicate (n - k) inoZ) := ho1
        have hzk : (ts ++ List.replicate (n - k) inoZ)[k]? = some inoZ := by
          rw [List.getElem?_append_right (by omega), htk, Nat.sub_self, List.getElem?_replicate, if_pos (by omega)]
        obtain ⟨q0, q1, q2, q3, q4, q5⟩ := ho1.six k inoZ hzk
        have f0 := ho1.frozen (k * 6)
        have f1 := ho1.frozen (k * 6 + 1)
        have f2 := ho1.frozen (k * 6 + 2)
        have f3 := ho1.frozen (k * 6 + 3)
        have f4 := ho1.frozen (k * 6 + 4)
        have f5 := ho1.frozen (k * 6 + 5)
        have hst := ownI_stored ho1 k hkn ⟨D, some ⟨g1, 0, none⟩, n1, some ⟨g2, 0, none⟩, n2, some ⟨g3, 0, none⟩, n3⟩
        rw [show (ts ++ List.replicate (n - k) inoZ).set k ⟨D, some ⟨g1, 0, none⟩, n1, some ⟨g2, 0, none⟩, n2, some ⟨g3, 0, none⟩, n3⟩ = (ts ++ [⟨D, some ⟨g1, 0, none⟩, n1, some ⟨g2, 0, none⟩, n2, some ⟨g3, 0, none⟩, n3⟩]) ++ List.replicate (n - (k + 1)) inoZ by rw [← htk, set_mid ts _ _ _ (by omega), htk, show n - k - 1 = n - (k + 1) by omega]] at hst
        dsimp only at hst
        rw [HN.out.1, HN.out.2.1, HN.out.2.2] at hst
        have hbel1 : Below w.heap.size w w1 := hbel.trans (hb1.mono hwz)
        have hgr := six_gr w1 w.heap.size (k * 6) (.int .i64 D.ino) (.int .i64 D.kind) (.int .i64 D.links) (.slice (some ⟨g1, 0, none⟩) n1 n1) (.slice (some ⟨g2, 0, none⟩) n2 n2) (.slice (some ⟨g3, 0, none⟩) n3 n3)
        have hbel' := hbel1.grown hgr hbel1.size (by intro g hg; simp at hg; omega)
        have hg0 : w.heap.size + 1 ≤ g1 := by have := hown.lt; omega
        have hcp' : Hid (Cpd ((((((w1.setCell ⟨w.heap.size, k * 6, none⟩ (.int .i64 D.ino)).setCell ⟨w.heap.size, k * 6 + 1, none⟩ (.int .i64 D.kind)).setCell ⟨w.heap.size, k * 6 + 2, none⟩ (.int .i64 D.links)).setCell ⟨w.heap.size, k * 6 + 3, none⟩ (.slice (some ⟨g1, 0, none⟩) n1 n1)).setCell ⟨w.heap.size, k * 6 + 4, none⟩ (.slice (some ⟨g2, 0, none⟩) n2 n2)).setCell ⟨w.heap.size, k * 6 + 5, none⟩ (.slice (some ⟨g3, 0, none⟩) n3 n3)) (w.heap.size + 1) (rs.take (k + 1)) (ts ++ [⟨D, some ⟨g1, 0, none⟩, n1, some ⟨g2, 0, none⟩, n2, some ⟨g3, 0, none⟩, n3⟩])) := by
          refine ⟨by rw [hrD.out, List.map_append, hcp.out.1]; rfl, fun q hq => ?_⟩
          simp only [List.mem_append, List.mem_singleton] at hq
          rcases hq with hq | rfl
          · exact ((hcp.out.2 q hq).keep hb1).kept hgr (by omega)
          · refine InoR.own.kept (w := w1) ⟨g1, g2, g3, rfl, rfl, rfl, hg0, by omega, by omega, ?_⟩ hgr (by omega)
            exact hio
        have hl' : (ts ++ [⟨D, some ⟨g1, 0, none⟩, n1, some ⟨g2, 0, none⟩, n2, some ⟨g3, 0, none⟩, n3⟩] : List InoR).length = k + 1 := by simp [htk]
        clear hown hbel hcp ho1 hb1 hbel1 hgr hio hcall hq hzk
        unfold inoZ at q0 q1 q2 q3 q4 q5
        dsimp only at q0 q1 q2 q3 q4 q5
        go_wp2
        go_roundw
        case rel => exact ⟨k + 1, _, by omega, by go_num, hl', hcp', hst, hbel'⟩
        case measure => simp [intOf]; omega
      · go_wp2
        go_ret
        obtain rfl : k = n := by omega
        have := hcp.out
        rw [List.take_of_length_le (by rw [hn'.out]; omega)] at this
        rw [Nat.sub_self, List.replicate_zero, List.append_nil] at hown
        exact ⟨ts, rfl, this, hown, hbel⟩
set_option maxHeartbeats 1600000 in
theorem toTab_any (a : Option Addr) (n cap : Nat) (nx : Int) (rs : List InoR) (w : World) (hn : rs.length = n) (hs : n ≤ 1048576) (hsm : ∀ r ∈ rs, InoSmall r.D) (hr : RdI w a rs) :
    Calls Tryz.prog 78 #[.agg #[.slice a n cap, .int .i64 nx]] w fun e w' => ∃ g ts, e = .returned (.agg #[.slice (some ⟨g, 0, none⟩) n n, .int .i64 nx]) ∧ w.heap.size ≤ g ∧ Cpd w' (g + 1) rs ts ∧ OwnI w' g n n ts ∧ Below w.heap.size w w' := by
  have B0 : Below w.heap.size w (((w.alloc (.cells #[.slice a n cap, .int .i64 nx] 77)).alloc (.cells #[.slice none 0 0, .int .i64 0] 47)).alloc (.cells #[.slice none 0 0, .int .i64 0] 47)) := (((Below.refl _ w).alloc (Nat.le_refl _) _).alloc (by simp) _).alloc (by simp; omega) _
  have z0 : Blk (((w.alloc (.cells #[.slice a n cap, .int .i64 nx] 77)).alloc (.cells #[.slice none 0 0, .int .i64 0] 47)).alloc (.cells #[.slice none 0 0, .int .i64 0] 47)) w.heap.size 77 #[.slice a n cap, .int .i64 nx] := ((Blk.new w 77 _).alloc _).alloc _
  have z1 := (Blk.new (w.alloc (.cells #[.slice a n cap, .int .i64 nx] 77)) 47 #[.slice none 0 0, .int .i64 0]).alloc (.cells #[.slice none 0 0, .int .i64 0] 47)
  have z2 := Blk.new ((w.alloc (.cells #[.slice a n cap, .int .i64 nx] 77)).alloc (.cells #[.slice none 0 0, .int .i64 0] 47)) 47 #[.slice none 0 0, .int .i64 0]
  have hs0 : (((w.alloc (.cells #[.slice a n cap, .int .i64 nx] 77)).alloc (.cells #[.slice none 0 0, .int .i64 0] 47)).alloc (.cells #[.slice none 0 0, .int .i64 0] 47)).heap.size = w.heap.size + 1 + 1 + 1 := by simp
  simp only [World.size_alloc] at z1 z2
  have hcall := toInodeS_any a n cap rs _ hn hs hsm (hr.keep B0)
  clear hsm hr hn
  go_enter Tryz.func78, Tryz.ntmps78
  go_wp2_with fail
  refine hcall.mono ?_
  rintro e w1 ⟨ts, rfl, hcp, ho, hb1⟩
  have B1 := B0.trans (hb1.mono B0.size)
  have y0 := z0.keep hb1
  have y1 := z1.keep hb1
  have y2 := z2.keep hb1
  rw [hs0] at hcp ho ⊢
  clear z0 z1 z2 hcall hb1 B0
  obtain ⟨H, hH⟩ : ∃ H, w.heap.size = H := ⟨_, rfl⟩
  rw [hH] at y0 y1 y2 hcp ho B1 ⊢
  have x0 := y0.cell 1
  have x2 := y2.cell 0
  have x3 := y2.cell 1
  have f2 := y2.frozen 0
  have f3 := y2.frozen 1
  have u2 := (y2.set 0 (.slice (some ⟨H + 1 + 1 + 1, 0, none⟩) n n)).set 1 (.int .i64 nx)
  have u1 := (y1.other (B' := H + 1 + 1) (by omega) 0 (.slice (some ⟨H + 1 + 1 + 1, 0, none⟩) n n)).other (B' := H + 1 + 1) (by omega) 1 (.int .i64 nx)
  have c10 := u1.cell 0
  have c11 := u1.cell 1
  have f10 := u1.frozen 0
  have f11 := u1.frozen 1
  have d0 := ((u1.set 0 (.slice (some ⟨H + 1 + 1 + 1, 0, none⟩) n n)).set 1 (.int .i64 nx)).cell 0
  have d1 := ((u1.set 0 (.slice (some ⟨H + 1 + 1 + 1, 0, none⟩) n n)).set 1 (.int .i64 nx)).cell 1
  have c20 := u2.cell 0
  have c21 := u2.cell 1
  simp at x0 x2 x3 c10 c11 d0 d1 c20 c21
  have HF : Hid (Cpd w1 (H + 1 + 1 + 1 + 1) rs ts ∧ OwnI w1 (H + 1 + 1 + 1) n n ts ∧ Below H w w1) := ⟨hcp, ho, B1⟩
  clear hcp ho B1 y0 y1 y2 u1 u2
  go_wp2
  refine bodyPost_ret (v := .agg #[.slice (some ⟨H + 1 + 1 + 1, 0, none⟩) n n, .int .i64 nx]) (by simp [results, Tryz.f78, go_sem, d0, d1]) rfl ?_
  obtain ⟨hcp, ho, B1⟩ := HF.out
  have k1 := gr_setC w1 (H + 1 + 1) 0 (.slice (some ⟨H + 1 + 1 + 1, 0, none⟩) n n)
  have k2 := gr_setC (w1.setCell ⟨H + 1 + 1, 0, none⟩ (.slice (some ⟨H + 1 + 1 + 1, 0, none⟩) n n)) (H + 1 + 1) 1 (.int .i64 nx)
  have k3 := gr_setC ((w1.setCell ⟨H + 1 + 1, 0, none⟩ (.slice (some ⟨H + 1 + 1 + 1, 0, none⟩) n n)).setCell ⟨H + 1 + 1, 1, none⟩ (.int .i64 nx)) (H + 1) 0 (.slice (some ⟨H + 1 + 1 + 1, 0, none⟩) n n)
  have k4 := gr_setC (((w1.setCell ⟨H + 1 + 1, 0, none⟩ (.slice (some ⟨H + 1 + 1 + 1, 0, none⟩) n n)).setCell ⟨H + 1 + 1, 1, none⟩ (.int .i64 nx)).setCell ⟨H + 1, 0, none⟩ (.slice (some ⟨H + 1 + 1 + 1, 0, none⟩) n n)) (H + 1) 1 (.int .i64 nx)
  refine ⟨H + 1 + 1 + 1, ts, rfl, by omega, ⟨hcp.1, fun r hr => ((((hcp.2 r hr).kept k1 (by omega)).kept k2 (by omega)).kept k3 (by omega)).kept k4 (by omega)⟩, (((ho.kept k1 (by omega)).kept k2 (by omega)).kept k3 (by omega)).kept k4 (by omega), ?_⟩
  rw [hH]
  exact (((B1.setCell (p := ⟨H + 1 + 1, 0, none⟩) (by simp only; omega) _).setCell (p := ⟨H + 1 + 1, 1, none⟩) (by simp only; omega) _).setCell (p := ⟨H + 1, 0, none⟩) (by simp only; omega) _).setCell (p := ⟨H + 1, 1, none⟩) (by simp only; omega) _
end

section
open Go.RowKit
/-- The lists of an inode: each nil or of the call's own, in blocks from B up to T. -/
structure InoG (w : World) (B T : Nat) (D : InoD) (v1 v2 v3 : Value) : Prop where
  data : OwnV 0 w v1 D.data.length D.data
  byt : Byt D.data
  ents : OwnQ 88 w v2 D.ents.length (eP D.ents)
  attrs : OwnQ 90 w v3 D.attrs.length (aP D.attrs)
  within : ∀ g, (v1.ownBlock = some g ∨ v2.ownBlock = some g ∨ v3.ownBlock = some g) → B ≤ g ∧ g < T
/-- All blocks outside the interval are as they were. -/
structure Out (B T : Nat) (w w' : World) : Prop where
  os : w'.os = w.os
  tape : w'.tape = w.tape
  output : w'.output = w.output
  size : w.heap.size ≤ w'.heap.size
  block : ∀ k, k < w.heap.size → (k < B ∨ T ≤ k) → w'.heap[k]? = w.heap[k]?
theorem Out.refl (B T : Nat) (w : World) : Out B T w w := ⟨rfl, rfl, rfl, Nat.le_refl _, fun _ _ _ => rfl⟩
theorem Out.trans {B T : Nat} {a b c : World} (h : Out B T a b) (k : Out B T b c) : Out B T a c :=
  ⟨k.os.trans h.os, k.tape.trans h.tape, k.output.trans h.output, Nat.le_trans h.size k.size, fun i hi ho => (k.block i (Nat.lt_of_lt_of_le hi h.size) ho).trans (h.block i hi ho)⟩
theorem Out.wider {B T B' T' : Nat} {a b : World} (h : Out B T a b) (h1 : B' ≤ B) (h2 : T ≤ T') : Out B' T' a b :=
  ⟨h.os, h.tape, h.output, h.size, fun i hi ho => h.block i hi (by omega)⟩
theorem Below.out {a b : World} (h : Below a.heap.size a b) (B T : Nat) : Out B T a b := ⟨h.os, h.tape, h.output, h.size, fun k hk _ => h.block k hk⟩
theorem q_block {e : TypeId} {w w' : World} {v : Value} {n : Nat} {ps : List VP} (h : OwnQ e w v n ps) (hb : ∀ g, v.ownBlock = some g → w'.heap[g]? = w.heap[g]?) : OwnQ e w' v n ps := by
  refine ⟨h.1, ?_⟩
  rcases h.2 with h' | ⟨g', cap, cur, rfl, hb', hgg, rest⟩
  · exact .inl h'
  · exact .inr ⟨g', cap, cur, rfl, hb', (hb g' rfl).trans hgg, rest⟩
theorem ownV_same {B : Nat} {w w' : World} {v : Value} {n : Nat} {zs : List Int} (h : OwnV B w v n zs) (hb : ∀ g, v.ownBlock = some g → w'.heap[g]? = w.heap[g]?) : OwnV B w' v n zs := by
  refine ⟨h.1, ?_⟩
  rcases h.2 with h' | ⟨g', cap, cur, rfl, hb', hgg, rest⟩
  · exact .inl h'
  · exact .inr ⟨g', cap, cur, rfl, hb', (hb g' rfl).trans hgg, rest⟩
theorem InoG.kept {w w' : World} {B T : Nat} {D : InoD} {v1 v2 v3 : Value} (h : InoG w B T D v1 v2 v3) (k : ∀ b, B ≤ b → b < T → w'.heap[b]? = w.heap[b]?) : InoG w' B T D v1 v2 v3 :=
  ⟨ownV_same h.data fun g hg => k g (h.within g (.inl hg)).1 (h.within g (.inl hg)).2, h.byt, q_block h.ents fun g hg => k g (h.within g (.inr (.inl hg))).1 (h.within g (.inr (.inl hg))).2, q_block h.attrs fun g hg => k g (h.within g (.inr (.inr hg))).1 (h.within g (.inr (.inr hg))).2, h.within⟩
theorem InoG.keep {w w' : World} {B T : Nat} {D : InoD} {v1 v2 v3 : Value} (h : InoG w B T D v1 v2 v3) (hT : T ≤ w.heap.size) (hb : Below w.heap.size w w') : InoG w' B T D v1 v2 v3 := h.kept fun b _ hb' => hb.block b (by omega)
theorem InoG.wider {w : World} {B T B' T' : Nat} {D : InoD} {v1 v2 v3 : Value} (h : InoG w B T D v1 v2 v3) (h1 : B' ≤ B) (h2 : T ≤ T') : InoG w B' T' D v1 v2 v3 := ⟨h.data, h.byt, h.ents, h.attrs, fun g hg => by have := h.within g hg; omega⟩
theorem InoG.form {w : World} {B T : Nat} {D : InoD} {v1 v2 v3 : Value} (h : InoG w B T D v1 v2 v3) : ∃ a1 c1 a2 c2 a3 c3, v1 = .slice a1 D.data.length c1 ∧ v2 = .slice a2 D.ents.length c2 ∧ v3 = .slice a3 D.attrs.length c3 ∧ InoRd w D a1 a2 a3 := by
  obtain ⟨a1, c1, e1, r1⟩ := (OwnV.rowB h.data).form
  have f : ∀ {e : TypeId} {v : Value} {n : Nat} {ps : List VP}, OwnQ e w v n ps → ∃ a c, v = .slice a n c ∧ RdP w a ps := fun {e v n ps} h => by
    rcases h.cases with ⟨rfl, rfl, rfl⟩ | ⟨g, c, rfl, ho⟩
    · exact ⟨none, 0, rfl, .inl rfl⟩
    · exact ⟨_, c, rfl, ho.rd⟩
  obtain ⟨a2, c2, e2, r2⟩ := f h.ents
  obtain ⟨a3, c3, e3, r3⟩ := f h.attrs
  exact ⟨a1, c1, a2, c2, a3, c3, e1, e2, e3, ⟨r1, h.byt, r2, r3⟩⟩
end

section
open Go.RowKit
/-- What is appended to a fresh empty list is a list of its own. -/
theorem run_fresh (W : World) (B : Nat) (t ty e : TypeId) (i : TypeInfo) (z : Value) (size bytes : Nat) (ht : Tryz.prog.underlying t = some (.slice e)) (hi : Tryz.prog.info? e = some i) (hz : i.zero = some z) (hsize : i.size = size) (hby : i.bytes = bytes) (hzs : z.cells.size = size) (hsz : 0 < size)
    (g : Nat) (hB : B ≤ g) (hown : W.ownsRow B e size (.slice (some ⟨g, 0, none⟩) 0 0) 0 []) (a : Option Addr) (m c : Nat) (news : List Value) (hl : news.length = m * size) (hnews : news = [] ∨ ∃ ad, a = some ad ∧ ∀ j u, news[j]? = some u → W.cell? (ad.add j) = some u) (ha : m = 0 → a = none ∨ ∃ ad, a = some ad)
    (h1 : ∀ u ∈ news, u.oneCell' = true) (h63 : m ≤ 8000000) (hb64 : bytes ≤ 64) :
    ∃ g' c' W', (Builtin.append_ #[t, t] ty #[.slice (some ⟨g, 0, none⟩) 0 0, .slice a m c]).run Tryz.prog W = .ok (.slice (some ⟨g', 0, none⟩) m c') W' ∧ W'.ownsRow B e size (.slice (some ⟨g', 0, none⟩) m c') m news ∧ B ≤ g' ∧ g' < W'.heap.size ∧ Below W.heap.size W W' := by
  have hglt : g < W.heap.size := (World.ownsRow.lt hown g rfl).2
  by_cases h0 : m = 0
  · subst h0
    obtain rfl : news = [] := List.length_eq_zero_iff.1 (by simpa using hl)
    have hsrc : Src Tryz.prog i.size t (.slice a 0 c) 0 [] W := by
      rcases ha rfl with rfl | ⟨ad, rfl⟩
      · exact Src.ofNil W ht c
      · exact Src.ofSlice W ht ad 0 c [] (by simp) (fun j u hj => by simp at hj) (fun u hu => by simp at hu)
    have hr := run_append_room_src W t t ty e i ht hi g 0 0 0 (.slice a 0 c) 0 [] hsrc (Nat.le_refl _) (fun j hj => by simp at hj) (fun j hj => by simp at hj)
    refine ⟨g, 0, W, ?_, hown, hB, hglt, Below.refl _ _⟩
    rw [hr]
    rfl
  · have hne : news ≠ [] := fun e => by rw [e] at hl; have := Nat.mul_pos (show 0 < m by omega) hsz; simp only [List.length_nil] at hl; omega
    rcases hnews with e | ⟨ad, rfl, hn⟩
    · exact absurd e hne
    · obtain ⟨v', w', hr, h2, _, _, _⟩ := run_append_own_at (P := Tryz.prog) W B t ty e i z size bytes ht hi hz hsize hby hzs hsz _ 0 [] hown ad m c news hl hn h1 (by unfold maxLen; omega) (by have : (0 + m) * bytes ≤ 8000000 * 64 := Nat.mul_le_mul (by omega) hb64; omega) (by omega)
      have hsrc : Src Tryz.prog i.size t (.slice (some ad) m c) m news W := Src.ofSlice W ht ad m c news (by rw [hsize]; exact hl) hn h1
      have hcap : Builtin.nextslicecap (0 + m) 0 = m := by
        unfold Builtin.nextslicecap
        simp
        omega
      have hr2 := run_append_grow_src W t t ty e i z ht hi hz (some ⟨g, 0, none⟩) 0 0 [] (run_firstCells_some W.drew i.size 0 ⟨g, 0, none⟩ 0 0 [] (by simp) (fun j u hj => by simp at hj)) (.slice (some ad) m c) m news hsrc (by omega) (by omega) (by rw [hcap, hby]; have : m * bytes ≤ 8000000 * 64 := Nat.mul_le_mul h63 hb64; omega)
      rw [hr2] at hr
      simp only [Result.ok.injEq] at hr
      obtain ⟨rfl, rfl⟩ := hr
      rw [Nat.zero_add, List.nil_append] at h2
      refine ⟨W.heap.size, _, _, by rw [hr2]; simp only [Nat.zero_add, List.nil_append], h2, by omega, (World.ownsRow.lt h2 _ rfl).2, (Below.refl _ W).drew.alloc (Nat.le_refl _) _⟩
/-- The append at the operation. -/
theorem wpList_fresh (W : World) {ops : Array Oper} {rest : List Oper} {o : Oper} {a : Act} {Q : Exit → Act → World → Prop} (hgd : o.guard = none) (s x : Operand) (t : TypeId)
    (ho : o.op = .call { callee := .builtin .append, args := #[s, x], argTypes := #[t, t] }) (B : Nat) (g : Nat) (ad : Option Addr) (m c : Nat) (e : TypeId) (size : Nat) (news : List Value)
    (hs : a.eval s = .slice (some ⟨g, 0, none⟩) 0 0) (hx : a.eval x = .slice ad m c)
    (hr : ∀ ty, ∃ g' c' W', (Builtin.append_ #[t, t] ty #[.slice (some ⟨g, 0, none⟩) 0 0, .slice ad m c]).run Tryz.prog W = .ok (.slice (some ⟨g', 0, none⟩) m c') W' ∧ W'.ownsRow B e size (.slice (some ⟨g', 0, none⟩) m c') m news ∧ B ≤ g' ∧ g' < W'.heap.size ∧ Below W.heap.size W W')
    (h : ∀ g' c' W', W'.ownsRow B e size (.slice (some ⟨g', 0, none⟩) m c') m news → B ≤ g' → g' < W'.heap.size → Below W.heap.size W W' → wpList Tryz.prog ops Q rest (a.put o.dst (.slice (some ⟨g', 0, none⟩) m c')) W') :
    wpList Tryz.prog ops Q (o :: rest) a W := by
  refine wpList_plain hgd fun K hK => ?_
  obtain ⟨g', c', W', h1, h2, h3, h4, h5⟩ := hr o.type
  unfold Oper.wp execOp
  simp only [ho, resolve, invoke, builtin, Sem.run_bind, Sem.run_pure, Result.andThen_ok, List.map_toArray, List.map_cons, List.map_nil, hs, hx, h1]
  exact hK _ _ (h g' c' W' h2 h3 h4 h5)
/-- The three kinds of lists. -/
theorem fresh_bytes (W : World) (B g : Nat) (a : Option Addr) (n c : Nat) (zs : List Int) (hn : zs.length = n) (hs : n ≤ 8000000) (hB : B ≤ g) (hown : W.ownsRow B 5 1 (.slice (some ⟨g, 0, none⟩) 0 0) 0 []) (hr : Rd W a zs) (ty : TypeId) :
    ∃ g' c' W', (Builtin.append_ #[33, 33] ty #[.slice (some ⟨g, 0, none⟩) 0 0, .slice a n c]).run Tryz.prog W = .ok (.slice (some ⟨g', 0, none⟩) n c') W' ∧ W'.ownsRow B 5 1 (.slice (some ⟨g', 0, none⟩) n c') n (zs.map (Value.int .u8)) ∧ B ≤ g' ∧ g' < W'.heap.size ∧ Below W.heap.size W W' := by
  obtain ⟨i0, hi, hz0, hz1, hz2⟩ := info_parts Tryz.info5
  refine run_fresh W B 33 ty 5 i0 (.int .u8 0) 1 1 Tryz.underlying33 hi hz0 hz1 hz2 rfl (by omega) g hB hown a n c (zs.map (Value.int .u8)) (by simp [hn]) ?_ (fun _ => by cases a with | none => exact .inl rfl | some ad => exact .inr ⟨ad, rfl⟩) (fun u hu => by obtain ⟨z, _, rfl⟩ := List.mem_map.1 hu; rfl) hs (by omega)
  rcases hr with rfl | ⟨b, off, rfl, hc⟩
  · exact .inl rfl
  · refine .inr ⟨_, rfl, fun j u hj => ?_⟩
    simp only [List.getElem?_map] at hj
    by_cases hjm : j < zs.length
    · have := hc j hjm
      rw [show (⟨b, off, none⟩ : Addr).add j = ⟨b, off + j, none⟩ by simp [Addr.add], this]
      rw [List.getElem?_eq_getElem hjm] at hj
      simpa [List.getElem?_eq_getElem hjm] using hj
    · rw [List.getElem?_eq_none (by omega)] at hj
      simp at hj
theorem fresh_pairs (W : World) (B g : Nat) (t e : TypeId) (i : TypeInfo) (z : Value) (bytes : Nat) (ht : Tryz.prog.underlying t = some (.slice e)) (hi : Tryz.prog.info? e = some i) (hz : i.zero = some z) (hsize : i.size = 2) (hby : i.bytes = bytes) (hzs : z.cells.size = 2) (hb64 : bytes ≤ 64) (a : Option Addr) (n c : Nat) (ps : List VP) (hn : ps.length = n) (hs : n ≤ 8000000) (hone : ∀ p ∈ ps, p.1.oneCell' = true ∧ p.2.oneCell' = true) (hB : B ≤ g) (hown : W.ownsRow B e 2 (.slice (some ⟨g, 0, none⟩) 0 0) 0 []) (hr : RdP W a ps) (ty : TypeId) :
    ∃ g' c' W', (Builtin.append_ #[t, t] ty #[.slice (some ⟨g, 0, none⟩) 0 0, .slice a n c]).run Tryz.prog W = .ok (.slice (some ⟨g', 0, none⟩) n c') W' ∧ W'.ownsRow B e 2 (.slice (some ⟨g', 0, none⟩) n c') n (pv ps) ∧ B ≤ g' ∧ g' < W'.heap.size ∧ Below W.heap.size W W' := by
  refine run_fresh W B t ty e i z 2 bytes ht hi hz hsize hby hzs (by omega) g hB hown a n c (pv ps) (by rw [pv_length, hn]) ?_ (fun _ => by cases a with | none => exact .inl rfl | some ad => exact .inr ⟨ad, rfl⟩) ?_ hs hb64
  · rcases hr with rfl | ⟨b, off, rfl, hc⟩
    · exact .inl rfl
    · refine .inr ⟨_, rfl, fun j u hj => ?_⟩
      have hjl : j < (pv ps).length := (List.getElem?_eq_some_iff.1 hj).1
      rw [pv_length] at hjl
      obtain ⟨p1, p2⟩ := pv_at ps (j / 2) (by omega)
      obtain ⟨q1, q2⟩ := hc (j / 2) (by omega)
      rw [show (⟨b, off, none⟩ : Addr).add j = ⟨b, off + j, none⟩ by simp [Addr.add]]
      rcases (show j = j / 2 * 2 ∨ j = j / 2 * 2 + 1 by omega) with e | e
      · rw [e] at hj ⊢
        rw [p1] at hj
        rw [q1]
        exact hj
      · rw [e] at hj ⊢
        rw [p2] at hj
        rw [← Nat.add_assoc, q2]
        exact hj
  · intro u hu
    unfold pv at hu
    obtain ⟨p, hp, hu⟩ := List.mem_flatMap.1 hu
    simp at hu
    rcases hu with rfl | rfl
    · exact (hone p hp).1
    · exact (hone p hp).2
theorem eP_one (es : List (ByteArray × Int)) : ∀ p ∈ eP es, p.1.oneCell' = true ∧ p.2.oneCell' = true := by
  intro p hp
  obtain ⟨e, _, rfl⟩ := List.mem_map.1 hp
  exact ⟨rfl, rfl⟩
theorem aP_one (es : List (ByteArray × ByteArray)) : ∀ p ∈ aP es, p.1.oneCell' = true ∧ p.2.oneCell' = true := by
  intro p hp
  obtain ⟨e, _, rfl⟩ := List.mem_map.1 hp
  exact ⟨rfl, rfl⟩
theorem empty_row (W : World) (B : Nat) (e : TypeId) (s : Nat) (hB : B ≤ W.heap.size) : (W.alloc (.cells #[] e)).ownsRow B e s (.slice (some ⟨W.heap.size, 0, none⟩) 0 0) 0 [] :=
  ⟨by simp, .inr ⟨W.heap.size, 0, #[], rfl, hB, heap_alloc_new W _, Nat.le_refl _, Nat.zero_le _, by simp, by simp⟩⟩
end
end Go.Proofs.YtfjlemnohjnkhaaGreat
