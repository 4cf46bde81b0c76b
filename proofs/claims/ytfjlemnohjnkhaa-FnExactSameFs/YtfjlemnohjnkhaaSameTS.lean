/-
  Two tables compared by the specification.
-/
import Derived.Test.YtfjlemnohjnkhaaRows
import Derived.Test.YtfjlemnohjnkhaaBase
import Derived.Test.YtfjlemnohjnkhaaName
import Derived.Test.YtfjlemnohjnkhaaPairs
import Derived.Test.YtfjlemnohjnkhaaInode
import Derived.Test.YtfjlemnohjnkhaaSzIno
import Derived.Test.YtfjlemnohjnkhaaSix
import Derived.Test.YtfjlemnohjnkhaaTabM
import Derived.Test.YtfjlemnohjnkhaaSameI
import Derived.Test.YtfjlemnohjnkhaaSameS
import Derived.Test.YtfjlemnohjnkhaaSameT
import Derived.WalkKit
import Derived.WalkSpells
import Derived.WalkLawsBesides
import Derived.Deep.QuietTactic
import Derived.BigQuiet
import Derived.OpenShut
import Derived.Laws.BitsAllLaws
import Derived.Maps.AppendAt
import Derived.Lib.SliceRun
import Derived.Lib.Strings
import Derived.Deep.RegionWith
import Derived.Laws.IdiomStrings
import Derived.Deep.Slices
import Derived.ProofKit
import Derived.ChangeOld
import Derived.Below
import Derived.Laws.StructEq
import Derived.Laws.BytesString
import Derived.Deep.DeepCutAuto
import Derived.Deep.RegionHeld3
namespace Go.Proofs.Ytfjlemnohjnkhaa
open Go.RowKit
set_option maxHeartbeats 3200000 in
theorem sameTabS (a a' : Option Addr) (n m cap cap' : Nat) (nx ny : Int) (rs ts : List InoR) (w : World) (hn : rs.length = n) (hm : ts.length = m) (hs : n ≤ 4000000) (hs' : m ≤ 4000000) (h1 : ∀ r ∈ rs, InoSmall r.D) (h2 : ∀ r ∈ ts, InoSmall r.D) (hr : RdI w a rs) (hr' : RdI w a' ts) :
    Calls Try.prog 28 #[.agg #[.slice a n cap, .int .i64 nx], .agg #[.slice a' m cap', .int .i64 ny]] w fun e w' => e = .returned (.bool (sameTabOf nx ny rs ts)) ∧ Below w.heap.size w w' := by
  have B0 : Below w.heap.size w ((w.alloc (.cells #[.slice a n cap, .int .i64 nx] 43)).alloc (.cells #[.slice a' m cap', .int .i64 ny] 43)) := ((Below.refl _ w).alloc (Nat.le_refl _) _).alloc (by simp) _
  have HE : Hid (sameTabOf nx ny rs ts = ((nx == ny) && sameAll (rs.map InoR.D) (ts.map InoR.D))) := rfl
  generalize sameTabOf nx ny rs ts = R at HE ⊢
  have HB : Hid _ := B0
  cases hxy : nx == ny with
  | false =>
    have hxy' : (nx != ny) = true := by simp [bne, hxy]
    go_enter Try.func28, Try.ntmps28
    go_wp2
    go_ret
    exact ⟨ret_bool (by rw [HE.out, hxy]; rfl), HB.out⟩
  | true =>
    have hxy' : (nx != ny) = false := by simp [bne, hxy]
    by_cases hnm : n = m
    · subst hnm
      have z0 := (Blk.new w 43 #[.slice a n cap, .int .i64 nx]).alloc (.cells #[.slice a' n cap', .int .i64 ny] 43)
      have z1 := Blk.new (w.alloc (.cells #[.slice a n cap, .int .i64 nx] 43)) 43 #[.slice a' n cap', .int .i64 ny]
      simp only [World.size_alloc] at z1
      have hb : ((n : Int) == (n : Int)) = true := by simp
      have hb' : ((n : Int) != (n : Int)) = false := by simp
      have hr0 := hr.keep B0
      have hr0' := hr'.keep B0
      clear hr hr'
      have HS0 : Hid (sameAll (rs.map InoR.D) (ts.map InoR.D) = R) := by show _ = _; rw [HE.out, hxy]; rfl
      by_cases h0 : n = 0
      · subst h0
        obtain rfl : rs = [] := List.length_eq_zero_iff.1 hn
        obtain rfl : ts = [] := List.length_eq_zero_iff.1 hm
        clear h1 h2 z0 z1 B0
        go_enter Try.func28, Try.ntmps28
        go_wp2
        refine wp_loop_rounds 1 ?_; rw [rounds_succ]
        go_wp2
        go_ret
        exact ⟨ret_bool HS0.out, HB.out⟩
      · obtain ⟨b, off, rfl, hlt, hc⟩ := hr0.lt (by intro h; subst h; simp at hn; omega)
        obtain ⟨b', off', rfl, hlt', hc'⟩ := hr0'.lt (by intro h; subst h; simp at hm; omega)
        have hn' : Hid (rs.length = n) := hn
        have hm' : Hid (ts.length = n) := hm
        have H1 : Hid _ := h1
        have H2 : Hid _ := h2
        have HC0 : Hid _ := hc
        have HC0' : Hid _ := hc'
        clear hn hm h1 h2 hc hc' hr0 hr0'
        go_enter Try.func28, Try.ntmps28
        go_wp2
        obtain ⟨W0, hW0⟩ : ∃ W, (w.alloc (.cells #[.slice (some ⟨b, off, none⟩) n cap, .int .i64 nx] 43)).alloc (.cells #[.slice (some ⟨b', off', none⟩) n cap', .int .i64 ny] 43) = W := ⟨_, rfl⟩
        rw [hW0] at B0 z0 z1 HC0 HC0' hlt hlt' ⊢
        clear HB
        have hws := B0.size
        clear hW0
        go_loopw [5] (fun i wr => ∃ k : Nat, k ≤ n ∧ i = .int .i64 k ∧ Hid (sameAll ((rs.map InoR.D).drop k) ((ts.map InoR.D).drop k) = R) ∧ Below W0.heap.size W0 wr) (fun i _ => n - (intOf i).toNat)
        case atStart => exact ⟨0, Nat.zero_le _, rfl, HS0, Below.refl _ _⟩
        case round =>
          obtain ⟨k, hk, rfl, hsm, hB⟩ := hrel
          have t0 := (z0.keep hB).cell 0
          have t1 := (z1.keep hB).cell 0
          simp at t0 t1
          by_cases hkn : k < n
          · have hki : (k : Int) < (n : Int) := by omega
            obtain ⟨r, hrk⟩ : ∃ r, rs[k]? = some r := ⟨_, List.getElem?_eq_getElem (by rw [hn'.out]; exact hkn)⟩
            obtain ⟨t, htk⟩ : ∃ t, ts[k]? = some t := ⟨_, List.getElem?_eq_getElem (by rw [hm'.out]; exact hkn)⟩
            obtain ⟨x6, xr⟩ := HC0.out k r hrk
            obtain ⟨y6, yr⟩ := HC0'.out k t htk
            have hr1 := H1.out r (List.mem_of_getElem? hrk)
            have ht1 := H2.out t (List.mem_of_getElem? htk)
            have hcall := sameS r.D t.D r.a1 r.a2 r.a3 t.a1 t.a2 t.a3 r.c1 r.c2 r.c3 t.c1 t.c2 t.c3 wr.drew hr1 ht1 (xr.keep hB.drew) (yr.keep hB.drew)
            have hstep : Hid ((sameOf r.D t.D && sameAll ((rs.map InoR.D).drop (k + 1)) ((ts.map InoR.D).drop (k + 1))) = R) := by
              have := hsm.out
              rw [drop_at (l := rs.map InoR.D) (x := r.D) (by simp [hrk]), drop_at (l := ts.map InoR.D) (k := k) (x := t.D) (by simp [htk])] at this
              exact this
            obtain ⟨x0, x1, x2, x3, x4, x5⟩ := x6.keep hB hlt
            obtain ⟨y0, y1, y2, y3, y4, y5⟩ := y6.keep hB hlt'
            have hwz := hB.size
            have hX0 := fun (W : World) (hW : Below W0.heap.size W0 W) => x6.keep hW hlt
            have hY0 := fun (W : World) (hW : Below W0.heap.size W0 W) => y6.keep hW hlt'
            have HX : Hid (∀ W : World, Below W0.heap.size W0 W → W.cell? ⟨w.heap.size, 0, none⟩ = some (.slice (some ⟨b, off, none⟩) n cap) ∧ W.cell? ⟨w.heap.size + 1, 0, none⟩ = some (.slice (some ⟨b', off', none⟩) n cap') ∧ W.cell? ⟨b, off + k * 6, none⟩ = some (.int .i64 r.D.ino) ∧ W.cell? ⟨b, off + k * 6 + 1, none⟩ = some (.int .i64 r.D.kind) ∧ W.cell? ⟨b, off + k * 6 + 2, none⟩ = some (.int .i64 r.D.links) ∧ W.cell? ⟨b, off + k * 6 + 3, none⟩ = some (.slice r.a1 r.D.data.length r.c1) ∧ W.cell? ⟨b, off + k * 6 + 4, none⟩ = some (.slice r.a2 r.D.ents.length r.c2) ∧ W.cell? ⟨b, off + k * 6 + 5, none⟩ = some (.slice r.a3 r.D.attrs.length r.c3) ∧ W.cell? ⟨b', off' + k * 6, none⟩ = some (.int .i64 t.D.ino) ∧ W.cell? ⟨b', off' + k * 6 + 1, none⟩ = some (.int .i64 t.D.kind) ∧ W.cell? ⟨b', off' + k * 6 + 2, none⟩ = some (.int .i64 t.D.links) ∧ W.cell? ⟨b', off' + k * 6 + 3, none⟩ = some (.slice t.a1 t.D.data.length t.c1) ∧ W.cell? ⟨b', off' + k * 6 + 4, none⟩ = some (.slice t.a2 t.D.ents.length t.c2) ∧ W.cell? ⟨b', off' + k * 6 + 5, none⟩ = some (.slice t.a3 t.D.attrs.length t.c3)) := fun W hW => ⟨(z0.keep hW).cell 0, (z1.keep hW).cell 0, (hX0 W hW).c0, (hX0 W hW).c1, (hX0 W hW).c2, (hX0 W hW).c3, (hX0 W hW).c4, (hX0 W hW).c5, (hY0 W hW).c0, (hY0 W hW).c1, (hY0 W hW).c2, (hY0 W hW).c3, (hY0 W hW).c4, (hY0 W hW).c5⟩
            clear hX0 hY0
            unfold inoV at hcall
            generalize sameOf r.D t.D = sm at hcall hstep
            generalize r.D.data.length = n1 at x3 hcall HX
            generalize r.D.ents.length = n2 at x4 hcall HX
            generalize r.D.attrs.length = n3 at x5 hcall HX
            generalize t.D.data.length = m1 at y3 hcall HX
            generalize t.D.ents.length = m2 at y4 hcall HX
            generalize t.D.attrs.length = m3 at y5 hcall HX
            generalize r.D.ino = i1 at x0 hcall HX
            generalize r.D.kind = i2 at x1 hcall HX
            generalize r.D.links = i3 at x2 hcall HX
            generalize t.D.ino = j1 at y0 hcall HX
            generalize t.D.kind = j2 at y1 hcall HX
            generalize t.D.links = j3 at y2 hcall HX
            clear xr yr hrk htk hsm hr1 ht1 x6 y6
            cases sm with
            | true =>
              go_wp2
              go_region_held3 (fun W : World => W.cell? ⟨w.heap.size, 0, none⟩ = some (.slice (some ⟨b, off, none⟩) n cap) ∧ W.cell? ⟨w.heap.size + 1, 0, none⟩ = some (.slice (some ⟨b', off', none⟩) n cap') ∧ W.cell? ⟨b, off + k * 6, none⟩ = some (.int .i64 i1) ∧ W.cell? ⟨b, off + k * 6 + 1, none⟩ = some (.int .i64 i2) ∧ W.cell? ⟨b, off + k * 6 + 2, none⟩ = some (.int .i64 i3) ∧ W.cell? ⟨b, off + k * 6 + 3, none⟩ = some (.slice r.a1 n1 r.c1) ∧ W.cell? ⟨b, off + k * 6 + 4, none⟩ = some (.slice r.a2 n2 r.c2) ∧ W.cell? ⟨b, off + k * 6 + 5, none⟩ = some (.slice r.a3 n3 r.c3) ∧ W.cell? ⟨b', off' + k * 6, none⟩ = some (.int .i64 j1) ∧ W.cell? ⟨b', off' + k * 6 + 1, none⟩ = some (.int .i64 j2) ∧ W.cell? ⟨b', off' + k * 6 + 2, none⟩ = some (.int .i64 j3) ∧ W.cell? ⟨b', off' + k * 6 + 3, none⟩ = some (.slice t.a1 m1 t.c1) ∧ W.cell? ⟨b', off' + k * 6 + 4, none⟩ = some (.slice t.a2 m2 t.c2) ∧ W.cell? ⟨b', off' + k * 6 + 5, none⟩ = some (.slice t.a3 m3 t.c3)) (go_keep) ((go_at_call 37; (with_reducible refine hcall.mono ?_); rintro e w1 ⟨rfl, hb1⟩; obtain ⟨p0, p1, p2, p3, p4, p5, p6, p7, p8, p9, p10, p11, p12, p13⟩ := HX.out w1 (hB.drew.trans (hb1.mono hwz))))
              all_goals (have hB1 : Below W0.heap.size W0 w1 := hB.drew.trans (hb1.mono hwz); have hs1 : Hid (sameAll ((rs.map InoR.D).drop (k + 1)) ((ts.map InoR.D).drop (k + 1)) = R) := (by have := hstep.out; rw [Bool.true_and] at this; exact this); clear x0 x1 x2 x3 x4 x5 y0 y1 y2 y3 y4 y5)
              all_goals go_wp2
              all_goals go_roundw
              all_goals first
                | (case rel => exact ⟨k + 1, by omega, by go_num, hs1, hB1⟩)
                | (case measure => simp [intOf]; omega)
            | false =>
              go_wp2
              go_region_held3 (fun W : World => W.cell? ⟨w.heap.size, 0, none⟩ = some (.slice (some ⟨b, off, none⟩) n cap) ∧ W.cell? ⟨w.heap.size + 1, 0, none⟩ = some (.slice (some ⟨b', off', none⟩) n cap') ∧ W.cell? ⟨b, off + k * 6, none⟩ = some (.int .i64 i1) ∧ W.cell? ⟨b, off + k * 6 + 1, none⟩ = some (.int .i64 i2) ∧ W.cell? ⟨b, off + k * 6 + 2, none⟩ = some (.int .i64 i3) ∧ W.cell? ⟨b, off + k * 6 + 3, none⟩ = some (.slice r.a1 n1 r.c1) ∧ W.cell? ⟨b, off + k * 6 + 4, none⟩ = some (.slice r.a2 n2 r.c2) ∧ W.cell? ⟨b, off + k * 6 + 5, none⟩ = some (.slice r.a3 n3 r.c3) ∧ W.cell? ⟨b', off' + k * 6, none⟩ = some (.int .i64 j1) ∧ W.cell? ⟨b', off' + k * 6 + 1, none⟩ = some (.int .i64 j2) ∧ W.cell? ⟨b', off' + k * 6 + 2, none⟩ = some (.int .i64 j3) ∧ W.cell? ⟨b', off' + k * 6 + 3, none⟩ = some (.slice t.a1 m1 t.c1) ∧ W.cell? ⟨b', off' + k * 6 + 4, none⟩ = some (.slice t.a2 m2 t.c2) ∧ W.cell? ⟨b', off' + k * 6 + 5, none⟩ = some (.slice t.a3 m3 t.c3)) (go_keep) ((go_at_call 37; (with_reducible refine hcall.mono ?_); rintro e w1 ⟨rfl, hb1⟩; obtain ⟨p0, p1, p2, p3, p4, p5, p6, p7, p8, p9, p10, p11, p12, p13⟩ := HX.out w1 (hB.drew.trans (hb1.mono hwz))))
              all_goals (have hB1 : Below W0.heap.size W0 w1 := hB.drew.trans (hb1.mono hwz); have hs1 : Hid (false = R) := (by have := hstep.out; rw [Bool.false_and] at this; exact this); clear x0 x1 x2 x3 x4 x5 y0 y1 y2 y3 y4 y5)
              all_goals go_wp2
              all_goals go_ret
              all_goals exact ⟨ret_bool hs1.out, B0.trans (hB1.mono hws)⟩
          · have hki : ¬ (k : Int) < (n : Int) := by omega
            have hs1 : Hid (true = R) := by
              have := hsm.out
              rw [List.drop_eq_nil_of_le (by simp [hn'.out]; omega), List.drop_eq_nil_of_le (by simp [hm'.out]; omega)] at this
              exact this
            go_wp2
            go_ret
            exact ⟨ret_bool hs1.out, B0.trans (hB.mono hws)⟩
    · have hsf : Hid (sameAll (rs.map InoR.D) (ts.map InoR.D) = false) := sameAll_len (by simp [hn, hm, hnm])
      have hb : ((n : Int) == (m : Int)) = false := by simp; omega
      have hb' : ((n : Int) != (m : Int)) = true := by simp; omega
      clear h1 h2 hr hr' B0
      go_enter Try.func28, Try.ntmps28
      go_wp2
      go_ret
      exact ⟨ret_bool (by rw [HE.out, hsf.out, Bool.and_false]), HB.out⟩
end Go.Proofs.Ytfjlemnohjnkhaa
