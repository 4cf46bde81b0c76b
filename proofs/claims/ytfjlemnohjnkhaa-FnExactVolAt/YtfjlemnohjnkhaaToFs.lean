/-
  A file system of the laws, copied.
-/
import Derived.Test.YtfjlemnohjnkhaaRows
import Derived.Test.YtfjlemnohjnkhaaBase
import Derived.Test.YtfjlemnohjnkhaaCrc
import Derived.Test.YtfjlemnohjnkhaaMark
import Derived.Test.YtfjlemnohjnkhaaPairs
import Derived.Test.YtfjlemnohjnkhaaInode
import Derived.Test.YtfjlemnohjnkhaaSix
import Derived.Test.YtfjlemnohjnkhaaTabM
import Derived.Test.YtfjlemnohjnkhaaMarkI
import Derived.Test.YtfjlemnohjnkhaaPuts
import Derived.Test.YtfjlemnohjnkhaaMarkIno
import Derived.Test.YtfjlemnohjnkhaaToTab
import Derived.Test.YtfjlemnohjnkhaaMarkGI
import Derived.Test.YtfjlemnohjnkhaaTabW
import Derived.Test.YtfjlemnohjnkhaaVolM
import Derived.Test.YtfjlemnohjnkhaaEqFs
import Derived.WalkKit
import Derived.WalkSpells
import Derived.WalkLawsBesides
import Derived.Deep.QuietTactic
import Derived.BigQuiet
import Derived.OpenShut
import Derived.Laws.BitsAllLaws
import Derived.Maps.AppendAt
import Derived.Lib.SliceRun
import Derived.Lib.Strings
import Derived.Deep.RegionWith
import Derived.Laws.IdiomStrings
import Derived.Deep.Slices
import Derived.ProofKit
import Derived.ChangeOld
import Derived.Below
import Derived.Deep.DeepCutAuto
import Derived.Lib.AppendStr
import Derived.Lib.ConvBytes
import Derived.Deep.RegionHeld3
import Derived.Deep.AppendLies
import Derived.Deep.AppendSrc
import Derived.Maps.OwnSet
import Derived.Maps.OwnOps
import Derived.Deep.RegionLaw
import Derived.Lib.Slices
import Derived.Lib.Walk
import Derived.Lib.Bytealg
import Derived.Lib.IndexLaws
import Derived.Lib.BufferWrite
import Derived.Lib.UnsafeStr
import Derived.Laws.MakeOwn
import Derived.Laws.Strings3
import Derived.RangeFuncBox
import Derived.RangeFuncNested
import Derived.RangeFuncBound
import Derived.RangeFuncCalls
import Derived.RangeFuncLeaves
import Derived.Shelf.Abstract
import Derived.Shelf.RegionOpen
import Derived.OwnWalkIn
import Derived.TacticsInMore
import Derived.LoopNIn
import Derived.LoopIn
namespace Go.Proofs.Ytfjlemnohjnkhaa
open Go.RowKit
theorem Try.infoVol : (Try.prog.info? 45).map (fun i => (i.zero, i.size, i.bytes)) = some (some (.agg #[.int .i64 0, .string ⟨#[]⟩, .bool false, .int .i64 0, .slice none 0 0, .int .i64 0]), 6, 72) := by kernel_rfl
/-- The table of a volume is a row of the call's own, at or behind B, and so are its inodes' lists. -/
def VolR.own (w : World) (B : Nat) (r : VolR) : Prop := ∃ g, r.a = some ⟨g, 0, none⟩ ∧ B ≤ g ∧ OwnI w g r.rs.length r.rs.length r.rs ∧ ∀ q ∈ r.rs, q.own w (g + 1)
theorem VolR.own.rd {w : World} {B : Nat} {r : VolR} (h : r.own w B) : r.rd w := by
  obtain ⟨g, h1, _, h2, h3⟩ := h
  unfold VolR.rd
  rw [h1]
  exact h2.rd h3
theorem VolR.own.keep {w w' : World} {B : Nat} {r : VolR} (h : r.own w B) (hb : Below w.heap.size w w') : r.own w' B := by
  obtain ⟨g, h1, h2, h3, h4⟩ := h
  exact ⟨g, h1, h2, h3.keep hb, fun q hq => (h4 q hq).keep hb⟩
theorem VolR.own.kept {w w' : World} {B g : Nat} {r : VolR} (h : r.own w B) (hg : w.grownBy w' (some g)) (hlt : g < B) : r.own w' B := by
  obtain ⟨g', h1, h2, h3, h4⟩ := h
  exact ⟨g', h1, h2, h3.kept hg (by omega), fun q hq => (h4 q hq).kept hg (by omega)⟩
theorem OwnVo.rd {w : World} {g n cap B : Nat} {vs : List VolR} (h : OwnVo w g n cap vs) (ho : ∀ r ∈ vs, r.own w B) : RdVo w (some ⟨g, 0, none⟩) vs :=
  .inr ⟨g, 0, rfl, fun i r hi => by
    rw [Nat.zero_add]
    exact ⟨h.six i r hi, (ho r (List.mem_of_getElem? hi)).rd⟩⟩
set_option maxRecDepth 100000 in
set_option maxHeartbeats 3200000 in
theorem toVol_any (r : VolR) (w : World) (hs : VolSmall r) (hr : r.rd w) :
    Calls Try.prog 36 #[r.v] w fun e w' => ∃ t : VolR, e = .returned t.v ∧ t.D = r.D ∧ t.own w' w.heap.size ∧ Below w.heap.size w w' := by
  obtain ⟨id, name, ro, limit, a, cap, nx, rs⟩ := r
  obtain ⟨_, h5, h6⟩ := hs
  unfold VolR.v VolR.D
  unfold VolR.rd at hr
  dsimp only at h5 h6 hr ⊢
  obtain ⟨n, hn⟩ : ∃ n, rs.length = n := ⟨_, rfl⟩
  rw [hn] at h5 ⊢
  have B0 : Below w.heap.size w (((w.alloc (.cells #[.int .i64 id, .string name, .bool ro, .int .i64 limit, .slice a n cap, .int .i64 nx] 59)).alloc (.cells #[.int .i64 0, .string ⟨#[]⟩, .bool false, .int .i64 0, .slice none 0 0, .int .i64 0] 45)).alloc (.cells #[.int .i64 0, .string ⟨#[]⟩, .bool false, .int .i64 0, .slice none 0 0, .int .i64 0] 45)) := (((Below.refl _ w).alloc (Nat.le_refl _) _).alloc (by simp) _).alloc (by simp; omega) _
  have z0 := ((Blk.new w 59 #[.int .i64 id, .string name, .bool ro, .int .i64 limit, .slice a n cap, .int .i64 nx]).alloc (.cells #[.int .i64 0, .string ⟨#[]⟩, .bool false, .int .i64 0, .slice none 0 0, .int .i64 0] 45)).alloc (.cells #[.int .i64 0, .string ⟨#[]⟩, .bool false, .int .i64 0, .slice none 0 0, .int .i64 0] 45)
  have z1 := (Blk.new (w.alloc (.cells #[.int .i64 id, .string name, .bool ro, .int .i64 limit, .slice a n cap, .int .i64 nx] 59)) 45 #[.int .i64 0, .string ⟨#[]⟩, .bool false, .int .i64 0, .slice none 0 0, .int .i64 0]).alloc (.cells #[.int .i64 0, .string ⟨#[]⟩, .bool false, .int .i64 0, .slice none 0 0, .int .i64 0] 45)
  have z2 := Blk.new ((w.alloc (.cells #[.int .i64 id, .string name, .bool ro, .int .i64 limit, .slice a n cap, .int .i64 nx] 59)).alloc (.cells #[.int .i64 0, .string ⟨#[]⟩, .bool false, .int .i64 0, .slice none 0 0, .int .i64 0] 45)) 45 #[.int .i64 0, .string ⟨#[]⟩, .bool false, .int .i64 0, .slice none 0 0, .int .i64 0]
  simp only [World.size_alloc] at z1 z2
  have hsz : (((w.alloc (.cells #[.int .i64 id, .string name, .bool ro, .int .i64 limit, .slice a n cap, .int .i64 nx] 59)).alloc (.cells #[.int .i64 0, .string ⟨#[]⟩, .bool false, .int .i64 0, .slice none 0 0, .int .i64 0] 45)).alloc (.cells #[.int .i64 0, .string ⟨#[]⟩, .bool false, .int .i64 0, .slice none 0 0, .int .i64 0] 45)).heap.size = w.heap.size + 1 + 1 + 1 := by simp
  have HR : Hid _ := hr
  have HN : Hid _ := hn
  have H6 : Hid _ := h6
  clear hr hn h6
  obtain ⟨H, hH⟩ : ∃ H, w.heap.size = H := ⟨_, rfl⟩
  obtain ⟨x0, x1, x2, x3, x4, x5⟩ : _ ∧ _ ∧ _ ∧ _ ∧ _ ∧ _ := ⟨z0.cell 0, z0.cell 1, z0.cell 2, z0.cell 3, z0.cell 4, z0.cell 5⟩
  obtain ⟨y0, y1, y2, y3, y4, y5⟩ : _ ∧ _ ∧ _ ∧ _ ∧ _ ∧ _ := ⟨z2.cell 0, z2.cell 1, z2.cell 2, z2.cell 3, z2.cell 4, z2.cell 5⟩
  obtain ⟨f0, f1, f2, f3⟩ : _ ∧ _ ∧ _ ∧ _ := ⟨z2.frozen 0, z2.frozen 1, z2.frozen 2, z2.frozen 3⟩
  simp at x0 x1 x2 x3 x4 x5 y0 y1 y2 y3 y4 y5
  go_enter Try.func36, Try.ntmps36
  go_wp2_with fail
  clear x0 x1 x2 x3 x4 x5 y0 y1 y2 y3 y4 y5 f0 f1 f2 f3
  have B1 : Below w.heap.size w (((w.alloc (.cells #[.int .i64 id, .string name, .bool ro, .int .i64 limit, .slice a n cap, .int .i64 nx] 59)).alloc (.cells #[.int .i64 0, .string ⟨#[]⟩, .bool false, .int .i64 0, .slice none 0 0, .int .i64 0] 45)).alloc (.cells #[.int .i64 id, .string name, .bool ro, .int .i64 limit, .slice none 0 0, .int .i64 0] 45)) := (((Below.refl _ w).alloc (Nat.le_refl _) _).alloc (by simp) _).alloc (by simp; omega) _
  have u0 := ((Blk.new w 59 #[.int .i64 id, .string name, .bool ro, .int .i64 limit, .slice a n cap, .int .i64 nx]).alloc (.cells #[.int .i64 0, .string ⟨#[]⟩, .bool false, .int .i64 0, .slice none 0 0, .int .i64 0] 45)).alloc (.cells #[.int .i64 id, .string name, .bool ro, .int .i64 limit, .slice none 0 0, .int .i64 0] 45)
  have u1 := (Blk.new (w.alloc (.cells #[.int .i64 id, .string name, .bool ro, .int .i64 limit, .slice a n cap, .int .i64 nx] 59)) 45 #[.int .i64 0, .string ⟨#[]⟩, .bool false, .int .i64 0, .slice none 0 0, .int .i64 0]).alloc (.cells #[.int .i64 id, .string name, .bool ro, .int .i64 limit, .slice none 0 0, .int .i64 0] 45)
  have u2 := Blk.new ((w.alloc (.cells #[.int .i64 id, .string name, .bool ro, .int .i64 limit, .slice a n cap, .int .i64 nx] 59)).alloc (.cells #[.int .i64 0, .string ⟨#[]⟩, .bool false, .int .i64 0, .slice none 0 0, .int .i64 0] 45)) 45 #[.int .i64 id, .string name, .bool ro, .int .i64 limit, .slice none 0 0, .int .i64 0]
  simp only [World.size_alloc] at u1 u2
  have hs1 : (((w.alloc (.cells #[.int .i64 id, .string name, .bool ro, .int .i64 limit, .slice a n cap, .int .i64 nx] 59)).alloc (.cells #[.int .i64 0, .string ⟨#[]⟩, .bool false, .int .i64 0, .slice none 0 0, .int .i64 0] 45)).alloc (.cells #[.int .i64 id, .string name, .bool ro, .int .i64 limit, .slice none 0 0, .int .i64 0] 45)).heap.size = w.heap.size + 1 + 1 + 1 := by simp
  obtain ⟨W1, hW1⟩ : ∃ W, (((w.alloc (.cells #[.int .i64 id, .string name, .bool ro, .int .i64 limit, .slice a n cap, .int .i64 nx] 59)).alloc (.cells #[.int .i64 0, .string ⟨#[]⟩, .bool false, .int .i64 0, .slice none 0 0, .int .i64 0] 45)).alloc (.cells #[.int .i64 id, .string name, .bool ro, .int .i64 limit, .slice none 0 0, .int .i64 0] 45)) = W := ⟨_, rfl⟩
  rw [hW1] at u0 u1 u2 B1 hs1 ⊢
  rw [hH] at u0 u1 u2 B1 hs1
  clear hW1 z0 z1 z2 B0 hsz
  have hcall := toTab_any a n cap nx rs W1 HN.out h5 H6.out (RdI.keep HR.out (by rw [hH]; exact B1))
  refine hcall.mono ?_
  rintro e w2 ⟨g, ts, rfl, hg, hcp, ho, b2⟩
  have hn2 : ts.length = n := ho.len
  rw [hs1] at hg
  have v0 := u0.keep b2
  have v1 := u1.keep b2
  have v2 := u2.keep b2
  have B2 := B1.trans (b2.mono (by rw [hs1]; omega))
  obtain ⟨y0, y1, y2, y3, y4, y5⟩ : _ ∧ _ ∧ _ ∧ _ ∧ _ ∧ _ := ⟨v2.cell 0, v2.cell 1, v2.cell 2, v2.cell 3, v2.cell 4, v2.cell 5⟩
  obtain ⟨f4, f5⟩ : _ ∧ _ := ⟨v2.frozen 4, v2.frozen 5⟩
  have s2 := (v2.set 4 (.slice (some ⟨g, 0, none⟩) n n)).set 5 (.int .i64 nx)
  have s1 := (v1.other (B' := H + 1 + 1) (by omega) 4 (.slice (some ⟨g, 0, none⟩) n n)).other (B' := H + 1 + 1) (by omega) 5 (.int .i64 nx)
  obtain ⟨c0, c1, c2, c3, c4, c5⟩ : _ ∧ _ ∧ _ ∧ _ ∧ _ ∧ _ := ⟨s2.cell 0, s2.cell 1, s2.cell 2, s2.cell 3, s2.cell 4, s2.cell 5⟩
  obtain ⟨p0, p1, p2, p3, p4, p5⟩ : _ ∧ _ ∧ _ ∧ _ ∧ _ ∧ _ := ⟨s1.cell 0, s1.cell 1, s1.cell 2, s1.cell 3, s1.cell 4, s1.cell 5⟩
  obtain ⟨q0, q1, q2, q3, q4, q5⟩ : _ ∧ _ ∧ _ ∧ _ ∧ _ ∧ _ := ⟨s1.frozen 0, s1.frozen 1, s1.frozen 2, s1.frozen 3, s1.frozen 4, s1.frozen 5⟩
  have e1 := (((((s1.set 0 (.int .i64 id)).set 1 (.string name)).set 2 (.bool ro)).set 3 (.int .i64 limit)).set 4 (.slice (some ⟨g, 0, none⟩) n n)).set 5 (.int .i64 nx)
  obtain ⟨d0, d1, d2, d3, d4, d5⟩ : _ ∧ _ ∧ _ ∧ _ ∧ _ ∧ _ := ⟨e1.cell 0, e1.cell 1, e1.cell 2, e1.cell 3, e1.cell 4, e1.cell 5⟩
  simp at y0 y1 y2 y3 y4 y5 c0 c1 c2 c3 c4 c5 p0 p1 p2 p3 p4 p5 d0 d1 d2 d3 d4 d5
  have HO : Hid (∃ t : VolR, (⟨id, name, ro, limit, some ⟨g, 0, none⟩, n, nx, ts⟩ : VolR) = t ∧ t.own w2 (H + 1 + 1 + 1)) := ⟨_, rfl, g, rfl, hg, by dsimp only; rw [hn2]; exact ho, fun q hq => hcp.2 q hq⟩
  have HB2 : Hid _ := B2
  have HD : Hid _ := hcp.1
  have HL : Hid _ := hn2
  clear hcall hcp ho b2 u0 u1 u2 v0 v1 v2 s1 s2 e1 B1 B2 hn2 hs1 h5
  go_wp2
  refine bodyPost_ret (v := .agg #[.int .i64 id, .string name, .bool ro, .int .i64 limit, .slice (some ⟨g, 0, none⟩) n n, .int .i64 nx]) (by simp [results, Try.f36, go_sem, d0, d1, d2, d3, d4, d5]) rfl ?_
  obtain ⟨t, rfl, ht⟩ := HO.out
  refine ⟨⟨id, name, ro, limit, some ⟨g, 0, none⟩, n, nx, ts⟩, by dsimp only; rw [HL.out], by dsimp only; rw [HD.out], ?_, ?_⟩
  · have k := fun (W : World) (j i : Nat) (v : Value) => gr_setC W j i v
    have ht' : VolR.own w2 (H + 1 + 1 + 1) _ := ht
    have := ((((((((ht'.kept (k _ (H + 1 + 1) 4 (.slice (some ⟨g, 0, none⟩) n n)) (by omega)).kept (k _ (H + 1 + 1) 5 (.int .i64 nx)) (by omega)).kept (k _ (H + 1) 0 (.int .i64 id)) (by omega)).kept (k _ (H + 1) 1 (.string name)) (by omega)).kept (k _ (H + 1) 2 (.bool ro)) (by omega)).kept (k _ (H + 1) 3 (.int .i64 limit)) (by omega)).kept (k _ (H + 1) 4 (.slice (some ⟨g, 0, none⟩) n n)) (by omega)).kept (k _ (H + 1) 5 (.int .i64 nx)) (by omega))
    obtain ⟨g', a1, a2, a3, a4⟩ := this
    exact ⟨g', a1, by omega, a3, a4⟩
  · have B := HB2.out
    have s : ∀ (W : World) (j i : Nat) (v : Value), H ≤ j → Below H w W → Below H w (W.setCell ⟨j, i, none⟩ v) := fun W j i v hj hb => hb.setCell (p := ⟨j, i, none⟩) hj v
    rw [hH]
    exact s _ _ _ _ (by omega) (s _ _ _ _ (by omega) (s _ _ _ _ (by omega) (s _ _ _ _ (by omega) (s _ _ _ _ (by omega) (s _ _ _ _ (by omega) (s _ _ _ _ (by omega) (s _ _ _ _ (by omega) B)))))))
/-- What a copy of a row of volumes is. -/
def CpdV (w : World) (B : Nat) (vs us : List VolR) : Prop := us.map VolR.D = vs.map VolR.D ∧ ∀ r ∈ us, r.own w B
theorem CpdV.keep {w w' : World} {B : Nat} {vs us : List VolR} (h : CpdV w B vs us) (hb : Below w.heap.size w w') : CpdV w' B vs us := ⟨h.1, fun r hr => (h.2 r hr).keep hb⟩
set_option maxHeartbeats 3200000 in
theorem toVolS_any (a : Option Addr) (n cap : Nat) (vs : List VolR) (w : World) (hn : vs.length = n) (hs : n ≤ 1048576) (hsm : ∀ r ∈ vs, VolSmall r) (hr : RdVo w a vs) :
    Calls Try.prog 24 #[.slice a n cap] w fun e w' => ∃ us, e = .returned (.slice (some ⟨w.heap.size, 0, none⟩) n n) ∧ CpdV w' (w.heap.size + 1) vs us ∧ OwnVo w' w.heap.size n n us ∧ Below w.heap.size w w' := by
  obtain ⟨i0, hi, hz0, hz1, hz2⟩ := info_parts Try.infoVol
  have hm : n ≤ maxLen := by unfold maxLen; omega
  have hby : i0.bytes * n ≤ 281474976710656 := by rw [hz2]; omega
  by_cases h0 : n = 0
  · subst h0
    obtain rfl : vs = [] := List.length_eq_zero_iff.1 hn
    go_enter Try.func24, Try.ntmps24
    go_wp2_with (at_make; refine wpList_make_full _ rfl (.tmp 6) (.tmp 6) 22 rfl 0 45 i0 (.agg #[.int .i64 0, .string ⟨#[]⟩, .bool false, .int .i64 0, .slice none 0 0, .int .i64 0]) 6 Try.underlying22 hi hz0 hz1 .i64 .i64 _ _ 0 rfl rfl rfl rfl hby hm (Nat.zero_le _) ?_; intro w1 hown hgrow)
    refine wp_loop_rounds 1 ?_; rw [rounds_succ]
    go_wp2
    go_ret
    exact ⟨[], rfl, ⟨rfl, fun r hr => by simp at hr⟩, made_ownVo hown, (Below.refl _ _).grown hgrow (Nat.le_refl _) (by simp)⟩
  · obtain ⟨b, off, rfl, hlt, hc⟩ := hr.lt (by intro h; subst h; simp at hn; omega)
    have hn' : Hid (vs.length = n) := hn
    have HC : Hid _ := hc
    have HS : Hid _ := hsm
    clear hr hn hc hsm
    go_enter Try.func24, Try.ntmps24
    go_wp2_with (at_make; refine wpList_make_full _ rfl (.tmp 6) (.tmp 6) 22 rfl 0 45 i0 (.agg #[.int .i64 0, .string ⟨#[]⟩, .bool false, .int .i64 0, .slice none 0 0, .int .i64 0]) 6 Try.underlying22 hi hz0 hz1 .i64 .i64 _ _ n rfl rfl rfl rfl hby hm (Nat.zero_le _) ?_; intro w1 hown hgrow)
    have ho := made_ownVo hown
    have hB : Below w.heap.size w w1 := (Below.refl _ _).grown hgrow (Nat.le_refl _) (by simp)
    clear hown hgrow
    go_loopw [4] (fun i wr => ∃ (k : Nat) (us : List VolR), k ≤ n ∧ i = .int .i64 k ∧ us.length = k ∧ Hid (CpdV wr (w.heap.size + 1) (vs.take k) us) ∧ OwnVo wr w.heap.size n n (us ++ List.replicate (n - k) volZ) ∧ Below w.heap.size w wr) (fun i _ => n - (intOf i).toNat)
    case atStart => exact ⟨0, [], Nat.zero_le _, rfl, rfl, ⟨rfl, fun r hr => by simp at hr⟩, ho, hB⟩
    case round =>
      obtain ⟨k, us, hk, rfl, htk, hcp, hown, hbel⟩ := hrel
      clear ho hB
      by_cases hkn : k < n
      · have hkl : k < vs.length := by rw [hn'.out]; exact hkn
        have hki : (k : Int) < (n : Int) := by omega
        obtain ⟨r, hrk⟩ : ∃ r, vs[k]? = some r := ⟨_, List.getElem?_eq_getElem hkl⟩
        obtain ⟨x6, xr⟩ := HC.out k r hrk
        have hcall := toVol_any r wr (HS.out r (List.mem_of_getElem? hrk)) (xr.keep hbel)
        obtain ⟨x0, x1, x2, x3, x4, x5⟩ := x6.keep hbel hlt
        have hrD : Hid ((vs.take (k + 1)).map VolR.D = (vs.take k).map VolR.D ++ [r.D]) := by
          show _ = _
          rw [List.take_add_one, hrk]
          simp
        unfold VolR.v at hcall
        obtain ⟨rD, hrd⟩ : ∃ d, r.D = d := ⟨_, rfl⟩
        rw [hrd] at hcall hrD
        obtain ⟨id, name, ro, limit, ra, rc, nx, rr⟩ := r
        dsimp only at x0 x1 x2 x3 x4 x5 hcall
        obtain ⟨n1, hn1⟩ : ∃ n, rr.length = n := ⟨_, rfl⟩
        rw [hn1] at x4 hcall
        have hwz := hbel.size
        clear x6 xr hn1 hrk hkl hrd
        go_wp2_with fail
        refine hcall.mono ?_
        rintro e w1 ⟨t, rfl, htD, hto, hb1⟩
        have ho1 := hown.keep hb1
        have hlc := ho1.lt
        have hzk : (us ++ List.replicate (n - k) volZ)[k]? = some volZ := by
          rw [List.getElem?_append_right (by omega), htk, Nat.sub_self, List.getElem?_replicate, if_pos (by omega)]
        obtain ⟨q0, q1, q2, q3, q4, q5⟩ := ho1.six k volZ hzk
        have f0 := ho1.frozen (k * 6)
        have f1 := ho1.frozen (k * 6 + 1)
        have f2 := ho1.frozen (k * 6 + 2)
        have f3 := ho1.frozen (k * 6 + 3)
        have f4 := ho1.frozen (k * 6 + 4)
        have f5 := ho1.frozen (k * 6 + 5)
        have hst := ownVo_stored ho1 k hkn t
        rw [show (us ++ List.replicate (n - k) volZ).set k t = (us ++ [t]) ++ List.replicate (n - (k + 1)) volZ by rw [← htk, set_mid us _ _ _ (by omega), htk, show n - k - 1 = n - (k + 1) by omega]] at hst
        have hbel1 : Below w.heap.size w w1 := hbel.trans (hb1.mono hwz)
        have hgr := six_gr w1 w.heap.size (k * 6) (.int .i64 t.id) (.string t.name) (.bool t.ro) (.int .i64 t.limit) (.slice t.a t.rs.length t.cap) (.int .i64 t.nx)
        have hbel' := hbel1.grown hgr hbel1.size (by intro g hg; simp at hg; omega)
        have hlw := hown.lt
        have hcp' : Hid (CpdV ((((((w1.setCell ⟨w.heap.size, k * 6, none⟩ (.int .i64 t.id)).setCell ⟨w.heap.size, k * 6 + 1, none⟩ (.string t.name)).setCell ⟨w.heap.size, k * 6 + 2, none⟩ (.bool t.ro)).setCell ⟨w.heap.size, k * 6 + 3, none⟩ (.int .i64 t.limit)).setCell ⟨w.heap.size, k * 6 + 4, none⟩ (.slice t.a t.rs.length t.cap)).setCell ⟨w.heap.size, k * 6 + 5, none⟩ (.int .i64 t.nx)) (w.heap.size + 1) (vs.take (k + 1)) (us ++ [t])) := by
          refine ⟨by rw [hrD.out, List.map_append, hcp.out.1, ← htD]; rfl, fun q hq => ?_⟩
          simp only [List.mem_append, List.mem_singleton] at hq
          rcases hq with hq | rfl
          · exact ((hcp.out.2 q hq).keep hb1).kept hgr (by omega)
          · refine VolR.own.kept (w := w1) ?_ hgr (by omega)
            obtain ⟨g, h1, h2, h3, h4⟩ := hto
            exact ⟨g, h1, by omega, h3, h4⟩
        have hl' : (us ++ [t] : List VolR).length = k + 1 := by simp [htk]
        obtain ⟨tid, tname, tro, tlimit, ta, tc, tnx, trs⟩ := t
        dsimp only at hst hbel' hcp'
        obtain ⟨n2, hn2⟩ : ∃ n, trs.length = n := ⟨_, rfl⟩
        dsimp only
        rw [hn2] at hst hbel' hcp' ⊢
        clear hown hbel hcp ho1 hb1 hbel1 hgr hcall hzk hto htD hn2
        unfold volZ at q0 q1 q2 q3 q4 q5
        dsimp only [List.length_nil] at q0 q1 q2 q3 q4 q5
        go_wp2
        go_roundw
        case rel => exact ⟨k + 1, _, by omega, by go_num, hl', hcp', hst, hbel'⟩
        case measure => simp [intOf]; omega
      · go_wp2
        go_ret
        obtain rfl : k = n := by omega
        have := hcp.out
        rw [List.take_of_length_le (by rw [hn'.out]; omega)] at this
        rw [Nat.sub_self, List.replicate_zero, List.append_nil] at hown
        exact ⟨us, rfl, this, hown, hbel⟩
/-- A file system copied: the row g, at or behind B; the copies' data are vs's. -/
structure FsQ (w : World) (B g n : Nat) (vs us : List VolR) : Prop where
  at_ : B ≤ g
  len : vs.length = n
  cpd : CpdV w (g + 1) vs us
  own : OwnVo w g n n us
theorem FsQ.keep {w w' : World} {B g n : Nat} {vs us : List VolR} (h : FsQ w B g n vs us) (hb : Below w.heap.size w w') : FsQ w' B g n vs us := ⟨h.at_, h.len, h.cpd.keep hb, h.own.keep hb⟩
theorem FsQ.rd {w : World} {B g n : Nat} {vs us : List VolR} (h : FsQ w B g n vs us) : RdVo w (some ⟨g, 0, none⟩) us := h.own.rd h.cpd.2
theorem FsQ.tlen {w : World} {B g n : Nat} {vs us : List VolR} (h : FsQ w B g n vs us) : us.length = n := h.own.len
theorem sameV_small {r t : VolR} (h : SameV r t) (hs : VolSmall r) : VolSmall t := by
  refine ⟨by rw [h.name]; exact hs.name, by rw [h.len]; exact hs.len, fun q hq => ?_⟩
  have h1 : q.D ∈ t.rs.map InoR.D := List.mem_map_of_mem hq
  rw [h.rs] at h1
  obtain ⟨p, hp, e⟩ := List.mem_map.1 h1
  rw [← e]
  exact hs.ino p hp
theorem smallV_of {vs us : List VolR} (h : us.map VolR.D = vs.map VolR.D) (hs : ∀ r ∈ vs, VolSmall r) : ∀ r ∈ us, VolSmall r := fun r hr => by
  have h1 : r.D ∈ us.map VolR.D := List.mem_map_of_mem hr
  rw [h] at h1
  obtain ⟨p, hp, e⟩ := List.mem_map.1 h1
  exact sameV_small (SameV.of e.symm) (hs p hp)
theorem FsQ.small {w : World} {B g n : Nat} {vs us : List VolR} (h : FsQ w B g n vs us) (hs : ∀ r ∈ vs, VolSmall r) : ∀ r ∈ us, VolSmall r := smallV_of h.cpd.1 hs
set_option maxHeartbeats 1600000 in
theorem toFsQ (a : Option Addr) (n cap : Nat) (nx : Int) (vs : List VolR) (w : World) (hn : vs.length = n) (hs : n ≤ 1048576) (hsm : ∀ r ∈ vs, VolSmall r) (hr : RdVo w a vs) :
    Calls Try.prog 14 #[.agg #[.slice a n cap, .int .i64 nx]] w fun e w' => ∃ g us, e = .returned (.agg #[.slice (some ⟨g, 0, none⟩) n n, .int .i64 nx]) ∧ FsQ w' w.heap.size g n vs us ∧ Below w.heap.size w w' := by
  have B0 : Below w.heap.size w (((w.alloc (.cells #[.slice a n cap, .int .i64 nx] 31)).alloc (.cells #[.slice none 0 0, .int .i64 0] 24)).alloc (.cells #[.slice none 0 0, .int .i64 0] 24)) := (((Below.refl _ w).alloc (Nat.le_refl _) _).alloc (by simp) _).alloc (by simp; omega) _
  have z0 : Blk (((w.alloc (.cells #[.slice a n cap, .int .i64 nx] 31)).alloc (.cells #[.slice none 0 0, .int .i64 0] 24)).alloc (.cells #[.slice none 0 0, .int .i64 0] 24)) w.heap.size 31 #[.slice a n cap, .int .i64 nx] := ((Blk.new w 31 _).alloc _).alloc _
  have z1 := (Blk.new (w.alloc (.cells #[.slice a n cap, .int .i64 nx] 31)) 24 #[.slice none 0 0, .int .i64 0]).alloc (.cells #[.slice none 0 0, .int .i64 0] 24)
  have z2 := Blk.new ((w.alloc (.cells #[.slice a n cap, .int .i64 nx] 31)).alloc (.cells #[.slice none 0 0, .int .i64 0] 24)) 24 #[.slice none 0 0, .int .i64 0]
  have hs0 : (((w.alloc (.cells #[.slice a n cap, .int .i64 nx] 31)).alloc (.cells #[.slice none 0 0, .int .i64 0] 24)).alloc (.cells #[.slice none 0 0, .int .i64 0] 24)).heap.size = w.heap.size + 1 + 1 + 1 := by simp
  simp only [World.size_alloc] at z1 z2
  have hcall := toVolS_any a n cap vs _ hn hs hsm (hr.keep B0)
  have HN0 : Hid _ := hn
  clear hsm hr hn
  go_enter Try.func14, Try.ntmps14
  go_wp2_with fail
  refine hcall.mono ?_
  rintro e w1 ⟨ts, rfl, hcp, ho, hb1⟩
  have B1 := B0.trans (hb1.mono B0.size)
  have y0 := z0.keep hb1
  have y1 := z1.keep hb1
  have y2 := z2.keep hb1
  rw [hs0] at hcp ho ⊢
  clear z0 z1 z2 hcall hb1 B0
  obtain ⟨H, hH⟩ : ∃ H, w.heap.size = H := ⟨_, rfl⟩
  rw [hH] at y0 y1 y2 hcp ho B1 ⊢
  have x0 := y0.cell 1
  have x2 := y2.cell 0
  have x3 := y2.cell 1
  have f2 := y2.frozen 0
  have f3 := y2.frozen 1
  have u2 := (y2.set 0 (.slice (some ⟨H + 1 + 1 + 1, 0, none⟩) n n)).set 1 (.int .i64 nx)
  have u1 := (y1.other (B' := H + 1 + 1) (by omega) 0 (.slice (some ⟨H + 1 + 1 + 1, 0, none⟩) n n)).other (B' := H + 1 + 1) (by omega) 1 (.int .i64 nx)
  have c10 := u1.cell 0
  have c11 := u1.cell 1
  have f10 := u1.frozen 0
  have f11 := u1.frozen 1
  have d0 := ((u1.set 0 (.slice (some ⟨H + 1 + 1 + 1, 0, none⟩) n n)).set 1 (.int .i64 nx)).cell 0
  have d1 := ((u1.set 0 (.slice (some ⟨H + 1 + 1 + 1, 0, none⟩) n n)).set 1 (.int .i64 nx)).cell 1
  have c20 := u2.cell 0
  have c21 := u2.cell 1
  simp at x0 x2 x3 c10 c11 d0 d1 c20 c21
  have HNL : Hid (vs.length = n) := HN0.out
  have HF : Hid (CpdV w1 (H + 1 + 1 + 1 + 1) vs ts ∧ OwnVo w1 (H + 1 + 1 + 1) n n ts ∧ Below H w w1) := ⟨hcp, ho, B1⟩
  clear hcp ho B1 y0 y1 y2 u1 u2
  go_wp2
  refine bodyPost_ret (v := .agg #[.slice (some ⟨H + 1 + 1 + 1, 0, none⟩) n n, .int .i64 nx]) (by simp [results, Try.f14, go_sem, d0, d1]) rfl ?_
  obtain ⟨hcp, ho, B1⟩ := HF.out
  have k1 := gr_setC w1 (H + 1 + 1) 0 (.slice (some ⟨H + 1 + 1 + 1, 0, none⟩) n n)
  have k2 := gr_setC (w1.setCell ⟨H + 1 + 1, 0, none⟩ (.slice (some ⟨H + 1 + 1 + 1, 0, none⟩) n n)) (H + 1 + 1) 1 (.int .i64 nx)
  have k3 := gr_setC ((w1.setCell ⟨H + 1 + 1, 0, none⟩ (.slice (some ⟨H + 1 + 1 + 1, 0, none⟩) n n)).setCell ⟨H + 1 + 1, 1, none⟩ (.int .i64 nx)) (H + 1) 0 (.slice (some ⟨H + 1 + 1 + 1, 0, none⟩) n n)
  have k4 := gr_setC (((w1.setCell ⟨H + 1 + 1, 0, none⟩ (.slice (some ⟨H + 1 + 1 + 1, 0, none⟩) n n)).setCell ⟨H + 1 + 1, 1, none⟩ (.int .i64 nx)).setCell ⟨H + 1, 0, none⟩ (.slice (some ⟨H + 1 + 1 + 1, 0, none⟩) n n)) (H + 1) 1 (.int .i64 nx)
  refine ⟨H + 1 + 1 + 1, ts, rfl, ⟨by omega, HNL.out, ⟨hcp.1, fun r hr => ((((hcp.2 r hr).kept k1 (by omega)).kept k2 (by omega)).kept k3 (by omega)).kept k4 (by omega)⟩, (((ho.kept k1 (by omega)).kept k2 (by omega)).kept k3 (by omega)).kept k4 (by omega)⟩, ?_⟩
  rw [hH]
  exact (((B1.setCell (p := ⟨H + 1 + 1, 0, none⟩) (by simp only; omega) _).setCell (p := ⟨H + 1 + 1, 1, none⟩) (by simp only; omega) _).setCell (p := ⟨H + 1, 0, none⟩) (by simp only; omega) _).setCell (p := ⟨H + 1, 1, none⟩) (by simp only; omega) _
/-- eqFs of two copies. -/
theorem eqFsQ (B B' g g' n cap cap' : Nat) (nx : Int) (vs us us' : List VolR) (w : World) (hs : n ≤ 1048576) (hsm : ∀ r ∈ vs, VolSmall r) (h : FsQ w B g n vs us) (h' : FsQ w B' g' n vs us') :
    Calls Try.prog 9 #[.agg #[.slice (some ⟨g, 0, none⟩) n cap, .int .i64 nx], .agg #[.slice (some ⟨g', 0, none⟩) n cap', .int .i64 nx]] w fun e w' => e = .returned (.bool true) ∧ Below w.heap.size w w' :=
  eqFs_same _ _ n cap cap' nx us us' w h.tlen (by omega) (by rw [h'.cpd.1, h.cpd.1]) (h.small hsm) h.rd h'.rd
end Go.Proofs.Ytfjlemnohjnkhaa
