/-
  Joined: Inode, GetM, FnExactWriteW.
-/
import Derived.Test.YtnhbhpbmnlojlaaGreatDoorJ00W
import Derived.Test.YtnhbhpbmnlojlaaGreatDoorJ01W
import Derived.Test.YtnhbhpbmnlojlaaGreatDoorJ02W
import Derived.Test.YtnhbhpbmnlojlaaGreatDoorJ03W
import Derived.Test.YtnhbhpbmnlojlaaGreatDoorJ04W
import Derived.Test.YtnhbhpbmnlojlaaGreatDoorJ05W
import Derived.Test.YtnhbhpbmnlojlaaGreatDoorJ06W
import Derived.Test.YtnhbhpbmnlojlaaGreatDoorJ07W
import Derived.Test.YtnhbhpbmnlojlaaGreatDoorJ08W
import Derived.Test.YtnhbhpbmnlojlaaGreatDoorJ09W
import Derived.Test.YtnhbhpbmnlojlaaGreatDoorJ10W
import Derived.Test.YtnhbhpbmnlojlaaGreatDoorJ11W
import Derived.Test.YtnhbhpbmnlojlaaGreatDoorJ12W
import Derived.Test.YtnhbhpbmnlojlaaGreatDoorJ13W
import Derived.Test.YtnhbhpbmnlojlaaGreatDoorJ14W
import Derived.Test.YtnhbhpbmnlojlaaGreatDoorJ15W
import Derived.Test.YtnhbhpbmnlojlaaGreatDoorJ16W
import Derived.Test.YtnhbhpbmnlojlaaGreatDoorJ17W
import Derived.Test.YtnhbhpbmnlojlaaGreatDoorJ18W
import Derived.Test.YtnhbhpbmnlojlaaGreatDoorJ19W
import Derived.Test.YtnhbhpbmnlojlaaGreatDoorDrKW
import Derived.Test.YtnhbhpbmnlojlaaGreatDoorEntsOkW
import Derived.Test.YtnhbhpbmnlojlaaGreatDoorJ22W
import Derived.Test.YtnhbhpbmnlojlaaGreatDoorJ23W
import Derived.Test.YtnhbhpbmnlojlaaGreatDoorJ24W
import Derived.Test.YtnhbhpbmnlojlaaGreatDoorJ25W
import Derived.Test.YtnhbhpbmnlojlaaGreatDoorJ26W
import Derived.Test.YtnhbhpbmnlojlaaGreatDoorJ27W
import Derived.Test.YtnhbhpbmnlojlaaGreatDoorJ28W
import Derived.Test.YtnhbhpbmnlojlaaGreatDoorJ29W
import Derived.Test.YtnhbhpbmnlojlaaGreatDoorJ30W
import Derived.Test.YtnhbhpbmnlojlaaGreatDoorJ31W
import Derived.Test.YtnhbhpbmnlojlaaGreatDoorJ32W
import Derived.Test.YtnhbhpbmnlojlaaGreatDoorJ33W
import Derived.Test.YtnhbhpbmnlojlaaGreatDoorJ34W
import Derived.Test.YtnhbhpbmnlojlaaGreatDoorJ35W
import Derived.Test.YtnhbhpbmnlojlaaGreatDoorJ36W
import Derived.Test.YtnhbhpbmnlojlaaGreatDoorWrZ
import Derived.Test.YtnhbhpbmnlojlaaGreatDoorWrV
import Derived.WalkKit
import Derived.WalkSpells
import Derived.WalkLawsBesides
import Derived.Deep.QuietTactic
import Derived.BigQuiet
import Derived.OpenShut
import Derived.Laws.BitsAllLaws
import Derived.Maps.AppendAt
import Derived.Lib.SliceRun
import Derived.Lib.Strings
import Derived.Deep.RegionWith
import Derived.Laws.IdiomStrings
import Derived.Deep.Slices
import Derived.ProofKit
import Derived.ChangeOld
import Derived.Below
import Derived.Deep.DeepCutAuto
import Derived.Lib.AppendStr
import Derived.Lib.ConvBytes
import Derived.Deep.RegionHeld3
import Derived.Deep.AppendLies
import Derived.Laws.StructEq
import Derived.Laws.BytesString
import Derived.Deep.AppendSrc
import Derived.Deep.RegionLaw
import Derived.Deep.MidRow
import Derived.Deep.WholeRow
import Derived.Deep.RegionHeld
import Derived.LaidEql
import Derived.Stop.Asserts
import Derived.RowKitTokens
import Derived.Maps.OwnSet
import Derived.Maps.OwnOps
import Derived.Defers
import Derived.Recover
import Derived.WalkMore
import Derived.ArgAppend
import Derived.Laws.BitsLemmas
import Derived.Deep.OwnRows
import Derived.Deep.CutBlock
namespace Go.Proofs.YtnhbhpbmnlojlaaGreatDoor
section
open Go.RowKit
/-- What an inode tells. -/
structure InoD where
  ino : Int
  kind : Int
  links : Int
  data : List Int
  ents : List (ByteArray × Int)
  attrs : List (ByteArray × ByteArray)
end

section
open Go.RowKit
/-- The inode that the bytes tell. -/
def gD (zs : List Int) : InoD := ⟨((g1 zs).1 : Int), ((g2 zs).1 : Int), ((g3 zs).1 : Int), strZ (g4 zs).1, (gE zs).1, (gA zs).1⟩
end

section
open Go.RowKit
def ByteRow (w : World) (a : Option Addr) (len cap : Nat) (zs : List Int) : Prop :=
  (a = none ∧ len = 0 ∧ cap = 0 ∧ zs = []) ∨ ∃ x, a = some x ∧ len ≤ cap ∧ cap ≤ maxLen ∧ zs.length = cap ∧ (∀ i, i < zs.length → w.cell? (x.add i) = some (.int .u8 (zs.getD i 0))) ∧ ∀ n ∈ zs, (Lit.int .u8 n).wf = true
theorem wrA_ok {fs : List FtD} {Z : List Int} {spare : Int} (hz : Z.length ≤ 400) : ∀ (f : Nat) (S : LgS), LgI fs S → devB (wrA fs Z spare f S).S.ds (wrA fs Z spare f S).S.ops fs = true ∧ (wrA fs Z spare f S).S.ds.length = S.ds.length
  | 0, S, h => ⟨h.1, rfl⟩
  | f + 1, S, h => by
    unfold wrA
    by_cases h1 : openD S.ds spare < 0
    · rw [if_pos h1]
      exact ⟨h.1, rfl⟩
    rw [if_neg h1]
    obtain ⟨k, b, e, hk, hb, hn⟩ := openD_hit (devB_parts.1 h.1).1 (by omega : 0 ≤ openD S.ds spare)
    obtain ⟨o1, o2, o3⟩ := st_ok h hk hb hn hz
    have ek : (openD S.ds spare).toNat = k := by rw [e]; rfl
    rw [ek]
    by_cases c0 : stO fs k Z S = 0
    · rw [if_pos c0]
      exact ⟨o1, o2⟩
    rw [if_neg c0]
    by_cases c2 : stO fs k Z S = 2
    · rw [if_pos c2]
      have hd : (stN fs k Z S).down = false := by
        rcases o3 with h0 | h2 | h10
        · exact absurd h0.1 c0
        · exact h2.2.1
        · omega
      have h5 := wrA_ok (spare := spare) hz f (stN fs k Z S) ⟨o1, hd⟩
      exact ⟨h5.1, h5.2.trans o2⟩
    · rw [if_neg c2]
      exact ⟨o1, o2⟩
theorem wrOut_ok {ds : List BkD} {ops : Int} {fs : List FtD} {down : Bool} {seq kind : Int} {body : List Int} {spare : Int} (ht : totB ds ≤ 1048576) : totB (wrOut ds ops fs down seq kind body spare).S.ds ≤ 1048576 ∧ (wrOut ds ops fs down seq kind body spare).S.ds.length = ds.length := by
  by_cases h1 : recOk ⟨kind, seq, body⟩ = false ∨ devB ds ops fs = false ∨ seq = 1000000
  · rw [wrOut_form h1]
    exact ⟨ht, rfl⟩
  simp only [not_or] at h1
  obtain ⟨hk, hd, hs⟩ := h1
  simp at hk hd
  cases down with
  | true =>
    rw [wrOut_down hk hd hs]
    exact ⟨ht, rfl⟩
  | false =>
    rw [wrOut_go hk hd hs]
    have hz := recPut_len ⟨kind, seq, body⟩
    unfold recPut at hz
    rw [if_pos hk] at hz
    have h5 := wrA_ok (fs := fs) (spare := spare) hz (ds.length + 1) ⟨ds, ops, false⟩ ⟨hd, rfl⟩
    exact ⟨devB_tot h5.1, h5.2⟩
set_option maxRecDepth 100000 in
set_option maxHeartbeats 16000000 in
theorem walkFnExactWrite (a : Option Addr) (cap : Nat) (bs : List BkR) (ops : Int) (fa : Option Addr) (fc : Nat) (fs : List FtD) (down : Bool) (seq kind : Int) (ab : Option Addr) (lb cb : Nat) (zb : List Int) (spare : Int) (w : World) (hm : bs.length ≤ maxLen) (hi : ∀ r ∈ bs, BkIn r) (hr : RdBs w a bs) (hfm : fs.length ≤ maxLen) (hrf : RdFa w fa fs) (_hws : (Lit.int .i64 seq).wf = true) (_hwk : (Lit.int .i64 kind).wf = true) (hbr : ByteRow w ab lb cb zb) (_hwx : (Lit.int .i64 spare).wf = true) (hg : EtCell w) :
    Calls Tryz.prog 3 #[.agg #[.slice a bs.length cap, .int .i64 ops, .slice fa fs.length fc, .bool down, .int .i64 seq], .int .i64 kind, .slice ab lb cb, .int .i64 spare] w fun e w' => e = .returned (.bool true) ∧ Below w.heap.size w w' := by
  obtain ⟨n, hn⟩ : ∃ n, bs.length = n := ⟨_, rfl⟩
  obtain ⟨m, hnf⟩ : ∃ m, fs.length = m := ⟨_, rfl⟩
  rw [hn] at hm ⊢
  rw [hnf] at hfm ⊢
  have B0 : Below w.heap.size w (w.alloc (.cells #[.slice a n cap, .int .i64 ops, .slice fa m fc, .bool down, .int .i64 seq] 29)) := (Below.refl _ w).alloc (Nat.le_refl _) _
  have z0 := Blk.new w 29 #[.slice a n cap, .int .i64 ops, .slice fa m fc, .bool down, .int .i64 seq]
  obtain ⟨zs, hzl, hrb, hby⟩ := rd_of_row hbr
  clear hbr
  by_cases hlb : 1048576 < lb
  · have hlbi : (1048576 : Int) < (lb : Int) := by omega
    have HB0 : Hid _ := B0
    clear z0 hzl hrb hi hr hrf B0 hg
    go_enter Tryz.func3, Tryz.ntmps3
    go_wp2
    go_ret
    exact ⟨rfl, HB0.out⟩
  have hlbi : ¬ (1048576 : Int) < (lb : Int) := by omega
  go_enter Tryz.func3, Tryz.ntmps3
  go_wp2_with fail
  obtain ⟨W0, hW0⟩ : ∃ W, w.alloc (.cells #[.slice a n cap, .int .i64 ops, .slice fa m fc, .bool down, .int .i64 seq] 29) = W := ⟨_, rfl⟩
  rw [hW0] at B0 z0 ⊢
  clear hW0
  refine (szLog_w a n cap 1048576 bs ops fa m fc down seq W0 hn hm hfm (by omega) hi (hr.keep B0)).mono ?_
  rintro e w1 ⟨hsz, b1⟩
  have B1 := B0.trans (b1.mono B0.size)
  have z1 := z0.keep b1
  rcases hsz with rfl | ⟨x, hx, rfl, _⟩
  · go_wp2
    go_ret
    exact ⟨rfl, B1⟩
  have hx0 : ¬ (x : Int) < 0 := by omega
  have htot : Hid (totB (bs.map BkR.D) ≤ 1048576) := by show _ ≤ _; omega
  have hmt : Hid (m ≤ 1048576) := by show _ ≤ _; omega
  have HN : Hid ((bs.map BkR.D).length = n) := by show _ = _; simp [hn]
  have HRA : Hid (∀ W : World, Below w.heap.size w W → CR W a n bs ∧ FR W fa m fs) := fun W h => ⟨⟨hn, htot.out, hr.keep h⟩, ⟨hnf, hmt.out, hrf.keep h⟩⟩
  have CA : Hid (∀ (W : World), CR W a n bs ∧ FR W fa m fs → _) := fun (W : World) (h : CR W a n bs ∧ FR W fa m fs) => toLog_any a n cap bs ops fa m fc fs down seq W h.1 h.2
  have HCF : Hid (∀ (W : World) (B g g' : Nat) (ts : List BkR), NewDv W B (some ⟨g, 0, none⟩) n n (some ⟨g', 0, none⟩) m m (bs.map BkR.D) fs ts → CR W (some ⟨g, 0, none⟩) n ts ∧ FR W (some ⟨g', 0, none⟩) m fs) := fun W B g g' ts h => ⟨⟨by rw [h.bs.len, HN.out], by rw [h.bs.D]; exact htot.out, h.bs.rd⟩, OwnFa.fr h.fs hmt.out⟩
  have CBy : Hid (∀ (W : World), Rd W ab zs → _) := fun (W : World) (h : Rd W ab zs) => toByteS_any ab lb cb zs W hzl (by omega) h
  have HRBB : Hid (Rd w ab zs) := hrb
  have HZL : Hid (zs.length = lb) := hzl
  obtain ⟨R, hR⟩ : ∃ R, wrOut (bs.map BkR.D) ops fs down seq kind zs spare = R := ⟨_, rfl⟩
  have hok := wrOut_ok (ops := ops) (fs := fs) (down := down) (seq := seq) (kind := kind) (body := zs) (spare := spare) htot.out
  rw [hR] at hok
  obtain ⟨⟨dE, oE, wE⟩, mE, adr, code⟩ := R
  dsimp only at hok
  obtain ⟨sE, hsE⟩ : ∃ x, WrA.sq ⟨⟨dE, oE, wE⟩, mE, adr, code⟩ seq = x := ⟨_, rfl⟩
  have HE : Hid (dE.length = n) := by show _ = _; rw [hok.2]; exact HN.out
  have HT : Hid (totB dE ≤ 1048576) := hok.1
  have cS : ∀ (W : World) (B g g' gb : Nat) (ts : List BkR), Rd W (some ⟨gb, 0, none⟩) zs → NewDv W B (some ⟨g, 0, none⟩) n n (some ⟨g', 0, none⟩) m m (bs.map BkR.D) fs ts → Calls Tryz.prog 8 #[.agg #[.slice (some ⟨g, 0, none⟩) n n, .int .i64 ops, .slice (some ⟨g', 0, none⟩) m m, .bool down, .int .i64 seq], .int .i64 kind, .slice (some ⟨gb, 0, none⟩) lb lb, .int .i64 spare] W fun e w' => ∃ a c fa fc qs, e = .returned (.tuple #[.agg #[.slice a n c, .int .i64 oE, .slice fa m fc, .bool wE, .int .i64 sE], .int .i64 adr, .int .i64 code]) ∧ NewDv w' W.heap.size a n c fa m fc dE fs qs ∧ Below W.heap.size W w' := fun W B g g' gb ts hb h => by
    have := writeS (some ⟨g, 0, none⟩) n n ts ops (some ⟨g', 0, none⟩) m m fs down seq kind zs (some ⟨gb, 0, none⟩) lb lb spare W (HCF.out W B g g' ts h).1 (HCF.out W B g g' ts h).2 hzl (by omega) hb hby
    rw [h.bs.D, hR, hsE] at this
    unfold WrA.D at this
    dsimp only at this
    exact this.mono fun e w' hA => by
      obtain ⟨a, k, c, fa, j, fc, qs, e1, e2, e3, e4⟩ := hA
      have hk : k = n := by rw [← e3, e2.bs.len, HE.out]
      have hj : j = m := by rw [← OwnE.len e2.fs, hnf]
      subst hk hj
      dsimp only at e1 e2
      exact ⟨a, c, fa, fc, qs, e1, e2, e4⟩
  have cI : ∀ (W : World) (B g g' gb : Nat) (ts : List BkR), EtCell W → Rd W (some ⟨gb, 0, none⟩) zs → NewDv W B (some ⟨g, 0, none⟩) n n (some ⟨g', 0, none⟩) m m (bs.map BkR.D) fs ts → Calls Tryz.prog 11 #[.agg #[.slice (some ⟨g, 0, none⟩) n n, .int .i64 ops, .slice (some ⟨g', 0, none⟩) m m, .bool down, .int .i64 seq], .int .i64 kind, .slice (some ⟨gb, 0, none⟩) lb lb, .int .i64 spare] W fun e w' => ∃ a c fa fc qs, e = .returned (.tuple #[.agg #[.slice a n c, .int .i64 oE, .slice fa m fc, .bool wE, .int .i64 sE], .int .i64 adr, .int .i64 code]) ∧ NewDv w' W.heap.size a n c fa m fc dE fs qs ∧ Below W.heap.size W w' := fun W B g g' gb ts hE hb h => by
    have := writeI (some ⟨g, 0, none⟩) n n ts ops (some ⟨g', 0, none⟩) m m fs down seq kind zs (some ⟨gb, 0, none⟩) lb lb spare W (HCF.out W B g g' ts h).1 (HCF.out W B g g' ts h).2 hzl (by omega) hb hby hE
    rw [h.bs.D, hR, hsE] at this
    unfold WrA.D at this
    dsimp only at this
    exact this.mono fun e w' hA => by
      obtain ⟨a, k, c, fa, j, fc, qs, e1, e2, e3, e4⟩ := hA
      have hk : k = n := by rw [← e3, e2.bs.len, HE.out]
      have hj : j = m := by rw [← OwnE.len e2.fs, hnf]
      subst hk hj
      dsimp only at e1 e2
      exact ⟨a, c, fa, fc, qs, e1, e2, e4⟩
  have hcb : Hid (∀ ts : List BkR, ts.map BkR.D = bs.map BkR.D → 1 + cBs ts + 3 * m ≤ 9999990) := fun ts h => by
    have := cBs_le ts
    rw [h] at this
    have h2 := htot.out
    have h3 := hmt.out
    omega
  have hcbE : Hid (∀ ts : List BkR, ts.map BkR.D = dE → 1 + cBs ts + 3 * m ≤ 9999990) := fun ts h => by
    have := cBs_le ts
    rw [h] at this
    have h2 := HT.out
    have h3 := hmt.out
    omega
  have CS : Hid _ := cS
  have CI : Hid _ := cI
  have HG : Hid (EtCell w) := hg
  have hoo : (code != code) = false := by simp
  have hoa : (adr != adr) = false := by simp
  clear cS cI hr hn hi hm B0 z0 b1 hnf hrf hg hzl hrb hby hR hsE hok
  have q0 := (z1).cell 0
  have q1 := (z1).cell 1
  have q2 := (z1).cell 2
  have q3 := (z1).cell 3
  have q4 := (z1).cell 4
  simp at q0 q1 q2 q3 q4
  obtain ⟨G0, hG0⟩ : ∃ G, w.heap.size = G := ⟨_, rfl⟩
  have hG0' : Hid (w.heap.size = G0) := hG0
  rw [hG0] at z1 q0 q1 q2 q3 q4 ⊢
  go_wp2_with fail
  refine (CA.out w1 (HRA.out _ B1)).mono ?_
  rintro e w2 ⟨gA, hA, tA, rfl, qA, b2⟩
  have B2 := B1.trans (b2.mono B1.size)
  have z2 := z1.keep b2
  clear q0 q1 q2 q3 q4 z1 b2
  go_wp2_with fail
  refine (CBy.out w2 (Rd.keep HRBB.out B2)).mono ?_
  rintro e w2b ⟨rfl, oA, bb⟩
  replace B2 := B2.trans (bb.mono B2.size)
  replace z2 := z2.keep bb
  replace qA := qA.keep bb
  have hz2 := z2.lt
  clear bb
  obtain ⟨Ga2, hGA⟩ : ∃ G, w2.heap.size = G := ⟨_, rfl⟩
  rw [hGA] at oA ⊢
  clear hGA
  go_wp2_with fail
  refine (CS.out w2b _ gA hA Ga2 tA oA.rd qA).mono ?_
  rintro e w3 ⟨aS, cpS, fS, kS, tS, rfl, qS, b3⟩
  clear oA
  have B3 := B2.trans (b3.mono B2.size)
  have z3 := z2.keep b3
  have b3' : Below w3.heap.size w3 (w3.alloc (.cells #[.slice aS n cpS, .int .i64 oE, .slice fS m kS, .bool wE, .int .i64 sE] 39)) := (Below.refl _ w3).alloc (Nat.le_refl _) _
  have s3 := Blk.new w3 39 #[.slice aS n cpS, .int .i64 oE, .slice fS m kS, .bool wE, .int .i64 sE]
  have q0 := (z3.keep b3').cell 0
  have q1 := (z3.keep b3').cell 1
  have q2 := (z3.keep b3').cell 2
  have q3 := (z3.keep b3').cell 3
  have q4 := (z3.keep b3').cell 4
  simp at q0 q1 q2 q3 q4
  clear qA z2 b3
  go_wp2_with fail
  obtain ⟨W3, hW3⟩ : ∃ W, w3.alloc (.cells #[.slice aS n cpS, .int .i64 oE, .slice fS m kS, .bool wE, .int .i64 sE] 39) = W := ⟨_, rfl⟩
  rw [hW3] at b3' s3 q0 q1 q2 q3 q4 ⊢
  clear hW3
  obtain ⟨GS, hGS⟩ : ∃ G, w3.heap.size = G := ⟨_, rfl⟩
  have hSl : Hid (∀ g ∈ fpDv aS n cpS fS m kS tS, G0 < g ∧ g < GS) := fun g hg => by
    have h1 := qS.from g hg
    have h2 := qS.lt g hg
    exact ⟨by omega, by omega⟩
  rw [hGS] at s3 ⊢
  have hG0S : G0 < GS := by have := z3.lt; omega
  have B3' := B3.trans (b3'.mono B3.size)
  have z3' := z3.keep b3'
  have qS3 := qS.keep b3'
  have hGS3 := s3.lt
  clear qS z3 b3' B3 hGS
  refine (CA.out W3 (HRA.out _ B3')).mono ?_
  rintro e w4 ⟨gB, hB, tB, rfl, qB, b4⟩
  have B4 := B3'.trans (b4.mono B3'.size)
  have z4 := z3'.keep b4
  have s4 := s3.keep b4
  have qS4 := qS3.keep b4
  have b5 : Below w4.heap.size w4 (w4.alloc (.cells #[.slice (some ⟨gB, 0, none⟩) n n, .int .i64 ops, .slice (some ⟨hB, 0, none⟩) m m, .bool down, .int .i64 seq] 39)) := (Below.refl _ w4).alloc (Nat.le_refl _) _
  have m5 := Blk.new w4 39 #[.slice (some ⟨gB, 0, none⟩) n n, .int .i64 ops, .slice (some ⟨hB, 0, none⟩) m m, .bool down, .int .i64 seq]
  clear q0 q1 q2 q3 q4 z3' b4 qS3 s3 B3'
  go_wp2_with fail
  obtain ⟨W5, hW5⟩ : ∃ W, w4.alloc (.cells #[.slice (some ⟨gB, 0, none⟩) n n, .int .i64 ops, .slice (some ⟨hB, 0, none⟩) m m, .bool down, .int .i64 seq] 39) = W := ⟨_, rfl⟩
  rw [hW5] at b5 m5 ⊢
  clear hW5
  obtain ⟨G4, hG4⟩ : ∃ G, w4.heap.size = G := ⟨_, rfl⟩
  have hBl : Hid (∀ g ∈ fpDv (some ⟨gB, 0, none⟩) n n (some ⟨hB, 0, none⟩) m m tB, GS < g ∧ g < G4) := fun g hg => by
    have h1 := qB.from g hg
    have h2 := qB.lt g hg
    exact ⟨by omega, by omega⟩
  rw [hG4] at m5 ⊢
  have hGS4 : GS < G4 := by have := s4.lt; omega
  have B5 := B4.trans (b5.mono B4.size)
  have z5 := z4.keep b5
  have s5 := s4.keep b5
  have qS5 := qS4.keep b5
  have qB5 := qB.keep b5
  have hG45 := m5.lt
  clear qB z4 s4 b5 qS4 B4 hG4
  refine (CBy.out W5 (Rd.keep HRBB.out B5)).mono ?_
  rintro e w5b ⟨rfl, oX', bb⟩
  have oX : RowB w5b (.slice (some ⟨W5.heap.size, 0, none⟩) lb lb) lb zs := OwnV.rowB oX'
  have hoX := Own.lt oX'
  clear oX'
  replace B5 := B5.trans (bb.mono B5.size)
  replace z5 := z5.keep bb
  replace s5 := s5.keep bb
  replace m5 := m5.keep bb
  replace qS5 := qS5.keep bb
  replace qB5 := qB5.keep bb
  clear bb
  obtain ⟨Gx2, hGx2⟩ : ∃ G, W5.heap.size = G := ⟨_, rfl⟩
  rw [hGx2] at oX hoX hG45 ⊢
  clear hGx2
  have p0 := m5.cell 0
  have p1 := m5.cell 1
  have p2 := m5.cell 2
  have p3 := m5.cell 3
  have p4 := m5.cell 4
  simp at p0 p1 p2 p3 p4
  go_wp2_with fail
  clear p0 p1 p2 p3 p4
  refine (CI.out w5b _ gB hB Gx2 tB (HG.out.keep B5) oX.rdS qB5).mono ?_
  rintro e w6 ⟨aI, cpI, fI, kI, tI, rfl, qI, b6⟩
  have B6 := B5.trans (b6.mono B5.size)
  have z6 := z5.keep b6
  have s6 := s5.keep b6
  have m6 := m5.keep b6
  have qB6 := qB5.keep b6
  have qS6 := qS5.keep b6
  have oX6 := oX.keepB b6
  clear oX
  have b6' : Below w6.heap.size w6 (w6.alloc (.cells #[.slice aI n cpI, .int .i64 oE, .slice fI m kI, .bool wE, .int .i64 sE] 39)) := (Below.refl _ w6).alloc (Nat.le_refl _) _
  have i6 := Blk.new w6 39 #[.slice aI n cpI, .int .i64 oE, .slice fI m kI, .bool wE, .int .i64 sE]
  have sx0 := (s6.keep b6').cell 0
  have sx1 := (s6.keep b6').cell 1
  have sx2 := (s6.keep b6').cell 2
  have sx3 := (s6.keep b6').cell 3
  have sx4 := (s6.keep b6').cell 4
  simp at sx0 sx1 sx2 sx3 sx4
  clear qB5 z5 m5 b6 qS5 s5 B5
  go_wp2_with fail
  obtain ⟨W6, hW6⟩ : ∃ W, w6.alloc (.cells #[.slice aI n cpI, .int .i64 oE, .slice fI m kI, .bool wE, .int .i64 sE] 39) = W := ⟨_, rfl⟩
  rw [hW6] at b6' i6 sx0 sx1 sx2 sx3 sx4 ⊢
  clear hW6 sx0 sx1 sx2 sx3 sx4
  obtain ⟨GI, hGI⟩ : ∃ G, w6.heap.size = G := ⟨_, rfl⟩
  have hIl : Hid (∀ g ∈ fpDv aI n cpI fI m kI tI, G4 < g ∧ g < GI ∧ Gx2 < g) := fun g hg => by
    have h1 := qI.from g hg
    have h2 := qI.lt g hg
    exact ⟨by omega, by omega, by omega⟩
  rw [hGI] at i6 ⊢
  have hG4I : G4 < GI := by have := m6.lt; omega
  have hGXI : Gx2 < GI := by have := (RowB.at_ oX6 (g := Gx2) rfl).1; omega
  have B6' := B6.trans (b6'.mono B6.size)
  have z6' := z6.keep b6'
  have s6' := s6.keep b6'
  have m6' := m6.keep b6'
  have qB6' := qB6.keep b6'
  have qS6' := qS6.keep b6'
  have qI6' := qI.keep b6'
  have oX6' := oX6.keepB b6'
  clear qB6 z6 m6 b6' qS6 s6 B6 qI hGI oX6
  refine (eqLg oE wE sE HE.out (Nat.le_trans HT.out (by omega)) hmt.out qI6' qS6').mono ?_
  rintro e w7 ⟨rfl, b7⟩
  have B7 := B6'.trans (b7.mono B6'.size)
  have z7 := z6'.keep b7
  have s7 := s6'.keep b7
  have m7 := m6'.keep b7
  have i7 := i6.keep b7
  have qB7 := qB6'.keep b7
  have qS7 := qS6'.keep b7
  have qI7 := qI6'.keep b7
  have oX7 := oX6'.keepB b7
  clear qB6' z6' m6' b7 qS6' s6' B6' qI6' i6 oX6'
  have q0 := z7.cell 0
  have q1 := z7.cell 1
  have q2 := z7.cell 2
  have q3 := z7.cell 3
  have q4 := z7.cell 4
  have p0 := m7.cell 0
  have p1 := m7.cell 1
  have p2 := m7.cell 2
  have p3 := m7.cell 3
  have p4 := m7.cell 4
  simp at q0 q1 q2 q3 q4 p0 p1 p2 p3 p4
  have r7 := HRA.out _ B7.drew
  have b7d := (Below.refl w7.heap.size w7).drew
  have qB7d := qB7.keep b7d
  have m7d := m7.keep b7d
  have HC7 : Hid (NewDv w7.drew W3.heap.size (some ⟨gB, 0, none⟩) n n (some ⟨hB, 0, none⟩) m m (bs.map BkR.D) fs tB ∧ NewDv w7.drew w2b.heap.size aS n cpS fS m kS dE fs tS ∧ NewDv w7.drew w5b.heap.size aI n cpI fI m kI dE fs tI ∧ Blk w7.drew G0 29 #[.slice a n cap, .int .i64 ops, .slice fa m fc, .bool down, .int .i64 seq] ∧ Blk w7.drew GS 39 #[.slice aS n cpS, .int .i64 oE, .slice fS m kS, .bool wE, .int .i64 sE] ∧ Blk w7.drew G4 39 #[.slice (some ⟨gB, 0, none⟩) n n, .int .i64 ops, .slice (some ⟨hB, 0, none⟩) m m, .bool down, .int .i64 seq] ∧ Blk w7.drew GI 39 #[.slice aI n cpI, .int .i64 oE, .slice fI m kI, .bool wE, .int .i64 sE] ∧ RowB w7.drew (.slice (some ⟨Gx2, 0, none⟩) lb lb) lb zs ∧ Below w.heap.size w w7.drew) := ⟨qB7d, qS7.keep b7d, qI7.keep b7d, z7.keep b7d, s7.keep b7d, m7d, i7.keep b7d, oX7.keepB b7d, B7.drew⟩
  clear qB7 z7 m7 b7d B7 qS7 qI7 s7 i7 oX7
  go_wp2
  go_region_with (first
    | (go_at_call 9; (with_reducible refine (CA.out _ r7).mono ?_); rintro e wA ⟨gC, hC, tC, rfl, qC, b9⟩; have qAA := qB7d.keep b9; have t0 := (m7d.keep b9).cell 0; have t1 := (m7d.keep b9).cell 1; have t2 := (m7d.keep b9).cell 2; have t3 := (m7d.keep b9).cell 3; have t4 := (m7d.keep b9).cell 4; simp at t0 t1 t2 t3 t4)
    | (go_at_call 12; refine (eqLg ops down seq HN.out (Nat.le_trans htot.out (by omega)) hmt.out qAA qC).mono ?_; rintro e w8 ⟨rfl, b10⟩))
  all_goals
    have b11 := b9.trans (b10.mono b9.size)
    obtain ⟨qB8, qS8, qI8, z8, s8, m8, i8, oX8, B8⟩ := HC7.out
    replace qB8 := qB8.keep b11
    replace qS8 := qS8.keep b11
    replace qI8 := qI8.keep b11
    replace z8 := z8.keep b11
    replace s8 := s8.keep b11
    replace m8 := m8.keep b11
    replace i8 := i8.keep b11
    replace oX8 := oX8.keepB b11
    replace B8 := B8.trans (b11.mono B8.size)
    clear b9 b10 b11 qC qAA r7 qB7d m7d q0 q1 q2 q3 q4 p0 p1 p2 p3 p4 HC7
    try clear t0 t1 t2 t3 t4
    go_wp2_with fail
    refine (CBy.out w8 (Rd.keep HRBB.out B8)).mono ?_
    rintro e w8b ⟨rfl, oC, bb⟩
    replace oX8 := oX8.keepB bb
    obtain ⟨Gc2, hGC⟩ : ∃ G, w8.heap.size = G := ⟨_, rfl⟩
    rw [hGC] at oC ⊢
    clear hGC
    go_wp2_with fail
    refine (eqByteS_true (some ⟨Gx2, 0, none⟩) (some ⟨Gc2, 0, none⟩) lb lb lb zs w8b HZL.out (by omega) oX8.rdS oC.rd).mono ?_
    rintro e w8c ⟨rfl, bc⟩
    replace bb := bb.trans (bc.mono bb.size)
    replace oX8 := oX8.keepB bc
    replace qB8 := qB8.keep bb
    replace qS8 := qS8.keep bb
    replace qI8 := qI8.keep bb
    replace z8 := z8.keep bb
    replace s8 := s8.keep bb
    replace m8 := m8.keep bb
    replace i8 := i8.keep bb
    replace B8 := B8.trans (bb.mono B8.size)
    clear bb bc oC
    have p0 := m8.cell 0
    have p1 := m8.cell 1
    have p2 := m8.cell 2
    have p3 := m8.cell 3
    have p4 := m8.cell 4
    simp at p0 p1 p2 p3 p4
    go_wp2_with fail
    have hcbo := hcb.out tB qB8.bs.D
    refine (markLg_any ops down seq hcbo qB8).mono ?_
    rintro e w9 ⟨rfl, _, sv9⟩
    have qS9 := qS8.svs sv9 (fun g hg hf => by have := hSl.out g hg; have := hBl.out g hf; omega)
    have qI9 := qI8.svs sv9 (fun g hg hf => by have := hIl.out g hg; have := hBl.out g hf; omega)
    have z9 := Blk.svs z8 sv9 (fun hf => by have := hBl.out G0 hf; omega)
    have s9 := Blk.svs s8 sv9 (fun hf => by have := hBl.out GS hf; omega)
    have i9 := Blk.svs i8 sv9 (fun hf => by have := hBl.out GI hf; omega)
    have B9 : Below w.heap.size w w9 := Below.svs B8 sv9 (fun g hg => by have := hBl.out g hg; have := hG0'.out; omega) (Nat.le_refl _)
    have oX9 := oX8.svs sv9 (fun g hg hf => by
      have h1 := hBl.out g hf
      have h2 : Gx2 = g := by simpa [Value.ownBlock] using hg
      omega)
    obtain ⟨Q, hQ⟩ : ∃ Q, 1 + cBs tB + 3 * m = Q := ⟨_, rfl⟩
    rw [hQ]
    have hQ1 : 1 ≤ Q := by omega
    have hQ2 : Q + lb ≤ 9999990 := by have h1 := cBs_le tB; rw [qB8.bs.D] at h1; have h2 := htot.out; have h3 := hmt.out; omega
    clear hQ hcbo sv9 qS8 qI8 z8 s8 m8 i8 B8 qB8 p0 p1 p2 p3 p4 oX8
    go_wp2_with fail
    refine (markBG (.slice (some ⟨Gx2, 0, none⟩) lb lb) lb Q zs w9 hQ1 hQ2 oX9).mono ?_
    rintro e w9b ⟨rfl, _, hgr⟩
    have sv9 : Sv [Gx2] w9 w9b := Sv.gr hgr (fun g hg => by simp [Value.ownBlock] at hg; simp [hg])
    replace qS9 := qS9.svs sv9 (fun g hg hf => by have h1 := hSl.out g hg; have h2 : g = Gx2 := (by simpa using hf); omega)
    replace qI9 := qI9.svs sv9 (fun g hg hf => by have h1 := hIl.out g hg; have h2 : g = Gx2 := (by simpa using hf); omega)
    replace z9 := Blk.svs z9 sv9 (fun hf => by have h2 : G0 = Gx2 := (by simpa using hf); omega)
    replace s9 := Blk.svs s9 sv9 (fun hf => by have h2 : GS = Gx2 := (by simpa using hf); omega)
    replace i9 := Blk.svs i9 sv9 (fun hf => by have h2 : GI = Gx2 := (by simpa using hf); omega)
    replace B9 : Below w.heap.size w w9b := Below.svs B9 sv9 (fun g hg => by have h2 : g = Gx2 := (by simpa using hg); have := hG0'.out; omega) (Nat.le_refl _)
    obtain ⟨QL, hQL⟩ : ∃ QL, Q + lb = QL := ⟨_, rfl⟩
    rw [hQL]
    have hQ0 : ¬ (QL : Int) < 0 := by omega
    clear hQL sv9 hgr oX9
    have sx0 := s9.cell 0
    have sx1 := s9.cell 1
    have sx2 := s9.cell 2
    have sx3 := s9.cell 3
    have sx4 := s9.cell 4
    have i0 := i9.cell 0
    have i1 := i9.cell 1
    have i2 := i9.cell 2
    have i3 := i9.cell 3
    have i4 := i9.cell 4
    simp at sx0 sx1 sx2 sx3 sx4 i0 i1 i2 i3 i4
    go_wp2_with fail
    refine (eqLg oE wE sE HE.out (Nat.le_trans HT.out (by omega)) hmt.out qI9 qS9).mono ?_
    rintro e w10 ⟨rfl, b10⟩
    have qS10 := qS9.keep b10
    have qI10 := qI9.keep b10
    have z10 := z9.keep b10
    have s10 := s9.keep b10
    have i10 := i9.keep b10
    have B10 := B9.trans (b10.mono B9.size)
    clear qS9 qI9 z9 s9 i9 B9 b10 sx0 sx1 sx2 sx3 sx4 i0 i1 i2 i3 i4
    have i0 := i10.cell 0
    have i1 := i10.cell 1
    have i2 := i10.cell 2
    have i3 := i10.cell 3
    have i4 := i10.cell 4
    simp at i0 i1 i2 i3 i4
    have hcbI := hcbE.out tI qI10.bs.D
    go_wp2_with fail
    refine (markLg_any oE wE sE hcbI qI10).mono ?_
    rintro e w11 ⟨rfl, oI, sv11⟩
    have qS11 := qS10.svs sv11 (fun g hg hf => by have := hSl.out g hg; have := hIl.out g hf; omega)
    have z11 := Blk.svs z10 sv11 (fun hf => by have := hIl.out G0 hf; omega)
    have s11 := Blk.svs s10 sv11 (fun hf => by have := hIl.out GS hf; omega)
    have i11 := Blk.svs i10 sv11 (fun hf => by have := hIl.out GI hf; omega)
    have B11 : Below w.heap.size w w11 := Below.svs B10 sv11 (fun g hg => by have := hIl.out g hg; have := hG0'.out; omega) (Nat.le_refl _)
    obtain ⟨M, hM⟩ : ∃ M, 1 + cBs tI + 3 * m = M := ⟨_, rfl⟩
    have CH : Hid (∀ W : World, MkDv W (.slice aI n cpI) m kI fI tI → Calls Tryz.prog 16 #[.agg #[.slice aI n cpI, .int .i64 oE, .slice fI m kI, .bool wE, .int .i64 sE], .int .i64 1] W fun e w' => e = .returned (.int .i64 (M : Int)) ∧ Below W.heap.size W w') := fun W h => heldLg_any oE wE sE M hM hcbI h
    rw [hM]
    have hM0 : ¬ (M : Int) < 0 := by omega
    have hMM : ((M : Int) != (M : Int)) = false := by simp
    clear hM hcbI sv11 qS10 qI10 z10 s10 i10 B10 i0 i1 i2 i3 i4
    have i0 := i11.cell 0
    have i1 := i11.cell 1
    have i2 := i11.cell 2
    have i3 := i11.cell 3
    have i4 := i11.cell 4
    simp at i0 i1 i2 i3 i4
    go_wp2_with fail
    refine (CH.out w11 oI).mono ?_
    rintro e w12 ⟨rfl, b12⟩
    have qS12 := qS11.keep b12
    have oI12 := oI.keep b12
    have z12 := z11.keep b12
    have s12 := s11.keep b12
    have i12 := i11.keep b12
    have B12 := B11.trans (b12.mono B11.size)
    clear qS11 oI z11 s11 i11 B11 b12 i0 i1 i2 i3 i4
    have q0 := z12.cell 0
    have q1 := z12.cell 1
    have q2 := z12.cell 2
    have q3 := z12.cell 3
    have q4 := z12.cell 4
    simp at q0 q1 q2 q3 q4
    go_wp2_with fail
    refine (CA.out w12 (HRA.out _ B12)).mono ?_
    rintro e w13 ⟨gD, hD, tD, rfl, qD, b13⟩
    have qS13 := qS12.keep b13
    have oI13 := oI12.keep b13
    have s13 := s12.keep b13
    have i13 := i12.keep b13
    have B13 := B12.trans (b13.mono B12.size)
    clear qS12 oI12 z12 s12 i12 B12 b13 q0 q1 q2 q3 q4
    go_wp2_with fail
    refine (CBy.out w13 (Rd.keep HRBB.out B13)).mono ?_
    rintro e w13b ⟨rfl, oD, bb⟩
    replace qD := qD.keep bb
    replace qS13 := qS13.keep bb
    replace oI13 := oI13.keep bb
    replace s13 := s13.keep bb
    replace i13 := i13.keep bb
    replace B13 := B13.trans (bb.mono B13.size)
    clear bb
    obtain ⟨Gd2, hGD⟩ : ∃ G, w13.heap.size = G := ⟨_, rfl⟩
    rw [hGD] at oD ⊢
    clear hGD
    go_wp2_with fail
    refine (CI.out w13b _ gD hD Gd2 tD (HG.out.keep B13) oD.rd qD).mono ?_
    rintro e w14 ⟨aJ, cpJ, fJ, kJ, tJ, rfl, qJ, b14⟩
    have qS14 := qS13.keep b14
    have oI14 := oI13.keep b14
    have s14 := s13.keep b14
    have i14 := i13.keep b14
    have B14 := B13.trans (b14.mono B13.size)
    have b15 : Below w14.heap.size w14 (w14.alloc (.cells #[.slice aJ n cpJ, .int .i64 oE, .slice fJ m kJ, .bool wE, .int .i64 sE] 39)) := (Below.refl _ w14).alloc (Nat.le_refl _) _
    have sx0 := (s14.keep b15).cell 0
    have sx1 := (s14.keep b15).cell 1
    have sx2 := (s14.keep b15).cell 2
    have sx3 := (s14.keep b15).cell 3
    have sx4 := (s14.keep b15).cell 4
    simp at sx0 sx1 sx2 sx3 sx4
    clear qS13 oI13 s13 i13 B13 b14 qD oD
    go_wp2_with fail
    obtain ⟨W15, hW15⟩ : ∃ W, w14.alloc (.cells #[.slice aJ n cpJ, .int .i64 oE, .slice fJ m kJ, .bool wE, .int .i64 sE] 39) = W := ⟨_, rfl⟩
    rw [hW15] at b15 sx0 sx1 sx2 sx3 sx4 ⊢
    clear hW15 sx0 sx1 sx2 sx3 sx4
    have qS15 := qS14.keep b15
    have qJ15 := qJ.keep b15
    have oI15 := oI14.keep b15
    have i15 := i14.keep b15
    have B15 := B14.trans (b15.mono B14.size)
    clear qS14 qJ oI14 s14 i14 B14 b15
    refine (eqLg oE wE sE HE.out (Nat.le_trans HT.out (by omega)) hmt.out qJ15 qS15).mono ?_
    rintro e w16 ⟨rfl, b16⟩
    have oI16 := oI15.keep b16
    have i16 := i15.keep b16
    have B16 := B15.trans (b16.mono B15.size)
    clear qS15 qJ15 oI15 i15 B15 b16
    have i0 := i16.cell 0
    have i1 := i16.cell 1
    have i2 := i16.cell 2
    have i3 := i16.cell 3
    have i4 := i16.cell 4
    simp at i0 i1 i2 i3 i4
    go_wp2_with fail
    refine (CH.out w16 oI16).mono ?_
    rintro e w17 ⟨rfl, b17⟩
    have B17 := B16.trans (b17.mono B16.size)
    clear oI16 i16 B16 b17 i0 i1 i2 i3 i4
    go_wp2
    go_ret
    rw [← hG0'.out]
    exact ⟨rfl, B17⟩
end
end Go.Proofs.YtnhbhpbmnlojlaaGreatDoor
