/-
  Joined: LogV.
-/
import Derived.Test.YtnhbhpbmnlojlaaGreatDoorJ00W
import Derived.Test.YtnhbhpbmnlojlaaGreatDoorJ01W
import Derived.Test.YtnhbhpbmnlojlaaGreatDoorJ02W
import Derived.Test.YtnhbhpbmnlojlaaGreatDoorJ03W
import Derived.Test.YtnhbhpbmnlojlaaGreatDoorJ04W
import Derived.Test.YtnhbhpbmnlojlaaGreatDoorJ05W
import Derived.Test.YtnhbhpbmnlojlaaGreatDoorJ06W
import Derived.Test.YtnhbhpbmnlojlaaGreatDoorJ07W
import Derived.Test.YtnhbhpbmnlojlaaGreatDoorJ08W
import Derived.Test.YtnhbhpbmnlojlaaGreatDoorJ09W
import Derived.Test.YtnhbhpbmnlojlaaGreatDoorJ10W
import Derived.Test.YtnhbhpbmnlojlaaGreatDoorJ11W
import Derived.Test.YtnhbhpbmnlojlaaGreatDoorJ12W
import Derived.Test.YtnhbhpbmnlojlaaGreatDoorJ13W
import Derived.Test.YtnhbhpbmnlojlaaGreatDoorJ14W
import Derived.Test.YtnhbhpbmnlojlaaGreatDoorJ15W
import Derived.Test.YtnhbhpbmnlojlaaGreatDoorJ16W
import Derived.Test.YtnhbhpbmnlojlaaGreatDoorJ17W
import Derived.Test.YtnhbhpbmnlojlaaGreatDoorJ18W
import Derived.Test.YtnhbhpbmnlojlaaGreatDoorJ19W
import Derived.Test.YtnhbhpbmnlojlaaGreatDoorDrKW
import Derived.Test.YtnhbhpbmnlojlaaGreatDoorEntsOkW
import Derived.Test.YtnhbhpbmnlojlaaGreatDoorJ22W
import Derived.Test.YtnhbhpbmnlojlaaGreatDoorJ23W
import Derived.Test.YtnhbhpbmnlojlaaGreatDoorJ24W
import Derived.Test.YtnhbhpbmnlojlaaGreatDoorJ25W
import Derived.Test.YtnhbhpbmnlojlaaGreatDoorJ26W
import Derived.Test.YtnhbhpbmnlojlaaGreatDoorJ27W
import Derived.Test.YtnhbhpbmnlojlaaGreatDoorJ28W
import Derived.Test.YtnhbhpbmnlojlaaGreatDoorJ29W
import Derived.Test.YtnhbhpbmnlojlaaGreatDoorJ30W
import Derived.Test.YtnhbhpbmnlojlaaGreatDoorJ31W
import Derived.Test.YtnhbhpbmnlojlaaGreatDoorJ32W
import Derived.Test.YtnhbhpbmnlojlaaGreatDoorJ33W
import Derived.Test.YtnhbhpbmnlojlaaGreatDoorJ34W
import Derived.Test.YtnhbhpbmnlojlaaGreatDoorJ35W
import Derived.Test.YtnhbhpbmnlojlaaGreatDoorJ36W
import Derived.Test.YtnhbhpbmnlojlaaGreatDoorWrZ
import Derived.WalkKit
import Derived.WalkSpells
import Derived.WalkLawsBesides
import Derived.Deep.QuietTactic
import Derived.BigQuiet
import Derived.OpenShut
import Derived.Laws.BitsAllLaws
import Derived.Maps.AppendAt
import Derived.Lib.SliceRun
import Derived.Lib.Strings
import Derived.Deep.RegionWith
import Derived.Laws.IdiomStrings
import Derived.Deep.Slices
import Derived.ProofKit
import Derived.ChangeOld
import Derived.Below
import Derived.Deep.DeepCutAuto
import Derived.Lib.AppendStr
import Derived.Lib.ConvBytes
import Derived.Deep.RegionHeld3
import Derived.Deep.AppendLies
import Derived.Deep.AppendSrc
import Derived.Deep.RegionLaw
import Derived.Deep.MidRow
import Derived.Deep.WholeRow
import Derived.Deep.RegionHeld
import Derived.LaidEql
import Derived.Stop.Asserts
import Derived.RowKitTokens
import Derived.Maps.OwnSet
import Derived.Maps.OwnOps
import Derived.Defers
import Derived.Recover
import Derived.WalkMore
import Derived.Laws.StructEq
import Derived.Laws.BytesString
import Derived.ArgAppend
import Derived.Laws.BitsLemmas
import Derived.Deep.OwnRows
import Derived.Deep.CutBlock
namespace Go.Proofs.YtnhbhpbmnlojlaaGreatDoor
section
open Go.RowKit
/-- Behind Write's first statement: the log's copy in its box, the record in its own. -/
def WRR (w : World) (H : Nat) (c0 : Array Value) (D : DvD) (seq kind : Int) (ab : Option Addr) (lb cbb : Nat) (p q : Value) (W : World) : Prop :=
  ∃ (X Y : Nat) (a1 : Option Addr) (n1 c1 : Nat) (fa1 : Option Addr) (m1 fc1 : Nat) (qs : List BkR), p = .pointer (some ⟨X, 0, none⟩) ∧ q = .pointer (some ⟨Y, 0, none⟩) ∧
    Blk W X 39 #[.slice a1 n1 c1, .int .i64 D.ops, .slice fa1 m1 fc1, .bool D.down, .int .i64 seq] ∧ Blk W Y 57 #[.int .i64 kind, .int .i64 seq, .slice ab lb cbb] ∧ NewDv W (H + 1 + 1) a1 n1 c1 fa1 m1 fc1 D.ds D.fs qs ∧ qs.length = n1 ∧
    Blk W H 39 c0 ∧ Blk W (H + 1) 39 #[.slice none 0 0, .int .i64 0, .slice none 0 0, .bool false, .int .i64 0] ∧ Below w.heap.size w W ∧ H + 1 < X ∧ H + 1 < Y ∧ X ≠ Y
theorem wrr_of {w U WZ : World} {H X Y : Nat} {c0 : Array Value} {D : DvD} {seq kind : Int} {ab : Option Addr} {lb cbb : Nat} {a1 : Option Addr} {n1 c1 : Nat} {fa1 : Option Addr} {m1 fc1 : Nat} {qs : List BkR} (hH : w.heap.size = H) (hb : Below w.heap.size w U) (z0 : Blk U H 39 c0) (z1 : Blk U (H + 1) 39 #[.slice none 0 0, .int .i64 0, .slice none 0 0, .bool false, .int .i64 0])
    (h : Blk WZ X 39 #[.slice none 0 0, .int .i64 0, .slice none 0 0, .bool false, .int .i64 0] ∧ Blk WZ Y 57 #[.int .i64 0, .int .i64 0, .slice none 0 0] ∧ NewDv WZ (H + 1 + 1) a1 n1 c1 fa1 m1 fc1 D.ds D.fs qs ∧ qs.length = n1 ∧ Below U.heap.size U WZ ∧ X ∉ fpDv a1 n1 c1 fa1 m1 fc1 qs ∧ Y ∉ fpDv a1 n1 c1 fa1 m1 fc1 qs ∧ H + 1 < X ∧ H + 1 < Y ∧ X ≠ Y) :
    WRR w H c0 D seq kind ab lb cbb (.pointer (some ⟨X, 0, none⟩)) (.pointer (some ⟨Y, 0, none⟩)) (((((((((WZ.setCell ⟨X, 0, none⟩ (.slice a1 n1 c1)).setCell ⟨X, 1, none⟩ (.int .i64 D.ops)).setCell ⟨X, 2, none⟩ (.slice fa1 m1 fc1)).setCell ⟨X, 3, none⟩ (.bool D.down)).setCell ⟨X, 4, none⟩ (.int .i64 seq)).setCell ⟨Y, 0, none⟩ (.int .i64 kind)).setCell ⟨Y, 1, none⟩ (.int .i64 seq)).setCell ⟨Y, 2, none⟩ (.slice ab lb cbb))) := by
  obtain ⟨zX, zY, hN, hql, hB, hXn, hYn, hX2, hY2, hXY⟩ := h
  have zXa := ((((zX.set 0 (.slice a1 n1 c1)).set 1 (.int .i64 D.ops)).set 2 (.slice fa1 m1 fc1)).set 3 (.bool D.down)).set 4 (.int .i64 seq)
  have zYa := (((((zY.other (B' := X) hXY.symm 0 (.slice a1 n1 c1)).other (B' := X) hXY.symm 1 (.int .i64 D.ops)).other (B' := X) hXY.symm 2 (.slice fa1 m1 fc1)).other (B' := X) hXY.symm 3 (.bool D.down)).other (B' := X) hXY.symm 4 (.int .i64 seq))
  have k : ∀ (j : Nat) (t : TypeId) (vs : Array Value), j < H + 1 + 1 → Blk U j t vs → Blk (((((((((WZ.setCell ⟨X, 0, none⟩ (.slice a1 n1 c1)).setCell ⟨X, 1, none⟩ (.int .i64 D.ops)).setCell ⟨X, 2, none⟩ (.slice fa1 m1 fc1)).setCell ⟨X, 3, none⟩ (.bool D.down)).setCell ⟨X, 4, none⟩ (.int .i64 seq)).setCell ⟨Y, 0, none⟩ (.int .i64 kind)).setCell ⟨Y, 1, none⟩ (.int .i64 seq)).setCell ⟨Y, 2, none⟩ (.slice ab lb cbb))) j t vs := fun j t vs hj hz => (((((((((hz.keep hB).other (B' := X) (by omega) _ _).other (B' := X) (by omega) _ _).other (B' := X) (by omega) _ _).other (B' := X) (by omega) _ _).other (B' := X) (by omega) _ _).other (B' := Y) (by omega) _ _).other (B' := Y) (by omega) _ _).other (B' := Y) (by omega) _ _)
  have s : ∀ (W : World) (g i : Nat) (v : Value), H + 1 < g → Below w.heap.size w W → Below w.heap.size w (W.setCell ⟨g, i, none⟩ v) := fun W g i v hg hb => hb.setCell (p := ⟨g, i, none⟩) (by simp only; omega) v
  exact ⟨X, Y, a1, n1, c1, fa1, m1, fc1, qs, rfl, rfl, ((zXa.other (B' := Y) hXY 0 (.int .i64 kind)).other (B' := Y) hXY 1 (.int .i64 seq)).other (B' := Y) hXY 2 (.slice ab lb cbb), ((zYa.set 0 (.int .i64 kind)).set 1 (.int .i64 seq)).set 2 (.slice ab lb cbb), (((((((hN.setN hXn).setN hXn).setN hXn).setN hXn).setN hXn).setN hYn).setN hYn).setN hYn, hql, k H _ _ (by omega) z0, k (H + 1) _ _ (by omega) z1, s _ _ _ _ hY2 (s _ _ _ _ hY2 (s _ _ _ _ hY2 (s _ _ _ _ hX2 (s _ _ _ _ hX2 (s _ _ _ _ hX2 (s _ _ _ _ hX2 (s _ _ _ _ hX2 (hb.trans (hB.mono hb.size))))))))), hX2, hY2, hXY⟩
set_option maxRecDepth 100000 in
set_option maxHeartbeats 8000000 in
theorem writeI (a : Option Addr) (n cap : Nat) (bs : List BkR) (ops : Int) (fa : Option Addr) (m fc : Nat) (fs : List FtD) (down : Bool) (seq kind : Int) (body : List Int) (ab : Option Addr) (lb cbb : Nat) (spare : Int) (w : World) (ht : CR w a n bs) (hf : FR w fa m fs) (hbl : body.length = lb) (hlb : lb ≤ 1048576) (hrb : Rd w ab body) (hby : Byt body) (hE : EtCell w) :
    Calls Tryz.prog 11 #[.agg #[.slice a n cap, .int .i64 ops, .slice fa m fc, .bool down, .int .i64 seq], .int .i64 kind, .slice ab lb cbb, .int .i64 spare] w (LwA w w.heap.size ((wrOut (bs.map BkR.D) ops fs down seq kind body spare).D fs) ((wrOut (bs.map BkR.D) ops fs down seq kind body spare).sq seq) (wrOut (bs.map BkR.D) ops fs down seq kind body spare).adr (wrOut (bs.map BkR.D) ops fs down seq kind body spare).code) := by
  have B0 : Below w.heap.size w ((w.alloc (.cells #[.slice a n cap, .int .i64 ops, .slice fa m fc, .bool down, .int .i64 seq] 39)).alloc (.cells #[.slice none 0 0, .int .i64 0, .slice none 0 0, .bool false, .int .i64 0] 39)) := ((Below.refl _ w).alloc (Nat.le_refl _) _).alloc (by simp) _
  have z0 := (Blk.new w 39 #[.slice a n cap, .int .i64 ops, .slice fa m fc, .bool down, .int .i64 seq]).alloc (.cells #[.slice none 0 0, .int .i64 0, .slice none 0 0, .bool false, .int .i64 0] 39)
  have z1 := Blk.new (w.alloc (.cells #[.slice a n cap, .int .i64 ops, .slice fa m fc, .bool down, .int .i64 seq] 39)) 39 #[.slice none 0 0, .int .i64 0, .slice none 0 0, .bool false, .int .i64 0]
  simp only [World.size_alloc] at z1
  obtain ⟨W0, hW0⟩ : ∃ W, (w.alloc (.cells #[.slice a n cap, .int .i64 ops, .slice fa m fc, .bool down, .int .i64 seq] 39)).alloc (.cells #[.slice none 0 0, .int .i64 0, .slice none 0 0, .bool false, .int .i64 0] 39) = W := ⟨_, rfl⟩
  have hs0 : W0.heap.size = w.heap.size + 1 + 1 := by rw [← hW0]; simp
  rw [hW0] at B0 z0 z1
  have hC := fun (W : World) (h : Below W0.drew.heap.size W0.drew W) => copyLogI a n cap bs ops fa m fc fs down seq W (ht.keep (B0.drew.trans (h.mono B0.drew.size))) (hf.keep (B0.drew.trans (h.mono B0.drew.size)))
  have hln : (bs.map BkR.D).length = n := by simp [ht.len]
  have HDV : Hid (∀ W : World, Below w.heap.size w W → Calls Tryz.prog 39 #[.agg #[.slice a n cap, .int .i64 ops, .slice fa m fc, .bool down]] W fun e w' => e = .returned (.bool (devB (bs.map BkR.D) ops fs)) ∧ Below W.heap.size W w') := fun W hW => devOkI a n cap bs ops fa m fc fs down W (ht.keep hW) (hf.keep hW)
  have hro := fun (W : World) => recOkI ⟨kind, seq, body⟩ ab cbb W (by dsimp only; omega)
  unfold recC at hro
  dsimp only at hro
  rw [hbl] at hro
  have HRB : Hid (∀ W : World, Below w.heap.size w W → Rd W ab body ∧ EtCell W) := fun W hW => ⟨hrb.keep hW, hE.keep hW⟩
  have hfm := hf.tot
  generalize hGP : LwA w w.heap.size ((wrOut (bs.map BkR.D) ops fs down seq kind body spare).D fs) ((wrOut (bs.map BkR.D) ops fs down seq kind body spare).sq seq) (wrOut (bs.map BkR.D) ops fs down seq kind body spare).adr (wrOut (bs.map BkR.D) ops fs down seq kind body spare).code = P
  obtain ⟨R, hR⟩ : ∃ R, wrOut (bs.map BkR.D) ops fs down seq kind body spare = R := ⟨_, rfl⟩
  rw [hR] at hGP
  have HGP : Hid _ := hGP
  obtain ⟨H, hH⟩ : ∃ H, w.heap.size = H := ⟨_, rfl⟩
  have HH : Hid (w.heap.size = H) := hH
  rw [hH] at z0 z1 hs0
  have HS0 : Hid (W0.heap.size = H + 1 + 1) := hs0
  generalize hds : bs.map BkR.D = ds at hC hln HDV hR
  have HB0 : Hid (Below w.heap.size w W0.drew) := B0.drew
  have HZ0 : Hid (Blk W0.drew H 39 #[.slice a n cap, .int .i64 ops, .slice fa m fc, .bool down, .int .i64 seq]) := z0.keep (Below.refl _ _).drew
  have HZ1 : Hid (Blk W0.drew (H + 1) 39 #[.slice none 0 0, .int .i64 0, .slice none 0 0, .bool false, .int .i64 0]) := z1.keep (Below.refl _ _).drew
  have HFL : Hid (fs.length = m) := hf.len
  have hall : Hid (∀ W : World, Below W0.drew.heap.size W0.drew W → W.cell? ⟨H, 0, none⟩ = some (.slice a n cap) ∧ W.cell? ⟨H, 1, none⟩ = some (.int .i64 ops) ∧ W.cell? ⟨H, 2, none⟩ = some (.slice fa m fc) ∧ W.cell? ⟨H, 3, none⟩ = some (.bool down) ∧ W.cell? ⟨H, 4, none⟩ = some (.int .i64 seq)) := fun W hW => (Blk.keep HZ0.out hW).log
  have HBA : Hid (Below W0.drew.heap.size W0.drew (W0.alloc (.cells #[.slice none 0 0, .int .i64 0, .slice none 0 0, .bool false, .int .i64 0] 39)).drew) := (Below.refl _ W0.drew).alloc (Nat.le_refl _) _
  have HBR : Hid (Below W0.drew.heap.size W0.drew (W0.alloc (.cells #[.int .i64 0, .int .i64 0, .slice none 0 0] 57)).drew) := (Below.refl _ W0.drew).alloc (Nat.le_refl _) _
  have HBAR : Hid (Below W0.drew.heap.size W0.drew ((W0.alloc (.cells #[.slice none 0 0, .int .i64 0, .slice none 0 0, .bool false, .int .i64 0] 39)).alloc (.cells #[.int .i64 0, .int .i64 0, .slice none 0 0] 57)).drew) := HBA.out.alloc HBA.out.size _
  have HBRA : Hid (Below W0.drew.heap.size W0.drew ((W0.alloc (.cells #[.int .i64 0, .int .i64 0, .slice none 0 0] 57)).alloc (.cells #[.slice none 0 0, .int .i64 0, .slice none 0 0, .bool false, .int .i64 0] 39)).drew) := HBR.out.alloc HBR.out.size _
  have hc0 := hC W0.drew (Below.refl _ _)
  have hcA := hC _ HBA.out
  have hcR := hC _ HBR.out
  have hcAR := hC _ HBAR.out
  have hcRA := hC _ HBRA.out
  obtain ⟨s0, s1, s2, s3, s4⟩ := hall.out W0.drew (Below.refl _ _)
  clear ht hf hrb hE B0 z0 z1 hGP hds hs0 hC
  go_enter Tryz.func11, Tryz.ntmps11
  go_upto_region 1 with fail
  try rw [hW0]
  try rw [hH]
  clear hW0
  go_cut [11, 12] from 13 to 46 (fun p q wx => WRR w H #[.slice a n cap, .int .i64 ops, .slice fa m fc, .bool down, .int .i64 seq] ⟨ds, ops, fs, down⟩ seq kind ab lb cbb p q wx)
  case first =>
    refine wp_region_noPanic ?_
    refine wp_region_last (fun W : World => W.cell? ⟨H, 0, none⟩ = some (.slice a n cap) ∧ W.cell? ⟨H, 1, none⟩ = some (.int .i64 ops) ∧ W.cell? ⟨H, 2, none⟩ = some (.slice fa m fc) ∧ W.cell? ⟨H, 3, none⟩ = some (.bool down) ∧ W.cell? ⟨H, 4, none⟩ = some (.int .i64 seq)) 10 (by kernel_rfl) (by kernel_rfl) (by go_keep) 10 (by kernel_rfl) (fun hS => ?_)
    refine wpAnyH_take (i := 0) (v := ?gv1) rfl (by kernel_rfl) (by kernel_rfl) (by kernel_rfl) (fun _ _ _ h => h) (Or.inl ⟨by kernel_rfl, ?gy1⟩) (by assumption) ?gr1
    case gy1 => (intro w' hSw; (try dsimp only at hSw); go_simp; (try with_reducible rfl))
    try simp only [Act.put, List.setIfInBounds_toArray, List.set_cons_zero, List.set_cons_succ, List.getElem_toArray, List.getElem_cons_zero]
    refine wpAnyH_take (i := 2) (v := ?gv2) rfl (by kernel_rfl) (by kernel_rfl) (by kernel_rfl) (fun _ _ _ h => h) (Or.inl ⟨by kernel_rfl, ?gy2⟩) (by assumption) ?gr2
    case gy2 => (intro w' hSw; (try dsimp only at hSw); go_simp; (try with_reducible rfl))
    try simp only [Act.put, List.setIfInBounds_toArray, List.set_cons_zero, List.set_cons_succ, List.getElem_toArray, List.getElem_cons_succ, List.getElem_cons_zero]
    refine wpAnyH_take (i := 3) (v := ?gv3) rfl (by kernel_rfl) (by kernel_rfl) (by kernel_rfl) (fun _ _ _ h => h) (Or.inl ⟨by kernel_rfl, ?gy3⟩) (by assumption) ?gr3
    case gy3 => (intro w' hSw; (try dsimp only at hSw); go_simp; (try with_reducible rfl))
    try simp only [Act.put, List.setIfInBounds_toArray, List.set_cons_zero, List.set_cons_succ, List.getElem_toArray, List.getElem_cons_succ, List.getElem_cons_zero]
    refine wpAnyH_take (i := 4) (v := ?gv4) rfl (by kernel_rfl) (by kernel_rfl) (by kernel_rfl) (fun _ _ _ h => h) (Or.inl ⟨by kernel_rfl, ?gy4⟩) (by assumption) ?gr4
    case gy4 => (intro w' hSw; (try dsimp only at hSw); go_simp; (try with_reducible rfl))
    try simp only [Act.put, List.setIfInBounds_toArray, List.set_cons_zero, List.set_cons_succ, List.getElem_toArray, List.getElem_cons_succ, List.getElem_cons_zero]
    refine wpAnyH_take (i := 5) (v := ?gv5) rfl (by kernel_rfl) (by kernel_rfl) (by kernel_rfl) (fun _ _ _ h => h) (Or.inl ⟨by kernel_rfl, ?gy5⟩) (by assumption) ?gr5
    case gy5 => (intro w' hSw; (try dsimp only at hSw); go_simp; (try with_reducible rfl))
    try simp only [Act.put, List.setIfInBounds_toArray, List.set_cons_zero, List.set_cons_succ, List.getElem_toArray, List.getElem_cons_succ, List.getElem_cons_zero]
    refine wpAnyH_take (i := 6) (v := ?gv6) rfl (by kernel_rfl) (by kernel_rfl) (by kernel_rfl) (fun _ _ _ h => h) (Or.inl ⟨by kernel_rfl, ?gy6⟩) (by assumption) ?gr6
    case gy6 => (intro w' hSw; (try dsimp only at hSw); go_simp; (try with_reducible rfl))
    try simp only [Act.put, List.setIfInBounds_toArray, List.set_cons_zero, List.set_cons_succ, List.getElem_toArray, List.getElem_cons_succ, List.getElem_cons_zero]
    refine wpAnyH_ready (rs := [1, 7, 8]) (by kernel_rfl) (by simp) ?_
    refine AllReadyH.cons rfl (fun K hK => ?_) (AllReadyH.cons rfl (fun K hK => ?_) (AllReadyH.cons rfl (fun K hK => ?_) AllReadyH.nil))
    go_simp
    (with_reducible refine hc0.mono ?_)
    rintro e W9 ⟨a1, n1, c1, fa1, m1, fc1, qs, rfl, hq, hql, b9⟩
    have HND : Hid (NewDv W9 (H + 1 + 1) a1 n1 c1 fa1 m1 fc1 ds fs qs ∧ qs.length = n1 ∧ Below W0.drew.heap.size W0.drew W9 ∧ (∀ g ∈ fpDv a1 n1 c1 fa1 m1 fc1 qs, g < W9.heap.size)) := ⟨hq.wider (by have := HS0.out; simp; omega), hql, (Below.refl W0.drew.heap.size W0.drew).trans (b9.mono (Below.refl W0.drew.heap.size W0.drew).size), hq.lt⟩
    skip
    clear hq hql b9
    dsimp only
    clear hS
    try dsimp only
    refine Shut.out hK _ _ (hall.out W9 HND.out.2.2.1) (fun hS => ?_)
    try simp only [Act.put, List.setIfInBounds_toArray, List.set_cons_zero, List.set_cons_succ, List.getElem_toArray, List.getElem_cons_succ, List.getElem_cons_zero]
    refine wpAnyH_ready (rs := [7, 8]) (by kernel_rfl) (by simp) ?_
    refine AllReadyH.cons rfl (fun K hK => ?_) (AllReadyH.cons rfl (fun K hK => ?_) AllReadyH.nil)
    go_simp
    clear hS
    try dsimp only
    refine Shut.out hK _ _ (hall.out _ (HND.out.2.2.1.alloc HND.out.2.2.1.size _)) (fun hS => ?_)
    try simp only [Act.put, List.setIfInBounds_toArray, List.set_cons_zero, List.set_cons_succ, List.getElem_toArray, List.getElem_cons_succ, List.getElem_cons_zero]
    refine wpAnyH_ready (rs := [8]) (by kernel_rfl) (by simp) ?_
    refine AllReadyH.cons rfl (fun K hK => ?_) AllReadyH.nil
    go_simp
    clear hS
    try dsimp only
    refine Shut.out hK _ _ (hall.out _ (Below.alloc (HND.out.2.2.1.alloc HND.out.2.2.1.size _) (by have := HND.out.2.2.1.size; simp only [World.size_alloc]; omega) _)) (fun hS => ?_)
    try simp only [Act.put, List.setIfInBounds_toArray, List.set_cons_zero, List.set_cons_succ, List.getElem_toArray, List.getElem_cons_succ, List.getElem_cons_zero]
    refine wpAnyH_ready (rs := [9]) (by kernel_rfl) (by simp) ?_
    refine AllReadyH.cons rfl (fun K hK => ?_) AllReadyH.nil
    obtain ⟨WZ, hWZ⟩ : ∃ W, (W9.alloc (.cells #[.slice none 0 0, .int .i64 0, .slice none 0 0, .bool false, .int .i64 0] 39)).alloc (.cells #[.int .i64 0, .int .i64 0, .slice none 0 0] 57) = W := ⟨_, rfl⟩
    have hbz : Below W9.heap.size W9 WZ := (by rw [← hWZ]; first | exact Below.refl _ _ | exact (Below.refl _ _).alloc (Nat.le_refl _) _ | exact ((Below.refl _ _).alloc (Nat.le_refl _) _).alloc (by simp) _)
    obtain ⟨X, hXe⟩ : ∃ X, W9.heap.size = X := ⟨_, rfl⟩
    obtain ⟨Y, hYe⟩ : ∃ Y, W9.heap.size + 1 = Y := ⟨_, rfl⟩
    have zX : Blk WZ X 39 #[.slice none 0 0, .int .i64 0, .slice none 0 0, .bool false, .int .i64 0] := (by rw [← hXe, ← hWZ]; exact (Blk.new W9 39 #[.slice none 0 0, .int .i64 0, .slice none 0 0, .bool false, .int .i64 0]).alloc _)
    have zY : Blk WZ Y 57 #[.int .i64 0, .int .i64 0, .slice none 0 0] := (by rw [← hYe, ← hWZ]; (have h := Blk.new (W9.alloc (.cells #[.slice none 0 0, .int .i64 0, .slice none 0 0, .bool false, .int .i64 0] 39)) 57 #[.int .i64 0, .int .i64 0, .slice none 0 0]; simp only [World.size_alloc] at h; exact h))
    have hXn : X ∉ fpDv a1 n1 c1 fa1 m1 fc1 qs := (by rw [← hXe]; exact (fun h => by have := HND.out.2.2.2 _ h; omega))
    have hYn : Y ∉ fpDv a1 n1 c1 fa1 m1 fc1 qs := (by rw [← hYe]; exact (fun h => by have := HND.out.2.2.2 _ h; omega))
    have hX2 : H + 1 < X := (by have := HS0.out; have := HND.out.2.2.1.size; simp at this; omega)
    have hY2 : H + 1 < Y := (by have := HS0.out; have := HND.out.2.2.1.size; simp at this; omega)
    have hXY : X ≠ Y := (by first | omega | (have := HX.out.2.2; omega) | (have := HY.out.2.2; omega))
    try rw [hWZ]
    (try rw [HS0.out])
    (try rw [hYe])
    (try rw [hXe])
    have hN9 := HND.out.1.keep hbz
    have hB9 := HND.out.2.2.1.trans (hbz.mono HND.out.2.2.1.size)
    obtain ⟨r0, r1, r2, r3, r4⟩ := zX.log
    have g0 := zX.frozen 0
    have g1 := zX.frozen 1
    have g2 := zX.frozen 2
    have g3 := zX.frozen 3
    have g4 := zX.frozen 4
    have zY5 := ((((zY.other (B' := X) hXY.symm 0 (.slice a1 n1 c1)).other (B' := X) hXY.symm 1 (.int .i64 ops)).other (B' := X) hXY.symm 2 (.slice fa1 m1 fc1)).other (B' := X) hXY.symm 3 (.bool down)).other (B' := X) hXY.symm 4 (.int .i64 seq)
    obtain ⟨y0, y1, y2⟩ := zY5.thr
    have k0 := zY5.frozen 0
    have k1 := zY5.frozen 1
    have k2 := zY5.frozen 2
    have HFIN : Hid (Blk WZ X 39 #[.slice none 0 0, .int .i64 0, .slice none 0 0, .bool false, .int .i64 0] ∧ Blk WZ Y 57 #[.int .i64 0, .int .i64 0, .slice none 0 0] ∧ NewDv WZ (H + 1 + 1) a1 n1 c1 fa1 m1 fc1 ds fs qs ∧ qs.length = n1 ∧ Below W0.drew.heap.size W0.drew WZ ∧ X ∉ fpDv a1 n1 c1 fa1 m1 fc1 qs ∧ Y ∉ fpDv a1 n1 c1 fa1 m1 fc1 qs ∧ H + 1 < X ∧ H + 1 < Y ∧ X ≠ Y) := ⟨zX, zY, hN9, HND.out.2.1, hB9, hXn, hYn, hX2, hY2, hXY⟩
    clear zX zY zY5 hN9 hB9 hXn hYn hbz hXe hYe
    go_simp
    clear hS
    try dsimp only
    refine Shut.out hK _ _ (((((((HZ0.out.keep HFIN.out.2.2.2.2.1).other (B' := X) (by omega) 0 (.slice a1 n1 c1)).other (B' := X) (by omega) 1 (.int .i64 ops)).other (B' := X) (by omega) 2 (.slice fa1 m1 fc1)).other (B' := X) (by omega) 3 (.bool down)).other (B' := X) (by omega) 4 (.int .i64 seq)).log) (fun hS => ?_)
    try simp only [Act.put, List.setIfInBounds_toArray, List.set_cons_zero, List.set_cons_succ, List.getElem_toArray, List.getElem_cons_succ, List.getElem_cons_zero]
    refine wpAnyH_done (by kernel_rfl) ?_ _
    refine wpOp_last rfl (fun K hK => ?_)
    clear hS
    go_simp
    refine Shut.out hK _ _ (NoPanic.normal ?_)
    rotate_left 1
    go_simp
    clear hS
    try dsimp only
    refine Shut.out hK _ _ (hall.out _ (HND.out.2.2.1.alloc HND.out.2.2.1.size _)) (fun hS => ?_)
    try simp only [Act.put, List.setIfInBounds_toArray, List.set_cons_zero, List.set_cons_succ, List.getElem_toArray, List.getElem_cons_succ, List.getElem_cons_zero]
    refine wpAnyH_ready (rs := [7]) (by kernel_rfl) (by simp) ?_
    refine AllReadyH.cons rfl (fun K hK => ?_) AllReadyH.nil
    go_simp
    clear hS
    try dsimp only
    refine Shut.out hK _ _ (hall.out _ (Below.alloc (HND.out.2.2.1.alloc HND.out.2.2.1.size _) (by have := HND.out.2.2.1.size; simp only [World.size_alloc]; omega) _)) (fun hS => ?_)
    try simp only [Act.put, List.setIfInBounds_toArray, List.set_cons_zero, List.set_cons_succ, List.getElem_toArray, List.getElem_cons_succ, List.getElem_cons_zero]
    refine wpAnyH_ready (rs := [9]) (by kernel_rfl) (by simp) ?_
    refine AllReadyH.cons rfl (fun K hK => ?_) AllReadyH.nil
    obtain ⟨WZ, hWZ⟩ : ∃ W, (W9.alloc (.cells #[.int .i64 0, .int .i64 0, .slice none 0 0] 57)).alloc (.cells #[.slice none 0 0, .int .i64 0, .slice none 0 0, .bool false, .int .i64 0] 39) = W := ⟨_, rfl⟩
    have hbz : Below W9.heap.size W9 WZ := (by rw [← hWZ]; first | exact Below.refl _ _ | exact (Below.refl _ _).alloc (Nat.le_refl _) _ | exact ((Below.refl _ _).alloc (Nat.le_refl _) _).alloc (by simp) _)
    obtain ⟨X, hXe⟩ : ∃ X, W9.heap.size + 1 = X := ⟨_, rfl⟩
    obtain ⟨Y, hYe⟩ : ∃ Y, W9.heap.size = Y := ⟨_, rfl⟩
    have zX : Blk WZ X 39 #[.slice none 0 0, .int .i64 0, .slice none 0 0, .bool false, .int .i64 0] := (by rw [← hXe, ← hWZ]; (have h := Blk.new (W9.alloc (.cells #[.int .i64 0, .int .i64 0, .slice none 0 0] 57)) 39 #[.slice none 0 0, .int .i64 0, .slice none 0 0, .bool false, .int .i64 0]; simp only [World.size_alloc] at h; exact h))
    have zY : Blk WZ Y 57 #[.int .i64 0, .int .i64 0, .slice none 0 0] := (by rw [← hYe, ← hWZ]; exact (Blk.new W9 57 #[.int .i64 0, .int .i64 0, .slice none 0 0]).alloc _)
    have hXn : X ∉ fpDv a1 n1 c1 fa1 m1 fc1 qs := (by rw [← hXe]; exact (fun h => by have := HND.out.2.2.2 _ h; omega))
    have hYn : Y ∉ fpDv a1 n1 c1 fa1 m1 fc1 qs := (by rw [← hYe]; exact (fun h => by have := HND.out.2.2.2 _ h; omega))
    have hX2 : H + 1 < X := (by have := HS0.out; have := HND.out.2.2.1.size; simp at this; omega)
    have hY2 : H + 1 < Y := (by have := HS0.out; have := HND.out.2.2.1.size; simp at this; omega)
    have hXY : X ≠ Y := (by first | omega | (have := HX.out.2.2; omega) | (have := HY.out.2.2; omega))
    try rw [hWZ]
    (try rw [HS0.out])
    (try rw [hXe])
    (try rw [hYe])
    have hN9 := HND.out.1.keep hbz
    have hB9 := HND.out.2.2.1.trans (hbz.mono HND.out.2.2.1.size)
    obtain ⟨r0, r1, r2, r3, r4⟩ := zX.log
    have g0 := zX.frozen 0
    have g1 := zX.frozen 1
    have g2 := zX.frozen 2
    have g3 := zX.frozen 3
    have g4 := zX.frozen 4
    have zY5 := ((((zY.other (B' := X) hXY.symm 0 (.slice a1 n1 c1)).other (B' := X) hXY.symm 1 (.int .i64 ops)).other (B' := X) hXY.symm 2 (.slice fa1 m1 fc1)).other (B' := X) hXY.symm 3 (.bool down)).other (B' := X) hXY.symm 4 (.int .i64 seq)
    obtain ⟨y0, y1, y2⟩ := zY5.thr
    have k0 := zY5.frozen 0
    have k1 := zY5.frozen 1
    have k2 := zY5.frozen 2
    have HFIN : Hid (Blk WZ X 39 #[.slice none 0 0, .int .i64 0, .slice none 0 0, .bool false, .int .i64 0] ∧ Blk WZ Y 57 #[.int .i64 0, .int .i64 0, .slice none 0 0] ∧ NewDv WZ (H + 1 + 1) a1 n1 c1 fa1 m1 fc1 ds fs qs ∧ qs.length = n1 ∧ Below W0.drew.heap.size W0.drew WZ ∧ X ∉ fpDv a1 n1 c1 fa1 m1 fc1 qs ∧ Y ∉ fpDv a1 n1 c1 fa1 m1 fc1 qs ∧ H + 1 < X ∧ H + 1 < Y ∧ X ≠ Y) := ⟨zX, zY, hN9, HND.out.2.1, hB9, hXn, hYn, hX2, hY2, hXY⟩
    clear zX zY zY5 hN9 hB9 hXn hYn hbz hXe hYe
    go_simp
    clear hS
    try dsimp only
    refine Shut.out hK _ _ (((((((HZ0.out.keep HFIN.out.2.2.2.2.1).other (B' := X) (by omega) 0 (.slice a1 n1 c1)).other (B' := X) (by omega) 1 (.int .i64 ops)).other (B' := X) (by omega) 2 (.slice fa1 m1 fc1)).other (B' := X) (by omega) 3 (.bool down)).other (B' := X) (by omega) 4 (.int .i64 seq)).log) (fun hS => ?_)
    try simp only [Act.put, List.setIfInBounds_toArray, List.set_cons_zero, List.set_cons_succ, List.getElem_toArray, List.getElem_cons_succ, List.getElem_cons_zero]
    refine wpAnyH_done (by kernel_rfl) ?_ _
    refine wpOp_last rfl (fun K hK => ?_)
    clear hS
    go_simp
    refine Shut.out hK _ _ (NoPanic.normal ?_)
    rotate_left 1
    go_simp
    clear hS
    try dsimp only
    refine Shut.out hK _ _ (hall.out _ HBA.out) (fun hS => ?_)
    try simp only [Act.put, List.setIfInBounds_toArray, List.set_cons_zero, List.set_cons_succ, List.getElem_toArray, List.getElem_cons_succ, List.getElem_cons_zero]
    refine wpAnyH_ready (rs := [1, 8]) (by kernel_rfl) (by simp) ?_
    refine AllReadyH.cons rfl (fun K hK => ?_) (AllReadyH.cons rfl (fun K hK => ?_) AllReadyH.nil)
    go_simp
    (with_reducible refine hcA.mono ?_)
    rintro e W9 ⟨a1, n1, c1, fa1, m1, fc1, qs, rfl, hq, hql, b9⟩
    have HND : Hid (NewDv W9 (H + 1 + 1) a1 n1 c1 fa1 m1 fc1 ds fs qs ∧ qs.length = n1 ∧ Below W0.drew.heap.size W0.drew W9 ∧ (∀ g ∈ fpDv a1 n1 c1 fa1 m1 fc1 qs, g < W9.heap.size)) := ⟨hq.wider (by have := HS0.out; simp; omega), hql, HBA.out.trans (b9.mono HBA.out.size), hq.lt⟩
    have HX : Hid (Blk W9 (H + 1 + 1) 39 #[.slice none 0 0, .int .i64 0, .slice none 0 0, .bool false, .int .i64 0] ∧ H + 1 + 1 ∉ fpDv a1 n1 c1 fa1 m1 fc1 qs ∧ H + 1 + 1 < W9.heap.size) := (by have h0 := Blk.new W0 39 #[.slice none 0 0, .int .i64 0, .slice none 0 0, .bool false, .int .i64 0]; (try simp only [World.size_alloc] at h0); rw [HS0.out] at h0; have h1 := Blk.keep (Blk.keep h0 (Below.refl _ _).drew) b9; exact ⟨h1, fun h => by (have h2 := hq.from _ h; have h3 := HS0.out; simp at h2; omega), h1.lt⟩)
    clear hq hql b9
    dsimp only
    clear hS
    try dsimp only
    refine Shut.out hK _ _ (hall.out W9 HND.out.2.2.1) (fun hS => ?_)
    try simp only [Act.put, List.setIfInBounds_toArray, List.set_cons_zero, List.set_cons_succ, List.getElem_toArray, List.getElem_cons_succ, List.getElem_cons_zero]
    refine wpAnyH_ready (rs := [8]) (by kernel_rfl) (by simp) ?_
    refine AllReadyH.cons rfl (fun K hK => ?_) AllReadyH.nil
    go_simp
    clear hS
    try dsimp only
    refine Shut.out hK _ _ (hall.out _ (HND.out.2.2.1.alloc HND.out.2.2.1.size _)) (fun hS => ?_)
    try simp only [Act.put, List.setIfInBounds_toArray, List.set_cons_zero, List.set_cons_succ, List.getElem_toArray, List.getElem_cons_succ, List.getElem_cons_zero]
    refine wpAnyH_ready (rs := [9]) (by kernel_rfl) (by simp) ?_
    refine AllReadyH.cons rfl (fun K hK => ?_) AllReadyH.nil
    obtain ⟨WZ, hWZ⟩ : ∃ W, W9.alloc (.cells #[.int .i64 0, .int .i64 0, .slice none 0 0] 57) = W := ⟨_, rfl⟩
    have hbz : Below W9.heap.size W9 WZ := (by rw [← hWZ]; first | exact Below.refl _ _ | exact (Below.refl _ _).alloc (Nat.le_refl _) _ | exact ((Below.refl _ _).alloc (Nat.le_refl _) _).alloc (by simp) _)
    obtain ⟨X, hXe⟩ : ∃ X, H + 1 + 1 = X := ⟨_, rfl⟩
    obtain ⟨Y, hYe⟩ : ∃ Y, W9.heap.size = Y := ⟨_, rfl⟩
    have zX : Blk WZ X 39 #[.slice none 0 0, .int .i64 0, .slice none 0 0, .bool false, .int .i64 0] := (by rw [← hXe, ← hWZ]; exact HX.out.1.alloc _)
    have zY : Blk WZ Y 57 #[.int .i64 0, .int .i64 0, .slice none 0 0] := (by rw [← hYe, ← hWZ]; exact Blk.new W9 57 #[.int .i64 0, .int .i64 0, .slice none 0 0])
    have hXn : X ∉ fpDv a1 n1 c1 fa1 m1 fc1 qs := (by rw [← hXe]; exact HX.out.2.1)
    have hYn : Y ∉ fpDv a1 n1 c1 fa1 m1 fc1 qs := (by rw [← hYe]; exact (fun h => by have := HND.out.2.2.2 _ h; omega))
    have hX2 : H + 1 < X := (by have := HS0.out; have := HND.out.2.2.1.size; simp at this; omega)
    have hY2 : H + 1 < Y := (by have := HS0.out; have := HND.out.2.2.1.size; simp at this; omega)
    have hXY : X ≠ Y := (by first | omega | (have := HX.out.2.2; omega) | (have := HY.out.2.2; omega))
    try rw [hWZ]
    (try rw [HS0.out])
    (try rw [hYe])
    (try rw [hXe])
    have hN9 := HND.out.1.keep hbz
    have hB9 := HND.out.2.2.1.trans (hbz.mono HND.out.2.2.1.size)
    obtain ⟨r0, r1, r2, r3, r4⟩ := zX.log
    have g0 := zX.frozen 0
    have g1 := zX.frozen 1
    have g2 := zX.frozen 2
    have g3 := zX.frozen 3
    have g4 := zX.frozen 4
    have zY5 := ((((zY.other (B' := X) hXY.symm 0 (.slice a1 n1 c1)).other (B' := X) hXY.symm 1 (.int .i64 ops)).other (B' := X) hXY.symm 2 (.slice fa1 m1 fc1)).other (B' := X) hXY.symm 3 (.bool down)).other (B' := X) hXY.symm 4 (.int .i64 seq)
    obtain ⟨y0, y1, y2⟩ := zY5.thr
    have k0 := zY5.frozen 0
    have k1 := zY5.frozen 1
    have k2 := zY5.frozen 2
    have HFIN : Hid (Blk WZ X 39 #[.slice none 0 0, .int .i64 0, .slice none 0 0, .bool false, .int .i64 0] ∧ Blk WZ Y 57 #[.int .i64 0, .int .i64 0, .slice none 0 0] ∧ NewDv WZ (H + 1 + 1) a1 n1 c1 fa1 m1 fc1 ds fs qs ∧ qs.length = n1 ∧ Below W0.drew.heap.size W0.drew WZ ∧ X ∉ fpDv a1 n1 c1 fa1 m1 fc1 qs ∧ Y ∉ fpDv a1 n1 c1 fa1 m1 fc1 qs ∧ H + 1 < X ∧ H + 1 < Y ∧ X ≠ Y) := ⟨zX, zY, hN9, HND.out.2.1, hB9, hXn, hYn, hX2, hY2, hXY⟩
    clear zX zY zY5 hN9 hB9 hXn hYn hbz hXe hYe
    go_simp
    clear hS
    try dsimp only
    refine Shut.out hK _ _ (((((((HZ0.out.keep HFIN.out.2.2.2.2.1).other (B' := X) (by omega) 0 (.slice a1 n1 c1)).other (B' := X) (by omega) 1 (.int .i64 ops)).other (B' := X) (by omega) 2 (.slice fa1 m1 fc1)).other (B' := X) (by omega) 3 (.bool down)).other (B' := X) (by omega) 4 (.int .i64 seq)).log) (fun hS => ?_)
    try simp only [Act.put, List.setIfInBounds_toArray, List.set_cons_zero, List.set_cons_succ, List.getElem_toArray, List.getElem_cons_succ, List.getElem_cons_zero]
    refine wpAnyH_done (by kernel_rfl) ?_ _
    refine wpOp_last rfl (fun K hK => ?_)
    clear hS
    go_simp
    refine Shut.out hK _ _ (NoPanic.normal ?_)
    rotate_left 1
    go_simp
    clear hS
    try dsimp only
    refine Shut.out hK _ _ (hall.out _ HBAR.out) (fun hS => ?_)
    try simp only [Act.put, List.setIfInBounds_toArray, List.set_cons_zero, List.set_cons_succ, List.getElem_toArray, List.getElem_cons_succ, List.getElem_cons_zero]
    refine wpAnyH_ready (rs := [1]) (by kernel_rfl) (by simp) ?_
    refine AllReadyH.cons rfl (fun K hK => ?_) AllReadyH.nil
    go_simp
    (with_reducible refine hcAR.mono ?_)
    rintro e W9 ⟨a1, n1, c1, fa1, m1, fc1, qs, rfl, hq, hql, b9⟩
    have HND : Hid (NewDv W9 (H + 1 + 1) a1 n1 c1 fa1 m1 fc1 ds fs qs ∧ qs.length = n1 ∧ Below W0.drew.heap.size W0.drew W9 ∧ (∀ g ∈ fpDv a1 n1 c1 fa1 m1 fc1 qs, g < W9.heap.size)) := ⟨hq.wider (by have := HS0.out; simp; omega), hql, HBAR.out.trans (b9.mono HBAR.out.size), hq.lt⟩
    have HX : Hid (Blk W9 (H + 1 + 1) 39 #[.slice none 0 0, .int .i64 0, .slice none 0 0, .bool false, .int .i64 0] ∧ H + 1 + 1 ∉ fpDv a1 n1 c1 fa1 m1 fc1 qs ∧ H + 1 + 1 < W9.heap.size) := (by have h0 := (Blk.new W0 39 #[.slice none 0 0, .int .i64 0, .slice none 0 0, .bool false, .int .i64 0]).alloc (.cells #[.int .i64 0, .int .i64 0, .slice none 0 0] 57); (try simp only [World.size_alloc] at h0); rw [HS0.out] at h0; have h1 := Blk.keep (Blk.keep h0 (Below.refl _ _).drew) b9; exact ⟨h1, fun h => by (have h2 := hq.from _ h; have h3 := HS0.out; simp at h2; omega), h1.lt⟩)
    have HY : Hid (Blk W9 (H + 1 + 1 + 1) 57 #[.int .i64 0, .int .i64 0, .slice none 0 0] ∧ H + 1 + 1 + 1 ∉ fpDv a1 n1 c1 fa1 m1 fc1 qs ∧ H + 1 + 1 + 1 < W9.heap.size) := (by have h0 := Blk.new (W0.alloc (.cells #[.slice none 0 0, .int .i64 0, .slice none 0 0, .bool false, .int .i64 0] 39)) 57 #[.int .i64 0, .int .i64 0, .slice none 0 0]; (try simp only [World.size_alloc] at h0); rw [HS0.out] at h0; have h1 := Blk.keep (Blk.keep h0 (Below.refl _ _).drew) b9; exact ⟨h1, fun h => by (have h2 := hq.from _ h; have h3 := HS0.out; simp at h2; omega), h1.lt⟩)
    clear hq hql b9
    dsimp only
    clear hS
    try dsimp only
    refine Shut.out hK _ _ (hall.out W9 HND.out.2.2.1) (fun hS => ?_)
    try simp only [Act.put, List.setIfInBounds_toArray, List.set_cons_zero, List.set_cons_succ, List.getElem_toArray, List.getElem_cons_succ, List.getElem_cons_zero]
    refine wpAnyH_ready (rs := [9]) (by kernel_rfl) (by simp) ?_
    refine AllReadyH.cons rfl (fun K hK => ?_) AllReadyH.nil
    obtain ⟨WZ, hWZ⟩ : ∃ W, W9 = W := ⟨_, rfl⟩
    have hbz : Below W9.heap.size W9 WZ := (by rw [← hWZ]; first | exact Below.refl _ _ | exact (Below.refl _ _).alloc (Nat.le_refl _) _ | exact ((Below.refl _ _).alloc (Nat.le_refl _) _).alloc (by simp) _)
    obtain ⟨X, hXe⟩ : ∃ X, H + 1 + 1 = X := ⟨_, rfl⟩
    obtain ⟨Y, hYe⟩ : ∃ Y, H + 1 + 1 + 1 = Y := ⟨_, rfl⟩
    have zX : Blk WZ X 39 #[.slice none 0 0, .int .i64 0, .slice none 0 0, .bool false, .int .i64 0] := (by rw [← hXe, ← hWZ]; exact HX.out.1)
    have zY : Blk WZ Y 57 #[.int .i64 0, .int .i64 0, .slice none 0 0] := (by rw [← hYe, ← hWZ]; exact HY.out.1)
    have hXn : X ∉ fpDv a1 n1 c1 fa1 m1 fc1 qs := (by rw [← hXe]; exact HX.out.2.1)
    have hYn : Y ∉ fpDv a1 n1 c1 fa1 m1 fc1 qs := (by rw [← hYe]; exact HY.out.2.1)
    have hX2 : H + 1 < X := (by have := HS0.out; have := HND.out.2.2.1.size; simp at this; omega)
    have hY2 : H + 1 < Y := (by have := HS0.out; have := HND.out.2.2.1.size; simp at this; omega)
    have hXY : X ≠ Y := (by first | omega | (have := HX.out.2.2; omega) | (have := HY.out.2.2; omega))
    try rw [hWZ]
    (try rw [HS0.out])
    (try rw [hYe])
    (try rw [hXe])
    have hN9 := HND.out.1.keep hbz
    have hB9 := HND.out.2.2.1.trans (hbz.mono HND.out.2.2.1.size)
    obtain ⟨r0, r1, r2, r3, r4⟩ := zX.log
    have g0 := zX.frozen 0
    have g1 := zX.frozen 1
    have g2 := zX.frozen 2
    have g3 := zX.frozen 3
    have g4 := zX.frozen 4
    have zY5 := ((((zY.other (B' := X) hXY.symm 0 (.slice a1 n1 c1)).other (B' := X) hXY.symm 1 (.int .i64 ops)).other (B' := X) hXY.symm 2 (.slice fa1 m1 fc1)).other (B' := X) hXY.symm 3 (.bool down)).other (B' := X) hXY.symm 4 (.int .i64 seq)
    obtain ⟨y0, y1, y2⟩ := zY5.thr
    have k0 := zY5.frozen 0
    have k1 := zY5.frozen 1
    have k2 := zY5.frozen 2
    have HFIN : Hid (Blk WZ X 39 #[.slice none 0 0, .int .i64 0, .slice none 0 0, .bool false, .int .i64 0] ∧ Blk WZ Y 57 #[.int .i64 0, .int .i64 0, .slice none 0 0] ∧ NewDv WZ (H + 1 + 1) a1 n1 c1 fa1 m1 fc1 ds fs qs ∧ qs.length = n1 ∧ Below W0.drew.heap.size W0.drew WZ ∧ X ∉ fpDv a1 n1 c1 fa1 m1 fc1 qs ∧ Y ∉ fpDv a1 n1 c1 fa1 m1 fc1 qs ∧ H + 1 < X ∧ H + 1 < Y ∧ X ≠ Y) := ⟨zX, zY, hN9, HND.out.2.1, hB9, hXn, hYn, hX2, hY2, hXY⟩
    clear zX zY zY5 hN9 hB9 hXn hYn hbz hXe hYe
    go_simp
    clear hS
    try dsimp only
    refine Shut.out hK _ _ (((((((HZ0.out.keep HFIN.out.2.2.2.2.1).other (B' := X) (by omega) 0 (.slice a1 n1 c1)).other (B' := X) (by omega) 1 (.int .i64 ops)).other (B' := X) (by omega) 2 (.slice fa1 m1 fc1)).other (B' := X) (by omega) 3 (.bool down)).other (B' := X) (by omega) 4 (.int .i64 seq)).log) (fun hS => ?_)
    try simp only [Act.put, List.setIfInBounds_toArray, List.set_cons_zero, List.set_cons_succ, List.getElem_toArray, List.getElem_cons_succ, List.getElem_cons_zero]
    refine wpAnyH_done (by kernel_rfl) ?_ _
    refine wpOp_last rfl (fun K hK => ?_)
    clear hS
    go_simp
    refine Shut.out hK _ _ (NoPanic.normal ?_)
    rotate_left 1
    go_simp
    clear hS
    try dsimp only
    refine Shut.out hK _ _ (hall.out _ HBR.out) (fun hS => ?_)
    try simp only [Act.put, List.setIfInBounds_toArray, List.set_cons_zero, List.set_cons_succ, List.getElem_toArray, List.getElem_cons_succ, List.getElem_cons_zero]
    refine wpAnyH_ready (rs := [1, 7]) (by kernel_rfl) (by simp) ?_
    refine AllReadyH.cons rfl (fun K hK => ?_) (AllReadyH.cons rfl (fun K hK => ?_) AllReadyH.nil)
    go_simp
    (with_reducible refine hcR.mono ?_)
    rintro e W9 ⟨a1, n1, c1, fa1, m1, fc1, qs, rfl, hq, hql, b9⟩
    have HND : Hid (NewDv W9 (H + 1 + 1) a1 n1 c1 fa1 m1 fc1 ds fs qs ∧ qs.length = n1 ∧ Below W0.drew.heap.size W0.drew W9 ∧ (∀ g ∈ fpDv a1 n1 c1 fa1 m1 fc1 qs, g < W9.heap.size)) := ⟨hq.wider (by have := HS0.out; simp; omega), hql, HBR.out.trans (b9.mono HBR.out.size), hq.lt⟩
    have HY : Hid (Blk W9 (H + 1 + 1) 57 #[.int .i64 0, .int .i64 0, .slice none 0 0] ∧ H + 1 + 1 ∉ fpDv a1 n1 c1 fa1 m1 fc1 qs ∧ H + 1 + 1 < W9.heap.size) := (by have h0 := Blk.new W0 57 #[.int .i64 0, .int .i64 0, .slice none 0 0]; (try simp only [World.size_alloc] at h0); rw [HS0.out] at h0; have h1 := Blk.keep (Blk.keep h0 (Below.refl _ _).drew) b9; exact ⟨h1, fun h => by (have h2 := hq.from _ h; have h3 := HS0.out; simp at h2; omega), h1.lt⟩)
    clear hq hql b9
    dsimp only
    clear hS
    try dsimp only
    refine Shut.out hK _ _ (hall.out W9 HND.out.2.2.1) (fun hS => ?_)
    try simp only [Act.put, List.setIfInBounds_toArray, List.set_cons_zero, List.set_cons_succ, List.getElem_toArray, List.getElem_cons_succ, List.getElem_cons_zero]
    refine wpAnyH_ready (rs := [7]) (by kernel_rfl) (by simp) ?_
    refine AllReadyH.cons rfl (fun K hK => ?_) AllReadyH.nil
    go_simp
    clear hS
    try dsimp only
    refine Shut.out hK _ _ (hall.out _ (HND.out.2.2.1.alloc HND.out.2.2.1.size _)) (fun hS => ?_)
    try simp only [Act.put, List.setIfInBounds_toArray, List.set_cons_zero, List.set_cons_succ, List.getElem_toArray, List.getElem_cons_succ, List.getElem_cons_zero]
    refine wpAnyH_ready (rs := [9]) (by kernel_rfl) (by simp) ?_
    refine AllReadyH.cons rfl (fun K hK => ?_) AllReadyH.nil
    obtain ⟨WZ, hWZ⟩ : ∃ W, W9.alloc (.cells #[.slice none 0 0, .int .i64 0, .slice none 0 0, .bool false, .int .i64 0] 39) = W := ⟨_, rfl⟩
    have hbz : Below W9.heap.size W9 WZ := (by rw [← hWZ]; first | exact Below.refl _ _ | exact (Below.refl _ _).alloc (Nat.le_refl _) _ | exact ((Below.refl _ _).alloc (Nat.le_refl _) _).alloc (by simp) _)
    obtain ⟨X, hXe⟩ : ∃ X, W9.heap.size = X := ⟨_, rfl⟩
    obtain ⟨Y, hYe⟩ : ∃ Y, H + 1 + 1 = Y := ⟨_, rfl⟩
    have zX : Blk WZ X 39 #[.slice none 0 0, .int .i64 0, .slice none 0 0, .bool false, .int .i64 0] := (by rw [← hXe, ← hWZ]; exact Blk.new W9 39 #[.slice none 0 0, .int .i64 0, .slice none 0 0, .bool false, .int .i64 0])
    have zY : Blk WZ Y 57 #[.int .i64 0, .int .i64 0, .slice none 0 0] := (by rw [← hYe, ← hWZ]; exact HY.out.1.alloc _)
    have hXn : X ∉ fpDv a1 n1 c1 fa1 m1 fc1 qs := (by rw [← hXe]; exact (fun h => by have := HND.out.2.2.2 _ h; omega))
    have hYn : Y ∉ fpDv a1 n1 c1 fa1 m1 fc1 qs := (by rw [← hYe]; exact HY.out.2.1)
    have hX2 : H + 1 < X := (by have := HS0.out; have := HND.out.2.2.1.size; simp at this; omega)
    have hY2 : H + 1 < Y := (by have := HS0.out; have := HND.out.2.2.1.size; simp at this; omega)
    have hXY : X ≠ Y := (by first | omega | (have := HX.out.2.2; omega) | (have := HY.out.2.2; omega))
    try rw [hWZ]
    (try rw [HS0.out])
    (try rw [hXe])
    (try rw [hYe])
    have hN9 := HND.out.1.keep hbz
    have hB9 := HND.out.2.2.1.trans (hbz.mono HND.out.2.2.1.size)
    obtain ⟨r0, r1, r2, r3, r4⟩ := zX.log
    have g0 := zX.frozen 0
    have g1 := zX.frozen 1
    have g2 := zX.frozen 2
    have g3 := zX.frozen 3
    have g4 := zX.frozen 4
    have zY5 := ((((zY.other (B' := X) hXY.symm 0 (.slice a1 n1 c1)).other (B' := X) hXY.symm 1 (.int .i64 ops)).other (B' := X) hXY.symm 2 (.slice fa1 m1 fc1)).other (B' := X) hXY.symm 3 (.bool down)).other (B' := X) hXY.symm 4 (.int .i64 seq)
    obtain ⟨y0, y1, y2⟩ := zY5.thr
    have k0 := zY5.frozen 0
    have k1 := zY5.frozen 1
    have k2 := zY5.frozen 2
    have HFIN : Hid (Blk WZ X 39 #[.slice none 0 0, .int .i64 0, .slice none 0 0, .bool false, .int .i64 0] ∧ Blk WZ Y 57 #[.int .i64 0, .int .i64 0, .slice none 0 0] ∧ NewDv WZ (H + 1 + 1) a1 n1 c1 fa1 m1 fc1 ds fs qs ∧ qs.length = n1 ∧ Below W0.drew.heap.size W0.drew WZ ∧ X ∉ fpDv a1 n1 c1 fa1 m1 fc1 qs ∧ Y ∉ fpDv a1 n1 c1 fa1 m1 fc1 qs ∧ H + 1 < X ∧ H + 1 < Y ∧ X ≠ Y) := ⟨zX, zY, hN9, HND.out.2.1, hB9, hXn, hYn, hX2, hY2, hXY⟩
    clear zX zY zY5 hN9 hB9 hXn hYn hbz hXe hYe
    go_simp
    clear hS
    try dsimp only
    refine Shut.out hK _ _ (((((((HZ0.out.keep HFIN.out.2.2.2.2.1).other (B' := X) (by omega) 0 (.slice a1 n1 c1)).other (B' := X) (by omega) 1 (.int .i64 ops)).other (B' := X) (by omega) 2 (.slice fa1 m1 fc1)).other (B' := X) (by omega) 3 (.bool down)).other (B' := X) (by omega) 4 (.int .i64 seq)).log) (fun hS => ?_)
    try simp only [Act.put, List.setIfInBounds_toArray, List.set_cons_zero, List.set_cons_succ, List.getElem_toArray, List.getElem_cons_succ, List.getElem_cons_zero]
    refine wpAnyH_done (by kernel_rfl) ?_ _
    refine wpOp_last rfl (fun K hK => ?_)
    clear hS
    go_simp
    refine Shut.out hK _ _ (NoPanic.normal ?_)
    rotate_left 1
    go_simp
    clear hS
    try dsimp only
    refine Shut.out hK _ _ (hall.out _ HBRA.out) (fun hS => ?_)
    try simp only [Act.put, List.setIfInBounds_toArray, List.set_cons_zero, List.set_cons_succ, List.getElem_toArray, List.getElem_cons_succ, List.getElem_cons_zero]
    refine wpAnyH_ready (rs := [1]) (by kernel_rfl) (by simp) ?_
    refine AllReadyH.cons rfl (fun K hK => ?_) AllReadyH.nil
    go_simp
    (with_reducible refine hcRA.mono ?_)
    rintro e W9 ⟨a1, n1, c1, fa1, m1, fc1, qs, rfl, hq, hql, b9⟩
    have HND : Hid (NewDv W9 (H + 1 + 1) a1 n1 c1 fa1 m1 fc1 ds fs qs ∧ qs.length = n1 ∧ Below W0.drew.heap.size W0.drew W9 ∧ (∀ g ∈ fpDv a1 n1 c1 fa1 m1 fc1 qs, g < W9.heap.size)) := ⟨hq.wider (by have := HS0.out; simp; omega), hql, HBRA.out.trans (b9.mono HBRA.out.size), hq.lt⟩
    have HY : Hid (Blk W9 (H + 1 + 1) 57 #[.int .i64 0, .int .i64 0, .slice none 0 0] ∧ H + 1 + 1 ∉ fpDv a1 n1 c1 fa1 m1 fc1 qs ∧ H + 1 + 1 < W9.heap.size) := (by have h0 := (Blk.new W0 57 #[.int .i64 0, .int .i64 0, .slice none 0 0]).alloc (.cells #[.slice none 0 0, .int .i64 0, .slice none 0 0, .bool false, .int .i64 0] 39); (try simp only [World.size_alloc] at h0); rw [HS0.out] at h0; have h1 := Blk.keep (Blk.keep h0 (Below.refl _ _).drew) b9; exact ⟨h1, fun h => by (have h2 := hq.from _ h; have h3 := HS0.out; simp at h2; omega), h1.lt⟩)
    have HX : Hid (Blk W9 (H + 1 + 1 + 1) 39 #[.slice none 0 0, .int .i64 0, .slice none 0 0, .bool false, .int .i64 0] ∧ H + 1 + 1 + 1 ∉ fpDv a1 n1 c1 fa1 m1 fc1 qs ∧ H + 1 + 1 + 1 < W9.heap.size) := (by have h0 := Blk.new (W0.alloc (.cells #[.int .i64 0, .int .i64 0, .slice none 0 0] 57)) 39 #[.slice none 0 0, .int .i64 0, .slice none 0 0, .bool false, .int .i64 0]; (try simp only [World.size_alloc] at h0); rw [HS0.out] at h0; have h1 := Blk.keep (Blk.keep h0 (Below.refl _ _).drew) b9; exact ⟨h1, fun h => by (have h2 := hq.from _ h; have h3 := HS0.out; simp at h2; omega), h1.lt⟩)
    clear hq hql b9
    dsimp only
    clear hS
    try dsimp only
    refine Shut.out hK _ _ (hall.out W9 HND.out.2.2.1) (fun hS => ?_)
    try simp only [Act.put, List.setIfInBounds_toArray, List.set_cons_zero, List.set_cons_succ, List.getElem_toArray, List.getElem_cons_succ, List.getElem_cons_zero]
    refine wpAnyH_ready (rs := [9]) (by kernel_rfl) (by simp) ?_
    refine AllReadyH.cons rfl (fun K hK => ?_) AllReadyH.nil
    obtain ⟨WZ, hWZ⟩ : ∃ W, W9 = W := ⟨_, rfl⟩
    have hbz : Below W9.heap.size W9 WZ := (by rw [← hWZ]; first | exact Below.refl _ _ | exact (Below.refl _ _).alloc (Nat.le_refl _) _ | exact ((Below.refl _ _).alloc (Nat.le_refl _) _).alloc (by simp) _)
    obtain ⟨X, hXe⟩ : ∃ X, H + 1 + 1 + 1 = X := ⟨_, rfl⟩
    obtain ⟨Y, hYe⟩ : ∃ Y, H + 1 + 1 = Y := ⟨_, rfl⟩
    have zX : Blk WZ X 39 #[.slice none 0 0, .int .i64 0, .slice none 0 0, .bool false, .int .i64 0] := (by rw [← hXe, ← hWZ]; exact HX.out.1)
    have zY : Blk WZ Y 57 #[.int .i64 0, .int .i64 0, .slice none 0 0] := (by rw [← hYe, ← hWZ]; exact HY.out.1)
    have hXn : X ∉ fpDv a1 n1 c1 fa1 m1 fc1 qs := (by rw [← hXe]; exact HX.out.2.1)
    have hYn : Y ∉ fpDv a1 n1 c1 fa1 m1 fc1 qs := (by rw [← hYe]; exact HY.out.2.1)
    have hX2 : H + 1 < X := (by have := HS0.out; have := HND.out.2.2.1.size; simp at this; omega)
    have hY2 : H + 1 < Y := (by have := HS0.out; have := HND.out.2.2.1.size; simp at this; omega)
    have hXY : X ≠ Y := (by first | omega | (have := HX.out.2.2; omega) | (have := HY.out.2.2; omega))
    try rw [hWZ]
    (try rw [HS0.out])
    (try rw [hXe])
    (try rw [hYe])
    have hN9 := HND.out.1.keep hbz
    have hB9 := HND.out.2.2.1.trans (hbz.mono HND.out.2.2.1.size)
    obtain ⟨r0, r1, r2, r3, r4⟩ := zX.log
    have g0 := zX.frozen 0
    have g1 := zX.frozen 1
    have g2 := zX.frozen 2
    have g3 := zX.frozen 3
    have g4 := zX.frozen 4
    have zY5 := ((((zY.other (B' := X) hXY.symm 0 (.slice a1 n1 c1)).other (B' := X) hXY.symm 1 (.int .i64 ops)).other (B' := X) hXY.symm 2 (.slice fa1 m1 fc1)).other (B' := X) hXY.symm 3 (.bool down)).other (B' := X) hXY.symm 4 (.int .i64 seq)
    obtain ⟨y0, y1, y2⟩ := zY5.thr
    have k0 := zY5.frozen 0
    have k1 := zY5.frozen 1
    have k2 := zY5.frozen 2
    have HFIN : Hid (Blk WZ X 39 #[.slice none 0 0, .int .i64 0, .slice none 0 0, .bool false, .int .i64 0] ∧ Blk WZ Y 57 #[.int .i64 0, .int .i64 0, .slice none 0 0] ∧ NewDv WZ (H + 1 + 1) a1 n1 c1 fa1 m1 fc1 ds fs qs ∧ qs.length = n1 ∧ Below W0.drew.heap.size W0.drew WZ ∧ X ∉ fpDv a1 n1 c1 fa1 m1 fc1 qs ∧ Y ∉ fpDv a1 n1 c1 fa1 m1 fc1 qs ∧ H + 1 < X ∧ H + 1 < Y ∧ X ≠ Y) := ⟨zX, zY, hN9, HND.out.2.1, hB9, hXn, hYn, hX2, hY2, hXY⟩
    clear zX zY zY5 hN9 hB9 hXn hYn hbz hXe hYe
    go_simp
    clear hS
    try dsimp only
    refine Shut.out hK _ _ (((((((HZ0.out.keep HFIN.out.2.2.2.2.1).other (B' := X) (by omega) 0 (.slice a1 n1 c1)).other (B' := X) (by omega) 1 (.int .i64 ops)).other (B' := X) (by omega) 2 (.slice fa1 m1 fc1)).other (B' := X) (by omega) 3 (.bool down)).other (B' := X) (by omega) 4 (.int .i64 seq)).log) (fun hS => ?_)
    try simp only [Act.put, List.setIfInBounds_toArray, List.set_cons_zero, List.set_cons_succ, List.getElem_toArray, List.getElem_cons_succ, List.getElem_cons_zero]
    refine wpAnyH_done (by kernel_rfl) ?_ _
    refine wpOp_last rfl (fun K hK => ?_)
    clear hS
    go_simp
    refine Shut.out hK _ _ (NoPanic.normal ?_)
    rotate_left 1
    all_goals (have HM : Hid _ := wrr_of (D := ⟨ds, ops, fs, down⟩) (seq := seq) (kind := kind) (ab := ab) (lb := lb) (cbb := cbb) HH.out HB0.out HZ0.out HZ1.out HFIN.out; clear hK HFIN HND; go_wp2_with fail; go_meet; exact HM.out)
  case rest =>
    obtain ⟨X, Y, a1, n1, c1, fa1, m1, fc1, qs, rfl, rfl, zX, zY, hN, hl, zH, zR, hB, hX2, hY2, hXY⟩ := hcut
    dsimp only at hN zX
    have hn1 : n1 = n := by rw [← hl, hN.bs.len, hln]
    have hm1 : m1 = m := by rw [← OwnE.len hN.fs, HFL.out]
    subst hn1 hm1
    have HB2 : Hid (Below w.heap.size w wc) := hB
    have HN : Hid (NewDv wc (H + 1 + 1) a1 n1 c1 fa1 m1 fc1 ds fs qs ∧ qs.length = n1 ∧ Blk wc X 39 #[.slice a1 n1 c1, .int .i64 ops, .slice fa1 m1 fc1, .bool down, .int .i64 seq] ∧ Blk wc H 39 #[.slice a n1 cap, .int .i64 ops, .slice fa m1 fc, .bool down, .int .i64 seq] ∧ Blk wc (H + 1) 39 #[.slice none 0 0, .int .i64 0, .slice none 0 0, .bool false, .int .i64 0]) := ⟨hN, hl, zX, zH, zR⟩
    have HY : Hid (Blk wc Y 57 #[.int .i64 kind, .int .i64 seq, .slice ab lb cbb]) := zY
    obtain ⟨y0, y1, y2⟩ := zY.thr
    clear zX zY hN hl zH zR hB HB0 HZ0 HZ1 hall HBA HBR HBAR HBRA hc0 hcA hcR hcAR hcRA s0 s1 s2 s3 s4 HS0 HFL
    go_wp2_with fail
    refine (hro wc).mono ?_
    rintro e w3 ⟨rfl, b3⟩
    clear hro y0 y1 y2
    cases hk : recOk ⟨kind, seq, body⟩ with
    | false =>
      have bX := b3
      try rw [hk]
      have HR : Hid (WrA.mk ⟨ds, ops, down⟩ false (-1) 1 = R) := by show _ = _; rw [← hR, wrOut_form (.inl hk)]
      clear hR hk HDV HRB HY b3
      have HND : Hid (NewDv w3 w.heap.size a1 n1 c1 fa1 m1 fc1 ds fs qs ∧ qs.length = n1 ∧ Below w.heap.size w w3 ∧ H + 1 ∉ fpDv a1 n1 c1 fa1 m1 fc1 qs) := ⟨(HN.out.1.keep bX).wider (by have := HH.out; omega), HN.out.2.1, HB2.out.trans (bX.mono HB2.out.size), fun h => by have := HN.out.1.from (H + 1) h; omega⟩
      obtain ⟨x0, x1, x2, x3, x4⟩ := (HN.out.2.2.1.keep bX).log
      have zr := HN.out.2.2.2.2.keep bX
      clear bX
      obtain ⟨r0, r1, r2, r3, r4⟩ := zr.log
      have g0 := zr.frozen 0
      have g1 := zr.frozen 1
      have g2 := zr.frozen 2
      have g3 := zr.frozen 3
      have g4 := zr.frozen 4
      have zf := ((((zr.set 0 (.slice a1 n1 c1)).set 1 (.int .i64 ops)).set 2 (.slice fa1 m1 fc1)).set 3 (.bool down)).set 4 (.int .i64 seq)
      obtain ⟨d0, d1, d2, d3, d4⟩ := zf.log
      clear zr zf
      go_wp2
      refine bodyPost_ret (v := .tuple #[.agg #[.slice a1 n1 c1, .int .i64 ops, .slice fa1 m1 fc1, .bool down, .int .i64 seq], .int .i64 (-1), .int .i64 1]) (by simp [results, Tryz.f11, go_sem, d0, d1, d2, d3, d4]) rfl ?_
      rw [← HGP.out, ← HR.out]
      obtain ⟨hnd, hql, hb, hf1⟩ := HND.out
      have s : ∀ (W : World) (i : Nat) (v : Value), Below w.heap.size w W → Below w.heap.size w (W.setCell ⟨H + 1, i, none⟩ v) := fun W i v hb => hb.setCell (p := ⟨H + 1, i, none⟩) (by have := HH.out; simp only; omega) v
      exact ⟨a1, n1, c1, fa1, m1, fc1, _, (by unfold WrA.D WrA.sq; rfl), ((((hnd.setN hf1).setN hf1).setN hf1).setN hf1).setN hf1, hql, s _ _ _ (s _ _ _ (s _ _ _ (s _ _ _ (s _ _ _ hb))))⟩
    | true =>
      try rw [hk]
      have hrange := (recOk_iff _).1 hk
      dsimp only at hrange
      obtain ⟨_, _, hs0', hs1', _⟩ := hrange
      obtain ⟨q0, q1, q2, q3, q4⟩ := (HN.out.2.2.2.1.keep b3).log
      go_wp2_with fail
      refine (HDV.out w3 (HB2.out.trans (b3.mono HB2.out.size))).mono ?_
      rintro e w4 ⟨rfl, b4⟩
      have b34 := b3.trans (b4.mono b3.size)
      clear HDV q0 q1 q2 q3 q4 b4 b3
      cases hd : devB ds ops fs with
      | false =>
        have bX := b34
        try rw [hd]
        have HR : Hid (WrA.mk ⟨ds, ops, down⟩ false (-1) 1 = R) := by show _ = _; rw [← hR, wrOut_form (.inr (.inl hd))]
        clear hR hd hk HRB HY b34
        have HND : Hid (NewDv w4 w.heap.size a1 n1 c1 fa1 m1 fc1 ds fs qs ∧ qs.length = n1 ∧ Below w.heap.size w w4 ∧ H + 1 ∉ fpDv a1 n1 c1 fa1 m1 fc1 qs) := ⟨(HN.out.1.keep bX).wider (by have := HH.out; omega), HN.out.2.1, HB2.out.trans (bX.mono HB2.out.size), fun h => by have := HN.out.1.from (H + 1) h; omega⟩
        obtain ⟨x0, x1, x2, x3, x4⟩ := (HN.out.2.2.1.keep bX).log
        have zr := HN.out.2.2.2.2.keep bX
        clear bX
        obtain ⟨r0, r1, r2, r3, r4⟩ := zr.log
        have g0 := zr.frozen 0
        have g1 := zr.frozen 1
        have g2 := zr.frozen 2
        have g3 := zr.frozen 3
        have g4 := zr.frozen 4
        have zf := ((((zr.set 0 (.slice a1 n1 c1)).set 1 (.int .i64 ops)).set 2 (.slice fa1 m1 fc1)).set 3 (.bool down)).set 4 (.int .i64 seq)
        obtain ⟨d0, d1, d2, d3, d4⟩ := zf.log
        clear zr zf
        go_wp2
        refine bodyPost_ret (v := .tuple #[.agg #[.slice a1 n1 c1, .int .i64 ops, .slice fa1 m1 fc1, .bool down, .int .i64 seq], .int .i64 (-1), .int .i64 1]) (by simp [results, Tryz.f11, go_sem, d0, d1, d2, d3, d4]) rfl ?_
        rw [← HGP.out, ← HR.out]
        obtain ⟨hnd, hql, hb, hf1⟩ := HND.out
        have s : ∀ (W : World) (i : Nat) (v : Value), Below w.heap.size w W → Below w.heap.size w (W.setCell ⟨H + 1, i, none⟩ v) := fun W i v hb => hb.setCell (p := ⟨H + 1, i, none⟩) (by have := HH.out; simp only; omega) v
        exact ⟨a1, n1, c1, fa1, m1, fc1, _, (by unfold WrA.D WrA.sq; rfl), ((((hnd.setN hf1).setN hf1).setN hf1).setN hf1).setN hf1, hql, s _ _ _ (s _ _ _ (s _ _ _ (s _ _ _ (s _ _ _ hb))))⟩
      | true =>
        try rw [hd]
        obtain ⟨q0, q1, q2, q3, q4⟩ := (HN.out.2.2.2.1.keep b34).log
        by_cases hsq : seq ≥ 1000000
        · have bX := b34
          have hse : (seq == 1000000) = true := by simp; omega
          have HR : Hid (WrA.mk ⟨ds, ops, down⟩ false (-1) 1 = R) := by show _ = _; rw [← hR, wrOut_form (.inr (.inr (by omega)))]
          clear hR hd hk HRB HY b34
          have HND : Hid (NewDv w4 w.heap.size a1 n1 c1 fa1 m1 fc1 ds fs qs ∧ qs.length = n1 ∧ Below w.heap.size w w4 ∧ H + 1 ∉ fpDv a1 n1 c1 fa1 m1 fc1 qs) := ⟨(HN.out.1.keep bX).wider (by have := HH.out; omega), HN.out.2.1, HB2.out.trans (bX.mono HB2.out.size), fun h => by have := HN.out.1.from (H + 1) h; omega⟩
          obtain ⟨x0, x1, x2, x3, x4⟩ := (HN.out.2.2.1.keep bX).log
          have zr := HN.out.2.2.2.2.keep bX
          clear bX
          obtain ⟨r0, r1, r2, r3, r4⟩ := zr.log
          have g0 := zr.frozen 0
          have g1 := zr.frozen 1
          have g2 := zr.frozen 2
          have g3 := zr.frozen 3
          have g4 := zr.frozen 4
          have zf := ((((zr.set 0 (.slice a1 n1 c1)).set 1 (.int .i64 ops)).set 2 (.slice fa1 m1 fc1)).set 3 (.bool down)).set 4 (.int .i64 seq)
          obtain ⟨d0, d1, d2, d3, d4⟩ := zf.log
          clear zr zf
          go_wp2
          refine bodyPost_ret (v := .tuple #[.agg #[.slice a1 n1 c1, .int .i64 ops, .slice fa1 m1 fc1, .bool down, .int .i64 seq], .int .i64 (-1), .int .i64 1]) (by simp [results, Tryz.f11, go_sem, d0, d1, d2, d3, d4]) rfl ?_
          rw [← HGP.out, ← HR.out]
          obtain ⟨hnd, hql, hb, hf1⟩ := HND.out
          have s : ∀ (W : World) (i : Nat) (v : Value), Below w.heap.size w W → Below w.heap.size w (W.setCell ⟨H + 1, i, none⟩ v) := fun W i v hb => hb.setCell (p := ⟨H + 1, i, none⟩) (by have := HH.out; simp only; omega) v
          exact ⟨a1, n1, c1, fa1, m1, fc1, _, (by unfold WrA.D WrA.sq; rfl), ((((hnd.setN hf1).setN hf1).setN hf1).setN hf1).setN hf1, hql, s _ _ _ (s _ _ _ (s _ _ _ (s _ _ _ (s _ _ _ hb))))⟩
        have hse : (seq == 1000000) = false := by simp; omega
        cases down with
        | true =>
          have bX := b34
          have HR : Hid (WrA.mk ⟨ds, ops, true⟩ false (-1) 10 = R) := by show _ = _; rw [← hR, wrOut_down hk hd (by omega)]
          clear hR hd hk HRB HY b34
          have HND : Hid (NewDv w4 w.heap.size a1 n1 c1 fa1 m1 fc1 ds fs qs ∧ qs.length = n1 ∧ Below w.heap.size w w4 ∧ H + 1 ∉ fpDv a1 n1 c1 fa1 m1 fc1 qs) := ⟨(HN.out.1.keep bX).wider (by have := HH.out; omega), HN.out.2.1, HB2.out.trans (bX.mono HB2.out.size), fun h => by have := HN.out.1.from (H + 1) h; omega⟩
          obtain ⟨x0, x1, x2, x3, x4⟩ := (HN.out.2.2.1.keep bX).log
          have zr := HN.out.2.2.2.2.keep bX
          clear bX
          obtain ⟨r0, r1, r2, r3, r4⟩ := zr.log
          have g0 := zr.frozen 0
          have g1 := zr.frozen 1
          have g2 := zr.frozen 2
          have g3 := zr.frozen 3
          have g4 := zr.frozen 4
          have zf := ((((zr.set 0 (.slice a1 n1 c1)).set 1 (.int .i64 ops)).set 2 (.slice fa1 m1 fc1)).set 3 (.bool true)).set 4 (.int .i64 seq)
          obtain ⟨d0, d1, d2, d3, d4⟩ := zf.log
          clear zr zf
          go_wp2
          refine bodyPost_ret (v := .tuple #[.agg #[.slice a1 n1 c1, .int .i64 ops, .slice fa1 m1 fc1, .bool true, .int .i64 seq], .int .i64 (-1), .int .i64 10]) (by simp [results, Tryz.f11, go_sem, d0, d1, d2, d3, d4]) rfl ?_
          rw [← HGP.out, ← HR.out]
          obtain ⟨hnd, hql, hb, hf1⟩ := HND.out
          have s : ∀ (W : World) (i : Nat) (v : Value), Below w.heap.size w W → Below w.heap.size w (W.setCell ⟨H + 1, i, none⟩ v) := fun W i v hb => hb.setCell (p := ⟨H + 1, i, none⟩) (by have := HH.out; simp only; omega) v
          exact ⟨a1, n1, c1, fa1, m1, fc1, _, (by unfold WrA.D WrA.sq; rfl), ((((hnd.setN hf1).setN hf1).setN hf1).setN hf1).setN hf1, hql, s _ _ _ (s _ _ _ (s _ _ _ (s _ _ _ (s _ _ _ hb))))⟩
        | false =>
          have HB4 : Hid (Below w.heap.size w w4) := HB2.out.trans (b34.mono HB2.out.size)
          have HBd : Hid (Below w4.heap.size w4 w4.drew) := (Below.refl _ w4).drew
          have hpr := putRecI_yes ⟨kind, seq, body⟩ ab cbb w4.drew ⟨(HRB.out _ (HB4.out.trans (HBd.out.mono HB4.out.size))).1, hby⟩ hk
          unfold recC at hpr
          dsimp only at hpr
          obtain ⟨Z, hZe⟩ : ∃ Z, summedOf (recEnc ⟨kind, seq, body⟩) = Z := ⟨_, rfl⟩
          obtain ⟨nb, hnbe⟩ : ∃ x, (recEnc ⟨kind, seq, body⟩).length + 4 = x := ⟨_, rfl⟩
          have hz : Z.length = nb := by rw [← hZe, summedOf_len, hnbe]
          have hn4 : nb ≤ 400 := by
            have := recPut_len ⟨kind, seq, body⟩
            unfold recPut at this
            rw [if_pos hk, hZe, hz] at this
            exact this
          rw [hZe, hnbe, hbl] at hpr
          rw [wrOut_go hk hd (by omega), hln, hZe] at hR
          have hC : ∀ (U : World) (gb cb : Nat), Below w4.heap.size w4 U → Own U gb nb cb Z → Calls Tryz.prog 40 #[.agg #[.slice a1 n1 c1, .int .i64 ops, .slice fa1 m1 fc1, .bool false, .int .i64 seq], .slice (some ⟨gb, 0, none⟩) nb cb, .int .i64 spare] U (LwA U (H + 1 + 1) (R.D fs) (R.sq seq) R.adr R.code) := fun U gb cb hU ho => by
            have hcb : nb ≤ cb := by
              rcases ho.2 with ⟨h1, h2⟩ | ⟨g', c', cur, h1, _, _, h2, _⟩
              · simp at h1
              · simp only [Value.slice.injEq] at h1; omega
            have hBU := HB4.out.trans (hU.mono HB4.out.size)
            have hsU : H + 1 + 1 ≤ U.heap.size := by have h1 := (HN.out.2.2.1.keep (b34.trans (hU.mono b34.size))).lt; omega
            have h := loopI fs Z spare (H + 1 + 1) ⟨ds, ops, false⟩ a1 n1 c1 fa1 m1 fc1 qs seq gb nb cb U (HN.out.1.keep (b34.trans (hU.mono b34.size))) HN.out.2.1 ⟨hd, rfl⟩ hfm ⟨by omega, by omega⟩ hz hn4 hcb ho.rd (HRB.out U hBU).2 hsU
            rw [hR] at h
            exact h
          obtain ⟨⟨rds, rops, rdn⟩, rmore, radr, rcode⟩ := R
          unfold WrA.D at hC
          dsimp only at hC
          obtain ⟨sqr, hsqr⟩ : ∃ x, WrA.sq ⟨⟨rds, rops, rdn⟩, rmore, radr, rcode⟩ seq = x := ⟨_, rfl⟩
          rw [hsqr] at hC
          have HSQ : Hid _ := hsqr
          have HC : Hid _ := hC
          have HX4 : Hid (Blk w4 X 39 #[.slice a1 n1 c1, .int .i64 ops, .slice fa1 m1 fc1, .bool false, .int .i64 seq]) := HN.out.2.2.1.keep b34
          have HY4 : Hid (Blk w4 Y 57 #[.int .i64 kind, .int .i64 seq, .slice ab lb cbb]) := HY.out.keep b34
          have HR4 : Hid (Blk w4 (H + 1) 39 #[.slice none 0 0, .int .i64 0, .slice none 0 0, .bool false, .int .i64 0]) := HN.out.2.2.2.2.keep b34
          have hs6 : Hid (∀ W : World, Blk W X 39 #[.slice a1 n1 c1, .int .i64 ops, .slice fa1 m1 fc1, .bool false, .int .i64 seq] → Blk W Y 57 #[.int .i64 kind, .int .i64 seq, .slice ab lb cbb] → W.cell? ⟨X, 0, none⟩ = some (.slice a1 n1 c1) ∧ W.cell? ⟨X, 1, none⟩ = some (.int .i64 ops) ∧ W.cell? ⟨X, 2, none⟩ = some (.slice fa1 m1 fc1) ∧ W.cell? ⟨X, 3, none⟩ = some (.bool false) ∧ W.cell? ⟨X, 4, none⟩ = some (.int .i64 seq) ∧ W.cell? ⟨Y, 0, none⟩ = some (.int .i64 kind) ∧ W.cell? ⟨Y, 1, none⟩ = some (.int .i64 seq) ∧ W.cell? ⟨Y, 2, none⟩ = some (.slice ab lb cbb)) := fun W h1 h2 => ⟨h1.cell 0, h1.cell 1, h1.cell 2, h1.cell 3, h1.cell 4, h2.cell 0, h2.cell 1, h2.cell 2⟩
          obtain ⟨s0, s1, s2, s3, s4, s5, s6, s7⟩ := hs6.out w4.drew (HX4.out.keep HBd.out) (HY4.out.keep HBd.out)
          clear hR hd hk HRB HY b34 hC hsqr hZe hnbe hz hn4
          go_upto_region 6 with fail
          refine wp_region_noPanic ?_
          refine wp_region_last (fun W : World => W.cell? ⟨X, 0, none⟩ = some (.slice a1 n1 c1) ∧ W.cell? ⟨X, 1, none⟩ = some (.int .i64 ops) ∧ W.cell? ⟨X, 2, none⟩ = some (.slice fa1 m1 fc1) ∧ W.cell? ⟨X, 3, none⟩ = some (.bool false) ∧ W.cell? ⟨X, 4, none⟩ = some (.int .i64 seq) ∧ W.cell? ⟨Y, 0, none⟩ = some (.int .i64 kind) ∧ W.cell? ⟨Y, 1, none⟩ = some (.int .i64 seq) ∧ W.cell? ⟨Y, 2, none⟩ = some (.slice ab lb cbb)) 10 (by kernel_rfl) (by kernel_rfl) (by go_keep) 10 (by kernel_rfl) (fun hS => ?_)
          refine wpAnyH_take (i := 0) (v := ?gv7) rfl (by kernel_rfl) (by kernel_rfl) (by kernel_rfl) (fun _ _ _ h => h) (Or.inl ⟨by kernel_rfl, ?gy7⟩) (by assumption) ?gr7
          case gy7 => (intro w' hSw; (try dsimp only at hSw); go_simp; (try with_reducible rfl))
          try simp only [Act.put, List.setIfInBounds_toArray, List.set_cons_zero, List.set_cons_succ, List.getElem_toArray, List.getElem_cons_zero]
          refine wpAnyH_take (i := 1) (v := ?gv8) rfl (by kernel_rfl) (by kernel_rfl) (by kernel_rfl) (fun _ _ _ h => h) (Or.inl ⟨by kernel_rfl, ?gy8⟩) (by assumption) ?gr8
          case gy8 => (intro w' hSw; (try dsimp only at hSw); go_simp; (try with_reducible rfl))
          try simp only [Act.put, List.setIfInBounds_toArray, List.set_cons_zero, List.set_cons_succ, List.getElem_toArray, List.getElem_cons_succ, List.getElem_cons_zero]
          refine wpAnyH_take (i := 3) (v := ?gv9) rfl (by kernel_rfl) (by kernel_rfl) (by kernel_rfl) (fun _ _ _ h => h) (Or.inl ⟨by kernel_rfl, ?gy9⟩) (by assumption) ?gr9
          case gy9 => (intro w' hSw; (try dsimp only at hSw); go_simp; (try with_reducible rfl))
          try simp only [Act.put, List.setIfInBounds_toArray, List.set_cons_zero, List.set_cons_succ, List.getElem_toArray, List.getElem_cons_succ, List.getElem_cons_zero]
          refine wpAnyH_ready (rs := [2]) (by kernel_rfl) (by simp) ?_
          refine AllReadyH.cons rfl (fun K hK => ?_) AllReadyH.nil
          go_simp
          (with_reducible refine hpr.mono ?_)
          rintro e w5 ⟨gb, cb, rfl, hgb, ho, b5⟩
          have HP : Hid (Below w4.heap.size w4 w5 ∧ Own w5 gb nb cb Z) := ⟨HBd.out.trans (b5.mono HBd.out.size), ho⟩
          clear hpr hgb ho b5
          dsimp only
          clear hS
          try dsimp only
          refine Shut.out hK _ _ (hs6.out w5 (HX4.out.keep HP.out.1) (HY4.out.keep HP.out.1)) (fun hS => ?_)
          try simp only [Act.put, List.setIfInBounds_toArray, List.set_cons_zero, List.set_cons_succ, List.getElem_toArray, List.getElem_cons_succ, List.getElem_cons_zero]
          refine wpAnyH_ready (rs := [4]) (by kernel_rfl) (by simp) ?_
          refine AllReadyH.cons rfl (fun K hK => ?_) AllReadyH.nil
          go_simp
          (with_reducible refine (HC.out w5 gb cb HP.out.1 HP.out.2).mono ?_)
          rintro e w6 ⟨a9, n9, c9, fa9, m9, fc9, qs9, rfl, hN9, hl9, b9⟩
          have B46 : Below w4.heap.size w4 w6 := HP.out.1.trans (b9.mono HP.out.1.size)
          have HND : Hid (NewDv w6 w.heap.size a9 n9 c9 fa9 m9 fc9 rds fs qs9 ∧ qs9.length = n9 ∧ Below w.heap.size w w6 ∧ H + 1 ∉ fpDv a9 n9 c9 fa9 m9 fc9 qs9) := ⟨hN9.wider (by have := HH.out; omega), hl9, HB4.out.trans (B46.mono HB4.out.size), fun h => by have := hN9.from (H + 1) h; omega⟩
          have HZ6 : Hid (Blk w6 X 39 #[.slice a1 n1 c1, .int .i64 ops, .slice fa1 m1 fc1, .bool false, .int .i64 seq] ∧ Blk w6 Y 57 #[.int .i64 kind, .int .i64 seq, .slice ab lb cbb] ∧ Blk w6 (H + 1) 39 #[.slice none 0 0, .int .i64 0, .slice none 0 0, .bool false, .int .i64 0]) := ⟨HX4.out.keep B46, HY4.out.keep B46, HR4.out.keep B46⟩
          clear hN9 hl9 b9 B46
          dsimp only
          clear hS
          try dsimp only
          refine Shut.out hK _ _ (hs6.out w6 HZ6.out.1 HZ6.out.2.1) (fun hS => ?_)
          try simp only [Act.put, List.setIfInBounds_toArray, List.set_cons_zero, List.set_cons_succ, List.getElem_toArray, List.getElem_cons_succ, List.getElem_cons_zero]
          refine wpAnyH_take (i := 5) (v := ?gv10) rfl (by kernel_rfl) (by kernel_rfl) (by kernel_rfl) (fun _ _ _ h => h) (Or.inl ⟨by kernel_rfl, ?gy10⟩) (by assumption) ?gr10
          case gy10 => (intro w' hSw; (try dsimp only at hSw); go_simp; (try with_reducible rfl))
          try simp only [Act.put, List.setIfInBounds_toArray, List.set_cons_zero, List.set_cons_succ, List.getElem_toArray, List.getElem_cons_succ, List.getElem_cons_zero]
          refine wpAnyH_take (i := 6) (v := ?gv11) rfl (by kernel_rfl) (by kernel_rfl) (by kernel_rfl) (fun _ _ _ h => h) (Or.inl ⟨by kernel_rfl, ?gy11⟩) (by assumption) ?gr11
          case gy11 => (intro w' hSw; (try dsimp only at hSw); go_simp; (try with_reducible rfl))
          try simp only [Act.put, List.setIfInBounds_toArray, List.set_cons_zero, List.set_cons_succ, List.getElem_toArray, List.getElem_cons_succ, List.getElem_cons_zero]
          refine wpAnyH_take (i := 7) (v := ?gv12) rfl (by kernel_rfl) (by kernel_rfl) (by kernel_rfl) (fun _ _ _ h => h) (Or.inl ⟨by kernel_rfl, ?gy12⟩) (by assumption) ?gr12
          case gy12 => (intro w' hSw; (try dsimp only at hSw); go_simp; (try with_reducible rfl))
          try simp only [Act.put, List.setIfInBounds_toArray, List.set_cons_zero, List.set_cons_succ, List.getElem_toArray, List.getElem_cons_succ, List.getElem_cons_zero]
          refine wpAnyH_ready (rs := [8]) (by kernel_rfl) (by simp) ?_
          refine AllReadyH.cons rfl (fun K hK => ?_) AllReadyH.nil
          obtain ⟨r0, r1, r2, r3, r4⟩ := HZ6.out.2.2.log
          have g0 := HZ6.out.2.2.frozen 0
          have g1 := HZ6.out.2.2.frozen 1
          have g2 := HZ6.out.2.2.frozen 2
          have g3 := HZ6.out.2.2.frozen 3
          have g4 := HZ6.out.2.2.frozen 4
          have zf := ((((HZ6.out.2.2.set 0 (.slice a9 n9 c9)).set 1 (.int .i64 rops)).set 2 (.slice fa9 m9 fc9)).set 3 (.bool rdn)).set 4 (.int .i64 sqr)
          obtain ⟨d0, d1, d2, d3, d4⟩ := zf.log
          clear zf
          go_simp
          clear hS
          try dsimp only
          refine Shut.out hK _ _ (hs6.out _ ((((((((((HZ6.out.1).other (B' := H + 1) (by omega) 0 (.slice a9 n9 c9))).other (B' := H + 1) (by omega) 1 (.int .i64 rops))).other (B' := H + 1) (by omega) 2 (.slice fa9 m9 fc9))).other (B' := H + 1) (by omega) 3 (.bool rdn))).other (B' := H + 1) (by omega) 4 (.int .i64 sqr)) ((((((((((HZ6.out.2.1).other (B' := H + 1) (by omega) 0 (.slice a9 n9 c9))).other (B' := H + 1) (by omega) 1 (.int .i64 rops))).other (B' := H + 1) (by omega) 2 (.slice fa9 m9 fc9))).other (B' := H + 1) (by omega) 3 (.bool rdn))).other (B' := H + 1) (by omega) 4 (.int .i64 sqr))) (fun hS => ?_)
          try simp only [Act.put, List.setIfInBounds_toArray, List.set_cons_zero, List.set_cons_succ, List.getElem_toArray, List.getElem_cons_succ, List.getElem_cons_zero]
          refine wpAnyH_take (i := 9) (v := ?gv13) rfl (by kernel_rfl) (by kernel_rfl) (by kernel_rfl) (fun _ _ _ h => h) (Or.inl ⟨by kernel_rfl, ?gy13⟩) (by assumption) ?gr13
          case gy13 => (intro w' hSw; (try dsimp only at hSw); go_simp; (try with_reducible rfl))
          try simp only [Act.put, List.setIfInBounds_toArray, List.set_cons_zero, List.set_cons_succ, List.getElem_toArray, List.getElem_cons_succ, List.getElem_cons_zero]
          refine wpAnyH_done (by kernel_rfl) ?_ _
          refine wpOp_last rfl (fun K hK => ?_)
          clear hS
          go_simp
          refine Shut.out hK _ _ (NoPanic.normal ?_)
          go_wp2
          refine bodyPost_ret (v := .tuple #[.agg #[.slice a9 n9 c9, .int .i64 rops, .slice fa9 m9 fc9, .bool rdn, .int .i64 sqr], .int .i64 radr, .int .i64 rcode]) (by simp [results, Tryz.f11, go_sem, d0, d1, d2, d3, d4]) rfl ?_
          rw [← HGP.out]
          obtain ⟨hnd, hql, hb, hf1⟩ := HND.out
          have s : ∀ (W : World) (i : Nat) (v : Value), Below w.heap.size w W → Below w.heap.size w (W.setCell ⟨H + 1, i, none⟩ v) := fun W i v hb => hb.setCell (p := ⟨H + 1, i, none⟩) (by have := HH.out; simp only; omega) v
          exact ⟨a9, n9, c9, fa9, m9, fc9, _, (by rw [← HSQ.out]; rfl), ((((hnd.setN hf1).setN hf1).setN hf1).setN hf1).setN hf1, hql, s _ _ _ (s _ _ _ (s _ _ _ (s _ _ _ (s _ _ _ hb))))⟩
end
end Go.Proofs.YtnhbhpbmnlojlaaGreatDoor
