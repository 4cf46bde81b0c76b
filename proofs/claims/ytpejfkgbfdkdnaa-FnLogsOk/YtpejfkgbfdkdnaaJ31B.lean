/-
  Joined: LogZ, LdM, LdK.
-/
import Derived.Test.YtpejfkgbfdkdnaaJ30B
namespace Go.Proofs.Ytpejfkgbfdkdnaa
section
open Go.RowKit
/-- What Write answers. -/
noncomputable def wrOut (ds : List BkD) (ops : Int) (fs : List FtD) (down : Bool) (seq kind : Int) (body : List Int) (spare : Int) : WrA :=
  if recOk ⟨kind, seq, body⟩ = false ∨ devB ds ops fs = false ∨ seq = 1000000 then ⟨⟨ds, ops, down⟩, false, -1, 1⟩
  else if down = true then ⟨⟨ds, ops, down⟩, false, -1, 10⟩
  else wrA fs (summedOf (recEnc ⟨kind, seq, body⟩)) spare (ds.length + 1) ⟨ds, ops, false⟩
theorem wrOut_form {ds : List BkD} {ops : Int} {fs : List FtD} {down : Bool} {seq kind : Int} {body : List Int} {spare : Int} (h : recOk ⟨kind, seq, body⟩ = false ∨ devB ds ops fs = false ∨ seq = 1000000) : wrOut ds ops fs down seq kind body spare = ⟨⟨ds, ops, down⟩, false, -1, 1⟩ := by unfold wrOut; rw [if_pos h]
theorem wrOut_down {ds : List BkD} {ops : Int} {fs : List FtD} {seq kind : Int} {body : List Int} {spare : Int} (h1 : recOk ⟨kind, seq, body⟩ = true) (h2 : devB ds ops fs = true) (h3 : seq ≠ 1000000) : wrOut ds ops fs true seq kind body spare = ⟨⟨ds, ops, true⟩, false, -1, 10⟩ := by
  unfold wrOut
  rw [if_neg (by simp [h1, h2, h3]), if_pos rfl]
theorem wrOut_go {ds : List BkD} {ops : Int} {fs : List FtD} {seq kind : Int} {body : List Int} {spare : Int} (h1 : recOk ⟨kind, seq, body⟩ = true) (h2 : devB ds ops fs = true) (h3 : seq ≠ 1000000) : wrOut ds ops fs false seq kind body spare = wrA fs (summedOf (recEnc ⟨kind, seq, body⟩)) spare (ds.length + 1) ⟨ds, ops, false⟩ := by
  unfold wrOut
  rw [if_neg (by simp [h1, h2, h3]), if_neg (by simp)]
set_option maxRecDepth 100000 in
set_option maxHeartbeats 16000000 in
theorem loopD (fs : List FtD) (spare : Int) (B : Nat) (S : LgS) (a : Option Addr) (n c : Nat) (fa : Option Addr) (m fc : Nat) (qs : List BkR) (seq kind : Int) (body : List Int) (ab : Option Addr) (lb cbb : Nat) (w : World) (hN : NewDv w B a n c fa m fc S.ds fs qs) (hl : qs.length = n) (hI : devB S.ds S.ops fs = true) (hdn : S.down = true) (hm : m ≤ 1048576) (hbl : body.length = lb) (hok : recOk ⟨kind, seq, body⟩ = true) (hrb : Rd w ab body) (hby : Byt body) (hB : B ≤ w.heap.size) :
    Calls Try.prog 61 #[.agg #[.slice a n c, .int .i64 S.ops, .slice fa m fc, .bool true, .int .i64 seq], .int .i64 kind, .slice ab lb cbb, .int .i64 spare] w (LwA w B (((WrA.mk S false (-1) 10)).D fs) (((WrA.mk S false (-1) 10)).sq seq) ((WrA.mk S false (-1) 10)).adr ((WrA.mk S false (-1) 10)).code) := by
  have B0 : Below w.heap.size w ((w.alloc (.cells #[.slice a n c, .int .i64 S.ops, .slice fa m fc, .bool true, .int .i64 seq] 31)).alloc (.cells #[.slice none 0 0, .int .i64 0, .slice none 0 0, .bool false, .int .i64 0] 31)) := ((Below.refl _ w).alloc (Nat.le_refl _) _).alloc (by simp) _
  have z0 := (Blk.new w 31 #[.slice a n c, .int .i64 S.ops, .slice fa m fc, .bool true, .int .i64 seq]).alloc (.cells #[.slice none 0 0, .int .i64 0, .slice none 0 0, .bool false, .int .i64 0] 31)
  have z1 := Blk.new (w.alloc (.cells #[.slice a n c, .int .i64 S.ops, .slice fa m fc, .bool true, .int .i64 seq] 31)) 31 #[.slice none 0 0, .int .i64 0, .slice none 0 0, .bool false, .int .i64 0]
  simp only [World.size_alloc] at z1
  have hnl : S.ds.length = n := by rw [← hN.bs.len]; exact hl
  have hfm : fs.length = m := OwnE.len hN.fs
  obtain ⟨W0, hW0⟩ : ∃ W, (w.alloc (.cells #[.slice a n c, .int .i64 S.ops, .slice fa m fc, .bool true, .int .i64 seq] 31)).alloc (.cells #[.slice none 0 0, .int .i64 0, .slice none 0 0, .bool false, .int .i64 0] 31) = W := ⟨_, rfl⟩
  rw [hW0] at B0 z0 z1
  obtain ⟨H, hH⟩ : ∃ H, w.heap.size = H := ⟨_, rfl⟩
  have HH : Hid (w.heap.size = H) := hH
  have hfp : H ∉ fpDv a n c fa m fc qs ∧ H + 1 ∉ fpDv a n c fa m fc qs := ⟨fun h => by have := hN.lt H h; omega, fun h => by have := hN.lt (H + 1) h; omega⟩
  have hN0 := hN.keep B0
  rw [hH] at z0 z1
  generalize hGP : LwA w B (((WrA.mk S false (-1) 10)).D fs) (((WrA.mk S false (-1) 10)).sq seq) ((WrA.mk S false (-1) 10)).adr ((WrA.mk S false (-1) 10)).code = P
  obtain ⟨R, hR⟩ : ∃ R, (WrA.mk S false (-1) 10) = R := ⟨_, rfl⟩
  rw [hR] at hGP
  have HGP : Hid _ := hGP
  have HS : Hid (∀ (W : World) (S' : LgS) (a' : Option Addr) (c' : Nat) (fa' : Option Addr) (fc' : Nat) (qs' : List BkR), NewDv W B a' n c' fa' m fc' S'.ds fs qs' → qs'.length = n → devB S'.ds S'.ops fs = true → CR W a' n qs' ∧ FR W fa' m fs) := fun W S' a' c' fa' fc' qs' h1 h2 h3 => ⟨h1.cr h2 (devB_tot h3), OwnFa.fr h1.fs hm⟩
  have hpr := putRecS_yes ⟨kind, seq, body⟩ ab cbb W0 ⟨hrb.keep B0, hby⟩ hok
  unfold recC at hpr
  dsimp only at hpr
  rw [hbl] at hpr
  generalize summedOf (recEnc ⟨kind, seq, body⟩) = Z at hpr
  generalize (recEnc ⟨kind, seq, body⟩).length + 4 = nb at hpr
  have HFM : Hid (fs.length = m) := hfm
  have HB0 : Hid (Below w.heap.size w W0) := B0
  have HBB : Hid (B ≤ w.heap.size) := hB
  have hst : Hid (Blk W0 H 31 #[.slice a n c, .int .i64 S.ops, .slice fa m fc, .bool true, .int .i64 seq] ∧ Blk W0 (H + 1) 31 #[.slice none 0 0, .int .i64 0, .slice none 0 0, .bool false, .int .i64 0] ∧ NewDv W0 B a n c fa m fc S.ds fs qs ∧ qs.length = n ∧ devB S.ds S.ops fs = true ∧ S.ds.length = n ∧ (WrA.mk S false (-1) 10) = R ∧ H ∉ fpDv a n c fa m fc qs ∧ H + 1 ∉ fpDv a n c fa m fc qs) := ⟨z0, z1, hN0, hl, hI, hnl, hR, hfp.1, hfp.2⟩
  obtain ⟨q0, q1, q2, q3, q4⟩ := z0.log
  clear hN hl hI hrb hok hby B0 z0 z1 hN0 hnl hfm hfp hGP hR hB hbl
  go_enter Try.func61, Try.ntmps61
  go_wp2_with fail
  try rw [hW0]
  try rw [hH]
  refine hpr.mono ?_
  rintro e w1 ⟨gb, cb, rfl, hgb, ho1, b1⟩
  clear ho1 hgb
  have HB1 : Hid (Below w.heap.size w w1) := HB0.out.trans (b1.mono HB0.out.size)
  obtain ⟨z0, z1, hN0, hl, hI, hnl, hR, hf0, hf1⟩ := hst.out
  have hst1 : Hid (Blk w1 H 31 #[.slice a n c, .int .i64 S.ops, .slice fa m fc, .bool true, .int .i64 seq] ∧ Blk w1 (H + 1) 31 #[.slice none 0 0, .int .i64 0, .slice none 0 0, .bool false, .int .i64 0] ∧ NewDv w1 B a n c fa m fc S.ds fs qs) := ⟨z0.keep b1, z1.keep b1, hN0.keep b1⟩
  clear hpr z0 z1 hN0 hst b1 HB0 hW0 q0 q1 q2 q3 q4
  have HR : Hid (WrA.mk S false (-1) 10 = R) := hR
  have hop := openS a n c qs S.ops fa m fc true seq spare w1 (HS.out w1 S a c fa fc qs hst1.out.2.2 hl hI).1
  rw [hst1.out.2.2.bs.D] at hop
  generalize openD S.ds spare = ok at hop
  have HNF : Hid (∀ W : World, Below w1.heap.size w1 W → Blk W (H + 1) 31 #[.slice none 0 0, .int .i64 0, .slice none 0 0, .bool false, .int .i64 0] ∧ Blk W H 31 #[.slice a n c, .int .i64 S.ops, .slice fa m fc, .bool true, .int .i64 seq] ∧ NewDv W B a n c fa m fc S.ds fs qs ∧ qs.length = n ∧ Below w.heap.size w W ∧ H + 1 ∉ fpDv a n c fa m fc qs) := fun W hW => ⟨hst1.out.2.1.keep hW, hst1.out.1.keep hW, hst1.out.2.2.keep hW, hl, HB1.out.trans (hW.mono HB1.out.size), hf1⟩
  have hn0 : (0 : Int) ≤ (n : Int) := by omega
  obtain ⟨q0, q1, q2, q3, q4⟩ := hst1.out.1.log
  have hdd : S.down = true := hdn
  clear hl hI hnl hR hf0 hf1 hst1 HB1
  go_wp2
  refine wp_loop_rounds 1 ?_; rw [rounds_succ]
  go_wp2_with fail
  refine hop.mono ?_
  rintro e w2 ⟨rfl, b2⟩
  obtain ⟨zr, z0, hn5⟩ := HNF.out w2 b2
  have HND : Hid _ := hn5
  obtain ⟨q0, q1, q2, q3, q4⟩ := z0.log
  clear hop b2 hn5 HNF z0
  obtain ⟨r0, r1, r2, r3, r4⟩ := zr.log
  have g0 := zr.frozen 0
  have g1 := zr.frozen 1
  have g2 := zr.frozen 2
  have g3 := zr.frozen 3
  have g4 := zr.frozen 4
  have zf := ((((zr.set 0 (.slice a n c)).set 1 (.int .i64 S.ops)).set 2 (.slice fa m fc)).set 3 (.bool true)).set 4 (.int .i64 seq)
  obtain ⟨d0, d1, d2, d3, d4⟩ := zf.log
  clear zr zf
  go_wp2
  refine bodyPost_ret (v := .tuple #[.agg #[.slice a n c, .int .i64 S.ops, .slice fa m fc, .bool true, .int .i64 seq], .int .i64 (-1), .int .i64 10]) (by simp [results, Try.f61, go_sem, d0, d1, d2, d3, d4]) rfl ?_
  rw [← HGP.out, ← HR.out]
  obtain ⟨hnd, hql, hb, hf1⟩ := HND.out
  have s : ∀ (W : World) (i : Nat) (v : Value), Below w.heap.size w W → Below w.heap.size w (W.setCell ⟨H + 1, i, none⟩ v) := fun W i v hb => hb.setCell (p := ⟨H + 1, i, none⟩) (by have := HH.out; simp only; omega) v
  exact ⟨a, n, c, fa, m, fc, _, (by unfold WrA.D WrA.sq; dsimp only; rw [hdd]; rfl), ((((hnd.setN hf1).setN hf1).setN hf1).setN hf1).setN hf1, hql, s _ _ _ (s _ _ _ (s _ _ _ (s _ _ _ (s _ _ _ hb))))⟩
set_option maxRecDepth 100000 in
set_option maxHeartbeats 8000000 in
theorem writeS (a : Option Addr) (n cap : Nat) (bs : List BkR) (ops : Int) (fa : Option Addr) (m fc : Nat) (fs : List FtD) (down : Bool) (seq kind : Int) (body : List Int) (ab : Option Addr) (lb cbb : Nat) (spare : Int) (w : World) (ht : CR w a n bs) (hf : FR w fa m fs) (hbl : body.length = lb) (hlb : lb ≤ 1048576) (hrb : Rd w ab body) (hby : Byt body) :
    Calls Try.prog 42 #[.agg #[.slice a n cap, .int .i64 ops, .slice fa m fc, .bool down, .int .i64 seq], .int .i64 kind, .slice ab lb cbb, .int .i64 spare] w (LwA w w.heap.size ((wrOut (bs.map BkR.D) ops fs down seq kind body spare).D fs) ((wrOut (bs.map BkR.D) ops fs down seq kind body spare).sq seq) (wrOut (bs.map BkR.D) ops fs down seq kind body spare).adr (wrOut (bs.map BkR.D) ops fs down seq kind body spare).code) := by
  have B0 : Below w.heap.size w ((w.alloc (.cells #[.slice a n cap, .int .i64 ops, .slice fa m fc, .bool down, .int .i64 seq] 31)).alloc (.cells #[.slice none 0 0, .int .i64 0, .slice none 0 0, .bool false, .int .i64 0] 31)) := ((Below.refl _ w).alloc (Nat.le_refl _) _).alloc (by simp) _
  have z0 := (Blk.new w 31 #[.slice a n cap, .int .i64 ops, .slice fa m fc, .bool down, .int .i64 seq]).alloc (.cells #[.slice none 0 0, .int .i64 0, .slice none 0 0, .bool false, .int .i64 0] 31)
  have z1 := Blk.new (w.alloc (.cells #[.slice a n cap, .int .i64 ops, .slice fa m fc, .bool down, .int .i64 seq] 31)) 31 #[.slice none 0 0, .int .i64 0, .slice none 0 0, .bool false, .int .i64 0]
  simp only [World.size_alloc] at z1
  obtain ⟨W0, hW0⟩ : ∃ W, (w.alloc (.cells #[.slice a n cap, .int .i64 ops, .slice fa m fc, .bool down, .int .i64 seq] 31)).alloc (.cells #[.slice none 0 0, .int .i64 0, .slice none 0 0, .bool false, .int .i64 0] 31) = W := ⟨_, rfl⟩
  have hs0 : W0.heap.size = w.heap.size + 1 + 1 := by rw [← hW0]; simp
  rw [hW0] at B0 z0 z1
  have hc0 := copyLogS a n cap bs ops fa m fc fs down seq W0 (ht.keep B0) (hf.keep B0)
  have hln : (bs.map BkR.D).length = n := by simp [ht.len]
  have HDV : Hid (∀ W : World, Below w.heap.size w W → Calls Try.prog 36 #[.agg #[.slice a n cap, .int .i64 ops, .slice fa m fc, .bool down]] W fun e w' => e = .returned (.bool (devB (bs.map BkR.D) ops fs)) ∧ Below W.heap.size W w') := fun W hW => devOkS a n cap bs ops fa m fc fs down W (ht.keep hW) (hf.keep hW)
  have hro := fun (W : World) => recOkS ⟨kind, seq, body⟩ ab cbb W (by dsimp only; omega)
  unfold recC at hro
  dsimp only at hro
  rw [hbl] at hro
  have HRB : Hid (∀ W : World, Below w.heap.size w W → Rd W ab body) := fun W hW => hrb.keep hW
  have hfm := hf.tot
  generalize hGP : LwA w w.heap.size ((wrOut (bs.map BkR.D) ops fs down seq kind body spare).D fs) ((wrOut (bs.map BkR.D) ops fs down seq kind body spare).sq seq) (wrOut (bs.map BkR.D) ops fs down seq kind body spare).adr (wrOut (bs.map BkR.D) ops fs down seq kind body spare).code = P
  obtain ⟨R, hR⟩ : ∃ R, wrOut (bs.map BkR.D) ops fs down seq kind body spare = R := ⟨_, rfl⟩
  rw [hR] at hGP
  have HGP : Hid _ := hGP
  obtain ⟨H, hH⟩ : ∃ H, w.heap.size = H := ⟨_, rfl⟩
  have HH : Hid (w.heap.size = H) := hH
  rw [hH] at z0 z1 hs0
  generalize hds : bs.map BkR.D = ds at hc0 hln HDV hR
  have HB0 : Hid (Below w.heap.size w W0) := B0
  have HZ : Hid (Blk W0 H 31 #[.slice a n cap, .int .i64 ops, .slice fa m fc, .bool down, .int .i64 seq] ∧ Blk W0 (H + 1) 31 #[.slice none 0 0, .int .i64 0, .slice none 0 0, .bool false, .int .i64 0]) := ⟨z0, z1⟩
  have HFL : Hid (fs.length = m) := hf.len
  obtain ⟨q0, q1, q2, q3, q4⟩ := z0.log
  clear ht hf hrb B0 z0 z1 hGP hds
  go_enter Try.func42, Try.ntmps42
  go_wp2_with fail
  try rw [hW0]
  try rw [hH]
  refine hc0.mono ?_
  rintro e w1 ⟨a1, n1, c1, fa1, m1, fc1, qs, rfl, hN, hl, b1⟩
  dsimp only at hN ⊢
  have hn1 : n1 = n := by rw [← hl, hN.bs.len, hln]
  have hm1 : m1 = m := by rw [← OwnE.len hN.fs, HFL.out]
  subst hn1 hm1
  have bA : Below w1.heap.size w1 (w1.alloc (.cells #[.slice a1 n1 c1, .int .i64 ops, .slice fa1 m1 fc1, .bool down, .int .i64 seq] 31)) := (Below.refl _ w1).alloc (Nat.le_refl _) _
  have y2 := Blk.new w1 31 #[.slice a1 n1 c1, .int .i64 ops, .slice fa1 m1 fc1, .bool down, .int .i64 seq]
  have b2 := b1.trans (bA.mono b1.size)
  obtain ⟨W2, hW2⟩ : ∃ W, w1.alloc (.cells #[.slice a1 n1 c1, .int .i64 ops, .slice fa1 m1 fc1, .bool down, .int .i64 seq] 31) = W := ⟨_, rfl⟩
  obtain ⟨X, hX⟩ : ∃ X, w1.heap.size = X := ⟨_, rfl⟩
  have hN2 := hN.keep bA
  rw [hW2] at bA y2 b2 hN2
  rw [hX] at y2
  have HB2 : Hid (Below w.heap.size w W2) := HB0.out.trans (b2.mono HB0.out.size)
  have HN : Hid (NewDv W2 (H + 1 + 1) a1 n1 c1 fa1 m1 fc1 ds fs qs ∧ qs.length = n1 ∧ Blk W2 X 31 #[.slice a1 n1 c1, .int .i64 ops, .slice fa1 m1 fc1, .bool down, .int .i64 seq] ∧ Blk W2 H 31 #[.slice a n1 cap, .int .i64 ops, .slice fa m1 fc, .bool down, .int .i64 seq] ∧ Blk W2 (H + 1) 31 #[.slice none 0 0, .int .i64 0, .slice none 0 0, .bool false, .int .i64 0]) := ⟨by rw [← hs0]; exact hN2, hl, y2, HZ.out.1.keep b2, HZ.out.2.keep b2⟩
  obtain ⟨q0, q1, q2, q3, q4⟩ := HN.out.2.2.2.1.log
  clear hc0 hN hl b1 bA y2 b2 hN2 HB0 HZ hW0
  go_wp2_with fail
  try rw [hW2]
  try rw [hX]
  clear hW2
  refine (HDV.out W2 HB2.out).mono ?_
  rintro e w3 ⟨rfl, b3⟩
  cases hd : devB ds ops fs with
  | false =>
    have bX := b3
    try rw [hd]
    have HR : Hid (WrA.mk ⟨ds, ops, down⟩ false (-1) 1 = R) := by show _ = _; rw [← hR, wrOut_form (.inr (.inl hd))]
    clear hR hd hro HDV HRB b3
    have HND : Hid (NewDv w3 w.heap.size a1 n1 c1 fa1 m1 fc1 ds fs qs ∧ qs.length = n1 ∧ Below w.heap.size w w3 ∧ H + 1 ∉ fpDv a1 n1 c1 fa1 m1 fc1 qs) := ⟨(HN.out.1.keep bX).wider (by have := HH.out; omega), HN.out.2.1, HB2.out.trans (bX.mono HB2.out.size), fun h => by have := HN.out.1.from (H + 1) h; omega⟩
    obtain ⟨x0, x1, x2, x3, x4⟩ := (HN.out.2.2.1.keep bX).log
    have zr := HN.out.2.2.2.2.keep bX
    clear bX
    obtain ⟨r0, r1, r2, r3, r4⟩ := zr.log
    have g0 := zr.frozen 0
    have g1 := zr.frozen 1
    have g2 := zr.frozen 2
    have g3 := zr.frozen 3
    have g4 := zr.frozen 4
    have zf := ((((zr.set 0 (.slice a1 n1 c1)).set 1 (.int .i64 ops)).set 2 (.slice fa1 m1 fc1)).set 3 (.bool down)).set 4 (.int .i64 seq)
    obtain ⟨d0, d1, d2, d3, d4⟩ := zf.log
    clear zr zf
    go_wp2
    refine bodyPost_ret (v := .tuple #[.agg #[.slice a1 n1 c1, .int .i64 ops, .slice fa1 m1 fc1, .bool down, .int .i64 seq], .int .i64 (-1), .int .i64 1]) (by simp [results, Try.f42, go_sem, d0, d1, d2, d3, d4]) rfl ?_
    rw [← HGP.out, ← HR.out]
    obtain ⟨hnd, hql, hb, hf1⟩ := HND.out
    have s : ∀ (W : World) (i : Nat) (v : Value), Below w.heap.size w W → Below w.heap.size w (W.setCell ⟨H + 1, i, none⟩ v) := fun W i v hb => hb.setCell (p := ⟨H + 1, i, none⟩) (by have := HH.out; simp only; omega) v
    exact ⟨a1, n1, c1, fa1, m1, fc1, _, (by unfold WrA.D WrA.sq; rfl), ((((hnd.setN hf1).setN hf1).setN hf1).setN hf1).setN hf1, hql, s _ _ _ (s _ _ _ (s _ _ _ (s _ _ _ (s _ _ _ hb))))⟩
  | true =>
    try rw [hd]
    obtain ⟨q0, q1, q2, q3, q4⟩ := (HN.out.2.2.2.1.keep b3).log
    clear HDV
    go_wp2_with fail
    refine (hro w3).mono ?_
    rintro e w4 ⟨rfl, b4⟩
    have b34 := b3.trans (b4.mono b3.size)
    obtain ⟨q0, q1, q2, q3, q4⟩ := (HN.out.2.2.2.1.keep b34).log
    clear hro b3 b4
    cases hk : recOk ⟨kind, seq, body⟩ with
    | false =>
      have bX := b34
      try rw [hk]
      have HR : Hid (WrA.mk ⟨ds, ops, down⟩ false (-1) 1 = R) := by show _ = _; rw [← hR, wrOut_form (.inl hk)]
      clear hR hd hk HRB b34
      have HND : Hid (NewDv w4 w.heap.size a1 n1 c1 fa1 m1 fc1 ds fs qs ∧ qs.length = n1 ∧ Below w.heap.size w w4 ∧ H + 1 ∉ fpDv a1 n1 c1 fa1 m1 fc1 qs) := ⟨(HN.out.1.keep bX).wider (by have := HH.out; omega), HN.out.2.1, HB2.out.trans (bX.mono HB2.out.size), fun h => by have := HN.out.1.from (H + 1) h; omega⟩
      obtain ⟨x0, x1, x2, x3, x4⟩ := (HN.out.2.2.1.keep bX).log
      have zr := HN.out.2.2.2.2.keep bX
      clear bX
      obtain ⟨r0, r1, r2, r3, r4⟩ := zr.log
      have g0 := zr.frozen 0
      have g1 := zr.frozen 1
      have g2 := zr.frozen 2
      have g3 := zr.frozen 3
      have g4 := zr.frozen 4
      have zf := ((((zr.set 0 (.slice a1 n1 c1)).set 1 (.int .i64 ops)).set 2 (.slice fa1 m1 fc1)).set 3 (.bool down)).set 4 (.int .i64 seq)
      obtain ⟨d0, d1, d2, d3, d4⟩ := zf.log
      clear zr zf
      go_wp2
      refine bodyPost_ret (v := .tuple #[.agg #[.slice a1 n1 c1, .int .i64 ops, .slice fa1 m1 fc1, .bool down, .int .i64 seq], .int .i64 (-1), .int .i64 1]) (by simp [results, Try.f42, go_sem, d0, d1, d2, d3, d4]) rfl ?_
      rw [← HGP.out, ← HR.out]
      obtain ⟨hnd, hql, hb, hf1⟩ := HND.out
      have s : ∀ (W : World) (i : Nat) (v : Value), Below w.heap.size w W → Below w.heap.size w (W.setCell ⟨H + 1, i, none⟩ v) := fun W i v hb => hb.setCell (p := ⟨H + 1, i, none⟩) (by have := HH.out; simp only; omega) v
      exact ⟨a1, n1, c1, fa1, m1, fc1, _, (by unfold WrA.D WrA.sq; rfl), ((((hnd.setN hf1).setN hf1).setN hf1).setN hf1).setN hf1, hql, s _ _ _ (s _ _ _ (s _ _ _ (s _ _ _ (s _ _ _ hb))))⟩
    | true =>
      try rw [hk]
      have hrange := (recOk_iff _).1 hk
      dsimp only at hrange
      obtain ⟨_, _, hs0', hs1', _⟩ := hrange
      by_cases hsq : seq ≥ 1000000
      · have bX := b34
        have HR : Hid (WrA.mk ⟨ds, ops, down⟩ false (-1) 1 = R) := by show _ = _; rw [← hR, wrOut_form (.inr (.inr (by omega)))]
        clear hR hd hk HRB b34
        have HND : Hid (NewDv w4 w.heap.size a1 n1 c1 fa1 m1 fc1 ds fs qs ∧ qs.length = n1 ∧ Below w.heap.size w w4 ∧ H + 1 ∉ fpDv a1 n1 c1 fa1 m1 fc1 qs) := ⟨(HN.out.1.keep bX).wider (by have := HH.out; omega), HN.out.2.1, HB2.out.trans (bX.mono HB2.out.size), fun h => by have := HN.out.1.from (H + 1) h; omega⟩
        obtain ⟨x0, x1, x2, x3, x4⟩ := (HN.out.2.2.1.keep bX).log
        have zr := HN.out.2.2.2.2.keep bX
        clear bX
        obtain ⟨r0, r1, r2, r3, r4⟩ := zr.log
        have g0 := zr.frozen 0
        have g1 := zr.frozen 1
        have g2 := zr.frozen 2
        have g3 := zr.frozen 3
        have g4 := zr.frozen 4
        have zf := ((((zr.set 0 (.slice a1 n1 c1)).set 1 (.int .i64 ops)).set 2 (.slice fa1 m1 fc1)).set 3 (.bool down)).set 4 (.int .i64 seq)
        obtain ⟨d0, d1, d2, d3, d4⟩ := zf.log
        clear zr zf
        go_wp2
        refine bodyPost_ret (v := .tuple #[.agg #[.slice a1 n1 c1, .int .i64 ops, .slice fa1 m1 fc1, .bool down, .int .i64 seq], .int .i64 (-1), .int .i64 1]) (by simp [results, Try.f42, go_sem, d0, d1, d2, d3, d4]) rfl ?_
        rw [← HGP.out, ← HR.out]
        obtain ⟨hnd, hql, hb, hf1⟩ := HND.out
        have s : ∀ (W : World) (i : Nat) (v : Value), Below w.heap.size w W → Below w.heap.size w (W.setCell ⟨H + 1, i, none⟩ v) := fun W i v hb => hb.setCell (p := ⟨H + 1, i, none⟩) (by have := HH.out; simp only; omega) v
        exact ⟨a1, n1, c1, fa1, m1, fc1, _, (by unfold WrA.D WrA.sq; rfl), ((((hnd.setN hf1).setN hf1).setN hf1).setN hf1).setN hf1, hql, s _ _ _ (s _ _ _ (s _ _ _ (s _ _ _ (s _ _ _ hb))))⟩
      · obtain ⟨x0, x1, x2, x3, x4⟩ := (HN.out.2.2.1.keep b34).log
        have hB4 := HB2.out.trans (b34.mono HB2.out.size)
        have hN4 := HN.out.1.keep b34
        have zr4 := HN.out.2.2.2.2.keep b34
        have hsz4 := zr4.lt
        have hnq := HN.out.2.1
        have HC : Hid (∀ (Q : WrA), wrOut ds ops fs down seq kind body spare = Q → Calls Try.prog 61 #[.agg #[.slice a1 n1 c1, .int .i64 ops, .slice fa1 m1 fc1, .bool down, .int .i64 seq], .int .i64 kind, .slice ab lb cbb, .int .i64 spare] w4 (LwA w4 (H + 1 + 1) (Q.D fs) (Q.sq seq) Q.adr Q.code)) := fun Q hQ => by
          subst hQ
          cases down with
          | true =>
            rw [wrOut_down hk hd (by omega)]
            exact loopD fs spare (H + 1 + 1) ⟨ds, ops, true⟩ a1 n1 c1 fa1 m1 fc1 qs seq kind body ab lb cbb w4 hN4 hnq hd rfl hfm hbl hk (HRB.out w4 hB4) hby (by omega)
          | false =>
            rw [wrOut_go hk hd (by omega), hln]
            exact loopS fs _ spare (H + 1 + 1) ⟨ds, ops, false⟩ a1 n1 c1 fa1 m1 fc1 qs seq kind body ab lb cbb _ w4 hN4 hnq ⟨hd, rfl⟩ hfm ⟨by omega, by omega⟩ hbl hk (HRB.out w4 hB4) hby rfl rfl (by omega)
        have hcall := HC.out R hR
        obtain ⟨⟨rds, rops, rdn⟩, rmore, radr, rcode⟩ := R
        unfold WrA.D at hcall
        dsimp only at hcall
        have HB4 : Hid (Below w.heap.size w w4 ∧ Blk w4 (H + 1) 31 #[.slice none 0 0, .int .i64 0, .slice none 0 0, .bool false, .int .i64 0] ∧ H + 1 ∉ fpDv a1 n1 c1 fa1 m1 fc1 qs) := ⟨hB4, zr4, fun h => by have := HN.out.1.from (H + 1) h; omega⟩
        obtain ⟨sqr, hsqr⟩ : ∃ x, WrA.sq ⟨⟨rds, rops, rdn⟩, rmore, radr, rcode⟩ seq = x := ⟨_, rfl⟩
        rw [hsqr] at hcall
        have HSQ : Hid _ := hsqr
        clear hR hd hk HRB b34 HC hN4 zr4 hB4 hsqr
        go_wp2_with fail
        refine hcall.mono ?_
        rintro e w5 ⟨a9, n9, c9, fa9, m9, fc9, qs9, rfl, hN9, hl9, b9⟩
        have HND : Hid (NewDv w5 w.heap.size a9 n9 c9 fa9 m9 fc9 rds fs qs9 ∧ qs9.length = n9 ∧ Below w.heap.size w w5 ∧ H + 1 ∉ fpDv a9 n9 c9 fa9 m9 fc9 qs9) := ⟨hN9.wider (by have := HH.out; omega), hl9, HB4.out.1.trans (b9.mono HB4.out.1.size), fun h => by have := hN9.from (H + 1) h; omega⟩
        have zr := HB4.out.2.1.keep b9
        clear hN9 hl9 b9 HB4 hcall q0 q1 q2 q3 q4 x0 x1 x2 x3 x4
        obtain ⟨r0, r1, r2, r3, r4⟩ := zr.log
        have g0 := zr.frozen 0
        have g1 := zr.frozen 1
        have g2 := zr.frozen 2
        have g3 := zr.frozen 3
        have g4 := zr.frozen 4
        have zf := ((((zr.set 0 (.slice a9 n9 c9)).set 1 (.int .i64 rops)).set 2 (.slice fa9 m9 fc9)).set 3 (.bool rdn)).set 4 (.int .i64 sqr)
        obtain ⟨d0, d1, d2, d3, d4⟩ := zf.log
        clear zr zf
        go_wp2
        refine bodyPost_ret (v := .tuple #[.agg #[.slice a9 n9 c9, .int .i64 rops, .slice fa9 m9 fc9, .bool rdn, .int .i64 sqr], .int .i64 radr, .int .i64 rcode]) (by simp [results, Try.f42, go_sem, d0, d1, d2, d3, d4]) rfl ?_
        rw [← HGP.out]
        obtain ⟨hnd, hql, hb, hf1⟩ := HND.out
        have s : ∀ (W : World) (i : Nat) (v : Value), Below w.heap.size w W → Below w.heap.size w (W.setCell ⟨H + 1, i, none⟩ v) := fun W i v hb => hb.setCell (p := ⟨H + 1, i, none⟩) (by have := HH.out; simp only; omega) v
        exact ⟨a9, n9, c9, fa9, m9, fc9, _, (by rw [← HSQ.out]; rfl), ((((hnd.setN hf1).setN hf1).setN hf1).setN hf1).setN hf1, hql, s _ _ _ (s _ _ _ (s _ _ _ (s _ _ _ (s _ _ _ hb))))⟩
end

section
open Go.RowKit
theorem wrA_keep {fs : List FtD} {Z : List Int} {spare : Int} (hz : Z.length ≤ 400) : ∀ (f : Nat) (S : LgS), LgI fs S → devB (wrA fs Z spare f S).S.ds (wrA fs Z spare f S).S.ops fs = true ∧ (wrA fs Z spare f S).S.ds.length = S.ds.length := by
  intro f
  induction f with
  | zero => intro S hI; exact ⟨hI.1, rfl⟩
  | succ f ih =>
    intro S hI
    by_cases ho : openD S.ds spare < 0
    · rw [wrA_neg ho]; exact ⟨hI.1, rfl⟩
    · obtain ⟨k, b, e, hk, hb, hn⟩ := openD_hit (devB_ch' hI.1) (show 0 ≤ openD S.ds spare by omega)
      obtain ⟨h1, h2, h3⟩ := st_ok hI hk hb hn hz
      rcases h3 with ⟨h3, h4⟩ | ⟨h3, h4, _⟩ | h3
      · rw [wrA_good e h3]; exact ⟨h1, h2⟩
      · rw [wrA_bad e h3]
        have := ih (stN fs k Z S) ⟨h1, h4⟩
        exact ⟨this.1, this.2.trans h2⟩
      · rw [wrA_off e h3]; exact ⟨h1, h2⟩
theorem rec_len {D : RecD} (h : recOk D = true) : (summedOf (recEnc D)).length ≤ 400 := by
  have := recPut_len D
  unfold recPut at this
  rw [if_pos h] at this
  exact this
theorem wrOut_keep {ds : List BkD} {ops : Int} {fs : List FtD} {down : Bool} {seq kind : Int} {body : List Int} {spare : Int} (h : devB ds ops fs = true) : devB (wrOut ds ops fs down seq kind body spare).S.ds (wrOut ds ops fs down seq kind body spare).S.ops fs = true ∧ (wrOut ds ops fs down seq kind body spare).S.ds.length = ds.length := by
  by_cases h1 : recOk ⟨kind, seq, body⟩ = false ∨ devB ds ops fs = false ∨ seq = 1000000
  · rw [wrOut_form h1]; exact ⟨h, rfl⟩
  · have h2 : recOk ⟨kind, seq, body⟩ = true := by
      cases hr : recOk ⟨kind, seq, body⟩ with
      | true => rfl
      | false => exact absurd (.inl hr) h1
    have h3 : seq ≠ 1000000 := fun e => h1 (.inr (.inr e))
    cases down with
    | true => rw [wrOut_down h2 h h3]; exact ⟨h, rfl⟩
    | false =>
      rw [wrOut_go h2 h h3]
      exact wrA_keep (rec_len h2) _ ⟨ds, ops, false⟩ ⟨h, rfl⟩
end

section
open Go.RowKit
theorem ok_bad {ds : List BkD} (h : ChOk ds) (k : Nat) : ChOk (badD ds k) := by
  unfold badD
  split
  · rename_i b hb
    have hok := h.2.2 b (List.mem_of_getElem? hb)
    exact ok_set h ⟨hok.1, hok.2.1, hok.2.2.1, hok.2.2.2⟩
  · exact h
theorem next_range (n m : Nat) : nextP ((List.range n).map fun i => (⟨decide (i < m), []⟩ : PgD)) = min m n := by
  induction n with
  | zero => simp [nextP]
  | succ n ih =>
    unfold nextP at ih ⊢
    rw [List.range_succ, List.map_append, List.filter_append, List.length_append, ih]
    by_cases h : n < m
    · simp [h]; omega
    · simp [h]; omega
theorem ok_torn {ds : List BkD} (h : ChOk ds) (x : Int) (kp : Int) (hc : codeE true ds x = 0) : ChOk (tornD ds x.toNat kp) := by
  unfold codeE mayD at hc
  split at hc
  · omega
  · rename_i hx
    obtain ⟨k, rfl⟩ : ∃ k : Nat, x = (k : Int) := ⟨x.toNat, by omega⟩
    split at hc
    · omega
    · split at hc
      · omega
      · rename_i hw
        unfold tornD
        split
        · rename_i b hb
          rw [Int.toNat_natCast] at hb ⊢
          have hok := h.2.2 b (List.mem_of_getElem? hb)
          have hww : b.wear < 100000 := by
            unfold wornAt at hw
            simp [hb] at hw
            exact hw
          refine ok_set h ⟨by simp, by have := hok.2.1; dsimp only; omega, by dsimp only; omega, fun i p hp => ?_⟩
          have hp' : ((List.range 8).map fun i => (⟨decide (i < min kp.toNat 8), []⟩ : PgD))[i]? = some p := hp
          have hn : nextP ((List.range 8).map fun i => (⟨decide (i < min kp.toNat 8), []⟩ : PgD)) = min (min kp.toNat 8) 8 := next_range 8 _
          rw [List.getElem?_map] at hp'
          by_cases h8 : i < 8
          · rw [List.getElem?_range h8] at hp'
            simp only [Option.map_some, Option.some.injEq] at hp'
            subst hp'
            refine ⟨by simp [pgOk], ?_⟩
            show decide (i < min kp.toNat 8) = decide (i < nextP _)
            rw [hn]
            congr 1
            simp
          · rw [List.getElem?_eq_none (by simp; omega)] at hp'
            simp at hp'
        · exact h
theorem ok_progAt {ds : List BkD} (h : ChOk ds) {x : Int} {nb : Nat} (hc : codeP true ds x nb = 0) {zs : List Int} (hz : zs.length ≤ nb) : ChOk (progAt ds x.toNat zs) := by
  have h1 : codeP true ds x zs.length = 0 := by
    unfold codeP at hc ⊢
    split at hc
    · omega
    · rw [if_neg (by omega)]; exact hc
  have := ok_prog h x zs
  unfold programD at this
  rw [if_pos h1] at this
  exact this
theorem ok_eraseAt {ds : List BkD} (h : ChOk ds) {x : Int} (hc : codeE true ds x = 0) : ChOk (eraseAt ds x.toNat) := by
  have := ok_erase h x
  unfold eraseD at this
  rw [if_pos hc] at this
  exact this
/-- What an operation of a device leaves is right where each of its answers is. -/
theorem out_keep {ds a b : List BkD} {t : Int → List BkD} {ops : Int} {fs : List FtD} {down : Bool} {c : Int} {o : Option FtD} (h : devB ds ops fs = true) (ha : c = 0 → ChOk a) (hb : c = 0 → ChOk b) (ht : c = 0 → ∀ k, ChOk (t k)) : devB (outDs (evCode ds ops fs down c) o ds a b t) (outOps (evCode ds ops fs down c) ops) fs = true := by
  obtain ⟨h1, h2, h3⟩ := devB_parts.1 h
  by_cases hc : evCode ds ops fs down c = 0
  · have h4 : c = 0 ∧ ops < 100000 := by
      unfold evCode at hc
      rw [if_neg (by rw [h]; simp)] at hc
      split at hc
      · omega
      · rename_i h5
        exact ⟨hc, by omega⟩
    unfold outDs outOps
    rw [if_pos hc, if_pos hc]
    refine devB_parts.2 ⟨?_, by omega, h3⟩
    split
    · exact ha h4.1
    · split
      · exact hb h4.1
      · exact ht h4.1 _
  · unfold outDs outOps
    rw [if_neg hc, if_neg hc]
    exact h
theorem prog_keep {ds : List BkD} {ops : Int} {fs : List FtD} {down : Bool} {x : Int} {nb : Nat} {zs : List Int} (hz : zs.length = nb) (h : devB ds ops fs = true) : devB (outDs (evCode ds ops fs down (codeP true ds x nb)) (faD ops fs) ds (progAt ds x.toNat zs) (badD ds x.toNat) (fun t => progAt ds x.toNat (zs.take t.toNat))) (outOps (evCode ds ops fs down (codeP true ds x nb)) ops) fs = true :=
  have h1 := (devB_parts.1 h).1
  out_keep h (fun hc => ok_progAt h1 hc (by omega)) (fun _ => ok_bad h1 _) (fun hc k => ok_progAt h1 hc (by rw [List.length_take]; omega))
theorem erase_keep {ds : List BkD} {ops : Int} {fs : List FtD} {down : Bool} {x : Int} (h : devB ds ops fs = true) : devB (outDs (evCode ds ops fs down (codeE true ds x)) (faD ops fs) ds (eraseAt ds x.toNat) (badD ds x.toNat) (tornD ds x.toNat)) (outOps (evCode ds ops fs down (codeE true ds x)) ops) fs = true :=
  have h1 := (devB_parts.1 h).1
  out_keep h (fun hc => ok_eraseAt h1 hc) (fun _ => ok_bad h1 _) (fun hc k => ok_torn h1 x k hc)
end
end Go.Proofs.Ytpejfkgbfdkdnaa
