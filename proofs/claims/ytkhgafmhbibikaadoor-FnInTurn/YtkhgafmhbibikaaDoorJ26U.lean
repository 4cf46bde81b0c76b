/-
  Joined: ChQi, ChPs.
-/
import Derived.Test.YtkhgafmhbibikaaDoorJ22U
import Derived.Test.YtkhgafmhbibikaaDoorJ25U
namespace Go.Proofs.YtkhgafmhbibikaaDoor
section
open Go.RowKit
/-- The code of a program, and the chip behind it. -/
def codeP (ok : Bool) (ds : List BkD) (x : Int) (nb : Nat) : Int := if 400 < nb then 1 else mayD ok ds x (decide (nextD ds x = 8))
def progAt (ds : List BkD) (k : Nat) (zs : List Int) : List BkD := match ds[k]? with | some b => ds.set k ⟨b.ps.set (nextP b.ps) ⟨true, zs⟩, b.wear, b.bad⟩ | none => ds
def programD (ok : Bool) (ds : List BkD) (x : Int) (zs : List Int) : List BkD := if codeP ok ds x zs.length = 0 then progAt ds x.toNat zs else ds
theorem fl_rd {w : World} {a : Option Addr} {n : Nat} {bs : List BkR} {fs : List FkR} (ht : CR w a n bs) (h : FlOf bs fs) : ∀ f ∈ fs, ∀ p ∈ f.ps, Rd w p.a p.zs := fun f hf p hp => by
  obtain ⟨i, hi⟩ := List.mem_iff_getElem?.1 hf
  obtain ⟨r, hr, h1, _, _⟩ := h.at hi
  rw [h1] at hp
  exact RdE.each (RdE.each ht.rd r (List.mem_of_getElem? hr)) p hp
theorem pr_rd {w : World} {a : Option Addr} {n : Nat} {bs : List BkR} {fs : List FkR} (ht : CR w a n bs) (h : FlOf bs fs) (x : Int) (q : PgR) (hq : Rd w q.a q.zs) : ∀ f ∈ prF fs x q, ∀ p ∈ f.ps, Rd w p.a p.zs := by
  intro f hf p hp
  unfold prF at hf
  split at hf
  · unfold prAt at hf
    split at hf
    · rename_i g hg
      rcases List.mem_or_eq_of_mem_set hf with h1 | h1
      · exact fl_rd ht h f h1 p hp
      · subst h1
        have hp' : p ∈ g.ps.set (fkN g) q := hp
        rcases List.mem_or_eq_of_mem_set hp' with h2 | h2
        · exact fl_rd ht h g (List.mem_of_getElem? hg) p h2
        · subst h2; exact hq
    · exact fl_rd ht h f hf p hp
  · exact fl_rd ht h f hf p hp
theorem pr_len {fs : List FkR} {x : Int} {q : PgR} : (prF fs x q).length = fs.length := by
  unfold prF
  split
  · unfold prAt; split <;> simp
  · rfl
theorem pr_code {bs : List BkR} {fs : List FkR} (h : FlOf bs fs) (x : Int) (nb : Nat) : prC fs x nb = codeP true (bs.map BkR.D) x nb := by
  unfold prC codeP
  split
  · rfl
  · by_cases hx : 0 ≤ x ∧ x < (bs.length : Int)
    · obtain ⟨k, rfl⟩ : ∃ k : Nat, x = (k : Int) := ⟨x.toNat, by omega⟩
      obtain ⟨r, hr⟩ : ∃ r, bs[k]? = some r := ⟨_, List.getElem?_eq_getElem (by omega)⟩
      obtain ⟨f, hf, h1, _, h3⟩ := h.2 k _ hr
      rw [mayD_in hr, nextD_in hr, btcC_in hf, ← h3, ← h1]
      cases f.bad with
      | true => simp
      | false =>
        simp only [Int.toNat_natCast, hf, Option.map_some, Option.some.injEq, fkN]
        by_cases h5 : nextP (f.ps.map PgR.D) = 8
        · simp [h5]
        · have h6 : ¬ ((nextP (f.ps.map PgR.D) : Nat) : Int) = 8 := by omega
          simp [h5, h6]
    · have h1 := h.1
      have hb : btcC fs x = 1 := by unfold btcC; rw [if_pos (by omega)]
      rw [hb, mayD_form (.inr (by simp; omega))]
      rfl
theorem pr_chip {bs : List BkR} {fs : List FkR} (h : FlOf bs fs) (x : Int) (q : PgR) (hu : q.used = true) : (prF fs x q).map FkR.D = programD true (bs.map BkR.D) x q.zs := by
  unfold prF programD
  rw [pr_code h x]
  split
  · rename_i hc
    unfold codeP at hc
    split at hc
    · omega
    · obtain ⟨_, k, r, rfl, hr, _⟩ := code_zero (bs := bs) hc
      obtain ⟨f, hf, h1, h2, h3⟩ := h.2 k r hr
      unfold prAt progAt
      rw [Int.toNat_natCast, hf, List.getElem?_map, hr]
      simp only [Option.map_some]
      rw [List.map_set, h.D]
      simp only [FkR.D, FkR.pg, BkR.D, fkN, List.map_set, h1, h2, h3, PgR.D, hu]
  · exact h.D
theorem totP_bound : ∀ (ps : List PgD), (∀ p ∈ ps, p.zs.length ≤ 400) → totP ps ≤ 401 * ps.length
  | [], _ => by simp [totP]
  | p :: ps, h => by
    have h1 := totP_bound ps (fun q hq => h q (List.mem_cons_of_mem _ hq))
    have h2 := h p List.mem_cons_self
    rw [totP_cons, List.length_cons]
    omega
theorem totB_bound : ∀ (ds : List BkD), (∀ b ∈ ds, totP b.ps ≤ 3208) → totB ds ≤ 3209 * ds.length
  | [], _ => by simp [totB]
  | b :: ds, h => by
    have h1 := totB_bound ds (fun q hq => h q (List.mem_cons_of_mem _ hq))
    have h2 := h b List.mem_cons_self
    rw [totB_cons, List.length_cons]
    omega
theorem totP_put : ∀ (ps : List PgD) (k : Nat) (q : PgD), totP (ps.set k q) ≤ totP ps + 1 + q.zs.length
  | [], _, _ => by simp [totP]
  | d :: ds, 0, q => by rw [List.set_cons_zero, totP_cons, totP_cons]; omega
  | d :: ds, k + 1, q => by
    have := totP_put ds k q
    rw [List.set_cons_succ, totP_cons, totP_cons]
    omega
theorem totB_put : ∀ (ds : List BkD) (k : Nat) (b : BkD), totB (ds.set k b) ≤ totB ds + 1 + totP b.ps
  | [], _, _ => by simp [totB]
  | d :: ds, 0, b => by rw [List.set_cons_zero, totB_cons, totB_cons]; omega
  | d :: ds, k + 1, b => by
    have := totB_put ds k b
    rw [List.set_cons_succ, totB_cons, totB_cons]
    omega
/-- What a program makes of a chip has not many bytes. -/
theorem programD_tot {ok : Bool} {ds : List BkD} (x : Int) (zs : List Int) (h : chipOkB ds = ok) (ht : totB ds ≤ 1048576) : totB (programD ok ds x zs) ≤ 1048576 := by
  unfold programD
  split
  · rename_i hc
    unfold codeP at hc
    split at hc
    · omega
    · rename_i hz
      cases ok with
      | false => rw [mayD_form (.inl rfl)] at hc; omega
      | true =>
        rw [chipOkB_iff] at h
        have hb : ∀ b ∈ ds, totP b.ps ≤ 3208 := fun b hb => by
          have h1 := h.2.2 b hb
          have h2 := totP_bound b.ps (fun p hp => by
            obtain ⟨i, hi⟩ := List.mem_iff_getElem?.1 hp
            have := (h1.2.2.2 i p hi).1
            unfold pgOk at this
            simp at this
            exact this.1)
          rw [h1.1] at h2
          omega
        have h3 := totB_bound ds hb
        have h4 := h.2.1
        unfold progAt
        split
        · rename_i b hk
          have h5 := totB_put ds x.toNat ⟨b.ps.set (nextP b.ps) ⟨true, zs⟩, b.wear, b.bad⟩
          have h6 := totP_put b.ps (nextP b.ps) ⟨true, zs⟩
          have h7 := hb b (List.mem_of_getElem? hk)
          simp only at h5 h6
          omega
        · exact ht
  · exact ht
theorem programD_len (ok : Bool) (ds : List BkD) (x : Int) (zs : List Int) : (programD ok ds x zs).length = ds.length := by
  unfold programD
  split
  · unfold progAt; split <;> simp
  · rfl
set_option maxRecDepth 100000 in
set_option maxHeartbeats 4000000 in
theorem program1I (F G n K L : Nat) (fs : List FkR) (x : Int) (ba : Option Addr) (nb bc : Nat) (zs : List Int) (w0 w : World) (hn : n ≤ 1048576) (hz : zs.length = nb) (hnb : nb ≤ 1048576) (h : FO w0 w F G n fs) (hr : ∀ f ∈ fs, ∀ p ∈ f.ps, Rd w p.a p.zs) (ht : totB (fs.map FkR.D) ≤ 1048576) (hK : Blk w K 3 #[.int .i64 x]) (hL : Blk w L 25 #[.slice ba nb bc]) :
    Calls Tryd.prog 36 #[.pointer (some ⟨F, 0, none⟩), .pointer (some ⟨K, 0, none⟩), .pointer (some ⟨L, 0, none⟩)] w (PrA w0 F G n fs x ⟨true, ba, bc, zs⟩) := by
  have hcall := programF F G n fs x ba nb bc zs w0 w hn hz hnb h hr ht
  have x0 := hK.cell 0
  have y0 := hL.cell 0
  simp at x0 y0
  generalize hGP : PrA w0 F G n fs x ⟨true, ba, bc, zs⟩ = P
  have HGP : Hid _ := hGP
  clear hGP h hr ht hK hL hz
  go_enter Tryd.func36, Tryd.ntmps36
  go_wp2_with fail
  refine hcall.mono ?_
  rintro e w1 ⟨rfl, h1⟩
  go_wp2
  rw [← HGP.out]
  exact ⟨rfl, h1⟩
set_option maxRecDepth 100000 in
set_option maxHeartbeats 8000000 in
theorem behindP (a : Option Addr) (n cap K L : Nat) (bs : List BkR) (x : Int) (ba : Option Addr) (nb bc : Nat) (zs : List Int) (w : World) (hz : zs.length = nb) (hnb : nb ≤ 1048576) (ht : CR w a n bs) (hK : Blk w K 3 #[.int .i64 x]) (hL : Blk w L 25 #[.slice ba nb bc]) (hrb : Rd w ba zs) (hE : EtCell w) :
    Calls Tryd.prog 35 #[.agg #[.slice a n cap], .func (.func 36) #[] #[.pointer (some ⟨K, 0, none⟩), .pointer (some ⟨L, 0, none⟩)]] w (ChCA w (programD (chipOkB (bs.map BkR.D)) (bs.map BkR.D) x zs) (codeP (chipOkB (bs.map BkR.D)) (bs.map BkR.D) x zs.length)) := by
  have hnn := ht.n
  have HZL : Hid (zs.length = nb) := hz
  clear hz
  have B0 : Below w.heap.size w ((w.alloc (.cells #[.slice a n cap] 29)).alloc (.cells #[.slice none 0 0] 29)) := ((Below.refl _ w).alloc (Nat.le_refl _) _).alloc (by simp) _
  have z0 := (Blk.new w 29 #[.slice a n cap]).alloc (.cells #[.slice none 0 0] 29)
  have z1 := Blk.new (w.alloc (.cells #[.slice a n cap] 29)) 29 #[.slice none 0 0]
  simp only [World.size_alloc] at z1
  have hws : ((w.alloc (.cells #[.slice a n cap] 29)).alloc (.cells #[.slice none 0 0] 29)).heap.size = w.heap.size + 2 := by simp
  obtain ⟨H, hH⟩ : ∃ H, w.heap.size = H := ⟨_, rfl⟩
  rw [hH] at z0 z1 hws
  obtain ⟨ok, hok⟩ : ∃ ok, chipOkB (bs.map BkR.D) = ok := ⟨_, rfl⟩
  have cOk := fun (W : World) (h : CR W a n bs) => chipOkI a n cap bs W h
  rw [hok] at cOk ⊢
  generalize hGP : ChCA w (programD ok (bs.map BkR.D) x zs) (codeP ok (bs.map BkR.D) x zs.length) = P
  have HGP : Hid _ := hGP
  clear hGP
  have COK : Hid _ := cOk
  have HOK : Hid (chipOkB (bs.map BkR.D) = ok) := hok
  clear cOk hok
  go_enter Tryd.func35, Tryd.ntmps35
  have x00 := z0.cell 0
  simp at x00
  go_upto_region 1 with fail
  obtain ⟨W0, hW0⟩ : ∃ W, (w.alloc (.cells #[.slice a n cap] 29)).alloc (.cells #[.slice none 0 0] 29) = W := ⟨_, rfl⟩
  rw [hW0] at B0 z0 z1 hws x00 ⊢
  clear hW0
  have HW : Hid _ := hws
  have HH : Hid (w.heap.size = H) := hH
  have HT : Hid (CR W0 a n bs) := ht.keep B0
  have HB0 : Hid (Below H w W0) := by rw [← hH]; exact B0
  have HZ0 : Hid (Blk W0 H 29 #[.slice a n cap]) := z0
  have HZ1 : Hid (Blk W0 (H + 1) 29 #[.slice none 0 0]) := z1
  have HK : Hid (Blk W0 K 3 #[.int .i64 x]) := hK.keep B0
  have HLL : Hid (Blk W0 L 25 #[.slice ba nb bc]) := hL.keep B0
  have HRB : Hid (Rd W0 ba zs) := Rd.keep hrb B0
  have HE : Hid (EtCell W0) := hE.keep B0
  have hln : Hid (bs.length = n) := ht.len
  clear ht B0 z0 z1 hH hK hE hL hrb
  go_wp2_with fail
  refine (COK.out W0 HT.out).mono ?_
  rintro e w1 ⟨rfl, b1⟩
  have y0 := (Blk.keep HZ0.out b1).cell 0
  simp at y0
  clear x00
  cases ok with
  | false =>
    go_wp2_with fail
    refine (copyChI a n cap bs w1 (HT.out.keep b1)).mono ?_
    rintro e w2 ⟨aC, nC, cC, tC, rfl, qC, hlC, b2⟩
    have B2 : Below W0.heap.size W0 w2 := b1.trans (b2.mono b1.size)
    have zr := Blk.keep HZ1.out B2
    have r0 := zr.cell 0
    have f0 := zr.frozen 0
    have zf := zr.set 0 (.slice aC nC cC)
    have d0 := zf.cell 0
    simp at r0 d0
    have HQ : Hid _ := qC
    have HB2 : Hid (Below W0.heap.size W0 w2) := B2
    have HB1 : Hid (W0.heap.size ≤ w1.heap.size) := b1.size
    have HL : Hid (tC.length = nC) := hlC
    clear qC b1 b2 B2 zr zf hlC y0
    go_wp2
    refine bodyPost_ret (v := .tuple #[.agg #[.slice aC nC cC], .int .i64 1]) (by simp [results, Tryd.f35, go_sem, d0]) rfl ?_
    rw [← HGP.out]
    have hc : codeP false (bs.map BkR.D) x zs.length = 1 := by unfold codeP; split; rfl; exact mayD_form (.inl rfl)
    have hw := HW.out
    have hH := HH.out
    have hbs := HB0.out
    have hb3 := HB2.out
    have hb1 := HB1.out
    have bel : Below w.heap.size w w2 := by rw [hH]; exact hbs.trans (hb3.mono (by omega))
    rw [hc, show programD false (bs.map BkR.D) x zs = bs.map BkR.D by unfold programD; rw [hc]; rfl]
    exact ⟨aC, nC, cC, tC, rfl, NewBs.wider (B := w1.heap.size) (NewBs.set_below (B := w1.heap.size) (j := H + 1) HQ.out (by omega)) (by omega), HL.out, bel.setCell (p := ⟨H + 1, 0, none⟩) (by simp only; omega) _⟩
  | true =>
    obtain ⟨fs, hfl, _⟩ := ok_flash HOK.out
    have hfn : fs.length = n := by rw [hfl.1, hln.out]
    go_wp2_with fail
    refine (flashOfI a n cap bs fs w1 (HT.out.keep b1) hfl).mono ?_
    rintro e w2 ⟨F, G, rfl, fo2⟩
    rw [hfn] at fo2
    have b2 := fo2.bel
    have hK2 := (Blk.keep HK.out b1).keep b2
    have hL2 := (Blk.keep HLL.out b1).keep b2
    have hrd2 : ∀ f ∈ fs, ∀ p ∈ f.ps, Rd w2 p.a p.zs := fl_rd ((HT.out.keep b1).keep b2) hfl
    have htf : totB (fs.map FkR.D) ≤ 1048576 := by rw [hfl.D]; exact HT.out.tot
    clear y0
    go_wp2_with fail
    refine (program1I F G n K L fs x ba nb bc zs w1 w2 hnn HZL.out hnb fo2 hrd2 htf hK2 hL2).mono ?_
    rintro e w3 ⟨rfl, fo3⟩
    have b3 := fo3.bel
    have B3 : Below W0.heap.size W0 w3 := b1.trans (b3.mono b1.size)
    have hrf : RdFs w3 (some ⟨G, 0, none⟩) (prF fs x ⟨true, ba, bc, zs⟩) := by
      obtain ⟨a', c', e', r'⟩ := OwnE.rd (rd := fun f : FkR => ∀ p ∈ f.ps, Rd w3 p.a p.zs) fo3.g (pr_rd (HT.out.keep B3) hfl x ⟨true, ba, bc, zs⟩ (Rd.keep HRB.out B3))
      simp only [Value.slice.injEq] at e'
      rw [e'.1]
      exact r'
    have hho := handedI F (some ⟨G, 0, none⟩) n n (prF fs x ⟨true, ba, bc, zs⟩) w3 (by rw [pr_len, hfn]) (by rw [pr_chip hfl x ⟨true, ba, bc, zs⟩ rfl]; exact programD_tot x zs HOK.out HT.out.tot) fo3.f hrf
    rw [pr_chip hfl x ⟨true, ba, bc, zs⟩ rfl] at hho
    rw [show prC fs x (PgR.zs ⟨true, ba, bc, zs⟩).length = codeP true (bs.map BkR.D) x zs.length from pr_code hfl x _]
    clear hK2 hL2 hrd2 htf fo2 b2 hrf fo3
    go_wp2_with fail
    refine hho.mono ?_
    rintro e w4 ⟨aC, nC, cC, tC, rfl, qC, hlC, b4⟩
    have B4 : Below W0.heap.size W0 w4 := B3.trans (b4.mono B3.size)
    clear hho
    obtain ⟨c, hc⟩ : ∃ c, codeP true (bs.map BkR.D) x zs.length = c := ⟨_, rfl⟩
    rw [hc]
    go_wp2_with fail
    refine (codeOfI c w4 (HE.out.keep B4)).mono ?_
    rintro e w5 ⟨rfl, b5⟩
    have B5 : Below W0.heap.size W0 w5 := B4.trans (b5.mono B4.size)
    have zr := Blk.keep HZ1.out B5
    have r0 := zr.cell 0
    have f0 := zr.frozen 0
    have zf := zr.set 0 (.slice aC nC cC)
    have d0 := zf.cell 0
    simp at r0 d0
    have HQ : Hid (NewBs w5 w3.heap.size (.slice aC nC cC) (programD true (bs.map BkR.D) x zs) tC) := qC.keep b5
    have HB5 : Hid (Below W0.heap.size W0 w5) := B5
    have HB3 : Hid (W0.heap.size ≤ w3.heap.size) := B3.size
    have HL : Hid (tC.length = nC) := hlC
    have HC : Hid _ := hc
    clear qC b1 b3 b4 b5 B3 B4 B5 zr zf hlC hc hfl hfn
    go_wp2
    refine bodyPost_ret (v := .tuple #[.agg #[.slice aC nC cC], .int .i64 c]) (by simp [results, Tryd.f35, go_sem, d0]) rfl ?_
    rw [← HGP.out, HC.out]
    have hw := HW.out
    have hH := HH.out
    have hbs := HB0.out
    have hb3 := HB5.out
    have hb1 := HB3.out
    have bel : Below w.heap.size w w5 := by rw [hH]; exact hbs.trans (hb3.mono (by omega))
    exact ⟨aC, nC, cC, tC, rfl, NewBs.wider (B := w3.heap.size) (NewBs.set_below (B := w3.heap.size) (j := H + 1) HQ.out (by omega)) (by omega), HL.out, bel.setCell (p := ⟨H + 1, 0, none⟩) (by simp only; omega) _⟩
set_option maxRecDepth 100000 in
set_option maxHeartbeats 4000000 in
theorem programI (a : Option Addr) (n cap : Nat) (bs : List BkR) (x : Int) (ba : Option Addr) (nb bc : Nat) (zs : List Int) (w : World) (hz : zs.length = nb) (hnb : nb ≤ 1048576) (ht : CR w a n bs) (hrb : Rd w ba zs) (hE : EtCell w) :
    Calls Tryd.prog 12 #[.agg #[.slice a n cap], .int .i64 x, .slice ba nb bc] w (ChCA w (programD (chipOkB (bs.map BkR.D)) (bs.map BkR.D) x zs) (codeP (chipOkB (bs.map BkR.D)) (bs.map BkR.D) x zs.length)) := by
  have B0 : Below w.heap.size w ((((w.alloc (.cells #[.slice a n cap] 29)).alloc (.cells #[.int .i64 x] 3)).alloc (.cells #[.slice ba nb bc] 25)).alloc (.cells #[.slice none 0 0] 29)) := ((((Below.refl _ w).alloc (Nat.le_refl _) _).alloc (by simp) _).alloc (by simp; omega) _).alloc (by simp; omega) _
  have z0 := (((Blk.new w 29 #[.slice a n cap]).alloc (.cells #[.int .i64 x] 3)).alloc (.cells #[.slice ba nb bc] 25)).alloc (.cells #[.slice none 0 0] 29)
  have zK := ((Blk.new (w.alloc (.cells #[.slice a n cap] 29)) 3 #[.int .i64 x]).alloc (.cells #[.slice ba nb bc] 25)).alloc (.cells #[.slice none 0 0] 29)
  have zL := (Blk.new ((w.alloc (.cells #[.slice a n cap] 29)).alloc (.cells #[.int .i64 x] 3)) 25 #[.slice ba nb bc]).alloc (.cells #[.slice none 0 0] 29)
  have z1 := Blk.new (((w.alloc (.cells #[.slice a n cap] 29)).alloc (.cells #[.int .i64 x] 3)).alloc (.cells #[.slice ba nb bc] 25)) 29 #[.slice none 0 0]
  simp only [World.size_alloc] at z1 zK zL
  have hcall := behindP a n cap (w.heap.size + 1) (w.heap.size + 2) bs x ba nb bc zs _ hz hnb (ht.keep B0) zK zL (hrb.keep B0) (hE.keep B0)
  obtain ⟨D, hD⟩ : ∃ D, programD (chipOkB (bs.map BkR.D)) (bs.map BkR.D) x zs = D := ⟨_, rfl⟩
  obtain ⟨c, hc⟩ : ∃ c, codeP (chipOkB (bs.map BkR.D)) (bs.map BkR.D) x zs.length = c := ⟨_, rfl⟩
  rw [hD, hc] at hcall ⊢
  generalize hGP : ChCA w D c = P
  have HGP : Hid _ := hGP
  clear hGP hD hc ht hE zK zL hrb hz
  have x0 := z0.cell 0
  simp at x0
  obtain ⟨H, hH⟩ : ∃ H, w.heap.size = H := ⟨_, rfl⟩
  have HH : Hid (w.heap.size = H) := hH
  rw [hH] at hcall
  go_enter Tryd.func12, Tryd.ntmps12
  go_upto_region 1 with fail
  try rw [hH]
  obtain ⟨W0, hW0⟩ : ∃ W, (((w.alloc (.cells #[.slice a n cap] 29)).alloc (.cells #[.int .i64 x] 3)).alloc (.cells #[.slice ba nb bc] 25)).alloc (.cells #[.slice none 0 0] 29) = W := ⟨_, rfl⟩
  have hws : W0.heap.size = w.heap.size + 4 := by rw [← hW0]; simp
  rw [hW0] at B0 z0 z1 x0 hcall ⊢
  clear hW0
  have HW : Hid _ := hws
  have HB0 : Hid _ := B0
  have HZ1 : Hid (Blk W0 (H + 3) 29 #[.slice none 0 0]) := by rw [← hH]; exact z1
  rw [hH] at z0 x0
  clear B0 z1 hH hws
  go_wp2_with fail
  refine hcall.mono ?_
  rintro e w1 ⟨aC, nC, cC, tC, rfl, qC, hlC, b1⟩
  have zr := Blk.keep HZ1.out b1
  have r0 := zr.cell 0
  have f0 := zr.frozen 0
  have zf := zr.set 0 (.slice aC nC cC)
  have d0 := zf.cell 0
  simp at r0 d0
  have HQ : Hid _ := qC
  have HB1 : Hid (Below W0.heap.size W0 w1) := b1
  have HL : Hid (tC.length = nC) := hlC
  clear qC b1 zr zf hlC x0 z0 hcall
  go_wp2
  refine bodyPost_ret (v := .tuple #[.agg #[.slice aC nC cC], .int .i64 c]) (by simp [results, Tryd.f12, go_sem, d0]) rfl ?_
  rw [← HGP.out]
  have hw := HW.out
  have hH := HH.out
  have hbs := HB0.out
  have hb3 := HB1.out
  have bel : Below w.heap.size w w1 := hbs.trans (hb3.mono (by omega))
  exact ⟨aC, nC, cC, tC, rfl, NewBs.wider (B := W0.heap.size) (NewBs.set_below (B := W0.heap.size) (j := H + 3) HQ.out (by omega)) (by omega), HL.out, bel.setCell (p := ⟨H + 3, 0, none⟩) (by simp only; omega) _⟩
end

section
open Go.RowKit
set_option maxRecDepth 100000 in
set_option maxHeartbeats 4000000 in
theorem l10ProgramS (a : Option Addr) (n cap : Nat) (bs : List BkR) (x : Int) (ba : Option Addr) (nb bc : Nat) (w : World) (hnb : nb ≤ 1048576) (ht : CR w a n bs) :
    Calls Tryd.prog 32 #[.agg #[.slice a n cap], .int .i64 x, .slice ba nb bc] w fun e w' => e = .returned (.int .i64 (codeP (chipOkB (bs.map BkR.D)) (bs.map BkR.D) x nb)) ∧ Below w.heap.size w w' := by
  have B0 : Below w.heap.size w (w.alloc (.cells #[.slice a n cap] 29)) := (Below.refl _ w).alloc (Nat.le_refl _) _
  have z0 := Blk.new w 29 #[.slice a n cap]
  by_cases hb : 400 < nb
  · have hbi : (400 : Int) < (nb : Int) := by omega
    have hc : codeP (chipOkB (bs.map BkR.D)) (bs.map BkR.D) x nb = 1 := by unfold codeP; rw [if_pos hb]
    rw [hc]
    have HB : Hid _ := B0
    clear hc z0 ht B0
    go_enter Tryd.func32, Tryd.ntmps32
    go_wp2
    go_ret
    exact ⟨rfl, HB.out⟩
  · have hbi : ¬ (400 : Int) < (nb : Int) := by omega
    have hc : codeP (chipOkB (bs.map BkR.D)) (bs.map BkR.D) x nb = mayD (chipOkB (bs.map BkR.D)) (bs.map BkR.D) x (decide (nextD (bs.map BkR.D) x = 8)) := by unfold codeP; rw [if_neg hb]
    rw [hc]
    have hnx := fun (W : World) (h : CR W a n bs) => nextS a n cap bs x W h
    have hmy := fun (W : World) (h : CR W a n bs) => mayS a n cap bs x (decide (nextD (bs.map BkR.D) x = 8)) W h
    obtain ⟨m, hm⟩ : ∃ m, nextD (bs.map BkR.D) x = m := ⟨_, rfl⟩
    rw [hm] at hnx hmy ⊢
    obtain ⟨u, hu⟩ : ∃ u, decide (m = 8) = u := ⟨_, rfl⟩
    have hmu : (m == 8) = u := by rw [← hu]; cases h : decide (m = 8) <;> simp_all
    rw [hu] at hmy ⊢
    obtain ⟨c, hcc⟩ : ∃ c, mayD (chipOkB (bs.map BkR.D)) (bs.map BkR.D) x u = c := ⟨_, rfl⟩
    rw [hcc] at hmy ⊢
    have HNX : Hid _ := hnx
    have HMY : Hid _ := hmy
    have HT : Hid (CR (w.alloc (.cells #[.slice a n cap] 29)) a n bs) := ht.keep B0
    clear hc hnx hmy hm hu hcc ht
    go_enter Tryd.func32, Tryd.ntmps32
    go_upto_region 3 with fail
    obtain ⟨W0, hW0⟩ : ∃ W, w.alloc (.cells #[.slice a n cap] 29) = W := ⟨_, rfl⟩
    rw [hW0] at B0 z0 HT ⊢
    clear hW0
    obtain ⟨H, hH⟩ : ∃ H, w.heap.size = H := ⟨_, rfl⟩
    rw [hH] at z0
    have HB : Hid (Below w.heap.size w W0) := B0
    try rw [hH]
    have zd : Blk W0.drew H 29 #[.slice a n cap] := Blk.keep z0 (Below.refl _ _).drew
    have x0 := zd.cell 0
    simp at x0
    have hcN := HNX.out W0.drew (HT.out.keep (Below.refl _ _).drew)
    have HZ : Hid (Blk W0.drew H 29 #[.slice a n cap]) := zd
    clear zd z0 B0
    refine wp_region_noPanic ?_
    refine wp_region_last (fun W : World => W.cell? ⟨H, 0, none⟩ = some (.slice a n cap)) 7 (by kernel_rfl) (by kernel_rfl) (by go_keep) 7 (by kernel_rfl) (fun hS => ?_)
    refine wpAnyH_take (i := 0) (v := ?gv1) rfl (by kernel_rfl) (by kernel_rfl) (by kernel_rfl) (fun _ _ _ h => h) (Or.inl ⟨by kernel_rfl, ?gy1⟩) (by assumption) ?gr1
    case gy1 => (intro w' hSw; (try dsimp only at hSw); go_simp; (try with_reducible rfl))
    try simp only [Act.put, List.setIfInBounds_toArray, List.set_cons_zero, List.set_cons_succ, List.getElem_toArray, List.getElem_cons_zero]
    refine wpAnyH_take (i := 1) (v := ?gv2) rfl (by kernel_rfl) (by kernel_rfl) (by kernel_rfl) (fun _ _ _ h => h) (Or.inl ⟨by kernel_rfl, ?gy2⟩) (by assumption) ?gr2
    case gy2 => (intro w' hSw; (try dsimp only at hSw); go_simp; (try with_reducible rfl))
    try simp only [Act.put, List.setIfInBounds_toArray, List.set_cons_zero, List.set_cons_succ, List.getElem_toArray, List.getElem_cons_succ, List.getElem_cons_zero]
    refine wpAnyH_take (i := 2) (v := ?gv3) rfl (by kernel_rfl) (by kernel_rfl) (by kernel_rfl) (fun _ _ _ h => h) (Or.inl ⟨by kernel_rfl, ?gy3⟩) (by assumption) ?gr3
    case gy3 => (intro w' hSw; (try dsimp only at hSw); go_simp; (try with_reducible rfl))
    try simp only [Act.put, List.setIfInBounds_toArray, List.set_cons_zero, List.set_cons_succ, List.getElem_toArray, List.getElem_cons_succ, List.getElem_cons_zero]
    refine wpAnyH_take (i := 3) (v := ?gv4) rfl (by kernel_rfl) (by kernel_rfl) (by kernel_rfl) (fun _ _ _ h => h) (Or.inl ⟨by kernel_rfl, ?gy4⟩) (by assumption) ?gr4
    case gy4 => (intro w' hSw; (try dsimp only at hSw); go_simp; (try with_reducible rfl))
    try simp only [Act.put, List.setIfInBounds_toArray, List.set_cons_zero, List.set_cons_succ, List.getElem_toArray, List.getElem_cons_succ, List.getElem_cons_zero]
    refine wpAnyH_ready (rs := [4]) (by kernel_rfl) (by simp) ?_
    refine AllReadyH.cons rfl (fun K hK => ?_) AllReadyH.nil
    go_simp
    (with_reducible refine hcN.mono ?_)
    rintro e W1 ⟨rfl, b1⟩
    have HX1 : Hid (W1.cell? ⟨H, 0, none⟩ = some (.slice a n cap)) := (by have := (Blk.keep HZ.out b1).cell 0; simp at this; exact this)
    have hcM := HMY.out W1 ((HT.out.keep (Below.refl _ _).drew).keep b1)
    clear hS
    try dsimp only
    refine Shut.out hK _ _ (HX1.out) (fun hS => ?_)
    try simp only [Act.put, List.setIfInBounds_toArray, List.set_cons_zero, List.set_cons_succ, List.getElem_toArray, List.getElem_cons_succ, List.getElem_cons_zero]
    refine wpAnyH_take (i := 5) (v := ?gv5) rfl (by kernel_rfl) (by kernel_rfl) (by kernel_rfl) (fun _ _ _ h => h) (Or.inl ⟨by kernel_rfl, ?gy5⟩) (by assumption) ?gr5
    case gy5 => (intro w' hSw; (try dsimp only at hSw); go_simp; (try with_reducible rfl))
    try simp only [Act.put, List.setIfInBounds_toArray, List.set_cons_zero, List.set_cons_succ, List.getElem_toArray, List.getElem_cons_succ, List.getElem_cons_zero]
    refine wpAnyH_ready (rs := [6]) (by kernel_rfl) (by simp) ?_
    refine AllReadyH.cons rfl (fun K hK => ?_) AllReadyH.nil
    go_simp
    (with_reducible refine hcM.mono ?_)
    rintro e W2 ⟨rfl, b2⟩
    have HX2 : Hid (W2.cell? ⟨H, 0, none⟩ = some (.slice a n cap)) := (by have := ((Blk.keep HZ.out b1).keep b2).cell 0; simp at this; exact this)
    clear hS
    try dsimp only
    refine Shut.out hK _ _ (HX2.out) (fun hS => ?_)
    try simp only [Act.put, List.setIfInBounds_toArray, List.set_cons_zero, List.set_cons_succ, List.getElem_toArray, List.getElem_cons_succ, List.getElem_cons_zero]
    refine wpAnyH_done (by kernel_rfl) ?_ _
    refine wpOp_last rfl (fun K hK => ?_)
    clear hS
    go_simp
    refine Shut.out hK _ _ (NoPanic.normal ?_)
    have bE : Below w.heap.size w W2 := by
      have h1 : Below W0.heap.size W0 W1 := (Below.refl W0.heap.size W0).drew.trans b1
      have h2 := h1.trans (b2.mono h1.size)
      exact HB.out.trans (h2.mono HB.out.size)
    have HBE : Hid _ := bE
    clear bE b1 b2 x0
    go_wp2
    go_ret
    rw [← hH]
    exact ⟨rfl, HBE.out⟩
end
end Go.Proofs.YtkhgafmhbibikaaDoor
