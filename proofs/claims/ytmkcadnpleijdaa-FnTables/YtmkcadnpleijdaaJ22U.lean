/-
  Joined: TbR, TbI.
-/
import Derived.Test.YtmkcadnpleijdaaJ21U
namespace Go.Proofs.Ytmkcadnpleijdaa
section
open Go.RowKit
theorem rwE_snoc (ps : List RwD) (p : RwD) : rwE.xv (ps ++ [p]) = rwE.xv ps ++ [.int .i64 p.id, .string p.name, .bool p.ro, .int .i64 p.lim, .int .i64 p.mp] := by rw [El.xv_append]; rfl
theorem row5_news (w : World) (r : RwD) : ∀ j u, [Value.int .i64 r.id, .string r.name, .bool r.ro, .int .i64 r.lim, .int .i64 r.mp][j]? = some u → (w.alloc (.cells #[.int .i64 r.id, .string r.name, .bool r.ro, .int .i64 r.lim, .int .i64 r.mp] 35)).cell? ((⟨w.heap.size, 0, none⟩ : Addr).add j) = some u := by
  intro j u hj
  rw [add_at, (Blk.new w 35 #[.int .i64 r.id, .string r.name, .bool r.ro, .int .i64 r.lim, .int .i64 r.mp]).cell j]
  match j, hj with
  | 0, hj => simpa using hj
  | 1, hj => simpa using hj
  | 2, hj => simpa using hj
  | 3, hj => simpa using hj
  | 4, hj => simpa using hj
  | j + 5, hj => simp at hj
/-- One row appended to a list of the call's own. -/
theorem wpList_appR (w : World) {ops : Array Oper} {rest : List Oper} {o : Oper} {a : Act} {Q : Exit → Act → World → Prop} (hgd : o.guard = none) (s x : Operand)
    (ho : o.op = .call { callee := .builtin .append, args := #[s, x], argTypes := #[24, 24] })
    (B : Nat) (v : Value) (n : Nat) (ps : List RwD) (r : RwD) (hs : a.eval s = v) (hown : w.ownsRow B 35 5 v n (rwE.xv ps)) (hn : n ≤ 100000) (hx : a.eval x = .slice (some ⟨w.heap.size, 0, none⟩) 1 1) (hB : B ≤ w.heap.size)
    (h : ∀ v' w', w'.ownsRow B 35 5 v' (n + 1) (rwE.xv (ps ++ [r])) → (w.alloc (.cells #[.int .i64 r.id, .string r.name, .bool r.ro, .int .i64 r.lim, .int .i64 r.mp] 35)).grownBy w' v.ownBlock → wpList Try.prog ops Q rest (a.put o.dst v') w') :
    wpList Try.prog ops Q (o :: rest) a (w.alloc (.cells #[.int .i64 r.id, .string r.name, .bool r.ro, .int .i64 r.lim, .int .i64 r.mp] 35)) := by
  obtain ⟨i, hi, hz, hsz, hby⟩ := info_parts Try.infoRow
  refine wpList_append_own_at _ hgd s x 24 ho B 35 i _ 5 48 Try.underlying24 hi hz hsz hby rfl (by decide) v n (rwE.xv ps) hs (World.ownsRow.alloc hown _) ⟨w.heap.size, 0, none⟩ 1 1 [.int .i64 r.id, .string r.name, .bool r.ro, .int .i64 r.lim, .int .i64 r.mp] hx rfl (row5_news w r) ?_ (by unfold maxLen; omega) ?_ (by simp; omega) ?_
  · intro u hu
    simp at hu
    rcases hu with rfl | rfl | rfl | rfl | rfl <;> rfl
  · omega
  · intro v' w' h1 h2 _ _
    refine h v' w' ?_ h2
    rw [rwE_snoc]
    exact h1
theorem row5_some {B : Nat} {W : World} {v : Value} {e : TypeId} {n : Nat} {xs : List Value} (h : W.ownsRow B e 5 v n xs) (hn : n ≠ 0) : ∃ g c, v = .slice (some ⟨g, 0, none⟩) n c := by
  rcases h.2 with ⟨_, h0⟩ | ⟨g, c, cur, rfl, _⟩
  · exact absurd h0 hn
  · exact ⟨g, c, rfl⟩
theorem rowR_form {B : Nat} {W : World} {v : Value} {n : Nat} {ps : List RwD} (h : W.ownsRow B 35 5 v n (rwE.xv ps)) : ∃ a c, v = .slice a n c ∧ RdRw W a ps := by
  have h0 : OwnE rwE 35 W v n ps := ⟨h.1, by
    rcases h.2 with h1 | ⟨g, c, cur, e, _, rest⟩
    · exact .inl h1
    · exact .inr ⟨g, c, cur, e, Nat.zero_le _, rest⟩⟩
  exact OwnE.rd (rd := fun _ => True) h0 (fun _ _ => trivial)
/-- What is known while the list of rows is read. -/
structure RL (w0 Wb W : World) (H K : Nat) (a : Option Addr) (n cap : Nat) (st : Option Nat) (v2 : Value) (ps : List RwD) : Prop where
  rd : RI W H a n cap st
  k0 : Blk W K 54 #[(.func (.func 55) #[] #[.pointer (some ⟨H + 2, 0, none⟩), .pointer (some ⟨H, 0, none⟩), .pointer (some ⟨H + 1, 0, none⟩)])]
  k1 : Blk W (K + 1) 55 #[(.func (.func 57) #[] #[.pointer (some ⟨H + 2, 0, none⟩), .pointer (some ⟨H, 0, none⟩), .pointer (some ⟨H + 1, 0, none⟩)])]
  below : Below w0.heap.size w0 W
  hH : w0.heap.size ≤ H
  kp : KpT Wb W [26]
  e : W.ownsRow w0.heap.size 35 5 v2 ps.length (rwE.xv ps)
theorem RL.toY {w0 Wb W : World} {H K : Nat} {a : Option Addr} {n cap : Nat} {st : Option Nat} {v2 : Value} {ps : List RwD} (h : RL w0 Wb W H K a n cap st v2 ps) : RY w0 W W H K a n cap st := ⟨h.rd, h.k0, h.k1, h.below, h.hH, KpT.refl _ _, Nat.le_refl _⟩
theorem RL.back {w0 Wb W W' : World} {H K : Nat} {a : Option Addr} {n cap : Nat} {st st' : Option Nat} {v2 : Value} {ps : List RwD} (h : RL w0 Wb W H K a n cap st v2 ps) (y : RY w0 W W' H K a n cap st') : RL w0 Wb W' H K a n cap st' v2 ps := ⟨y.rd, y.k0, y.k1, y.below, y.hH, h.kp.tb (y.kp.sub (by decide)), row_kp h.e y.kp (by decide)⟩
theorem RL.keep {w0 Wb W W' : World} {H K : Nat} {a : Option Addr} {n cap : Nat} {st : Option Nat} {v2 : Value} {ps : List RwD} (h : RL w0 Wb W H K a n cap st v2 ps) (hb : Below W.heap.size W W') : RL w0 Wb W' H K a n cap st v2 ps := h.back (h.toY.keep hb)
theorem RL.app {w0 Wb W W' : World} {H K : Nat} {a : Option Addr} {n cap : Nat} {st : Option Nat} {v2 : Value} {ps : List RwD} (h : RL w0 Wb W H K a n cap st v2 ps) (o : Obj) (hg : (W.alloc o).grownBy W' v2.ownBlock) (v2' : Value) (ps' : List RwD) (ho : W'.ownsRow w0.heap.size 35 5 v2' ps'.length (rwE.xv ps')) : RL w0 Wb W' H K a n cap st v2' ps' := by
  have ha := h.keep ((Below.refl W.heap.size W).alloc (Nat.le_refl _) o)
  have k : KpT (W.alloc o) W' [22, 3, 4, 54, 55, 26] := KpT.row hg ha.e (by decide)
  exact ⟨ha.rd.kp k (by decide) (by decide) (by decide), ha.k0.kp k (by decide), ha.k1.kp k (by decide), ha.below.grown hg ha.below.size (fun g hk => (row_at ha.e hk).1), ha.hH, ha.kp.tb (k.sub (by decide)), ho⟩
set_option maxRecDepth 100000 in
set_option maxHeartbeats 8000000 in
theorem readListI (w0 : World) (H K : Nat) (a : Option Addr) (n cap : Nat) (zs : List Int) (st : Option Nat) (m : Nat) (hm : m ≤ 7) (w : World) (hn : zs.length = n) (hs : n ≤ 1048576) (hcap : n ≤ cap) (hr : Rd w0 a zs) (hb : Byt zs) (hL : RL w0 w w H K a n cap st (.slice none 0 0) []) :
    Calls Try.prog 35 #[.int .i64 (m : Int), (.func (.func 60) #[] #[.pointer (some ⟨K, 0, none⟩), .pointer (some ⟨K + 1, 0, none⟩)])] w fun e w' => Below w0.heap.size w0 w' ∧ KpT w w' [26] ∧ ((∃ v, e = .returned (.tuple #[v, .bool true]) ∧ w'.ownsRow w0.heap.size 35 5 v (tgRs zs st m).1.length (rwE.xv (tgRs zs st m).1) ∧ RI w' H a n cap (tgRs zs st m).2) ∨ (e = .returned (.tuple #[.slice none 0 0, .bool false]) ∧ (tgRs zs st m).2 = none)) := by
  have CR : Hid _ := fun (W : World) (st : Option Nat) (h : RY w0 W W H K a n cap st) => readRowI w0 H K a n cap zs st W hn hs hcap hr hb h.below.size h
  have HL : Hid (RL w0 w w H K a n cap st (.slice none 0 0) []) := hL
  clear hn hr hb hL hs hcap
  go_enter Try.func35, Try.ntmps35
  go_wp2
  go_loopw [6, 10] (fun u i wr => ∃ (k : Nat) (v2 : Value), k ≤ m ∧ i = .int .i64 k ∧ u = v2 ∧ RL w0 w wr H K a n cap (tgRs zs st k).2 v2 (tgRs zs st k).1) (fun _ i _ => m - (intOf i).toNat)
  case atStart => exact ⟨0, .slice none 0 0, by omega, rfl, rfl, HL.out⟩
  case round =>
    obtain ⟨k, v2, hkm, rfl, hu, hLk⟩ := hrel
    have hu' := hu.symm
    subst hu'
    have hlk := tgRs_len zs st k
    have hes : Hid ((tgRs zs st (k + 1)).1 = (tgRs zs st k).1 ++ [tgRow zs (tgRs zs st k).2] ∧ (tgRs zs st (k + 1)).2 = (tgE zs (tgRs zs st k).2).2) := ⟨rfl, rfl⟩
    have hend : Hid (k = m → tgRs zs st m = tgRs zs st k) := fun h => by rw [h]
    have hbad : Hid (k < m → (tgRs zs st (k + 1)).2 = none → (tgRs zs st m).2 = none) := fun h1 h2 => tgRs_none h2 (by omega)
    obtain ⟨ps, hps⟩ : ∃ l, (tgRs zs st k).1 = l := ⟨_, rfl⟩
    obtain ⟨sk, hsk⟩ : ∃ l, (tgRs zs st k).2 = l := ⟨_, rfl⟩
    rw [hps, hsk] at hes hLk
    rw [hps] at hlk
    have hend' : Hid (k = m → (tgRs zs st m).1 = ps ∧ (tgRs zs st m).2 = sk) := fun h => by rw [hend.out h]; exact ⟨hps, hsk⟩
    clear hend hps hsk HL
    have HLK : Hid (RL w0 w wr H K a n cap sk v2 ps) := hLk
    by_cases hgo : k < m
    · have hki : (k : Int) < (m : Int) := by omega
      have hc := CR.out wr sk hLk.toY
      have hti := fun h => ti_tg (zs := zs) (st := sk) h
      have HBD : Hid (¬ (tgC zs sk).1 ≤ 1 → (tgRs zs st m).2 = none) := fun h => hbad.out hgo (by rw [hes.out.2]; exact tgE_bad h)
      have HOK : Hid ((tgC zs sk).1 ≤ 1 → (tgRs zs st (k + 1)).1 = ps ++ [tiRow zs sk] ∧ (tgRs zs st (k + 1)).2 = (tiE zs sk).2) := fun h => by rw [hes.out.1, hes.out.2, (hti h).1, (hti h).2]; exact ⟨rfl, rfl⟩
      obtain ⟨r, hrr⟩ : ∃ r, tiRow zs sk = r := ⟨_, rfl⟩
      obtain ⟨s1, hs1⟩ : ∃ r, (tiE zs sk).2 = r := ⟨_, rfl⟩
      rw [hrr, hs1] at hc HOK
      obtain ⟨x0, x1, x2, x3, x4⟩ := r
      dsimp only at hc
      clear hti hrr hs1 hes hbad hend' hLk
      obtain ⟨cb, hcb⟩ : ∃ b, decide ((tgC zs sk).1 ≤ 1) = b := ⟨_, rfl⟩
      rw [hcb] at hc
      have HCB : Hid (decide ((tgC zs sk).1 ≤ 1) = cb) := hcb
      clear hcb
      go_wp2_with fail
      refine hc.mono ?_
      rintro e w1 ⟨rfl, Y1⟩
      have L1 := HLK.out.back Y1
      have L2 := L1.keep ((Below.refl w1.heap.size w1).alloc (Nat.le_refl _) (.cells #[.int .i64 x0, .string x1, .bool x2, .int .i64 x3, .int .i64 x4] 35))
      have bx := Blk.new w1 35 #[.int .i64 x0, .string x1, .bool x2, .int .i64 x3, .int .i64 x4]
      clear Y1 L1 hc HLK
      cases cb with
      | false =>
        have HN : Hid ((tgRs zs st m).2 = none) := HBD.out (by have := HCB.out; simpa using this)
        have HL2 : Hid _ := L2
        clear L2 bx HBD HOK
        go_wp2
        refine bodyPost_ret (v := .tuple #[.slice none 0 0, .bool false]) (by simp [results, Try.f35, go_sem]) rfl ?_
        exact ⟨HL2.out.below, HL2.out.kp, .inr ⟨rfl, HN.out⟩⟩
      | true =>
        have hnx : Hid ((tgRs zs st (k + 1)).1 = ps ++ [⟨x0, x1, x2, x3, x4⟩] ∧ (tgRs zs st (k + 1)).2 = s1) := HOK.out (by have := HCB.out; simpa using this)
        clear HBD HOK HCB
        go_upto_region 7 with fail
        obtain ⟨W2, hW2⟩ : ∃ W, w1.alloc (.cells #[.int .i64 x0, .string x1, .bool x2, .int .i64 x3, .int .i64 x4] 35) = W := ⟨_, rfl⟩
        obtain ⟨X, hX⟩ : ∃ X, w1.heap.size = X := ⟨_, rfl⟩
        rw [hW2, hX] at bx
        rw [hW2] at L2 ⊢
        rw [hX]
        clear hW2 hX
        obtain ⟨c0, c1, c2, c3, c4⟩ := bx.fiv
        have hsz2 := L2.below.size
        have hrow := L2.e
        rw [hlk] at hrow
        go_wp2_with (at_builtin; refine wpList_appR W2 rfl (.tmp 19) (.tmp 21) rfl w0.heap.size v2 k ps ⟨x0, x1, x2, x3, x4⟩ rfl hrow (by omega) rfl hsz2 ?_; intro v2' w12 ho12 hg12; have L3 := L2.app _ hg12 v2' (ps ++ [⟨x0, x1, x2, x3, x4⟩]) (by rw [List.length_append, hlk]; exact ho12); clear c0 c1 c2 c3 c4 bx hrow L2 ho12 hg12)
        go_roundw
        all_goals first
          | (case rel => exact ⟨k + 1, v2', by omega, by go_num, rfl, by rw [hnx.out.2, hnx.out.1]; exact L3⟩)
          | (case rel => (repeat apply Exists.intro); exact ⟨⟨k + 1, v2', by omega, by go_num, rfl, by rw [hnx.out.2, hnx.out.1]; exact L3⟩, rfl⟩)
          | (case measure => simp [intOf]; omega)
    · have hki : ¬ (k : Int) < (m : Int) := by omega
      have HE := hend'.out (by omega)
      have HE' : Hid _ := HE
      clear hend' HE hes hbad hLk
      go_wp2
      refine bodyPost_ret (v := .tuple #[v2, .bool true]) (by simp [results, Try.f35, go_sem]) rfl ?_
      refine ⟨HLK.out.below, HLK.out.kp, .inl ⟨v2, rfl, ?_, ?_⟩⟩
      · rw [HE'.out.1]; exact HLK.out.e
      · rw [HE'.out.2]; exact HLK.out.rd
end

section
open Go.RowKit
/-- What is answered: that table, in memory of its own, or the zero one. -/
def TPost (B : Nat) (w' : World) (zs : List Int) (e : Ending) : Prop :=
  (tgOk zs = true ∧ ∃ v2, e = .returned (.tuple #[.agg #[.int .i64 ((tgM zs).1 : Int), v2], .bool true]) ∧ w'.ownsRow B 35 5 v2 (tgP zs).1.length (rwE.xv (tgP zs).1)) ∨
  (tgOk zs = false ∧ e = .returned (.tuple #[.agg #[.int .i64 0, .slice none 0 0], .bool false]))
theorem set2_gr (W : World) (X : Nat) (v0 v1 : Value) : W.grownBy ((W.setCell ⟨X, 0, none⟩ v0).setCell ⟨X, 1, none⟩ v1) (some X) := (gr_setC W X 0 v0).trans (gr_setC _ X 1 v1)
theorem rowT_set2 {B : Nat} {W : World} {H n : Nat} {v : Value} {ys : List Value} {us : Array Value} (h : W.ownsRow B 35 5 v n ys) (hx : Blk W H 26 us) (v0 v1 : Value) : ((W.setCell ⟨H, 0, none⟩ v0).setCell ⟨H, 1, none⟩ v1).ownsRow B 35 5 v n ys :=
  row_kp h (KpT.grown (ts := [35]) (set2_gr W H v0 v1) hx (by decide)) (by decide)
set_option maxHeartbeats 1000000 in
theorem rowReaderI (H : Nat) (w : World) :
    Calls Try.prog 36 #[(.func (.func 55) #[] #[.pointer (some ⟨H + 2, 0, none⟩), .pointer (some ⟨H, 0, none⟩), .pointer (some ⟨H + 1, 0, none⟩)]), (.func (.func 57) #[] #[.pointer (some ⟨H + 2, 0, none⟩), .pointer (some ⟨H, 0, none⟩), .pointer (some ⟨H + 1, 0, none⟩)])] w fun e w' => e = .returned (.func (.func 60) #[] #[.pointer (some ⟨w.heap.size, 0, none⟩), .pointer (some ⟨w.heap.size + 1, 0, none⟩)]) ∧ Blk w' w.heap.size 54 #[(.func (.func 55) #[] #[.pointer (some ⟨H + 2, 0, none⟩), .pointer (some ⟨H, 0, none⟩), .pointer (some ⟨H + 1, 0, none⟩)])] ∧ Blk w' (w.heap.size + 1) 55 #[(.func (.func 57) #[] #[.pointer (some ⟨H + 2, 0, none⟩), .pointer (some ⟨H, 0, none⟩), .pointer (some ⟨H + 1, 0, none⟩)])] ∧ Below w.heap.size w w' := by
  have hmf : ∀ (fn : Fn) (first cap : Array Value) (w : World), (Instr.makeFunc fn first cap).run Try.prog w = .ok (.func fn first cap) w := fun _ _ _ _ => rfl
  go_enter Try.func36, Try.ntmps36
  go_wp2
  go_ret
  exact ⟨rfl, (Blk.new w _ _).alloc _, Blk.newAt (by simp), ((Below.refl _ w).alloc (Nat.le_refl _) _).alloc (by simp) _⟩
set_option maxRecDepth 100000 in
set_option maxHeartbeats 8000000 in
theorem getTableI (a : Option Addr) (n cap : Nat) (zs : List Int) (w : World) (hn : zs.length = n) (hs : n ≤ 1048576) (hcap : n ≤ cap) (hr : Rd w a zs) (hb : Byt zs) :
    Calls Try.prog 11 #[.slice a n cap] w fun e w' => TPost w.heap.size w' zs e ∧ Below w.heap.size w w' := by
  have CN : Hid _ := fun (W : World) (st : Option Nat) (h : RI W (w.heap.size + 1) a n cap st) (hB : Below w.heap.size w W) => num_any (w.heap.size + 1) a n cap zs st W hn (by omega) hcap (hr.keep hB) hb h
  have CE : Hid _ := fun (W : World) (st : Option Nat) (h : RI W (w.heap.size + 1) a n cap st) => atEnd_any (w.heap.size + 1) a n cap st W (by omega) h
  have CR : Hid _ := fun (W : World) (K : Nat) (st : Option Nat) (m : Nat) (hm : m ≤ 7) (h : RL w W W (w.heap.size + 1) K a n cap st (.slice none 0 0) []) => readListI w (w.heap.size + 1) K a n cap zs st m hm W hn hs hcap hr hb h
  have HN : Hid (zs.length = n) := hn
  have B0 : Below w.heap.size w (w.alloc (.cells #[.int .i64 0, .slice none 0 0] 26)) := (Below.refl _ w).alloc (Nat.le_refl _) _
  have res0 : Blk (w.alloc (.cells #[.int .i64 0, .slice none 0 0] 26)) w.heap.size 26 #[.int .i64 0, .slice none 0 0] := Blk.new w _ _
  have hsz0 : (w.alloc (.cells #[.int .i64 0, .slice none 0 0] 26)).heap.size = w.heap.size + 1 := by simp
  clear hn hr hb
  go_enter Try.func11, Try.ntmps11
  go_wp2_with fail
  obtain ⟨W0, hW0⟩ : ∃ W, w.alloc (.cells #[.int .i64 0, .slice none 0 0] 26) = W := ⟨_, rfl⟩
  rw [hW0] at B0 res0 hsz0 ⊢
  clear hW0
  have hRd := readingOf_any a n cap W0
  rw [hsz0] at hRd
  refine hRd.mono ?_
  rintro e w1 ⟨rfl, rs1, b1⟩
  have B1 := B0.trans (b1.mono (Nat.le_succ _))
  have res1 := res0.keep (show Below W0.heap.size W0 w1 by rw [hsz0]; exact b1)
  clear res0 B0 b1 hRd hsz0
  go_wp2_with fail
  refine (CN.out w1 (some 0) rs1 B1).mono ?_
  rintro e v1 ⟨rfl, ra1, gr1⟩
  have C1 := below_but B1 gr1 (Nat.le_refl _) (by omega) (by omega)
  have res2 : Blk v1 w.heap.size 26 #[.int .i64 0, .slice none 0 0] := res1.kp (rs1.kpw gr1) (by decide)
  clear rs1 res1 B1 gr1
  obtain ⟨i1, hi1⟩ : ∃ i, (rdN zs (some 0)).1 = i := ⟨_, rfl⟩
  obtain ⟨s1, hs1⟩ : ∃ i, (rdN zs (some 0)).2 = i := ⟨_, rfl⟩
  rw [hi1]
  rw [hs1] at ra1
  have E1 : Hid ((tgM zs).1 = i1) := by show _ = _; unfold tgM; rw [hi1]
  have S1 : Hid ((tgM zs).2 = s1) := by show _ = _; unfold tgM; rw [hs1]
  clear hi1 hs1
  have hcN := CN.out v1 s1 ra1 C1
  have hn5 := rdN_le zs s1
  obtain ⟨n5, hn5'⟩ : ∃ i, (rdN zs s1).1 = i := ⟨_, rfl⟩
  obtain ⟨s5, hs5⟩ : ∃ i, (rdN zs s1).2 = i := ⟨_, rfl⟩
  rw [hn5', hs5] at hcN
  rw [hn5'] at hn5
  have E5 : Hid ((tgN zs).1 = n5) := by show _ = _; unfold tgN; rw [S1.out, hn5']
  have S5 : Hid ((tgN zs).2 = s5) := by show _ = _; unfold tgN; rw [S1.out, hs5]
  clear hn5' hs5
  obtain ⟨m5, hm5⟩ : ∃ m, min n5 7 = m := ⟨_, rfl⟩
  have hm5l : m5 ≤ 7 := by omega
  have HP : Hid (tgP zs = tgRs zs s5 m5) := by show _ = _; unfold tgP; rw [E5.out, S5.out, hm5]
  go_upto_region 3 with fail
  go_cut [8, 9] (fun u b wx => Below w.heap.size w wx ∧ Blk wx w.heap.size 26 #[.int .i64 0, .slice none 0 0] ∧ ((b = .bool true ∧ wx.ownsRow w.heap.size 35 5 u (tgP zs).1.length (rwE.xv (tgP zs).1) ∧ RI wx (w.heap.size + 1) a n cap (tgP zs).2) ∨ (u = .slice none 0 0 ∧ b = .bool false ∧ (tgP zs).2 = none)))
  case first =>
    go_wp2_with fail
    refine hcN.mono ?_
    rintro e w7 ⟨rfl, rs7, gr7⟩
    have res7 : Blk w7 w.heap.size 26 #[.int .i64 0, .slice none 0 0] := res2.kp (ra1.kpw gr7) (by decide)
    have C7 := below_but C1 gr7 (Nat.le_refl _) (by omega) (by omega)
    have hcM := rowReaderI (w.heap.size + 1) w7
    clear ra1 gr7 hcN C1 res2
    have hC7 := C7.size
    by_cases hle : n5 ≤ 7
    · have hle1 : (n5 : Int) ≤ 7 := by omega
      have hle2 : ¬ (7 : Int) < (n5 : Int) := by omega
      have hmm : m5 = n5 := by omega
      subst hmm
      go_wp2_with fail
      all_goals try (exfalso; omega)
      refine hcM.mono ?_
      rintro e w8 ⟨rfl, k0, k1, b8⟩
      have C8 := C7.trans (b8.mono hC7)
      have res8 := res7.keep b8
      have hcR := CR.out w8 w7.heap.size s5 m5 (by omega) ⟨rs7.keep b8, k0, k1, C8, by omega, KpT.refl _ _, ⟨rfl, .inl ⟨rfl, rfl⟩⟩⟩
      clear hcM k0 k1 b8 rs7 res7 C7
      go_wp2_with fail
      refine hcR.mono ?_
      rintro e w9 ⟨b9, k9, hh⟩
      have res9 := res8.kp k9 (by decide)
      clear hcR k9
      rw [← HP.out] at hh
      rcases hh with ⟨v, rfl, ho, hri⟩ | ⟨rfl, hnone⟩
      · go_wp2_with fail
        go_meet
        exact ⟨b9, res9, .inl ⟨rfl, ho, hri⟩⟩
      · go_wp2_with fail
        go_meet
        exact ⟨b9, res9, .inr ⟨rfl, rfl, hnone⟩⟩
    · have hle1 : ¬ (n5 : Int) ≤ 7 := by omega
      have hle2 : (7 : Int) < (n5 : Int) := by omega
      have hmm : m5 = 7 := by omega
      subst hmm
      go_wp2_with fail
      all_goals try (exfalso; omega)
      refine hcM.mono ?_
      rintro e w8 ⟨rfl, k0, k1, b8⟩
      have C8 := C7.trans (b8.mono hC7)
      have res8 := res7.keep b8
      have hcR := CR.out w8 w7.heap.size s5 7 (by omega) ⟨rs7.keep b8, k0, k1, C8, by omega, KpT.refl _ _, ⟨rfl, .inl ⟨rfl, rfl⟩⟩⟩
      clear hcM k0 k1 b8 rs7 res7 C7
      go_wp2_with fail
      refine hcR.mono ?_
      rintro e w9 ⟨b9, k9, hh⟩
      have res9 := res8.kp k9 (by decide)
      clear hcR k9
      rw [← HP.out] at hh
      rcases hh with ⟨v, rfl, ho, hri⟩ | ⟨rfl, hnone⟩
      · go_wp2_with fail
        go_meet
        exact ⟨b9, res9, .inl ⟨rfl, ho, hri⟩⟩
      · go_wp2_with fail
        go_meet
        exact ⟨b9, res9, .inr ⟨rfl, rfl, hnone⟩⟩
  case rest =>
  obtain ⟨b7, res7, hcase⟩ := hcut
  obtain ⟨w7, hwc⟩ : ∃ W, W = wc := ⟨_, rfl⟩
  subst hwc
  clear hcN ra1 C1 res2 hm5 hm5l HP CR
  have hpl := tgP_len zs
  rcases hcase with ⟨rfl, ho, hri⟩ | ⟨rfl, rfl, hnone⟩
  · obtain ⟨a2, c2, hv2, rd2⟩ := rowR_form ho
    subst hv2
    have hnm : ∀ r ∈ (tgP zs).1, r.name.size ≤ 1048576 := fun r hr => by
      have := tgRs_nm zs (tgN zs).2 (min (tgN zs).1 7) r hr
      rw [HN.out] at this
      omega
    have hgo : Hid (tgOk zs = (decide ((tgP zs).2 = some n) && tbB (i1 : Int) (tgP zs).1)) := by
      show _ = _
      unfold tgOk
      rw [E1.out, HN.out]
    obtain ⟨ps, hps⟩ : ∃ l, (tgP zs).1 = l := ⟨_, rfl⟩
    obtain ⟨st, hst⟩ : ∃ l, (tgP zs).2 = l := ⟨_, rfl⟩
    have HPS : Hid ((tgP zs).1 = ps) := hps
    rw [hps] at ho rd2 hnm hgo hpl ⊢
    rw [hst] at hri hgo
    clear hps hst
    have bX : Below w7.heap.size w7 (w7.alloc (.cells #[.int .i64 (i1 : Int), .slice a2 ps.length c2] 26)) := (Below.refl _ w7).alloc (Nat.le_refl _) _
    have bx := Blk.new w7 26 #[.int .i64 (i1 : Int), .slice a2 ps.length c2]
    have hX : w.heap.size < w7.heap.size := res7.lt
    have hcE := CE.out (w7.alloc (.cells #[.int .i64 (i1 : Int), .slice a2 ps.length c2] 26)) st (hri.keep bX)
    have hcI := tableOkI (i1 : Int) a2 ps.length c2 ps (w7.alloc (.cells #[.int .i64 (i1 : Int), .slice a2 ps.length c2] 26)) ⟨rfl, by omega, hnm, rd2.keep bX⟩
    have ho8 := World.ownsRow.alloc ho (.cells #[.int .i64 (i1 : Int), .slice a2 ps.length c2] 26)
    have res8 := res7.alloc (.cells #[.int .i64 (i1 : Int), .slice a2 ps.length c2] 26)
    have B8 := b7.trans (bX.mono b7.size)
    clear CN CE ho rd2 hri res7 b7 bX hnm
    generalize hdn : decide (st = some n) = dn at hcE hgo
    clear hdn
    go_upto_region 5 with fail
    obtain ⟨X, hXe⟩ : ∃ X, w7.heap.size = X := ⟨_, rfl⟩
    obtain ⟨W8, hW8⟩ : ∃ W, w7.alloc (.cells #[.int .i64 (i1 : Int), .slice a2 ps.length c2] 26) = W := ⟨_, rfl⟩
    rw [hXe] at bx hX ⊢
    rw [hW8] at bx hcE hcI ho8 res8 B8 ⊢
    clear hW8 hXe
    obtain ⟨x0, x1⟩ := bx.duo
    go_cut [43] (fun s wx => s = .bool (!tgOk zs) ∧ Below W8.heap.size W8 wx)
    case first =>
      generalize tbB (i1 : Int) ps = ok at hcI hgo
      cases dn with
      | false =>
        go_wp2_with fail
        refine hcE.mono ?_
        rintro e w16 ⟨rfl, hw⟩
        obtain rfl := hw.symm
        go_wp2_with fail
        go_meet
        exact ⟨by rw [hgo.out]; rfl, Below.refl _ _⟩
      | true =>
        go_wp2_with fail
        refine hcE.mono ?_
        rintro e w16 ⟨rfl, hw⟩
        obtain rfl := hw.symm
        go_wp2_with fail
        (with_reducible refine hcI.mono ?_)
        rintro e w17 ⟨rfl, b17⟩
        go_wp2_with fail
        go_meet
        exact ⟨by rw [hgo.out, Bool.true_and], b17⟩
    case rest =>
    obtain ⟨rfl, b16⟩ := hcut
    obtain ⟨w16, hwc⟩ : ∃ W, W = wc := ⟨_, rfl⟩
    subst hwc
    have ho9 : w16.ownsRow w.heap.size 35 5 (.slice a2 ps.length c2) ps.length (rwE.xv ps) := row_kp ho8 (KpT.below b16 [35]) (by decide)
    have res9 := res8.keep b16
    have bx9 := bx.keep b16
    have B9 := B8.trans (b16.mono B8.size)
    clear x0 x1 hcE hcI ho8 res8 bx B8 b16 hgo
    have fz0 := res9.frozen 0
    have fz1 := res9.frozen 1
    obtain ⟨t0, t1⟩ := res9.duo
    cases hok : tgOk zs with
    | false =>
      have HG : Hid (Blk w16 w.heap.size 26 #[.int .i64 0, .slice none 0 0] ∧ Below w.heap.size w w16) := ⟨res9, B9⟩
      have HO : Hid _ := hok
      clear hok res9 B9 bx9 ho9
      go_wp2
      have zf := (HG.out.1.set 0 (.int .i64 0)).set 1 (.slice none 0 0)
      have dd0 := zf.cell 0
      have dd1 := zf.cell 1
      simp at dd0 dd1
      refine bodyPost_ret (v := .tuple #[.agg #[.int .i64 0, .slice none 0 0], .bool false]) (by simp [results, Try.f11, go_sem, dd0, dd1]) rfl ?_
      exact ⟨.inr ⟨HO.out, rfl⟩, (HG.out.2.setCell (p := ⟨w.heap.size, 0, none⟩) (Nat.le_refl _) _).setCell (p := ⟨w.heap.size, 1, none⟩) (Nat.le_refl _) _⟩
    | true =>
      obtain ⟨x0, x1⟩ := bx9.duo
      have HF : Hid _ := rowT_set2 ho9 res9 (.int .i64 (i1 : Int)) (.slice a2 ps.length c2)
      have HG : Hid (Blk w16 w.heap.size 26 #[.int .i64 0, .slice none 0 0] ∧ Below w.heap.size w w16) := ⟨res9, B9⟩
      have HO : Hid _ := hok
      clear hok res9 B9 bx9 ho9
      go_wp2
      have zf := (HG.out.1.set 0 (.int .i64 (i1 : Int))).set 1 (.slice a2 ps.length c2)
      have dd0 := zf.cell 0
      have dd1 := zf.cell 1
      simp at dd0 dd1
      refine bodyPost_ret (v := .tuple #[.agg #[.int .i64 (i1 : Int), .slice a2 ps.length c2], .bool true]) (by simp [results, Try.f11, go_sem, dd0, dd1]) rfl ?_
      refine ⟨.inl ⟨HO.out, _, by rw [E1.out], ?_⟩, (HG.out.2.setCell (p := ⟨w.heap.size, 0, none⟩) (Nat.le_refl _) _).setCell (p := ⟨w.heap.size, 1, none⟩) (Nat.le_refl _) _⟩
      rw [HPS.out]
      exact HF.out
  · have hok : tgOk zs = false := by unfold tgOk; rw [hnone]; rfl
    have bX : Below w7.heap.size w7 (w7.alloc (.cells #[.int .i64 (i1 : Int), .slice none 0 0] 26)) := (Below.refl _ w7).alloc (Nat.le_refl _) _
    have HO : Hid _ := hok
    have res8 := res7.alloc (.cells #[.int .i64 (i1 : Int), .slice none 0 0] 26)
    have fz0 := res8.frozen 0
    have fz1 := res8.frozen 1
    obtain ⟨t0, t1⟩ := res8.duo
    have HG : Hid (Blk (w7.alloc (.cells #[.int .i64 (i1 : Int), .slice none 0 0] 26)) w.heap.size 26 #[.int .i64 0, .slice none 0 0] ∧ Below w.heap.size w (w7.alloc (.cells #[.int .i64 (i1 : Int), .slice none 0 0] 26))) := ⟨res8, b7.trans (bX.mono b7.size)⟩
    clear hok hnone bX res7 res8 b7 CN CE
    go_upto_region 6 with fail
    obtain ⟨W8, hW8⟩ : ∃ W, w7.alloc (.cells #[.int .i64 (i1 : Int), .slice none 0 0] 26) = W := ⟨_, rfl⟩
    rw [hW8] at HG t0 t1 fz0 fz1 ⊢
    clear hW8
    go_wp2
    have zf := (HG.out.1.set 0 (.int .i64 0)).set 1 (.slice none 0 0)
    have dd0 := zf.cell 0
    have dd1 := zf.cell 1
    simp at dd0 dd1
    refine bodyPost_ret (v := .tuple #[.agg #[.int .i64 0, .slice none 0 0], .bool false]) (by simp [results, Try.f11, go_sem, dd0, dd1]) rfl ?_
    exact ⟨.inr ⟨HO.out, rfl⟩, (HG.out.2.setCell (p := ⟨w.heap.size, 0, none⟩) (Nat.le_refl _) _).setCell (p := ⟨w.heap.size, 1, none⟩) (Nat.le_refl _) _⟩
end
end Go.Proofs.Ytmkcadnpleijdaa
