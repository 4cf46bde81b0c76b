/-
  The program's GetTable.
-/
import Derived.Test.YtmkcadnpleijdaaTbHQ
namespace Go.Proofs.Ytmkcadnpleijdaa
open Go.RowKit
theorem rwE_snoc (ps : List RwD) (p : RwD) : rwE.xv (ps ++ [p]) = rwE.xv ps ++ [.int .i64 p.id, .string p.name, .bool p.ro, .int .i64 p.lim, .int .i64 p.mp] := by rw [El.xv_append]; rfl
theorem row5_news (w : World) (r : RwD) : ∀ j u, [Value.int .i64 r.id, .string r.name, .bool r.ro, .int .i64 r.lim, .int .i64 r.mp][j]? = some u → (w.alloc (.cells #[.int .i64 r.id, .string r.name, .bool r.ro, .int .i64 r.lim, .int .i64 r.mp] 35)).cell? ((⟨w.heap.size, 0, none⟩ : Addr).add j) = some u := by
  intro j u hj
  rw [add_at, (Blk.new w 35 #[.int .i64 r.id, .string r.name, .bool r.ro, .int .i64 r.lim, .int .i64 r.mp]).cell j]
  match j, hj with
  | 0, hj => simpa using hj
  | 1, hj => simpa using hj
  | 2, hj => simpa using hj
  | 3, hj => simpa using hj
  | 4, hj => simpa using hj
  | j + 5, hj => simp at hj
/-- One row appended to a list of the call's own. -/
theorem wpList_appR (w : World) {ops : Array Oper} {rest : List Oper} {o : Oper} {a : Act} {Q : Exit → Act → World → Prop} (hgd : o.guard = none) (s x : Operand)
    (ho : o.op = .call { callee := .builtin .append, args := #[s, x], argTypes := #[24, 24] })
    (B : Nat) (v : Value) (n : Nat) (ps : List RwD) (r : RwD) (hs : a.eval s = v) (hown : w.ownsRow B 35 5 v n (rwE.xv ps)) (hn : n ≤ 100000) (hx : a.eval x = .slice (some ⟨w.heap.size, 0, none⟩) 1 1) (hB : B ≤ w.heap.size)
    (h : ∀ v' w', w'.ownsRow B 35 5 v' (n + 1) (rwE.xv (ps ++ [r])) → (w.alloc (.cells #[.int .i64 r.id, .string r.name, .bool r.ro, .int .i64 r.lim, .int .i64 r.mp] 35)).grownBy w' v.ownBlock → wpList Try.prog ops Q rest (a.put o.dst v') w') :
    wpList Try.prog ops Q (o :: rest) a (w.alloc (.cells #[.int .i64 r.id, .string r.name, .bool r.ro, .int .i64 r.lim, .int .i64 r.mp] 35)) := by
  obtain ⟨i, hi, hz, hsz, hby⟩ := info_parts Try.infoRow
  refine wpList_append_own_at _ hgd s x 24 ho B 35 i _ 5 48 Try.underlying24 hi hz hsz hby rfl (by decide) v n (rwE.xv ps) hs (World.ownsRow.alloc hown _) ⟨w.heap.size, 0, none⟩ 1 1 [.int .i64 r.id, .string r.name, .bool r.ro, .int .i64 r.lim, .int .i64 r.mp] hx rfl (row5_news w r) ?_ (by unfold maxLen; omega) ?_ (by simp; omega) ?_
  · intro u hu
    simp at hu
    rcases hu with rfl | rfl | rfl | rfl | rfl <;> rfl
  · omega
  · intro v' w' h1 h2 _ _
    refine h v' w' ?_ h2
    rw [rwE_snoc]
    exact h1
theorem row5_some {B : Nat} {W : World} {v : Value} {e : TypeId} {n : Nat} {xs : List Value} (h : W.ownsRow B e 5 v n xs) (hn : n ≠ 0) : ∃ g c, v = .slice (some ⟨g, 0, none⟩) n c := by
  rcases h.2 with ⟨_, h0⟩ | ⟨g, c, cur, rfl, _⟩
  · exact absurd h0 hn
  · exact ⟨g, c, rfl⟩
theorem rowR_form {B : Nat} {W : World} {v : Value} {n : Nat} {ps : List RwD} (h : W.ownsRow B 35 5 v n (rwE.xv ps)) : ∃ a c, v = .slice a n c ∧ RdRw W a ps := by
  have h0 : OwnE rwE 35 W v n ps := ⟨h.1, by
    rcases h.2 with h1 | ⟨g, c, cur, e, _, rest⟩
    · exact .inl h1
    · exact .inr ⟨g, c, cur, e, Nat.zero_le _, rest⟩⟩
  exact OwnE.rd (rd := fun _ => True) h0 (fun _ _ => trivial)
/-- What is known while the list of rows is read. -/
structure RL (w0 Wb W : World) (H K : Nat) (a : Option Addr) (n cap : Nat) (st : Option Nat) (v2 : Value) (ps : List RwD) : Prop where
  rd : RI W H a n cap st
  k0 : Blk W K 54 #[(.func (.func 55) #[] #[.pointer (some ⟨H + 2, 0, none⟩), .pointer (some ⟨H, 0, none⟩), .pointer (some ⟨H + 1, 0, none⟩)])]
  k1 : Blk W (K + 1) 55 #[(.func (.func 57) #[] #[.pointer (some ⟨H + 2, 0, none⟩), .pointer (some ⟨H, 0, none⟩), .pointer (some ⟨H + 1, 0, none⟩)])]
  below : Below w0.heap.size w0 W
  hH : w0.heap.size ≤ H
  kp : KpT Wb W [26]
  e : W.ownsRow w0.heap.size 35 5 v2 ps.length (rwE.xv ps)
theorem RL.toY {w0 Wb W : World} {H K : Nat} {a : Option Addr} {n cap : Nat} {st : Option Nat} {v2 : Value} {ps : List RwD} (h : RL w0 Wb W H K a n cap st v2 ps) : RY w0 W W H K a n cap st := ⟨h.rd, h.k0, h.k1, h.below, h.hH, KpT.refl _ _, Nat.le_refl _⟩
theorem RL.back {w0 Wb W W' : World} {H K : Nat} {a : Option Addr} {n cap : Nat} {st st' : Option Nat} {v2 : Value} {ps : List RwD} (h : RL w0 Wb W H K a n cap st v2 ps) (y : RY w0 W W' H K a n cap st') : RL w0 Wb W' H K a n cap st' v2 ps := ⟨y.rd, y.k0, y.k1, y.below, y.hH, h.kp.tb (y.kp.sub (by decide)), row_kp h.e y.kp (by decide)⟩
theorem RL.keep {w0 Wb W W' : World} {H K : Nat} {a : Option Addr} {n cap : Nat} {st : Option Nat} {v2 : Value} {ps : List RwD} (h : RL w0 Wb W H K a n cap st v2 ps) (hb : Below W.heap.size W W') : RL w0 Wb W' H K a n cap st v2 ps := h.back (h.toY.keep hb)
theorem RL.app {w0 Wb W W' : World} {H K : Nat} {a : Option Addr} {n cap : Nat} {st : Option Nat} {v2 : Value} {ps : List RwD} (h : RL w0 Wb W H K a n cap st v2 ps) (o : Obj) (hg : (W.alloc o).grownBy W' v2.ownBlock) (v2' : Value) (ps' : List RwD) (ho : W'.ownsRow w0.heap.size 35 5 v2' ps'.length (rwE.xv ps')) : RL w0 Wb W' H K a n cap st v2' ps' := by
  have ha := h.keep ((Below.refl W.heap.size W).alloc (Nat.le_refl _) o)
  have k : KpT (W.alloc o) W' [22, 3, 4, 54, 55, 26] := KpT.row hg ha.e (by decide)
  exact ⟨ha.rd.kp k (by decide) (by decide) (by decide), ha.k0.kp k (by decide), ha.k1.kp k (by decide), ha.below.grown hg ha.below.size (fun g hk => (row_at ha.e hk).1), ha.hH, ha.kp.tb (k.sub (by decide)), ho⟩
set_option maxRecDepth 100000 in
set_option maxHeartbeats 8000000 in
theorem readListI (w0 : World) (H K : Nat) (a : Option Addr) (n cap : Nat) (zs : List Int) (st : Option Nat) (m : Nat) (hm : m ≤ 7) (w : World) (hn : zs.length = n) (hs : n ≤ 1048576) (hcap : n ≤ cap) (hr : Rd w0 a zs) (hb : Byt zs) (hL : RL w0 w w H K a n cap st (.slice none 0 0) []) :
    Calls Try.prog 35 #[.int .i64 (m : Int), (.func (.func 60) #[] #[.pointer (some ⟨K, 0, none⟩), .pointer (some ⟨K + 1, 0, none⟩)])] w fun e w' => Below w0.heap.size w0 w' ∧ KpT w w' [26] ∧ ((∃ v, e = .returned (.tuple #[v, .bool true]) ∧ w'.ownsRow w0.heap.size 35 5 v (tgRs zs st m).1.length (rwE.xv (tgRs zs st m).1) ∧ RI w' H a n cap (tgRs zs st m).2) ∨ (e = .returned (.tuple #[.slice none 0 0, .bool false]) ∧ (tgRs zs st m).2 = none)) := by
  have CR : Hid _ := fun (W : World) (st : Option Nat) (h : RY w0 W W H K a n cap st) => readRowI w0 H K a n cap zs st W hn hs hcap hr hb h.below.size h
  have HL : Hid (RL w0 w w H K a n cap st (.slice none 0 0) []) := hL
  clear hn hr hb hL hs hcap
  go_enter Try.func35, Try.ntmps35
  go_wp2
  go_loopw [6, 10] (fun u i wr => ∃ (k : Nat) (v2 : Value), k ≤ m ∧ i = .int .i64 k ∧ u = v2 ∧ RL w0 w wr H K a n cap (tgRs zs st k).2 v2 (tgRs zs st k).1) (fun _ i _ => m - (intOf i).toNat)
  case atStart => exact ⟨0, .slice none 0 0, by omega, rfl, rfl, HL.out⟩
  case round =>
    obtain ⟨k, v2, hkm, rfl, hu, hLk⟩ := hrel
    have hu' := hu.symm
    subst hu'
    have hlk := tgRs_len zs st k
    have hes : Hid ((tgRs zs st (k + 1)).1 = (tgRs zs st k).1 ++ [tgRow zs (tgRs zs st k).2] ∧ (tgRs zs st (k + 1)).2 = (tgE zs (tgRs zs st k).2).2) := ⟨rfl, rfl⟩
    have hend : Hid (k = m → tgRs zs st m = tgRs zs st k) := fun h => by rw [h]
    have hbad : Hid (k < m → (tgRs zs st (k + 1)).2 = none → (tgRs zs st m).2 = none) := fun h1 h2 => tgRs_none h2 (by omega)
    obtain ⟨ps, hps⟩ : ∃ l, (tgRs zs st k).1 = l := ⟨_, rfl⟩
    obtain ⟨sk, hsk⟩ : ∃ l, (tgRs zs st k).2 = l := ⟨_, rfl⟩
    rw [hps, hsk] at hes hLk
    rw [hps] at hlk
    have hend' : Hid (k = m → (tgRs zs st m).1 = ps ∧ (tgRs zs st m).2 = sk) := fun h => by rw [hend.out h]; exact ⟨hps, hsk⟩
    clear hend hps hsk HL
    have HLK : Hid (RL w0 w wr H K a n cap sk v2 ps) := hLk
    by_cases hgo : k < m
    · have hki : (k : Int) < (m : Int) := by omega
      have hc := CR.out wr sk hLk.toY
      have hti := fun h => ti_tg (zs := zs) (st := sk) h
      have HBD : Hid (¬ (tgC zs sk).1 ≤ 1 → (tgRs zs st m).2 = none) := fun h => hbad.out hgo (by rw [hes.out.2]; exact tgE_bad h)
      have HOK : Hid ((tgC zs sk).1 ≤ 1 → (tgRs zs st (k + 1)).1 = ps ++ [tiRow zs sk] ∧ (tgRs zs st (k + 1)).2 = (tiE zs sk).2) := fun h => by rw [hes.out.1, hes.out.2, (hti h).1, (hti h).2]; exact ⟨rfl, rfl⟩
      obtain ⟨r, hrr⟩ : ∃ r, tiRow zs sk = r := ⟨_, rfl⟩
      obtain ⟨s1, hs1⟩ : ∃ r, (tiE zs sk).2 = r := ⟨_, rfl⟩
      rw [hrr, hs1] at hc HOK
      obtain ⟨x0, x1, x2, x3, x4⟩ := r
      dsimp only at hc
      clear hti hrr hs1 hes hbad hend' hLk
      obtain ⟨cb, hcb⟩ : ∃ b, decide ((tgC zs sk).1 ≤ 1) = b := ⟨_, rfl⟩
      rw [hcb] at hc
      have HCB : Hid (decide ((tgC zs sk).1 ≤ 1) = cb) := hcb
      clear hcb
      go_wp2_with fail
      refine hc.mono ?_
      rintro e w1 ⟨rfl, Y1⟩
      have L1 := HLK.out.back Y1
      have L2 := L1.keep ((Below.refl w1.heap.size w1).alloc (Nat.le_refl _) (.cells #[.int .i64 x0, .string x1, .bool x2, .int .i64 x3, .int .i64 x4] 35))
      have bx := Blk.new w1 35 #[.int .i64 x0, .string x1, .bool x2, .int .i64 x3, .int .i64 x4]
      clear Y1 L1 hc HLK
      cases cb with
      | false =>
        have HN : Hid ((tgRs zs st m).2 = none) := HBD.out (by have := HCB.out; simpa using this)
        have HL2 : Hid _ := L2
        clear L2 bx HBD HOK
        go_wp2
        refine bodyPost_ret (v := .tuple #[.slice none 0 0, .bool false]) (by simp [results, Try.f35, go_sem]) rfl ?_
        exact ⟨HL2.out.below, HL2.out.kp, .inr ⟨rfl, HN.out⟩⟩
      | true =>
        have hnx : Hid ((tgRs zs st (k + 1)).1 = ps ++ [⟨x0, x1, x2, x3, x4⟩] ∧ (tgRs zs st (k + 1)).2 = s1) := HOK.out (by have := HCB.out; simpa using this)
        clear HBD HOK HCB
        go_upto_region 7 with fail
        obtain ⟨W2, hW2⟩ : ∃ W, w1.alloc (.cells #[.int .i64 x0, .string x1, .bool x2, .int .i64 x3, .int .i64 x4] 35) = W := ⟨_, rfl⟩
        obtain ⟨X, hX⟩ : ∃ X, w1.heap.size = X := ⟨_, rfl⟩
        rw [hW2, hX] at bx
        rw [hW2] at L2 ⊢
        rw [hX]
        clear hW2 hX
        obtain ⟨c0, c1, c2, c3, c4⟩ := bx.fiv
        have hsz2 := L2.below.size
        have hrow := L2.e
        rw [hlk] at hrow
        go_wp2_with (at_builtin; refine wpList_appR W2 rfl (.tmp 19) (.tmp 21) rfl w0.heap.size v2 k ps ⟨x0, x1, x2, x3, x4⟩ rfl hrow (by omega) rfl hsz2 ?_; intro v2' w12 ho12 hg12; have L3 := L2.app _ hg12 v2' (ps ++ [⟨x0, x1, x2, x3, x4⟩]) (by rw [List.length_append, hlk]; exact ho12); clear c0 c1 c2 c3 c4 bx hrow L2 ho12 hg12)
        go_roundw
        all_goals first
          | (case rel => exact ⟨k + 1, v2', by omega, by go_num, rfl, by rw [hnx.out.2, hnx.out.1]; exact L3⟩)
          | (case rel => (repeat apply Exists.intro); exact ⟨⟨k + 1, v2', by omega, by go_num, rfl, by rw [hnx.out.2, hnx.out.1]; exact L3⟩, rfl⟩)
          | (case measure => simp [intOf]; omega)
    · have hki : ¬ (k : Int) < (m : Int) := by omega
      have HE := hend'.out (by omega)
      have HE' : Hid _ := HE
      clear hend' HE hes hbad hLk
      go_wp2
      refine bodyPost_ret (v := .tuple #[v2, .bool true]) (by simp [results, Try.f35, go_sem]) rfl ?_
      refine ⟨HLK.out.below, HLK.out.kp, .inl ⟨v2, rfl, ?_, ?_⟩⟩
      · rw [HE'.out.1]; exact HLK.out.e
      · rw [HE'.out.2]; exact HLK.out.rd
end Go.Proofs.Ytmkcadnpleijdaa

