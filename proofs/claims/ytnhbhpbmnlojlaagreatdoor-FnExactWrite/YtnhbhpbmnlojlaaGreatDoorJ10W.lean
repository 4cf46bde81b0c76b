/-
  Joined: LogM, App10, HeldZ.
-/
import Derived.Test.YtnhbhpbmnlojlaaGreatDoorJ09W
import Derived.Deep.AppendSrc
import Derived.Deep.RegionHeld
namespace Go.Proofs.YtnhbhpbmnlojlaaGreatDoor
section
open Go.ChangeShapes Go.WideShapes Go.ChangeAt Go.RowKit
theorem list5 {α : Type} {l : List α} (h : l.length = 5) : ∃ a b c d e, l = [a, b, c, d, e] := by
  match l, h with
  | [a, b, c, d, e], _ => exact ⟨a, b, c, d, e, rfl⟩
theorem list2L {α : Type} {l : List α} (h : l.length = 2) : ∃ a b, l = [a, b] := by
  match l, h with
  | [a, b], _ => exact ⟨a, b, rfl⟩
section
variable {H : Type} {enc : TypeId × Value → H} {w : World} {base : Nat} {held : Bool}
set_option maxRecDepth 100000 in
theorem open_log {base' : Nat} {v : Value} {d : DataW H} {p : List MemPlace} (hv : Value.okWide Tryz.prog w .any base' 29 v) (h : DataW.Trod enc Tryz.prog w base (fun _ => true) held 29 v d p) :
    ∃ (a : Option Addr) (cap : Nat) (bs : List BkR) (ops : Int) (fa : Option Addr) (fc : Nat) (fs : List FtD) (down : Bool) (seq : Int), v = .agg #[.slice a bs.length cap, .int .i64 ops, .slice fa fs.length fc, .bool down, .int .i64 seq] ∧ (bs.length ≤ maxLen ∧ (∀ r ∈ bs, BkIn r) ∧ RdBs w a bs ∧ fs.length ≤ maxLen ∧ RdFa w fa fs ∧ (Lit.int .i64 seq).wf = true) := by
  obtain ⟨cs, rfl, hsz⟩ := okWide_struct Tryz.underlying29 hv
  obtain ⟨fuel, hf⟩ := h
  obtain ⟨xs0, n0, _, _, hl0, hlen0, hfld0⟩ := DataW.trod_struct Tryz.underlying29 hf
  have hC0 : Tryz.prog.cellsOf 29 = 5 := by kernel_rfl
  have kD : Tryz.prog.cellsOf 27 = 4 := by kernel_rfl
  have kC : Tryz.prog.cellsOf 24 = 1 := by kernel_rfl
  have k3 : Tryz.prog.cellsOf 3 = 1 := by kernel_rfl
  have kF : Tryz.prog.cellsOf 25 = 1 := by kernel_rfl
  have k4 : Tryz.prog.cellsOf 4 = 1 := by kernel_rfl
  have kB : Tryz.prog.cellsOf 22 = 1 := by kernel_rfl
  rw [hC0] at hsz
  obtain ⟨l⟩ := cs
  simp only [List.size_toArray] at hsz
  obtain ⟨v0, v1, v2, v3, v4, rfl⟩ := list5 hsz
  obtain ⟨y0, y1, rfl⟩ := list2L hlen0
  have e0 := hfld0 0 _ rfl
  have e1 := hfld0 1 _ rfl
  simp [Value.cells, kD, k3] at e0 e1
  obtain ⟨xs, n, _, _, hl, hlen, hfld⟩ := DataW.trod_struct Tryz.underlying27 e0
  obtain ⟨z0, z1, z2, z3, rfl⟩ := list4 hlen
  have f0 := hfld 0 _ rfl
  have f1 := hfld 1 _ rfl
  have f2 := hfld 2 _ rfl
  have f3 := hfld 3 _ rfl
  simp [kC, k3, kF, k4] at f0 f1 f2 f3
  obtain ⟨xs', n', _, _, hl', hlen', hfld'⟩ := DataW.trod_struct Tryz.underlying24 f0
  obtain ⟨y0', rfl⟩ := list1 hlen'
  have g0 := hfld' 0 _ rfl
  simp [kB] at g0
  obtain ⟨a, cap, es, e0, hm, hI, hR⟩ := open_blocks g0
  obtain ⟨ops, e1', _, _⟩ := DataW.trod_int Tryz.underlying3 f1
  obtain ⟨fa, fc, fs, e2, hfm, hfR⟩ := open_fts f2
  obtain ⟨down, e3, _⟩ := DataW.trod_bool Tryz.underlying4 f3
  obtain ⟨seq, e4, _, hws⟩ := DataW.trod_int Tryz.underlying3 e1
  simp only [List.cons.injEq, and_true] at e0 e1' e2 e3 e4
  subst e0 e1' e2 e3 e4
  exact ⟨a, cap, es, ops, fa, fc, fs, down, seq, rfl, hm, hI, hR, hfm, hfR, hws⟩
end
set_option maxHeartbeats 1600000 in
theorem szLog_w (a : Option Addr) (n cap x : Nat) (bs : List BkR) (ops : Int) (fa : Option Addr) (m fc : Nat) (down : Bool) (seq : Int) (w : World) (hn : bs.length = n) (hm : n ≤ maxLen) (hfm : m ≤ maxLen) (hx : x ≤ 1048576) (hin : ∀ r ∈ bs, BkIn r) (hr : RdBs w a bs) :
    Calls Tryz.prog 7 #[.agg #[.slice a n cap, .int .i64 ops, .slice fa m fc, .bool down, .int .i64 seq], .int .i64 x] w fun e w' => SzQ x (totB (bs.map BkR.D) + m) True e ∧ Below w.heap.size w w' := by
  have B0 : Below w.heap.size w (w.alloc (.cells #[.slice a n cap, .int .i64 ops, .slice fa m fc, .bool down, .int .i64 seq] 29)) := (Below.refl _ w).alloc (Nat.le_refl _) _
  have hcall := szDev_w a n cap x bs ops fa m fc down (w.alloc (.cells #[.slice a n cap, .int .i64 ops, .slice fa m fc, .bool down, .int .i64 seq] 29)) hn hm hfm hx hin (hr.keep B0)
  have HB : Hid _ := B0
  clear B0 hin hr hn
  go_enter Tryz.func7, Tryz.ntmps7
  go_wp2_with fail
  refine hcall.mono ?_
  rintro e w1 ⟨(rfl | ⟨v, hv, rfl, hzz⟩), hb1⟩
  · go_wp2
    go_ret
    exact ⟨.inl rfl, HB.out.trans (hb1.mono HB.out.size)⟩
  · have hv0 : ¬ (v : Int) < 0 := by omega
    go_wp2
    go_ret
    exact ⟨.inr ⟨v, hv, rfl, trivial⟩, HB.out.trans (hb1.mono HB.out.size)⟩
set_option maxHeartbeats 3200000 in
theorem toLog_any (a : Option Addr) (n cap : Nat) (bs : List BkR) (ops : Int) (fa : Option Addr) (m fc : Nat) (fs : List FtD) (down : Bool) (seq : Int) (w : World) (ht : CR w a n bs) (hf : FR w fa m fs) :
    Calls Tryz.prog 9 #[.agg #[.slice a n cap, .int .i64 ops, .slice fa m fc, .bool down, .int .i64 seq]] w fun e w' => ∃ g g' qs, e = .returned (.agg #[.slice (some ⟨g, 0, none⟩) n n, .int .i64 ops, .slice (some ⟨g', 0, none⟩) m m, .bool down, .int .i64 seq]) ∧ NewDv w' w.heap.size (some ⟨g, 0, none⟩) n n (some ⟨g', 0, none⟩) m m (bs.map BkR.D) fs qs ∧ Below w.heap.size w w' := by
  have B0 : Below w.heap.size w (((w.alloc (.cells #[.slice a n cap, .int .i64 ops, .slice fa m fc, .bool down, .int .i64 seq] 29)).alloc (.cells #[.slice none 0 0, .int .i64 0, .slice none 0 0, .bool false, .int .i64 0] 39)).alloc (.cells #[.slice none 0 0, .int .i64 0, .slice none 0 0, .bool false, .int .i64 0] 39)) := (((Below.refl _ w).alloc (Nat.le_refl _) _).alloc (by simp) _).alloc (by simp; omega) _
  obtain ⟨H, hH⟩ : ∃ H, w.heap.size = H := ⟨_, rfl⟩
  have z0 : Blk (((w.alloc (.cells #[.slice a n cap, .int .i64 ops, .slice fa m fc, .bool down, .int .i64 seq] 29)).alloc (.cells #[.slice none 0 0, .int .i64 0, .slice none 0 0, .bool false, .int .i64 0] 39)).alloc (.cells #[.slice none 0 0, .int .i64 0, .slice none 0 0, .bool false, .int .i64 0] 39)) w.heap.size 29 #[.slice a n cap, .int .i64 ops, .slice fa m fc, .bool down, .int .i64 seq] := ((Blk.new w 29 _).alloc _).alloc _
  have z1 := (Blk.new (w.alloc (.cells #[.slice a n cap, .int .i64 ops, .slice fa m fc, .bool down, .int .i64 seq] 29)) 39 #[.slice none 0 0, .int .i64 0, .slice none 0 0, .bool false, .int .i64 0]).alloc (.cells #[.slice none 0 0, .int .i64 0, .slice none 0 0, .bool false, .int .i64 0] 39)
  have z2 := Blk.new ((w.alloc (.cells #[.slice a n cap, .int .i64 ops, .slice fa m fc, .bool down, .int .i64 seq] 29)).alloc (.cells #[.slice none 0 0, .int .i64 0, .slice none 0 0, .bool false, .int .i64 0] 39)) 39 #[.slice none 0 0, .int .i64 0, .slice none 0 0, .bool false, .int .i64 0]
  have hs0 : (((w.alloc (.cells #[.slice a n cap, .int .i64 ops, .slice fa m fc, .bool down, .int .i64 seq] 29)).alloc (.cells #[.slice none 0 0, .int .i64 0, .slice none 0 0, .bool false, .int .i64 0] 39)).alloc (.cells #[.slice none 0 0, .int .i64 0, .slice none 0 0, .bool false, .int .i64 0] 39)).heap.size = w.heap.size + 1 + 1 + 1 := by simp
  simp only [World.size_alloc] at z1 z2
  obtain ⟨W0, hW0⟩ : ∃ W, ((w.alloc (.cells #[.slice a n cap, .int .i64 ops, .slice fa m fc, .bool down, .int .i64 seq] 29)).alloc (.cells #[.slice none 0 0, .int .i64 0, .slice none 0 0, .bool false, .int .i64 0] 39)).alloc (.cells #[.slice none 0 0, .int .i64 0, .slice none 0 0, .bool false, .int .i64 0] 39) = W := ⟨_, rfl⟩
  rw [hW0] at B0 z0 z1 z2 hs0
  have hcall := toDev_any a n cap bs ops fa m fc fs down W0 ⟨ht.len, ht.tot, ht.rd.keep B0⟩ (hf.keep B0)
  rw [hH] at z0 z1 z2 hs0 B0
  rw [hs0] at hcall
  have x0 := z0.cell 0
  have x1 := z0.cell 1
  have x2 := z0.cell 2
  have x3 := z0.cell 3
  simp at x0 x1 x2 x3
  have HB : Hid _ := B0
  clear ht B0 hf
  go_enter Tryz.func9, Tryz.ntmps9
  go_wp2_with fail
  refine hcall.mono ?_
  rintro e w1 ⟨g, G, qs, rfl, ho, hb1⟩
  have B2 := HB.out.trans (hb1.mono (by omega))
  have t0 := z0.keep (by rw [hs0]; exact hb1)
  have t1 := z1.keep (by rw [hs0]; exact hb1)
  have t2 := z2.keep (by rw [hs0]; exact hb1)
  clear z0 z1 z2 hb1 hcall x0 x1 x2 x3
  have a4 := t0.cell 4
  have c0 := t2.cell 0
  have c1 := t2.cell 1
  have c2 := t2.cell 2
  have c3 := t2.cell 3
  have c4 := t2.cell 4
  have f0 := t2.frozen 0
  have f1 := t2.frozen 1
  have f2 := t2.frozen 2
  have f3 := t2.frozen 3
  have f4 := t2.frozen 4
  have v2 := ((((t2.set 0 (.slice (some ⟨g, 0, none⟩) n n)).set 1 (.int .i64 ops)).set 2 (.slice (some ⟨G, 0, none⟩) m m)).set 3 (.bool down)).set 4 (.int .i64 seq)
  have v1 := ((((t1.other (B' := H + 1 + 1) (by omega) 0 (.slice (some ⟨g, 0, none⟩) n n)).other (B' := H + 1 + 1) (by omega) 1 (.int .i64 ops)).other (B' := H + 1 + 1) (by omega) 2 (.slice (some ⟨G, 0, none⟩) m m)).other (B' := H + 1 + 1) (by omega) 3 (.bool down)).other (B' := H + 1 + 1) (by omega) 4 (.int .i64 seq)
  have d0 := v2.cell 0
  have d1 := v2.cell 1
  have d2 := v2.cell 2
  have d3 := v2.cell 3
  have d4 := v2.cell 4
  have g0 := v1.cell 0
  have g1 := v1.cell 1
  have g2 := v1.cell 2
  have g3 := v1.cell 3
  have g4 := v1.cell 4
  have h0 := v1.frozen 0
  have h1 := v1.frozen 1
  have h2 := v1.frozen 2
  have h3 := v1.frozen 3
  have h4 := v1.frozen 4
  have vr := ((((v1.set 0 (.slice (some ⟨g, 0, none⟩) n n)).set 1 (.int .i64 ops)).set 2 (.slice (some ⟨G, 0, none⟩) m m)).set 3 (.bool down)).set 4 (.int .i64 seq)
  have r0 := vr.cell 0
  have r1 := vr.cell 1
  have r2 := vr.cell 2
  have r3 := vr.cell 3
  have r4 := vr.cell 4
  simp at a4 c0 c1 c2 c3 c4 d0 d1 d2 d3 d4 g0 g1 g2 g3 g4 r0 r1 r2 r3 r4
  have HN : Hid _ := And.intro ho B2
  clear ho B2 t0 t1 t2 v1 v2 vr HB
  go_wp2
  refine bodyPost_ret (v := .agg #[.slice (some ⟨g, 0, none⟩) n n, .int .i64 ops, .slice (some ⟨G, 0, none⟩) m m, .bool down, .int .i64 seq]) (by simp [results, Tryz.f9, go_sem, r0, r1, r2, r3, r4]) rfl ?_
  obtain ⟨hnd, B2⟩ := HN.out
  have s : ∀ (W : World) (j i : Nat) (v : Value), H ≤ j → Below H w W → Below H w (W.setCell ⟨j, i, none⟩ v) := fun W j i v hj hb => hb.setCell (p := ⟨j, i, none⟩) hj v
  have k : ∀ (W : World) (j i : Nat) (v : Value), j < H + 1 + 1 + 1 → NewDv W (H + 1 + 1 + 1) (some ⟨g, 0, none⟩) n n (some ⟨G, 0, none⟩) m m (bs.map BkR.D) fs qs → NewDv (W.setCell ⟨j, i, none⟩ v) (H + 1 + 1 + 1) (some ⟨g, 0, none⟩) n n (some ⟨G, 0, none⟩) m m (bs.map BkR.D) fs qs := fun W j i v hj h => h.set_below hj
  refine ⟨g, G, qs, rfl, (k _ _ _ _ (by omega) (k _ _ _ _ (by omega) (k _ _ _ _ (by omega) (k _ _ _ _ (by omega) (k _ _ _ _ (by omega) (k _ _ _ _ (by omega) (k _ _ _ _ (by omega) (k _ _ _ _ (by omega) (k _ _ _ _ (by omega) (k _ _ _ _ (by omega) hnd)))))))))).wider (by omega), ?_⟩
  rw [hH]
  exact s _ _ _ _ (by omega) (s _ _ _ _ (by omega) (s _ _ _ _ (by omega) (s _ _ _ _ (by omega) (s _ _ _ _ (by omega) (s _ _ _ _ (by omega) (s _ _ _ _ (by omega) (s _ _ _ _ (by omega) (s _ _ _ _ (by omega) (s _ _ _ _ (by omega) B2)))))))))
set_option maxHeartbeats 1600000 in
/-- eqLog of two that say the same. -/
theorem eqLg {w : World} {B B' n c c' m fc fc' : Nat} {a a' fa fa' : Option Addr} {ds : List BkD} {fs : List FtD} {qs qs' : List BkR} (ops : Int) (down : Bool) (seq : Int) (hn : ds.length = n) (hs : totB ds ≤ 4000000) (hm : m ≤ 1048576) (h : NewDv w B a n c fa m fc ds fs qs) (h' : NewDv w B' a' n c' fa' m fc' ds fs qs') :
    Calls Tryz.prog 12 #[.agg #[.slice a n c, .int .i64 ops, .slice fa m fc, .bool down, .int .i64 seq], .agg #[.slice a' n c', .int .i64 ops, .slice fa' m fc', .bool down, .int .i64 seq]] w fun e w' => e = .returned (.bool true) ∧ Below w.heap.size w w' := by
  have B0 : Below w.heap.size w ((w.alloc (.cells #[.slice a n c, .int .i64 ops, .slice fa m fc, .bool down, .int .i64 seq] 39)).alloc (.cells #[.slice a' n c', .int .i64 ops, .slice fa' m fc', .bool down, .int .i64 seq] 39)) := ((Below.refl _ w).alloc (Nat.le_refl _) _).alloc (by simp) _
  have z0 := (Blk.new w 39 #[.slice a n c, .int .i64 ops, .slice fa m fc, .bool down, .int .i64 seq]).alloc (.cells #[.slice a' n c', .int .i64 ops, .slice fa' m fc', .bool down, .int .i64 seq] 39)
  have z1 := Blk.new (w.alloc (.cells #[.slice a n c, .int .i64 ops, .slice fa m fc, .bool down, .int .i64 seq] 39)) 39 #[.slice a' n c', .int .i64 ops, .slice fa' m fc', .bool down, .int .i64 seq]
  simp only [World.size_alloc] at z1
  have hcall := eqDv ops down hn hs hm (h.keep B0) (h'.keep B0)
  have e0 : (seq != seq) = false := by simp
  obtain ⟨H, hH⟩ : ∃ H, w.heap.size = H := ⟨_, rfl⟩
  have q0 := z0.cell 0
  have q1 := z0.cell 1
  have q2 := z0.cell 2
  have q3 := z0.cell 3
  have p0 := z1.cell 0
  have p1 := z1.cell 1
  have p2 := z1.cell 2
  have p3 := z1.cell 3
  simp at q0 q1 q2 q3 p0 p1 p2 p3
  have HB : Hid _ := B0
  clear h h' hn B0
  go_enter Tryz.func12, Tryz.ntmps12
  go_wp2_with fail
  refine hcall.mono ?_
  rintro e w1 ⟨rfl, hb1⟩
  have t0 := z0.keep hb1
  have t1 := z1.keep hb1
  have B1 := HB.out.trans (hb1.mono HB.out.size)
  clear q0 q1 q2 q3 p0 p1 p2 p3 hcall z0 z1 HB hb1
  have q4 := t0.cell 4
  have p4 := t1.cell 4
  rw [hH] at q4 p4 t0 t1
  simp at q4 p4
  go_wp2
  go_ret
  exact ⟨rfl, B1⟩
end

section
open Go.RowKit
/-- What was appended, and where it lies. -/
theorem run_appAny (W : World) (B : Nat) (t ty e : TypeId) (i : TypeInfo) (z : Value) (size bytes : Nat) (ht : Tryz.prog.underlying t = some (.slice e)) (hi : Tryz.prog.info? e = some i) (hz : i.zero = some z) (hsize : i.size = size) (hby : i.bytes = bytes) (hzs : z.cells.size = size) (hsz : 0 < size)
    (v : Value) (n : Nat) (xs : List Value) (hown : W.ownsRow B e size v n xs) (ao : Option Addr) (m c : Nat) (news : List Value) (hl : news.length = m * size) (hnews : m = 0 ∨ ∃ ad, ao = some ad ∧ ∀ j u, news[j]? = some u → W.cell? (ad.add j) = some u)
    (h1 : ∀ u ∈ news, u.oneCell' = true) (h63 : n + m ≤ 8000000) (hb64 : bytes ≤ 640) (hB : B ≤ W.heap.size) :
    ∃ v' W', (Builtin.append_ #[t, t] ty #[v, .slice ao m c]).run Tryz.prog W = .ok v' W' ∧ W'.ownsRow B e size v' (n + m) (xs ++ news) ∧ W.grownBy W' v.ownBlock ∧ (v'.ownBlock = v.ownBlock ∨ v'.ownBlock = some W.heap.size) := by
  cases ao with
  | some ad =>
    obtain ⟨v', w', hr, h2, h3, _, h5⟩ := run_append_own_at (P := Tryz.prog) W B t ty e i z size bytes ht hi hz hsize hby hzs hsz v n xs hown ad m c news hl (by
      rcases hnews with h0 | ⟨ad', h0, hn⟩
      · subst h0
        obtain rfl : news = [] := List.length_eq_zero_iff.1 (by simpa using hl)
        intro j u hj; simp at hj
      · simp at h0; subst h0; exact hn) h1 (by unfold maxLen; omega) (by have : (n + m) * bytes ≤ 8000000 * 640 := Nat.mul_le_mul (by omega) hb64; omega) hB
    exact ⟨v', w', hr, h2, h3, h5⟩
  | none =>
    have hm : m = 0 := by
      rcases hnews with h0 | ⟨ad', h0, _⟩
      · exact h0
      · simp at h0
    subst hm
    obtain rfl : news = [] := List.length_eq_zero_iff.1 (by simpa using hl)
    have hs : Go.Src Tryz.prog i.size t (.slice none 0 c) 0 [] W := Go.Src.ofNil W ht c
    refine ⟨v, W, ?_, by rw [Nat.add_zero, List.append_nil]; exact hown, World.grownBy.refl W _, .inl rfl⟩
    rcases hown.2 with ⟨rfl, rfl⟩ | ⟨g, cap, cur, rfl, _, _, hk, _⟩
    · simp [Builtin.append_, run_underlying ht, sizeOf, typeInfo, hi, hs.len, hs.cells]
    · have hr := run_append_room_src W t t ty e i ht hi g 0 n cap (.slice none 0 c) 0 [] hs (by omega) (fun j hj => by simp at hj) (fun j hj => by simp at hj)
      rw [hr]
      rfl
/-- At the operation. -/
theorem wpList_appAny (W : World) {ops : Array Oper} {rest : List Oper} {o : Oper} {a : Act} {Q : Exit → Act → World → Prop} (hgd : o.guard = none) (s x : Operand) (t : TypeId)
    (ho : o.op = .call { callee := .builtin .append, args := #[s, x], argTypes := #[t, t] }) (v u : Value) (R : Value → World → Prop) (hs : a.eval s = v) (hx : a.eval x = u)
    (hr : ∀ ty, ∃ v' W', (Builtin.append_ #[t, t] ty #[v, u]).run Tryz.prog W = .ok v' W' ∧ R v' W')
    (h : ∀ v' W', R v' W' → wpList Tryz.prog ops Q rest (a.put o.dst v') W') :
    wpList Tryz.prog ops Q (o :: rest) a W := by
  refine wpList_plain hgd fun K hK => ?_
  obtain ⟨v', W', h1, h2⟩ := hr o.type
  unfold Oper.wp execOp
  simp only [ho, resolve, invoke, builtin, Sem.run_bind, Sem.run_pure, Result.andThen_ok, List.map_toArray, List.map_cons, List.map_nil, hs, hx, h1]
  exact hK _ _ (h v' W' h2)
/-- At a step of a region that draws. -/
theorem step_appAny (W : World) {ops : Array Oper} {o : Oper} {a : Act} {K : Act → World → Prop} {Q : Exit → Act → World → Prop} {E : Prop} (hgd : o.guard = none) (s x : Operand) (t : TypeId)
    (ho : o.op = .call { callee := .builtin .append, args := #[s, x], argTypes := #[t, t] }) (v u : Value) (R : Value → World → Prop) (hs : a.eval s = v) (hx : a.eval x = u)
    (hr : ∀ ty, ∃ v' W', (Builtin.append_ #[t, t] ty #[v, u]).run Tryz.prog W = .ok v' W' ∧ R v' W')
    (h : ∀ v' W', R v' W' → K (a.put o.dst v') W') :
    if Region.wanted o (yielded ops a.tmps) = true then Oper.wp Tryz.prog o a W K Q else E := by
  have hw : Region.wanted o (yielded ops a.tmps) = true := by simp [Region.wanted, hgd]
  rw [if_pos hw]
  obtain ⟨v', W', h1, h2⟩ := hr o.type
  unfold Oper.wp execOp
  simp only [ho, resolve, invoke, builtin, Sem.run_bind, Sem.run_pure, Result.andThen_ok, List.map_toArray, List.map_cons, List.map_nil, hs, hx, h1]
  exact h v' W' h2
/-- Bytes onto bytes. -/
structure AppB (W : World) (v : Value) (n : Nat) (zs : List Int) (v' : Value) (W' : World) : Prop where
  own : OwnV 0 W' v' n zs
  gr : W.grownBy W' v.ownBlock
  at_ : v'.ownBlock = v.ownBlock ∨ v'.ownBlock = some W.heap.size
theorem app_bytes (W : World) (v : Value) (n : Nat) (xs : List Int) (ao : Option Addr) (m c : Nat) (zs : List Int) (hn : zs.length = m) (hs : n + m ≤ 8000000) (hown : OwnV 0 W v n xs) (hr : Rd W ao zs) (ty : TypeId) :
    ∃ v' W', (Builtin.append_ #[30, 30] ty #[v, .slice ao m c]).run Tryz.prog W = .ok v' W' ∧ AppB W v (n + m) (xs ++ zs) v' W' := by
  obtain ⟨i0, hi, hz0, hz1, hz2⟩ := info_parts Tryz.info5
  obtain ⟨v', W', h1, h2, h3, h4⟩ := run_appAny W 0 30 ty 5 i0 (.int .u8 0) 1 1 Tryz.underlying30 hi hz0 hz1 hz2 rfl (by omega) v n (xs.map (Value.int .u8)) hown ao m c (zs.map (Value.int .u8)) (by simp [hn]) (by
    rcases hr with rfl | ⟨b, off, rfl, hc⟩
    · left; simpa using hn.symm
    · refine .inr ⟨_, rfl, fun j u hj => ?_⟩
      simp only [List.getElem?_map] at hj
      by_cases hjm : j < zs.length
      · have := hc j hjm
        rw [show (⟨b, off, none⟩ : Addr).add j = ⟨b, off + j, none⟩ by simp [Addr.add], this]
        rw [List.getElem?_eq_getElem hjm] at hj
        simpa [List.getElem?_eq_getElem hjm] using hj
      · rw [List.getElem?_eq_none (by omega)] at hj
        simp at hj) (fun u hu => by obtain ⟨z, _, rfl⟩ := List.mem_map.1 hu; rfl) hs (by omega) (Nat.zero_le _)
  exact ⟨v', W', h1, ⟨by unfold OwnV; rw [List.map_append]; exact h2, h3, h4⟩⟩
theorem AppB.room {W W' : World} {v : Value} {a : Option Addr} {n m c : Nat} {zs : List Int} (h : AppB W v n zs (.slice a m c) W') : n ≤ c := by
  rcases h.own.2 with ⟨_, h2⟩ | ⟨g', c', cur, h1, _, _, h2, _⟩
  · omega
  · simp only [Value.slice.injEq] at h1
    omega
theorem AppB.below {W W' : World} {v v' : Value} {n : Nat} {zs : List Int} (h : AppB W v n zs v' W') (hv : v.ownBlock = none) : Below W.heap.size W W' := ⟨h.gr.os, h.gr.tape, h.gr.output, h.gr.size, fun k hk => h.gr.block k hk (by rw [hv]; simp)⟩
end

section
section
variable {P : Program} {ops : Array Oper} {Q : Exit → Act → World → Prop} {md : Region.Mode} {L : Nat}
/-- Behind all others the number L is carried out; then Q. -/
def ThenL (P : Program) (ops : Array Oper) (Q : Exit → Act → World → Prop) (L : Nat) : Exit → Act → World → Prop
  | .normal, a, w => wpOp P ops Q L (fun a' w' => Q .normal a' w') a w
  | e, a, w => Q e a w
/-- Each operation waits, where that binds, for earlier ones alone; each but the number L is waited for by another one, and none waits for L. -/
def lastOne (md : Region.Mode) (ops : Array Oper) (L : Nat) : Bool :=
  decide (L < ops.size) && ((List.range ops.size).all fun i => ((ops[i]?).map fun o => o.after.all fun e => !Region.binds md e || decide (e.on < i)).getD false) && (List.range ops.size).all fun i => i == L || ((List.range ops.size).any (fun j => ((ops[j]?).map fun o => o.after.any fun e => Region.binds md e && e.on == i).getD false) && ((ops[i]?).map fun o => o.after.all fun e => !(e.on == L)).getD false)
theorem last_waits (h : lastOne md ops L = true) {i : Nat} (hi : i < ops.size) (hne : i ≠ L) : (∃ (j : Nat) (o : Oper), ops[j]? = some o ∧ ∃ e ∈ o.after, Region.binds md e = true ∧ e.on = i) ∧ ∀ o, ops[i]? = some o → ∀ e ∈ o.after, e.on ≠ L := by
  unfold lastOne at h
  simp only [Bool.and_eq_true, List.all_eq_true, List.mem_range, Bool.or_eq_true, beq_iff_eq] at h
  have h1 := (h.2 i hi).resolve_left hne
  obtain ⟨h2, h3⟩ := h1
  refine ⟨?_, fun o ho e he => ?_⟩
  · simp only [List.any_eq_true, List.mem_range] at h2
    obtain ⟨j, _, h2⟩ := h2
    cases hL : ops[j]? with
    | none => rw [hL] at h2; simp at h2
    | some o =>
      rw [hL] at h2
      simp only [Option.map_some, Option.getD_some, Array.any_eq_true, Bool.and_eq_true, beq_iff_eq] at h2
      obtain ⟨x, hx, he⟩ := h2
      exact ⟨j, o, hL, _, Array.getElem_mem hx, he.1, he.2⟩
  · rw [ho] at h3
    simp only [Option.map_some, Option.getD_some, Array.all_eq_true_iff_forall_mem] at h3
    have := h3 e he
    simpa using this
/-- What is asked of an operation under 'ThenL' is asked of it under Q. -/
theorem wpOp_thenL {i : Nat} {K : Act → World → Prop} {a : Act} {w : World} (hl : LetsOut (ThenL P ops Q L) → LetsOut Q) (h : wpOp P ops (ThenL P ops Q L) i K a w) : wpOp P ops Q i K a w := by
  unfold wpOp at h ⊢
  split
  · rename_i h0; rw [h0] at h; exact h
  · rename_i o h0
    rw [h0] at h
    dsimp only at h
    split
    · rename_i hw
      rw [if_pos hw] at h
      refine h.imp (fun h1 => ?_) (fun h1 => ⟨h1.1, hl h1.2⟩)
      unfold Oper.wp at h1 ⊢
      generalize (execOp a.eval o).run P w = r at h1 ⊢
      cases r with
      | ok n w' =>
        cases n with
        | enter f args =>
          refine Calls.mono h1 fun e w2 he => ?_
          cases e with
          | returned v => exact he
          | panicked c => exact he
          | outgrown => exact hl he
        | value v => exact h1
        | skip => exact h1
        | defer d => exact h1
        | row r args => exact h1
        | _ => exact h1
      | halt x w' => cases x <;> exact h1
    · rename_i hw
      rw [if_neg hw] at h
      exact h
theorem last_lt (h : lastOne md ops L = true) : L < ops.size := by
  unfold lastOne at h
  simp only [Bool.and_eq_true, decide_eq_true_eq] at h
  exact h.1.1
theorem last_order (h : lastOne md ops L = true) {i : Nat} {o : Oper} (ho : ops[i]? = some o) : ∀ e ∈ o.after, Region.binds md e = true → e.on < i := by
  unfold lastOne at h
  simp only [Bool.and_eq_true, List.all_eq_true, List.mem_range] at h
  have hi : i < ops.size := (Array.getElem?_eq_some_iff.1 ho).1
  have h1 := h.1.2 i hi
  rw [ho] at h1
  simp only [Option.map_some, Option.getD_some, Array.all_eq_true_iff_forall_mem] at h1
  intro e he hb
  have h2 := h1 e he
  rw [hb] at h2
  simpa using h2
theorem getD_both {l : Array Bool} {i : Nat} (hi : i < l.size) : l.getD i true = l.getD i false := by simp [Array.getD, hi]
/-- Where nothing may come up all have come up. -/
theorem all_listed (h : lastOne md ops L = true) {listed : Array Bool} (hs : listed.size = ops.size) (hr : Region.ready md ops listed = []) : ∀ i, i < ops.size → listed.getD i true = true := by
  intro i
  induction i using Nat.strongRecOn with
  | ind i ih =>
    intro hi
    cases hl : listed.getD i true with
    | true => rfl
    | false =>
      have ho : ops[i]? = some ops[i] := Array.getElem?_eq_getElem hi
      have : i ∈ Region.ready md ops listed := mem_ready.2 ⟨hl, _, ho, fun e he hb => by
        have h1 := last_order h ho e he hb
        rw [← getD_both (by omega)]
        exact ih e.on h1 (by omega)⟩
      rw [hr] at this
      cases this
theorem set_getD_ne {l : Array Bool} {i j : Nat} {d : Bool} (h : i ≠ j) : (l.setIfInBounds i true).getD j d = l.getD j d := getD_set_ne d h
theorem set_getD_eq {l : Array Bool} {i : Nat} {d : Bool} (h : i < l.size) : (l.setIfInBounds i true).getD i d = true := by simp [Array.getD, h]
/-- Behind all others the last one comes up. -/
theorem last_comes (h : lastOne md ops L = true) {listed : Array Bool} (hs : listed.size = ops.size) (hL : listed.getD L true = false) (hr : Region.ready md ops (listed.setIfInBounds L true) = []) : ∀ i, i ∈ Region.ready md ops listed ↔ i = L := by
  have hall := all_listed h (listed := listed.setIfInBounds L true) (by simp [hs]) hr
  have hlt := last_lt h
  intro i
  constructor
  · intro hi
    obtain ⟨h1, o, ho, _⟩ := mem_ready.1 hi
    rcases Nat.decEq i L with hne | he
    · have := hall i (Array.getElem?_eq_some_iff.1 ho).1
      rw [set_getD_ne (fun e => hne e.symm), h1] at this
      cases this
    · exact he
  · rintro rfl
    refine mem_ready.2 ⟨hL, _, Array.getElem?_eq_getElem hlt, fun e he hb => ?_⟩
    have h1 := last_order h (Array.getElem?_eq_getElem hlt) e he hb
    have h2 := hall e.on (by omega)
    rw [set_getD_ne (by omega)] at h2
    rw [← getD_both (by omega)]
    exact h2
/-- What has come up has all that it waited for come up. -/
def shutAll (md : Region.Mode) (ops : Array Oper) (listed : Array Bool) : Prop := ∀ (j : Nat) (o : Oper), ops[j]? = some o → listed.getD j true = true → ∀ e ∈ o.after, Region.binds md e = true → listed.getD e.on false = true
theorem shutAll_set {listed : Array Bool} {i : Nat} (_ : listed.size = ops.size) (h : shutAll md ops listed) (hi : i ∈ Region.ready md ops listed) : shutAll md ops (listed.setIfInBounds i true) := fun j o ho hl e he hb => by
  rcases Nat.decEq j i with hne | rfl
  · rw [set_getD_ne (fun e => hne e.symm)] at hl
    exact getD_set_true (h j o ho hl e he hb)
  · obtain ⟨_, o', ho', hall⟩ := mem_ready.1 hi
    rw [ho] at ho'
    simp only [Option.some.injEq] at ho'
    subst ho'
    exact getD_set_true (hall e he hb)
/-- As long as another one has not come up L does not. -/
theorem last_not (h : lastOne md ops L = true) {listed : Array Bool} (hs : listed.size = ops.size) (hc : shutAll md ops listed) : ∀ (d x : Nat), ops.size - x = d → x < ops.size → x ≠ L → listed.getD x true = false → L ∉ Region.ready md ops listed := by
  intro d
  induction d using Nat.strongRecOn with
  | ind d ih =>
    intro x hd hx hxL hun hL
    obtain ⟨j, o, ho, e, he, hb, heq⟩ := (last_waits h hx hxL).1
    have hj := last_order h ho e he hb
    have hjs : j < ops.size := (Array.getElem?_eq_some_iff.1 ho).1
    rcases Nat.decEq j L with hne | rfl
    · have hjun : listed.getD j true = false := by
        cases hl : listed.getD j true with
        | false => rfl
        | true =>
          have h1 := hc j o ho hl e he hb
          rw [heq, ← getD_both (by omega), hun] at h1
          cases h1
      exact ih (ops.size - j) (by omega) j rfl hjs hne hjun hL
    · obtain ⟨_, oL, hoL, lall⟩ := mem_ready.1 hL
      rw [ho] at hoL
      simp only [Option.some.injEq] at hoL
      subst hoL
      have h1 := lall e he hb
      rw [heq, ← getD_both (by omega), hun] at h1
      cases h1
theorem wpAny_thenL (h : lastOne md ops L = true) : ∀ (fuel : Nat) (listed : Array Bool) (a : Act) (w : World), listed.size = ops.size → listed.getD L true = false → shutAll md ops listed →
    wpAny P md ops (ThenL P ops Q L) fuel (listed.setIfInBounds L true) a w → wpAny P md ops Q (fuel + 1) listed a w := by
  have hend : ∀ (fuel : Nat) (listed : Array Bool) (a : Act) (w : World), listed.size = ops.size → listed.getD L true = false → Region.ready md ops (listed.setIfInBounds L true) = [] → ThenL P ops Q L .normal a w → wpAny P md ops Q (fuel + 1) listed a w := by
    intro fuel listed a w hs hL hr hT
    have hc := last_comes h hs hL hr
    refine ⟨fun h0 => ?_, fun i hi => ?_⟩
    · have := (hc L).2 rfl
      rw [h0] at this
      cases this
    · obtain rfl := (hc i).1 hi
      exact wpOp_mono (fun a' w' hq => wpAny_done hr hq fuel) hT
  intro fuel
  induction fuel with
  | zero => intro listed a w hs hL _ H; exact hend 0 listed a w hs hL H.1 H.2
  | succ fuel ih =>
    intro listed a w hs hL hsh H
    rcases Classical.em (Region.ready md ops (listed.setIfInBounds L true) = []) with hr | hr
    · exact hend (fuel + 1) listed a w hs hL hr (H.1 hr)
    · obtain ⟨x, hx⟩ := List.exists_mem_of_ne_nil _ hr
      obtain ⟨x1, ox, hox, xall⟩ := mem_ready.1 hx
      have hxs : x < ops.size := (Array.getElem?_eq_some_iff.1 hox).1
      have hxL : x ≠ L := fun e => by
        subst e
        rw [set_getD_eq (by omega)] at x1
        cases x1
      have hun : listed.getD x true = false := by rw [set_getD_ne (fun e => hxL e.symm)] at x1; exact x1
      have hw := last_waits h hxs hxL
      have hxr : x ∈ Region.ready md ops listed := mem_ready.2 ⟨hun, ox, hox, fun e he hb => by
        have := xall e he hb
        rw [set_getD_ne (fun e2 => hw.2 ox hox e he e2.symm)] at this
        exact this⟩
      refine ⟨fun h0 => (by rw [h0] at hxr; cases hxr), fun i hi => ?_⟩
      have hiL : i ≠ L := fun e => by
        subst e
        exact last_not h hs hsh _ x rfl hxs hxL hun hi
      have h2 := wpOp_thenL (L := L) (fun hl => hl) (H.2 i (ready_mono hi hiL))
      refine wpOp_mono (fun a' w' hk => ih (listed.setIfInBounds i true) a' w' (by simp [hs]) (by rw [set_getD_ne hiL]; exact hL) (shutAll_set hs hsh hi) ?_) h2
      rw [Array.setIfInBounds_comm _ _ hiL]
      exact hk
/-- The beginning: S is shown of the world behind the draw; the last one waits. -/
theorem wp_region_last (S : World → Prop) (L : Nat) {id : Nat} {a : Act} {w : World} (hL : lastOne .any ops L = true) (hm : P.follows .mixedOrders = true) (hS : S w.drew) (n : Nat) (hn : ops.size = n + 1)
    (h : S w.drew → wpAnyH P .any ops (ThenL P ops Q L) S n ((Array.replicate ops.size false).setIfInBounds L true) a w.drew) : (Code.region id ops true).wp P Q a w := by
  refine wp_region_any hm ?_
  have hlt := last_lt hL
  have := wpAny_thenL (Q := Q) (P := P) hL n (Array.replicate ops.size false) a w.drew (by simp) (by simp [Array.getD, hlt]) (fun j o ho hl => by have := (Array.getElem?_eq_some_iff.1 ho).1; simp [Array.getD, this] at hl) (wpAny_of_held _ _ _ _ (h hS))
  rw [← hn] at this
  exact this
/-- The last one. -/
theorem wpOp_last {o : Oper} {a : Act} {w : World} (ho : ops[L]? = some o) (h : ∀ K : Act → World → Prop, Shut (∀ a w, Q .normal a w → K a w) → if Region.wanted o (yielded ops a.tmps) = true then Oper.wp P o a w K Q else K (a.put o.dst undef) w) : ThenL P ops Q L .normal a w :=
  wpOp_step ho (fun K hK => h K hK)
end
end
end Go.Proofs.YtnhbhpbmnlojlaaGreatDoor
