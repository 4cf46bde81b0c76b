/-
  Joined: PathsS, Reach, Links.
-/
import Derived.Test.YtgcmpimckpnemaaA9T
namespace Go.Proofs.Ytgcmpimckpnemaa
section
open Go.RowKit
/-- All blocks but two are as they were. -/
structure Fr2 (w w' : World) (X g : Nat) : Prop where
  os : w'.os = w.os
  tape : w'.tape = w.tape
  output : w'.output = w.output
  size : w.heap.size ≤ w'.heap.size
  block : ∀ k, k < w.heap.size → k ≠ X → k ≠ g → w'.heap[k]? = w.heap[k]?
theorem Fr2.refl (w : World) (X g : Nat) : Fr2 w w X g := ⟨rfl, rfl, rfl, Nat.le_refl _, fun _ _ _ _ => rfl⟩
theorem Fr2.below {w w' : World} (h : Below w.heap.size w w') (X g : Nat) : Fr2 w w' X g := ⟨h.os, h.tape, h.output, h.size, fun k hk _ _ => h.block k hk⟩
theorem Fr2.gr {w w' : World} {g : Nat} (h : w.grownBy w' (some g)) (X : Nat) : Fr2 w w' X g := ⟨h.os, h.tape, h.output, h.size, fun k hk _ hg => h.block k hk (by simpa using hg)⟩
theorem Fr2.cell (w : World) (X i : Nat) (v : Value) (g : Nat) : Fr2 w (w.setCell ⟨X, i, none⟩ v) X g := ⟨rfl, rfl, rfl, by simp [World.setCell], fun k _ hX _ => heap_setCell_other w ⟨X, i, none⟩ k v hX⟩
theorem Fr2.trans {w w1 w2 : World} {X g g1 : Nat} (h : Fr2 w w1 X g) (hg : g1 = g ∨ w.heap.size ≤ g1) (k : Fr2 w1 w2 X g1) : Fr2 w w2 X g :=
  ⟨k.os.trans h.os, k.tape.trans h.tape, k.output.trans h.output, Nat.le_trans h.size k.size, fun i hi hX hG => (k.block i (Nat.lt_of_lt_of_le hi h.size) hX (by omega)).trans (h.block i hi hX hG)⟩
theorem Blk.fr {w w' : World} {b X g : Nat} {t : TypeId} {vs : Array Value} (h : Blk w b t vs) (k : Fr2 w w' X g) (hX : b ≠ X) (hg : b ≠ g) : Blk w' b t vs := (k.block b h.lt hX hg).trans h
theorem Below.fr {B : Nat} {w0 w w' : World} {X g : Nat} (h : Below B w0 w) (k : Fr2 w w' X g) (hB : B ≤ w.heap.size) (hX : B ≤ X) (hg : B ≤ g) : Below B w0 w' :=
  ⟨k.os.trans h.os, k.tape.trans h.tape, k.output.trans h.output, Nat.le_trans h.size k.size, fun i hi => (k.block i (by omega) (by omega) (by omega)).trans (h.block i hi)⟩
theorem InoG.fr {w w' : World} {lo hi X g : Nat} {D : InoD} {v1 v2 v3 : Value} (h : InoG w lo hi D v1 v2 v3) (k : Fr2 w w' X g) (hh : hi ≤ w.heap.size) (hX : X < lo) (hg : g < lo) : InoG w' lo hi D v1 v2 v3 :=
  h.kept fun b h1 h2 => k.block b (by omega) (by omega) (by omega)
theorem cell_block {W W' : World} {b i : Nat} (h : W'.heap[b]? = W.heap[b]?) : W'.cell? ⟨b, i, none⟩ = W.cell? ⟨b, i, none⟩ := by
  unfold World.cell?
  rw [h]
/-- A variable X holds a list of texts, in a row of the call's own. -/
structure PX (B : Nat) (w : World) (X g c : Nat) (L : List ByteArray) : Prop where
  cell : Blk w X 88 #[.slice (some ⟨g, 0, none⟩) L.length c]
  row : w.ownsRow B 9 1 (.slice (some ⟨g, 0, none⟩) L.length c) L.length (L.map Value.string)
theorem PX.ne {B : Nat} {w : World} {X g c : Nat} {L : List ByteArray} (h : PX B w X g c L) : g ≠ X := by
  rintro rfl
  obtain ⟨_, cur, h1⟩ := row_at h.row (g := g) rfl
  have h2 : w.heap[g]? = _ := h.cell
  rw [h1] at h2
  simp at h2
theorem PX.lt {B : Nat} {w : World} {X g c : Nat} {L : List ByteArray} (h : PX B w X g c L) : B ≤ g ∧ g < w.heap.size ∧ X < w.heap.size := ⟨(World.ownsRow.lt h.row g rfl).1, (World.ownsRow.lt h.row g rfl).2, h.cell.lt⟩
theorem PX.keep {B : Nat} {w w' : World} {X g c : Nat} {L : List ByteArray} (h : PX B w X g c L) (hb : Below w.heap.size w w') : PX B w' X g c L := ⟨h.cell.keep hb, row_keep6 h.row hb⟩
/-- One text more. -/
theorem PX.app {B : Nat} {w w' : World} {X g c g' c' : Nat} {L : List ByteArray} {z : ByteArray} (h : PX B w X g c L) (ho : w'.ownsRow B 9 1 (.slice (some ⟨g', 0, none⟩) (L.length + 1) c') (L.length + 1) (L.map Value.string ++ [.string z])) (hg : w.grownBy w' (some g)) (hat : g' = g ∨ g' = w.heap.size) :
    PX B (w'.setCell ⟨X, 0, none⟩ (.slice (some ⟨g', 0, none⟩) (L.length + 1) c')) X g' c' (L ++ [z]) ∧ Fr2 w (w'.setCell ⟨X, 0, none⟩ (.slice (some ⟨g', 0, none⟩) (L.length + 1) c')) X g := by
  have hne := h.ne
  have hl := h.lt
  have hX : g' ≠ X := by omega
  have e : (L ++ [z]).length = L.length + 1 := by simp
  refine ⟨⟨?_, ?_⟩, ?_⟩
  · rw [e]
    exact (h.cell.kept hg (by omega)).set 0 _
  · rw [e]
    have : (L ++ [z]).map Value.string = L.map Value.string ++ [.string z] := by simp
    rw [this]
    exact row_kept ho (gr_setC w' X 0 _) (fun m hm e => by simp [Value.ownBlock] at hm; simp at e; omega)
  · exact (Fr2.gr hg X).trans (.inl rfl) (Fr2.cell w' X 0 _ g)
theorem flat_take {α β : Type} {l : List α} {q : Nat} {x : α} (h : α → List β) (hq : l[q]? = some x) : (l.take (q + 1)).flatMap h = (l.take q).flatMap h ++ h x := by
  rw [List.take_add_one, hq]
  simp
theorem flat_le {α β : Type} {l : List α} {q : Nat} {x : α} (h : α → List β) (hq : l[q]? = some x) : ((l.take q).flatMap h).length + (h x).length ≤ (l.flatMap h).length := by
  have e : l = l.take (q + 1) ++ l.drop (q + 1) := (List.take_append_drop _ _).symm
  conv => rhs; rw [e]
  rw [List.flatMap_append, flat_take h hq]
  simp
def hP (ds : List InoD) (f : Nat) (p : ByteArray) (e : ByteArray × Int) : List ByteArray := sub p e :: pathsF ds f e.2 (sub p e)
theorem pathsF_flat (ds : List InoD) (f : Nat) (x : Int) (p : ByteArray) : pathsF ds (f + 1) x p = (entsAt ds x).flatMap (hP ds f p) := rfl
set_option maxRecDepth 100000 in
set_option maxHeartbeats 4000000 in
theorem l7PathsS (a : Option Addr) (n cap : Nat) (nx : Int) (rs : List InoR) (wb : World) (ht : TR wb a n rs) (f : Nat) : ∀ (x : Int) (p : ByteArray) (w : World) (X g c : Nat) (L : List ByteArray), levL (rs.map InoR.D) f [x] = [] → p.size + f * 1048577 ≤ 100000000 → PX wb.heap.size w X g c L → wb.heap.size ≤ X → Below wb.heap.size wb w → L.length + (pathsF (rs.map InoR.D) f x p).length ≤ 1000000 →
    Calls Try.prog 164 #[.agg #[.slice a n cap, .int .i64 nx], .int .i64 x, .string p, .pointer (some ⟨X, 0, none⟩)] w fun e w' => ∃ g' c', e = .returned (.tuple #[]) ∧ PX wb.heap.size w' X g' c' (L ++ pathsF (rs.map InoR.D) f x p) ∧ Fr2 w w' X g ∧ (g' = g ∨ w.heap.size ≤ g') := by
  induction f with
  | zero => intro x p w X g c L h; simp [levL] at h
  | succ f ih =>
    intro x p w X g c L hlev hps hpx hX hbw hlen
    have B0 : Below w.heap.size w (w.alloc (.cells #[.slice a n cap, .int .i64 nx] 26)) := (Below.refl _ w).alloc (Nat.le_refl _) _
    have z0 := Blk.new w 26 #[.slice a n cap, .int .i64 nx]
    obtain ⟨ds, hds⟩ : ∃ ds, rs.map InoR.D = ds := ⟨_, rfl⟩
    rw [hds] at hlev hlen ih ⊢
    have hev := lev_ent hlev
    rw [pathsF_flat] at hlen ⊢
    have hes : (atD rs x).ents = entsAt ds x := by rw [atD_look, hds]; rfl
    rw [← hes] at hev hlen ⊢
    have hTw := ht.keep hbw
    have hT0 := hTw.keep B0
    have hcA := inodeAtS a n cap nx x rs (w.alloc (.cells #[.slice a n cap, .int .i64 nx] 26)) hT0.len (by have := hT0.n; omega) hT0.small hT0.rd
    have hsm : (atD rs x).ents.length ≤ 1048576 ∧ ∀ q ∈ (atD rs x).ents, q.1.size ≤ 1048576 := by
      rw [atD_look]
      cases hlo : look (rs.map InoR.D) x with
      | none => simp [inoZ]
      | some D =>
        obtain ⟨p, r, _, hrp, rfl, _⟩ := lookD_some hlo
        exact ⟨(ht.small r (List.mem_of_getElem? hrp)).ents, (ht.small r (List.mem_of_getElem? hrp)).entsz⟩
    obtain ⟨RL, hRL⟩ : ∃ R, (atD rs x).ents.flatMap (hP ds f p) = R := ⟨_, rfl⟩
    rw [hRL]
    have HRL : Hid _ := hRL
    clear hRL
    have HIH : Hid _ := ih
    have HEV : Hid _ := hev
    have HTB : Hid _ := ht
    have HBW : Hid _ := hbw
    have HLN : Hid _ := hlen
    have HSM : Hid _ := hsm
    have hpl := hpx.lt
    clear ih hev ht hlev hes hTw hT0 hbw hds hlen hsm
    go_enter Try.func164, Try.ntmps164
    go_wp2_with fail
    obtain ⟨W0, hW0⟩ : ∃ W, w.alloc (.cells #[.slice a n cap, .int .i64 nx] 26) = W := ⟨_, rfl⟩
    rw [hW0] at B0 z0 hcA ⊢
    have hs0 : W0.heap.size = w.heap.size + 1 := by rw [← hW0]; simp
    clear hW0
    (with_reducible refine hcA.mono ?_)
    rintro e w1 ⟨b1, d1, b2, d2, b3, d3, rfl, gA, bA⟩
    clear hcA
    have hs1 := bA.size
    obtain ⟨n2, hn2⟩ : ∃ n2, (atD rs x).ents.length = n2 := ⟨_, rfl⟩
    have zX := Blk.new w1 30 #[.int .i64 (atD rs x).ino, .int .i64 (atD rs x).kind, .int .i64 (atD rs x).links, .slice b1 (atD rs x).data.length d1, .slice b2 n2 d2, .slice b3 (atD rs x).attrs.length d3]
    have bN : Below w1.heap.size w1 (w1.alloc (.cells #[.int .i64 (atD rs x).ino, .int .i64 (atD rs x).kind, .int .i64 (atD rs x).links, .slice b1 (atD rs x).data.length d1, .slice b2 n2 d2, .slice b3 (atD rs x).attrs.length d3] 30)) := (Below.refl _ w1).alloc (Nat.le_refl _) _
    have gN := gA.keep (Nat.le_refl _) bN
    have zT := (z0.keep bA).keep bN
    have hsN : (w1.alloc (.cells #[.int .i64 (atD rs x).ino, .int .i64 (atD rs x).kind, .int .i64 (atD rs x).links, .slice b1 (atD rs x).data.length d1, .slice b2 n2 d2, .slice b3 (atD rs x).attrs.length d3] 30)).heap.size = w1.heap.size + 1 := by simp
    have bWN : Below w.heap.size w (w1.alloc (.cells #[.int .i64 (atD rs x).ino, .int .i64 (atD rs x).kind, .int .i64 (atD rs x).links, .slice b1 (atD rs x).data.length d1, .slice b2 n2 d2, .slice b3 (atD rs x).attrs.length d3] 30)) := (B0.trans (bA.mono B0.size)).trans (bN.mono (by omega))
    rw [hn2]
    go_wp2_with fail
    obtain ⟨W1, hW1⟩ : ∃ W, w1.alloc (.cells #[.int .i64 (atD rs x).ino, .int .i64 (atD rs x).kind, .int .i64 (atD rs x).links, .slice b1 (atD rs x).data.length d1, .slice b2 n2 d2, .slice b3 (atD rs x).attrs.length d3] 30) = W := ⟨_, rfl⟩
    rw [hW1] at zX bN gN zT hsN bWN ⊢
    clear hW1 B0 z0 bA gA bN
    obtain ⟨es, hes⟩ : ∃ es, (atD rs x).ents = es := ⟨_, rfl⟩
    have hgE : ∀ W : World, InoG W W0.heap.size w1.heap.size (atD rs x) (.slice b1 (atD rs x).data.length d1) (.slice b2 (atD rs x).ents.length d2) (.slice b3 (atD rs x).attrs.length d3) → RdP W b2 (eP es) := fun W h => by
      have := h.ents_rd
      rw [hes] at this
      exact this
    have HGE : Hid _ := hgE
    have HGN : Hid _ := gN
    rw [hes] at hn2 HEV HLN HSM HRL
    have HN : Hid _ := hn2
    have hn2b : n2 ≤ 1048576 := by rw [← hn2]; exact HSM.out.1
    obtain ⟨i0, hi, hz0, hz1, hz2⟩ := info_parts Try.info9
    generalize (atD rs x).data.length = n1 at zX
    generalize (atD rs x).attrs.length = n3 at zX
    generalize (atD rs x).ino = i1 at zX
    generalize (atD rs x).kind = i2 at zX
    generalize (atD rs x).links = i3 at zX
    have px1 : PX wb.heap.size W1 X g c (L ++ (es.take 0).flatMap (hP ds f p)) := by
      have := hpx.keep bWN
      simpa using this
    have HZX : Hid _ := zX
    have HZT : Hid _ := zT
    have hbW1 : Hid (Below wb.heap.size wb W1) := HBW.out.trans (bWN.mono (by have := HBW.out.size; omega))
    have hne := hpx.ne
    clear zX zT hn2 hes hgE gN hpx
    go_loopw [10] (fun i wi => ∃ (q gq cq : Nat), q ≤ n2 ∧ i = .int .i64 q ∧ PX wb.heap.size wi X gq cq (L ++ (es.take q).flatMap (hP ds f p)) ∧ Fr2 W1 wi X g ∧ (gq = g ∨ W1.heap.size ≤ gq)) (fun i _ => n2 - (intOf i).toNat)
    case atStart => exact ⟨0, g, c, Nat.zero_le _, rfl, px1, Fr2.refl _ _ _, .inl rfl⟩
    case round =>
      obtain ⟨q, gq, cq, hq, rfl, pxq, frq, hgq⟩ := hrel
      clear px1
      have zXq := Blk.fr HZX.out frq (by omega) (by omega)
      have zTq := Blk.fr HZT.out frq (by omega) (by omega)
      have y4 := zXq.cell 4
      simp at y4
      by_cases hqn : q < n2
      · have hqi : (q : Int) < (n2 : Int) := by omega
        have hql : q < es.length := by rw [HN.out]; exact hqn
        have hqe : es[q]? = some es[q] := List.getElem?_eq_getElem hql
        have hre := HGE.out wr (InoG.fr HGN.out frq (by omega) (by omega) (by omega))
        obtain ⟨eb, eo, rfl, helt, hec⟩ := hre.lt (by intro h; have := congrArg List.length h; rw [eP_length] at this; simp at this; rw [this] at hql; simp at hql)
        have hx := hec q (by rw [eP_length]; exact hql)
        rw [eP_at es q hql] at hx
        have hev := HEV.out es[q] (List.getElem_mem hql)
        have hszq := HSM.out.2 es[q] (List.getElem_mem hql)
        have hft := flat_take (hP ds f p) hqe
        have hfl := flat_le (hP ds f p) hqe
        obtain ⟨nm, u, hnu⟩ : ∃ nm u, es[q] = (nm, u) := ⟨_, _, rfl⟩
        rw [hnu] at hx hev hszq hft hfl
        obtain ⟨x1, x2⟩ := hx
        dsimp only at x1 x2 hev hszq
        obtain ⟨z, hz⟩ : ∃ z, sub p (nm, u) = z := ⟨_, rfl⟩
        have hzs : z.size = p.size + 1 + nm.size := by rw [← hz]; unfold sub; simp [ByteArray.size_append]; rfl
        have hhP : hP ds f p (nm, u) = z :: pathsF ds f u z := by unfold hP; rw [hz]
        rw [hhP] at hft hfl
        have hz' : p ++ (⟨#[47]⟩ : ByteArray) ++ nm = z := hz
        obtain ⟨Lq, hLq⟩ : ∃ Lq, L ++ (es.take q).flatMap (hP ds f p) = Lq := ⟨_, rfl⟩
        have hLl : Lq.length + (1 + (pathsF ds f u z).length) ≤ 1000000 := by
          have h1 := HLN.out
          rw [← hLq, List.length_append]
          simp only [List.length_cons] at hfl
          omega
        have hLn : Hid (L ++ (es.take (q + 1)).flatMap (hP ds f p) = (Lq ++ [z]) ++ pathsF ds f u z) := by
          show _ = _
          rw [hft, ← hLq]
          simp
        rw [hLq] at pxq
        have hX0 := pxq.cell.cell 0
        have hXf := pxq.cell.frozen 0
        simp at hX0
        have hpq := pxq.lt
        have hl1 : ¬ 9223372036854775807 < p.size + 1 := by omega
        have hl2 : ¬ 9223372036854775807 < p.size + 1 + nm.size := by omega
        have HLL : Hid _ := hLl
        have HLQ : Hid _ := hLq
        have HLE : Hid _ := hev
        have HHZ : Hid _ := hzs
        have hlq2 : Lq.length ≤ 8000000 := by omega
        obtain ⟨lq, hlq⟩ : ∃ lq, Lq.length = lq := ⟨_, rfl⟩
        have PXQ : Hid _ := pxq
        have hrow := pxq.row
        rw [hlq] at hX0 hlq2 hrow
        have HLQL : Hid _ := hlq
        have FRQ : Hid _ := frq
        have hne2 := pxq.ne
        clear hec hqe hft hfl hnu hhP hLq hLl hev hzs pxq hz hre hlq frq
        have helo : W0.heap.size ≤ eb ∧ eb < w1.heap.size := by
          have h1 := (InoG.fr HGN.out FRQ.out (by omega) (by omega) (by omega) : InoG wr _ _ _ _ _ _).within eb (.inr (.inl rfl))
          exact h1
        go_wp2_with (at_builtin; refine wpList_app1 (wr.alloc (.cells #[.string z] 9)) rfl (.tmp 37) (.tmp 39) 88 9 rfl Try.underlying88 i0 (.string ⟨#[]⟩) 16 hi hz0 hz1 hz2 rfl (by omega) wb.heap.size gq lq cq (Lq.map Value.string) rfl (World.ownsRow.alloc hrow _) wr.heap.size (.string z) rfl (Blk.new wr 9 #[.string z] |>.cell 0) rfl (by omega) (by have := hbW1.out.size; have := FRQ.out.size; simp; omega) (wr.heap.size + 1) (by simp) ?_; intro g2 c2 W2 o2 hg2 hat2; have zc2 := ((PXQ.out.cell).alloc (.cells #[.string z] 9)).kept hg2 (Ne.symm hne2); have hX2 := zc2.cell 0; have hXf2 := zc2.frozen 0; simp at hX2)
        have hP3 := PX.app (z := z) (PXQ.out.keep ((Below.refl _ wr).alloc (Nat.le_refl _) (.cells #[.string z] 9))) (by rw [HLQL.out]; exact o2) hg2 (by simpa using hat2)
        rw [HLQL.out] at hP3
        obtain ⟨px3, fr3⟩ := hP3
        have fr4 := (Fr2.below ((Below.refl _ wr).alloc (Nat.le_refl _) (.cells #[.string z] 9)) X gq).trans (.inl rfl) fr3
        have hg2w : g2 = gq ∨ wr.heap.size ≤ g2 := by rcases hat2 with h | h <;> omega
        clear hX0 hXf y4 x1 zc2 hX2 hXf2 o2 hg2 hrow hi hz0 hz1 hz2 fr3 hat2 hz'
        obtain ⟨W3, hW3⟩ : ∃ W, W2.setCell ⟨X, 0, none⟩ (.slice (some ⟨g2, 0, none⟩) (lq + 1) c2) = W := ⟨_, rfl⟩
        rw [hW3] at px3 fr4 ⊢
        clear hW3
        have hwq := FRQ.out.size
        have h34 := fr4.size
        have HK : Hid (∀ W : World, Fr2 W3 W X g2 → W.cell? ⟨w.heap.size, 0, none⟩ = some (.slice a n cap) ∧ W.cell? ⟨w.heap.size, 1, none⟩ = some (.int .i64 nx) ∧ W.cell? ⟨w1.heap.size, 4, none⟩ = some (.slice (some ⟨eb, eo, none⟩) n2 d2) ∧ W.cell? ⟨eb, eo + q * 2 + 1, none⟩ = some (.int .i64 u)) := fun W hW => by
          have hf := fr4.trans hg2w hW
          have q1 := zTq.fr hf (by omega) (by omega)
          have q2 := zXq.fr hf (by omega) (by omega)
          refine ⟨q1.cell 0, q1.cell 1, q2.cell 4, ?_⟩
          have := hf.block eb (by omega) (by omega) (by omega)
          rw [← x2]
          exact cell_block this
        have hbW3 : Below wb.heap.size wb W3 := by
          have h1 := Below.fr hbW1.out FRQ.out hbW1.out.size hX (by omega)
          exact Below.fr h1 fr4 h1.size hX (by omega)
        have hcP := HIH.out u z W3.drew X g2 c2 (Lq ++ [z]) HLE.out (by have := HHZ.out; omega) ⟨px3.cell, px3.row⟩ hX hbW3.drew (by have := HLL.out; rw [List.length_append]; simp only [List.length_cons, List.length_nil]; omega)
        obtain ⟨k0, k1, k2, k3⟩ := HK.out W3 (Fr2.refl _ _ _)
        clear px3 x2
        go_region_held3 (fun W : World => W.cell? ⟨w.heap.size, 0, none⟩ = some (.slice a n cap) ∧ W.cell? ⟨w.heap.size, 1, none⟩ = some (.int .i64 nx) ∧ W.cell? ⟨w1.heap.size, 4, none⟩ = some (.slice (some ⟨eb, eo, none⟩) n2 d2) ∧ W.cell? ⟨eb, eo + q * 2 + 1, none⟩ = some (.int .i64 u)) (go_keep) ((go_at_call 164; (with_reducible refine hcP.mono ?_); rintro e w4 ⟨g5, c5, rfl, px5, fr5, hg5⟩; obtain ⟨p0, p1, p2, p3⟩ := HK.out w4 ⟨fr5.os, fr5.tape, fr5.output, fr5.size, fr5.block⟩))
        have fr6 : Fr2 W3 w4 X g2 := ⟨fr5.os, fr5.tape, fr5.output, fr5.size, fr5.block⟩
        have hg5' : g5 = g2 ∨ W3.heap.size ≤ g5 := hg5
        have hfin : Hid (PX wb.heap.size w4 X g5 c5 (L ++ (es.take (q + 1)).flatMap (hP ds f p)) ∧ Fr2 W1 w4 X g ∧ (g5 = g ∨ W1.heap.size ≤ g5)) := ⟨by rw [hLn.out]; exact px5, FRQ.out.trans hgq (fr4.trans hg2w fr6), by omega⟩
        clear px5 fr5 hcP k0 k1 k2 k3 p0 p1 p2 p3 fr6 fr4 hg5
        go_wp2
        go_roundw
        all_goals first
          | (case rel => (repeat apply Exists.intro); exact ⟨⟨q + 1, g5, c5, by omega, by go_num, hfin.out⟩, rfl⟩)
          | (case rel => exact ⟨q + 1, g5, c5, by omega, by go_num, hfin.out⟩)
          | (case measure => simp [intOf]; omega)
          | fail
      · have hqi : ¬ (q : Int) < (n2 : Int) := by omega
        have hke : es.take q = es := List.take_of_length_le (by rw [HN.out]; omega)
        rw [hke, HRL.out] at pxq
        have HD : Hid (∃ g' c', PX wb.heap.size wr X g' c' (L ++ RL) ∧ Fr2 w wr X g ∧ (g' = g ∨ w.heap.size ≤ g')) := ⟨gq, cq, pxq, (Fr2.below bWN X g).trans (.inl rfl) frq, by have := bWN.size; omega⟩
        clear pxq frq hke
        go_wp2
        go_end0
        obtain ⟨g', c', h1, h2, h3⟩ := HD.out
        first | exact ⟨g', c', rfl, h1, h2, h3⟩ | exact ⟨rfl, g', c', h1, h2, h3⟩ | exact ⟨rfl, g', ⟨c', h1⟩, h2, h3⟩
end

section
open Go.RowKit
set_option maxRecDepth 100000 in
set_option maxHeartbeats 4000000 in
theorem reachedS (a : Option Addr) (n cap : Nat) (nx : Int) (rs : List InoR) (w : World) (ht : TR w a n rs) :
    Calls Try.prog 20 #[.agg #[.slice a n cap, .int .i64 nx]] w fun e w' => ∃ a' c', e = .returned (.slice a' (reachD (rs.map InoR.D)).length c') ∧ RdV w' a' (iV (reachD (rs.map InoR.D))) ∧ Below w.heap.size w w' := by
  have B0 : Below w.heap.size w ((w.alloc (.cells #[.slice a n cap, .int .i64 nx] 26)).alloc (.cells #[] 3)) := ((Below.refl _ w).alloc (Nat.le_refl _) _).alloc (by simp) _
  have z0 := (Blk.new w 26 #[.slice a n cap, .int .i64 nx]).alloc (.cells #[] 3)
  have oE := empty_row (w.alloc (.cells #[.slice a n cap, .int .i64 nx] 26)) w.heap.size 3 1 (by simp)
  simp only [World.size_alloc] at oE
  obtain ⟨ds, hds⟩ : ∃ ds, rs.map InoR.D = ds := ⟨_, rfl⟩
  rw [hds]
  have HDS : Hid _ := hds
  have hdn : Hid (ds.length = n) := by show _ = _; rw [← hds, List.length_map, ht.len]
  have hn1 := ht.n
  have HT0 := ht.keep B0
  have HTW : Hid _ := ht
  obtain ⟨R, hR⟩ : ∃ R, reachD ds = R := ⟨_, rfl⟩
  rw [hR]
  have HR : Hid (reachD ds = R) := hR
  clear ht hds hR
  go_enter Try.func20, Try.ntmps20
  go_wp2_with fail
  obtain ⟨W0, hW0⟩ : ∃ W, (w.alloc (.cells #[.slice a n cap, .int .i64 nx] 26)).alloc (.cells #[] 3) = W := ⟨_, rfl⟩
  rw [hW0] at B0 z0 HT0 oE ⊢
  clear hW0
  have hcL := l4At_any a n cap nx 1 rs W0 HT0.len (by omega) HT0.rd
  cases hl : (look ds 1).isSome with
  | false =>
    have hl' : look ds 1 = none := by simpa using hl
    rw [atN_none (by rw [HDS.out]; exact hl')] at hcL
    have hRn : R = [] := by
      have := HR.out
      unfold reachD at this
      rw [hl] at this
      exact this.symm
    subst hRn
    have HB0 : Hid _ := B0
    clear HT0 z0 hl hl' B0 oE
    (with_reducible refine hcL.mono ?_)
    rintro e w1 ⟨rfl, b1⟩
    clear hcL
    have HD : Hid (RdV w1 (some ⟨w.heap.size + 1, 0, none⟩) (iV []) ∧ Below w.heap.size w w1) := ⟨.inl rfl, HB0.out.trans (b1.mono HB0.out.size)⟩
    go_wp2
    go_ret
    first | exact ⟨_, _, rfl, HD.out⟩ | exact ⟨_, ⟨_, rfl⟩, HD.out⟩
  | true =>
    obtain ⟨D, hD⟩ := Option.isSome_iff_exists.1 hl
    obtain ⟨pp, _, hf, _, _, hpl⟩ := lookD_some (rs := rs) (by rw [HDS.out]; exact hD)
    have hN : atN rs 1 = (pp : Int) := by unfold atN; rw [hf]
    rw [hN] at hcL
    have hge : ¬ (pp : Int) < 0 := by omega
    have hRn : Hid (reachN ds n = R) := by
      have := HR.out
      unfold reachD at this
      rw [hl, hdn.out] at this
      exact this
    have HI : Hid (∀ k, InTab ds (reachN ds k)) := fun k => InTab.reach hl k
    obtain ⟨i0, hi, hz0, hz1, hz2⟩ := info_parts Try.info3
    have HT : Hid _ := HT0
    have HZ : Hid _ := z0
    have HB0 : Hid _ := B0
    clear HT0 z0 B0 hl hD hf hN hpl HR
    (with_reducible refine hcL.mono ?_)
    rintro e w1 ⟨rfl, b1⟩
    clear hcL
    have hB1 : Below w.heap.size w w1 := HB0.out.trans (b1.mono HB0.out.size)
    have oE1 := row_keep6 oE b1
    go_wp2_with (at_builtin; refine wpList_app1 (w1.alloc (.cells #[.int .i64 1] 3)) rfl (.tmp 10) (.tmp 11) 46 3 rfl Try.underlying46 i0 (.int .i64 0) 8 hi hz0 hz1 hz2 rfl (by omega) w.heap.size (w.heap.size + 1) 0 0 [] rfl (World.ownsRow.alloc oE1 _) w1.heap.size (.int .i64 1) rfl (Blk.new w1 3 #[.int .i64 1] |>.cell 0) rfl (by omega) (by have := hB1.size; simp; omega) (w1.heap.size + 1) (by simp) ?_; intro g2 c2 W2 o2 hg2 hat2)
    have hb2 : Below w.heap.size w W2 := by
      have h2 := hB1.alloc hB1.size (.cells #[.int .i64 1] 3)
      exact h2.grown hg2 h2.size (fun m hm => by simp at hm; omega)
    have zW2 : Blk W2 w.heap.size 26 #[.slice a n cap, .int .i64 nx] := ((Blk.keep HZ.out b1).alloc _).kept hg2 (by omega)
    have l2 : RdV W2 (some ⟨g2, 0, none⟩) (iV (reachN ds 0)) := rowV_rd o2
    clear o2 hg2 hat2 oE1 oE b1 hB1 hi hz0 hz1 hz2 HT HZ
    go_loopw [3, 4] (fun l i wr => ∃ (k : Nat) (la : Option Addr) (ln lc : Nat), k ≤ n ∧ i = .int .i64 k ∧ l = .slice la ln lc ∧ (reachN ds k).length = ln ∧ RdV wr la (iV (reachN ds k)) ∧ Blk wr w.heap.size 26 #[.slice a n cap, .int .i64 nx] ∧ Below w.heap.size w wr) (fun _ i _ => n - (intOf i).toNat)
    case atStart => exact ⟨0, some ⟨g2, 0, none⟩, 1, c2, Nat.zero_le _, rfl, rfl, rfl, l2, zW2, hb2⟩
    case round =>
      obtain ⟨k, la, ln, lc, hk, rfl, rfl, hln, hrl, hz, hB⟩ := hrel
      clear l2 zW2 hb2
      have t0 := hz.cell 0
      have t1 := hz.cell 1
      simp at t0 t1
      by_cases hkn : k < n
      · have hki : (k : Int) < (n : Int) := by omega
        have hcN := l7NextS a n cap nx rs la ln lc (reachN ds k) wr (HTW.out.keep hB) hln hrl (by rw [HDS.out]; exact HI.out k)
        rw [HDS.out] at hcN
        have hZ : Hid _ := hz
        clear hz hrl
        go_wp2_with fail
        (with_reducible refine hcN.mono ?_)
        rintro e w2 ⟨a', c', rfl, hr2, b2⟩
        clear hcN t0 t1
        go_wp2
        go_roundw
        case rel => exact ⟨k + 1, a', _, c', by omega, by go_num, rfl, rfl, hr2, Blk.keep hZ.out b2, hB.trans (b2.mono hB.size)⟩
        case measure => simp [intOf]; omega
      · have hki : ¬ (k : Int) < (n : Int) := by omega
        have hkn' : k = n := by omega
        have hRk : reachN ds k = R := by rw [hkn']; exact hRn.out
        rw [hRk] at hrl hln
        subst hln
        have HD : Hid (RdV wr la (iV R) ∧ Below w.heap.size w wr) := ⟨hrl, hB⟩
        clear hrl hB hz hRk hkn'
        go_wp2
        go_ret
        first | exact ⟨_, _, rfl, HD.out⟩ | exact ⟨_, ⟨_, rfl⟩, HD.out⟩
end

section
open Go.RowKit
theorem linksIn_le (D : InoD) (x : Int) : linksIn D x ≤ D.ents.length := by
  unfold linksIn
  split
  · exact List.length_filter_le _ _
  · omega
def cntE (es : List (ByteArray × Int)) (x : Int) : Nat := (es.filter fun e => e.2 == x).length
theorem cntE_snoc (es : List (ByteArray × Int)) (x : Int) (k : Nat) (q : ByteArray × Int) (h : es[k]? = some q) : cntE (es.take (k + 1)) x = cntE (es.take k) x + (if q.2 = x then 1 else 0) := by
  unfold cntE
  rw [List.take_add_one, h, List.filter_append, List.length_append]
  by_cases hq : q.2 = x
  · simp [hq]
  · have : (q.2 == x) = false := by simpa using hq
    simp [this, hq]
theorem linksD_snoc (ds : List InoD) (x : Int) (k : Nat) (D : InoD) (h : ds[k]? = some D) : linksD (ds.take (k + 1)) x = linksD (ds.take k) x + linksIn D x := by
  unfold linksD
  rw [List.take_add_one, h]
  simp
set_option maxRecDepth 100000 in
set_option maxHeartbeats 4000000 in
theorem linksS (a : Option Addr) (n cap : Nat) (nx x : Int) (rs : List InoR) (w : World) (ht : TR w a n rs) :
    Calls Try.prog 16 #[.agg #[.slice a n cap, .int .i64 nx], .int .i64 x] w fun e w' => e = .returned (.int .i64 (linksD (rs.map InoR.D) x : Nat)) ∧ Below w.heap.size w w' := by
  have B0 : Below w.heap.size w (w.alloc (.cells #[.slice a n cap, .int .i64 nx] 26)) := (Below.refl _ w).alloc (Nat.le_refl _) _
  have z0 := Blk.new w 26 #[.slice a n cap, .int .i64 nx]
  have ht0 := ht.keep B0
  have HB : Hid _ := B0
  have HT : Hid _ := ht0
  have hln : Hid (rs.length = n) := ht.len
  have hn1 := ht.n
  obtain ⟨R, hR⟩ : ∃ R, linksD (rs.map InoR.D) x = R := ⟨_, rfl⟩
  rw [hR]
  have HR : Hid _ := hR
  clear ht ht0 hR B0
  go_enter Try.func16, Try.ntmps16
  go_wp2
  obtain ⟨W0, hW0⟩ : ∃ W, w.alloc (.cells #[.slice a n cap, .int .i64 nx] 26) = W := ⟨_, rfl⟩
  rw [hW0] at z0 HB HT ⊢
  have t0 := z0.cell 0
  simp at t0
  clear hW0 z0
  go_loop [5, 6] (fun c i => ∃ k m : Nat, k ≤ n ∧ i = .int .i64 k ∧ c = .int .i64 m ∧ m ≤ k * 1048576 ∧ Hid (linksD ((rs.map InoR.D).take k) x = m)) (fun _ i => n - (intOf i).toNat)
  case atStart => exact ⟨0, 0, Nat.zero_le _, rfl, rfl, Nat.zero_le _, rfl⟩
  case round =>
    obtain ⟨k, m, hk, rfl, rfl, hm, hlk⟩ := hrel
    by_cases hkn : k < n
    · have hki : (k : Int) < (n : Int) := by omega
      have hk0 : (0 : Int) ≤ (k : Int) := by omega
      obtain ⟨r, hrk⟩ : ∃ r, rs[k]? = some r := ⟨_, List.getElem?_eq_getElem (by rw [hln.out]; exact hkn)⟩
      obtain ⟨b, off, rfl, hlt, hc⟩ := RdI.lt HT.out.rd (by intro h; rw [h] at hrk; simp at hrk)
      obtain ⟨x6, xr⟩ := hc k r hrk
      have hsm := HT.out.small r (List.mem_of_getElem? hrk)
      have hes := hsm.ents
      have hnx : Hid (∀ q : Nat, q = linksIn r.D x → linksD ((rs.map InoR.D).take (k + 1)) x = m + q) := by
        intro q hq
        rw [linksD_snoc _ _ _ r.D (by simp [hrk]), hlk.out, hq]
      have hle := linksIn_le r.D x
      obtain ⟨es, hes'⟩ : ∃ es, r.D.ents = es := ⟨_, rfl⟩
      have hre : RdP W0 r.a2 (eP es) := by rw [← hes']; exact xr.ents
      have y1 := x6.c1
      have y4 := x6.c4
      rw [hes'] at y4 hes hle
      have hli : Hid (linksIn r.D x = if r.D.kind = 2 then cntE es x else 0) := by show _ = _; unfold linksIn cntE; rw [hes']
      obtain ⟨n2, hn2⟩ : ∃ n2, es.length = n2 := ⟨_, rfl⟩
      rw [hn2] at y4 hes hle
      have HN : Hid _ := hn2
      have HE : Hid _ := hre
      generalize r.D.kind = i2 at y1 hli
      clear hc x6 xr hsm hrk hlk hes' hn2 hre
      by_cases hk2 : i2 = 2
      · subst hk2
        have hlq : Hid (linksIn r.D x = cntE es x) := by show _ = _; rw [hli.out, if_pos rfl]
        go_wp2
        go_loop [5, 7] (fun c j => ∃ p q : Nat, p ≤ n2 ∧ j = .int .i64 p ∧ c = .int .i64 ((m + q : Nat) : Int) ∧ q ≤ p ∧ Hid (cntE (es.take p) x = q)) (fun _ j => n2 - (intOf j).toNat)
        case atStart => exact ⟨0, 0, Nat.zero_le _, rfl, rfl, Nat.zero_le _, rfl⟩
        case round =>
          obtain ⟨p, q, hp, rfl, rfl, hq, hcq⟩ := hrel
          by_cases hpn : p < n2
          · have hpi : (p : Int) < (n2 : Int) := by omega
            have hp0 : (0 : Int) ≤ (p : Int) := by omega
            have hpl : p < es.length := by rw [HN.out]; exact hpn
            obtain ⟨eb, eo, hea, helt, hec⟩ := RdP.lt HE.out (by intro h; have := congrArg List.length h; rw [eP_length] at this; simp at this; rw [this] at hpl; simp at hpl)
            have hx := hec p (by rw [eP_length]; exact hpl)
            rw [eP_at es p hpl] at hx
            obtain ⟨zn, hz⟩ : ∃ z, es[p].1 = z := ⟨_, rfl⟩
            obtain ⟨u, hu⟩ : ∃ u, es[p].2 = u := ⟨_, rfl⟩
            have hsn := cntE_snoc es x p es[p] (List.getElem?_eq_getElem hpl)
            rw [hz, hu] at hx
            rw [hu, hcq.out] at hsn
            obtain ⟨x1, x2⟩ := hx
            dsimp only at x1 x2
            rw [hea] at y4
            clear hec hz hu hcq
            by_cases hux : u = x
            · have hub : (u == x) = true := by simp [hux]
              have hs1 : Hid (cntE (es.take (p + 1)) x = q + 1) := by show _ = _; rw [hsn, if_pos hux]
              subst hux
              clear hsn
              go_wp2
              go_round
              case rel => exact ⟨p + 1, q + 1, by omega, by go_num, by go_num, by omega, hs1⟩
              case measure => simp [intOf]; omega
            · have hub : (u == x) = false := by simpa using hux
              have hs1 : Hid (cntE (es.take (p + 1)) x = q) := by show _ = _; rw [hsn, if_neg hux]; rfl
              clear hsn
              go_wp2
              go_round
              case rel => exact ⟨p + 1, q, by omega, by go_num, by go_num, by omega, hs1⟩
              case measure => simp [intOf]; omega
          · have hpi : ¬ (p : Int) < (n2 : Int) := by omega
            have hfin : Hid (linksD ((rs.map InoR.D).take (k + 1)) x = m + q) := by
              refine hnx.out q ?_
              rw [hlq.out, ← hcq.out, List.take_of_length_le (by rw [HN.out]; omega)]
            go_wp2
            go_round
            case rel => exact ⟨k + 1, m + q, by omega, by go_num, by go_num, by omega, hfin⟩
            case measure => simp [intOf]; omega
      · have hkb : (i2 == 2) = false := by simpa using hk2
        have hfin : Hid (linksD ((rs.map InoR.D).take (k + 1)) x = m) := by
          have := hnx.out 0 (by rw [hli.out, if_neg hk2])
          show _ = _
          simpa using this
        go_wp2
        refine wp_loop_rounds 1 ?_; rw [rounds_succ]
        by_cases h0 : (0 : Int) < (n2 : Int)
        · go_wp2
          go_round
          case rel => exact ⟨k + 1, m, by omega, by go_num, rfl, Nat.le_trans hm (Nat.mul_le_mul_right _ (Nat.le_succ k)), hfin⟩
          case measure => simp [intOf]; omega
        · go_wp2
          go_round
          case rel => exact ⟨k + 1, m, by omega, by go_num, rfl, Nat.le_trans hm (Nat.mul_le_mul_right _ (Nat.le_succ k)), hfin⟩
          case measure => simp [intOf]; omega
    · have hki : ¬ (k : Int) < (n : Int) := by omega
      have hend : Hid ((m : Int) = (R : Int)) := by
        have h1 := hlk.out
        rw [List.take_of_length_le (by rw [List.length_map, hln.out]; omega), HR.out] at h1
        show _ = _
        rw [h1]
      go_wp2
      go_ret
      exact ⟨ret_int hend.out, HB.out⟩
end
end Go.Proofs.Ytgcmpimckpnemaa
