/-
  Joined: TabM, ToTab, MarkGI, Fresh, CopyS, ByNum, AtS.
-/
import Derived.Test.YtgcmpimckpnemaaA2T
import Derived.Deep.AppendSrc
import Derived.Maps.OwnSet
import Derived.Maps.OwnOps
namespace Go.Proofs.Ytgcmpimckpnemaa
section
open Go.RowKit
/-- An inode, and where its lists lie. -/
structure InoR where
  D : InoD
  a1 : Option Addr
  c1 : Nat
  a2 : Option Addr
  c2 : Nat
  a3 : Option Addr
  c3 : Nat
def InoR.v (r : InoR) : Value := inoV r.D r.a1 r.c1 r.a2 r.c2 r.a3 r.c3
def InoR.rd (w : World) (r : InoR) : Prop := InoRd w r.D r.a1 r.a2 r.a3
theorem InoR.rd.keep {w w' : World} {r : InoR} (h : r.rd w) (hb : Below w.heap.size w w') : r.rd w' := InoRd.keep h hb
/-- The six cells of an inode. -/
def InoR.six (r : InoR) : List Value := [.int .i64 r.D.ino, .int .i64 r.D.kind, .int .i64 r.D.links, .slice r.a1 r.D.data.length r.c1, .slice r.a2 r.D.ents.length r.c2, .slice r.a3 r.D.attrs.length r.c3]
/-- The cells of a list of inodes. -/
def iv (rs : List InoR) : List Value := rs.flatMap InoR.six
theorem iv_cons (r : InoR) (rs : List InoR) : iv (r :: rs) = r.six ++ iv rs := rfl
theorem iv_append (rs ts : List InoR) : iv (rs ++ ts) = iv rs ++ iv ts := by simp [iv]
theorem six_length (r : InoR) : r.six.length = 6 := rfl
theorem iv_length (rs : List InoR) : (iv rs).length = rs.length * 6 := by
  induction rs with
  | nil => rfl
  | cons r rs ih => rw [iv_cons, List.length_append, ih, six_length, List.length_cons]; omega
theorem iv_at (rs : List InoR) (i j : Nat) (r : InoR) (h : rs[i]? = some r) (hj : j < 6) : (iv rs)[i * 6 + j]? = r.six[j]? := by
  induction rs generalizing i with
  | nil => simp at h
  | cons q rs ih =>
    rw [iv_cons]
    cases i with
    | zero =>
      simp at h
      subst h
      rw [List.getElem?_append_left (by rw [six_length]; omega), Nat.zero_mul, Nat.zero_add]
    | succ i =>
      rw [List.getElem?_append_right (by rw [six_length]; omega), six_length, show (i + 1) * 6 + j - 6 = i * 6 + j by omega]
      exact ih i (by simpa using h)
theorem iv_set (rs : List InoR) (i : Nat) (r : InoR) (h : i < rs.length) : ((((((iv rs).set (i * 6) (.int .i64 r.D.ino)).set (i * 6 + 1) (.int .i64 r.D.kind)).set (i * 6 + 2) (.int .i64 r.D.links)).set (i * 6 + 3) (.slice r.a1 r.D.data.length r.c1)).set (i * 6 + 4) (.slice r.a2 r.D.ents.length r.c2)).set (i * 6 + 5) (.slice r.a3 r.D.attrs.length r.c3) = iv (rs.set i r) := by
  induction rs generalizing i with
  | nil => simp at h
  | cons q rs ih =>
    cases i with
    | zero => simp [iv_cons, InoR.six]
    | succ i =>
      have hl := six_length q
      have e : ∀ (l : List Value) (m : Nat) (x : Value), (q.six ++ l).set ((i + 1) * 6 + m) x = q.six ++ l.set (i * 6 + m) x := fun l m x => by
        rw [List.set_append_right _ _ (by rw [hl]; omega), hl, show (i + 1) * 6 + m - 6 = i * 6 + m by omega]
      have e0 : ∀ (l : List Value) (x : Value), (q.six ++ l).set ((i + 1) * 6) x = q.six ++ l.set (i * 6) x := fun l x => e l 0 x
      rw [iv_cons, e0, e, e, e, e, e, List.set_cons_succ, iv_cons, ih i (by simpa using h)]
/-- The six cells from an address on. -/
structure SixA (w : World) (b off : Nat) (r : InoR) : Prop where
  c0 : w.cell? ⟨b, off, none⟩ = some (.int .i64 r.D.ino)
  c1 : w.cell? ⟨b, off + 1, none⟩ = some (.int .i64 r.D.kind)
  c2 : w.cell? ⟨b, off + 2, none⟩ = some (.int .i64 r.D.links)
  c3 : w.cell? ⟨b, off + 3, none⟩ = some (.slice r.a1 r.D.data.length r.c1)
  c4 : w.cell? ⟨b, off + 4, none⟩ = some (.slice r.a2 r.D.ents.length r.c2)
  c5 : w.cell? ⟨b, off + 5, none⟩ = some (.slice r.a3 r.D.attrs.length r.c3)
theorem SixA.keep {w w' : World} {b off B : Nat} {r : InoR} (h : SixA w b off r) (hb : Below B w w') (hlt : b < B) : SixA w' b off r :=
  ⟨(hb.cell hlt).trans h.c0, (hb.cell hlt).trans h.c1, (hb.cell hlt).trans h.c2, (hb.cell hlt).trans h.c3, (hb.cell hlt).trans h.c4, (hb.cell hlt).trans h.c5⟩
theorem SixA.lt {w : World} {b off : Nat} {r : InoR} (h : SixA w b off r) : b < w.heap.size := World.block_lt_of_cell? w _ h.c0
/-- The inodes rs can be read from the address a on. -/
def RdI (w : World) (a : Option Addr) (rs : List InoR) : Prop :=
  rs = [] ∨ ∃ b off, a = some ⟨b, off, none⟩ ∧ ∀ i r, rs[i]? = some r → SixA w b (off + i * 6) r ∧ r.rd w
theorem RdI.lt {w : World} {a : Option Addr} {rs : List InoR} (h : RdI w a rs) (hz : rs ≠ []) : ∃ b off, a = some ⟨b, off, none⟩ ∧ b < w.heap.size ∧ ∀ i r, rs[i]? = some r → SixA w b (off + i * 6) r ∧ r.rd w := by
  rcases h with h | ⟨b, off, rfl, hc⟩
  · exact absurd h hz
  · obtain ⟨r, l, rfl⟩ := List.exists_cons_of_ne_nil hz
    exact ⟨b, off, rfl, (hc 0 r rfl).1.lt, hc⟩
theorem RdI.keep {w w' : World} {a : Option Addr} {rs : List InoR} (h : RdI w a rs) (hb : Below w.heap.size w w') : RdI w' a rs := by
  by_cases hz : rs = []
  · exact .inl hz
  · obtain ⟨b, off, rfl, hlt, hc⟩ := h.lt hz
    exact .inr ⟨b, off, rfl, fun i r hi => ⟨(hc i r hi).1.keep hb hlt, (hc i r hi).2.keep hb⟩⟩
/-- The block g is a row of inodes of the call's own. -/
def OwnI (w : World) (g n cap : Nat) (rs : List InoR) : Prop := w.ownsRow 0 30 6 (.slice (some ⟨g, 0, none⟩) n cap) n (iv rs)
theorem OwnI.len {w : World} {g n cap : Nat} {rs : List InoR} (h : OwnI w g n cap rs) : rs.length = n := by
  have := h.1
  rw [iv_length] at this
  omega
theorem OwnI.lt {w : World} {g n cap : Nat} {rs : List InoR} (h : OwnI w g n cap rs) : g < w.heap.size := (World.ownsRow.lt h g rfl).2
theorem OwnI.keep {w w' : World} {g n cap : Nat} {rs : List InoR} (h : OwnI w g n cap rs) (hb : Below w.heap.size w w') : OwnI w' g n cap rs := by
  have hlt := h.lt
  refine ⟨h.1, ?_⟩
  rcases h.2 with ⟨h', _⟩ | ⟨g', cap', cur, h', hb', hgg, rest⟩
  · simp at h'
  · refine .inr ⟨g', cap', cur, h', hb', ?_, rest⟩
    rw [hb.block g' (Array.getElem?_eq_some_iff.1 hgg).1]
    exact hgg
theorem OwnI.kept {w w' : World} {g n cap g2 : Nat} {rs : List InoR} (h : OwnI w g n cap rs) (hg : w.grownBy w' (some g2)) (hne : g ≠ g2) : OwnI w' g n cap rs := by
  refine ⟨h.1, ?_⟩
  rcases h.2 with ⟨h', _⟩ | ⟨g', cap', cur, h', hb', hgg, rest⟩
  · simp at h'
  · refine .inr ⟨g', cap', cur, h', hb', ?_, rest⟩
    simp only [Value.slice.injEq, Option.some.injEq, Addr.mk.injEq, and_true, true_and] at h'
    obtain ⟨rfl, rfl⟩ := h'
    rw [hg.block g (Array.getElem?_eq_some_iff.1 hgg).1 (by simpa using hne)]
    exact hgg
theorem OwnI.frozen {w : World} {g n cap : Nat} {rs : List InoR} (h : OwnI w g n cap rs) (i : Nat) : w.frozen? ⟨g, i, none⟩ = false := World.ownsRow.frozenAt h i
theorem OwnI.cell {w : World} {g n cap : Nat} {rs : List InoR} (h : OwnI w g n cap rs) (i j : Nat) (r : InoR) (hi : rs[i]? = some r) (hj : j < 6) : w.cell? ⟨g, i * 6 + j, none⟩ = r.six[j]? := by
  have hl := h.len
  have h2 := (List.getElem?_eq_some_iff.1 hi).1
  rw [World.ownsRow.cellAt h (i * 6 + j) (by omega)]
  exact iv_at rs i j r hi hj
theorem OwnI.six {w : World} {g n cap : Nat} {rs : List InoR} (h : OwnI w g n cap rs) (i : Nat) (r : InoR) (hi : rs[i]? = some r) : SixA w g (i * 6) r :=
  ⟨h.cell i 0 r hi (by omega), h.cell i 1 r hi (by omega), h.cell i 2 r hi (by omega), h.cell i 3 r hi (by omega), h.cell i 4 r hi (by omega), h.cell i 5 r hi (by omega)⟩
/-- The lists of an inode are rows of the call's own, at or behind B. -/
def InoR.own (w : World) (B : Nat) (r : InoR) : Prop := ∃ g1 g2 g3, r.a1 = some ⟨g1, 0, none⟩ ∧ r.a2 = some ⟨g2, 0, none⟩ ∧ r.a3 = some ⟨g3, 0, none⟩ ∧ B ≤ g1 ∧ B ≤ g2 ∧ B ≤ g3 ∧ InoOwn w r.D g1 r.c1 g2 r.c2 g3 r.c3
theorem InoR.own.rd {w : World} {B : Nat} {r : InoR} (h : r.own w B) : r.rd w := by
  obtain ⟨g1, g2, g3, h1, h2, h3, _, _, _, ho⟩ := h
  unfold InoR.rd
  rw [h1, h2, h3]
  exact ho.rd
theorem InoR.own.keep {w w' : World} {B : Nat} {r : InoR} (h : r.own w B) (hb : Below w.heap.size w w') : r.own w' B := by
  obtain ⟨g1, g2, g3, h1, h2, h3, k1, k2, k3, ho⟩ := h
  exact ⟨g1, g2, g3, h1, h2, h3, k1, k2, k3, ho.keep hb⟩
theorem InoR.own.kept {w w' : World} {B g : Nat} {r : InoR} (h : r.own w B) (hg : w.grownBy w' (some g)) (hlt : g < B) : r.own w' B := by
  obtain ⟨g1, g2, g3, h1, h2, h3, k1, k2, k3, ho⟩ := h
  exact ⟨g1, g2, g3, h1, h2, h3, k1, k2, k3, ho.data.kept hg (by omega), ho.byt, ho.ents.kept hg (by omega), ho.attrs.kept hg (by omega)⟩
theorem OwnI.rd {w : World} {g n cap B : Nat} {rs : List InoR} (h : OwnI w g n cap rs) (ho : ∀ r ∈ rs, r.own w B) : RdI w (some ⟨g, 0, none⟩) rs :=
  .inr ⟨g, 0, rfl, fun i r hi => by
    rw [Nat.zero_add]
    exact ⟨h.six i r hi, (ho r (List.mem_of_getElem? hi)).rd⟩⟩
/-- The inode with nothing. -/
def inoZ : InoR := ⟨⟨0, 0, 0, [], [], []⟩, none, 0, none, 0, none, 0⟩
end

section
open Go.RowKit
theorem Try.infoInode : (Try.prog.info? 30).map (fun i => (i.zero, i.size, i.bytes)) = some (some (.agg #[.int .i64 0, .int .i64 0, .int .i64 0, .slice none 0 0, .slice none 0 0, .slice none 0 0]), 6, 96) := by kernel_rfl
theorem gr_more {w w1 : World} {g : Nat} (h : w.grownBy w1 (some g)) (j : Nat) (v : Value) : w.grownBy (w1.setCell ⟨g, j, none⟩ v) (some g) :=
  ⟨h.os, h.tape, h.output, by rw [size_setC]; exact h.size, fun m hm hk => (heap_setCell_other w1 ⟨g, j, none⟩ m v (fun e => hk (by simp [e]))).trans (h.block m hm hk)⟩
end

section
open Go.RowKit
/-- The lists of an inode: each nil or of the call's own, in blocks from B up to T. -/
structure InoG (w : World) (B T : Nat) (D : InoD) (v1 v2 v3 : Value) : Prop where
  data : OwnV 0 w v1 D.data.length D.data
  byt : Byt D.data
  ents : OwnQ 67 w v2 D.ents.length (eP D.ents)
  attrs : OwnQ 70 w v3 D.attrs.length (aP D.attrs)
  within : ∀ g, (v1.ownBlock = some g ∨ v2.ownBlock = some g ∨ v3.ownBlock = some g) → B ≤ g ∧ g < T
/-- The same, marked from k0 on. -/
structure InoGM (w : World) (B T k0 n1 n2 n3 : Nat) (v1 v2 v3 : Value) : Prop where
  data : RowB w v1 n1 (marksG k0 n1)
  ents : OwnQ 67 w v2 n2 ((List.range n2).map (mE (k0 + n1)))
  attrs : OwnQ 70 w v3 n3 ((List.range n3).map (mA (k0 + n1 + 2 * n2)))
  within : ∀ g, (v1.ownBlock = some g ∨ v2.ownBlock = some g ∨ v3.ownBlock = some g) → B ≤ g ∧ g < T
/-- All blocks outside the interval are as they were. -/
structure Out (B T : Nat) (w w' : World) : Prop where
  os : w'.os = w.os
  tape : w'.tape = w.tape
  output : w'.output = w.output
  size : w.heap.size ≤ w'.heap.size
  block : ∀ k, k < w.heap.size → (k < B ∨ T ≤ k) → w'.heap[k]? = w.heap[k]?
theorem Out.refl (B T : Nat) (w : World) : Out B T w w := ⟨rfl, rfl, rfl, Nat.le_refl _, fun _ _ _ => rfl⟩
theorem Out.trans {B T : Nat} {a b c : World} (h : Out B T a b) (k : Out B T b c) : Out B T a c :=
  ⟨k.os.trans h.os, k.tape.trans h.tape, k.output.trans h.output, Nat.le_trans h.size k.size, fun i hi ho => (k.block i (Nat.lt_of_lt_of_le hi h.size) ho).trans (h.block i hi ho)⟩
theorem Out.wider {B T B' T' : Nat} {a b : World} (h : Out B T a b) (h1 : B' ≤ B) (h2 : T ≤ T') : Out B' T' a b :=
  ⟨h.os, h.tape, h.output, h.size, fun i hi ho => h.block i hi (by omega)⟩
theorem Below.out {a b : World} (h : Below a.heap.size a b) (B T : Nat) : Out B T a b := ⟨h.os, h.tape, h.output, h.size, fun k hk _ => h.block k hk⟩
theorem Out.gr {B T : Nat} {a b : World} {r : Option Nat} (h : a.grownBy b r) (hr : ∀ g, r = some g → B ≤ g ∧ g < T) : Out B T a b :=
  ⟨h.os, h.tape, h.output, h.size, fun k hk ho => h.block k hk (fun e => by have := hr k e.symm; omega)⟩
theorem q_block {e : TypeId} {w w' : World} {v : Value} {n : Nat} {ps : List VP} (h : OwnQ e w v n ps) (hb : ∀ g, v.ownBlock = some g → w'.heap[g]? = w.heap[g]?) : OwnQ e w' v n ps := by
  refine ⟨h.1, ?_⟩
  rcases h.2 with h' | ⟨g', cap, cur, rfl, hb', hgg, rest⟩
  · exact .inl h'
  · exact .inr ⟨g', cap, cur, rfl, hb', (hb g' rfl).trans hgg, rest⟩
theorem ownV_same {B : Nat} {w w' : World} {v : Value} {n : Nat} {zs : List Int} (h : OwnV B w v n zs) (hb : ∀ g, v.ownBlock = some g → w'.heap[g]? = w.heap[g]?) : OwnV B w' v n zs := by
  refine ⟨h.1, ?_⟩
  rcases h.2 with h' | ⟨g', cap, cur, rfl, hb', hgg, rest⟩
  · exact .inl h'
  · exact .inr ⟨g', cap, cur, rfl, hb', (hb g' rfl).trans hgg, rest⟩
theorem InoG.kept {w w' : World} {B T : Nat} {D : InoD} {v1 v2 v3 : Value} (h : InoG w B T D v1 v2 v3) (k : ∀ b, B ≤ b → b < T → w'.heap[b]? = w.heap[b]?) : InoG w' B T D v1 v2 v3 :=
  ⟨ownV_same h.data fun g hg => k g (h.within g (.inl hg)).1 (h.within g (.inl hg)).2, h.byt, q_block h.ents fun g hg => k g (h.within g (.inr (.inl hg))).1 (h.within g (.inr (.inl hg))).2, q_block h.attrs fun g hg => k g (h.within g (.inr (.inr hg))).1 (h.within g (.inr (.inr hg))).2, h.within⟩
theorem InoGM.kept {w w' : World} {B T k0 n1 n2 n3 : Nat} {v1 v2 v3 : Value} (h : InoGM w B T k0 n1 n2 n3 v1 v2 v3) (k : ∀ b, B ≤ b → b < T → w'.heap[b]? = w.heap[b]?) : InoGM w' B T k0 n1 n2 n3 v1 v2 v3 :=
  ⟨h.data.block fun g hg => k g (h.within g (.inl hg)).1 (h.within g (.inl hg)).2, q_block h.ents fun g hg => k g (h.within g (.inr (.inl hg))).1 (h.within g (.inr (.inl hg))).2, q_block h.attrs fun g hg => k g (h.within g (.inr (.inr hg))).1 (h.within g (.inr (.inr hg))).2, h.within⟩
theorem InoG.keep {w w' : World} {B T : Nat} {D : InoD} {v1 v2 v3 : Value} (h : InoG w B T D v1 v2 v3) (hT : T ≤ w.heap.size) (hb : Below w.heap.size w w') : InoG w' B T D v1 v2 v3 := h.kept fun b _ hb' => hb.block b (by omega)
theorem InoGM.keep {w w' : World} {B T k0 n1 n2 n3 : Nat} {v1 v2 v3 : Value} (h : InoGM w B T k0 n1 n2 n3 v1 v2 v3) (hT : T ≤ w.heap.size) (hb : Below w.heap.size w w') : InoGM w' B T k0 n1 n2 n3 v1 v2 v3 := h.kept fun b _ hb' => hb.block b (by omega)
theorem InoG.wider {w : World} {B T B' T' : Nat} {D : InoD} {v1 v2 v3 : Value} (h : InoG w B T D v1 v2 v3) (h1 : B' ≤ B) (h2 : T ≤ T') : InoG w B' T' D v1 v2 v3 := ⟨h.data, h.byt, h.ents, h.attrs, fun g hg => by have := h.within g hg; omega⟩
theorem InoG.form {w : World} {B T : Nat} {D : InoD} {v1 v2 v3 : Value} (h : InoG w B T D v1 v2 v3) : ∃ a1 c1 a2 c2 a3 c3, v1 = .slice a1 D.data.length c1 ∧ v2 = .slice a2 D.ents.length c2 ∧ v3 = .slice a3 D.attrs.length c3 ∧ InoRd w D a1 a2 a3 := by
  obtain ⟨a1, c1, e1, r1⟩ := (OwnV.rowB h.data).form
  have f : ∀ {e : TypeId} {v : Value} {n : Nat} {ps : List VP}, OwnQ e w v n ps → ∃ a c, v = .slice a n c ∧ RdP w a ps := fun {e v n ps} h => by
    rcases h.cases with ⟨rfl, rfl, rfl⟩ | ⟨g, c, rfl, ho⟩
    · exact ⟨none, 0, rfl, .inl rfl⟩
    · exact ⟨_, c, rfl, ho.rd⟩
  obtain ⟨a2, c2, e2, r2⟩ := f h.ents
  obtain ⟨a3, c3, e3, r3⟩ := f h.attrs
  exact ⟨a1, c1, a2, c2, a3, c3, e1, e2, e3, ⟨r1, h.byt, r2, r3⟩⟩
end

section
open Go.RowKit
/-- What is appended to a fresh empty list is a list of its own. -/
theorem run_fresh (W : World) (B : Nat) (t ty e : TypeId) (i : TypeInfo) (z : Value) (size bytes : Nat) (ht : Try.prog.underlying t = some (.slice e)) (hi : Try.prog.info? e = some i) (hz : i.zero = some z) (hsize : i.size = size) (hby : i.bytes = bytes) (hzs : z.cells.size = size) (hsz : 0 < size)
    (g : Nat) (hB : B ≤ g) (hown : W.ownsRow B e size (.slice (some ⟨g, 0, none⟩) 0 0) 0 []) (a : Option Addr) (m c : Nat) (news : List Value) (hl : news.length = m * size) (hnews : news = [] ∨ ∃ ad, a = some ad ∧ ∀ j u, news[j]? = some u → W.cell? (ad.add j) = some u) (ha : m = 0 → a = none ∨ ∃ ad, a = some ad)
    (h1 : ∀ u ∈ news, u.oneCell' = true) (h63 : m ≤ 8000000) (hb64 : bytes ≤ 64) :
    ∃ g' c' W', (Builtin.append_ #[t, t] ty #[.slice (some ⟨g, 0, none⟩) 0 0, .slice a m c]).run Try.prog W = .ok (.slice (some ⟨g', 0, none⟩) m c') W' ∧ W'.ownsRow B e size (.slice (some ⟨g', 0, none⟩) m c') m news ∧ B ≤ g' ∧ g' < W'.heap.size ∧ Below W.heap.size W W' := by
  have hglt : g < W.heap.size := (World.ownsRow.lt hown g rfl).2
  by_cases h0 : m = 0
  · subst h0
    obtain rfl : news = [] := List.length_eq_zero_iff.1 (by simpa using hl)
    have hsrc : Src Try.prog i.size t (.slice a 0 c) 0 [] W := by
      rcases ha rfl with rfl | ⟨ad, rfl⟩
      · exact Src.ofNil W ht c
      · exact Src.ofSlice W ht ad 0 c [] (by simp) (fun j u hj => by simp at hj) (fun u hu => by simp at hu)
    have hr := run_append_room_src W t t ty e i ht hi g 0 0 0 (.slice a 0 c) 0 [] hsrc (Nat.le_refl _) (fun j hj => by simp at hj) (fun j hj => by simp at hj)
    refine ⟨g, 0, W, ?_, hown, hB, hglt, Below.refl _ _⟩
    rw [hr]
    rfl
  · have hne : news ≠ [] := fun e => by rw [e] at hl; have := Nat.mul_pos (show 0 < m by omega) hsz; simp only [List.length_nil] at hl; omega
    rcases hnews with e | ⟨ad, rfl, hn⟩
    · exact absurd e hne
    · obtain ⟨v', w', hr, h2, _, _, _⟩ := run_append_own_at (P := Try.prog) W B t ty e i z size bytes ht hi hz hsize hby hzs hsz _ 0 [] hown ad m c news hl hn h1 (by unfold maxLen; omega) (by have : (0 + m) * bytes ≤ 8000000 * 64 := Nat.mul_le_mul (by omega) hb64; omega) (by omega)
      have hsrc : Src Try.prog i.size t (.slice (some ad) m c) m news W := Src.ofSlice W ht ad m c news (by rw [hsize]; exact hl) hn h1
      have hcap : Builtin.nextslicecap (0 + m) 0 = m := by
        unfold Builtin.nextslicecap
        simp
        omega
      have hr2 := run_append_grow_src W t t ty e i z ht hi hz (some ⟨g, 0, none⟩) 0 0 [] (run_firstCells_some W.drew i.size 0 ⟨g, 0, none⟩ 0 0 [] (by simp) (fun j u hj => by simp at hj)) (.slice (some ad) m c) m news hsrc (by omega) (by omega) (by rw [hcap, hby]; have : m * bytes ≤ 8000000 * 64 := Nat.mul_le_mul h63 hb64; omega)
      rw [hr2] at hr
      simp only [Result.ok.injEq] at hr
      obtain ⟨rfl, rfl⟩ := hr
      rw [Nat.zero_add, List.nil_append] at h2
      refine ⟨W.heap.size, _, _, by rw [hr2]; simp only [Nat.zero_add, List.nil_append], h2, by omega, (World.ownsRow.lt h2 _ rfl).2, (Below.refl _ W).drew.alloc (Nat.le_refl _) _⟩
/-- The append at the operation. -/
theorem wpList_fresh (W : World) {ops : Array Oper} {rest : List Oper} {o : Oper} {a : Act} {Q : Exit → Act → World → Prop} (hgd : o.guard = none) (s x : Operand) (t : TypeId)
    (ho : o.op = .call { callee := .builtin .append, args := #[s, x], argTypes := #[t, t] }) (B : Nat) (g : Nat) (ad : Option Addr) (m c : Nat) (e : TypeId) (size : Nat) (news : List Value)
    (hs : a.eval s = .slice (some ⟨g, 0, none⟩) 0 0) (hx : a.eval x = .slice ad m c)
    (hr : ∀ ty, ∃ g' c' W', (Builtin.append_ #[t, t] ty #[.slice (some ⟨g, 0, none⟩) 0 0, .slice ad m c]).run Try.prog W = .ok (.slice (some ⟨g', 0, none⟩) m c') W' ∧ W'.ownsRow B e size (.slice (some ⟨g', 0, none⟩) m c') m news ∧ B ≤ g' ∧ g' < W'.heap.size ∧ Below W.heap.size W W')
    (h : ∀ g' c' W', W'.ownsRow B e size (.slice (some ⟨g', 0, none⟩) m c') m news → B ≤ g' → g' < W'.heap.size → Below W.heap.size W W' → wpList Try.prog ops Q rest (a.put o.dst (.slice (some ⟨g', 0, none⟩) m c')) W') :
    wpList Try.prog ops Q (o :: rest) a W := by
  refine wpList_plain hgd fun K hK => ?_
  obtain ⟨g', c', W', h1, h2, h3, h4, h5⟩ := hr o.type
  unfold Oper.wp execOp
  simp only [ho, resolve, invoke, builtin, Sem.run_bind, Sem.run_pure, Result.andThen_ok, List.map_toArray, List.map_cons, List.map_nil, hs, hx, h1]
  exact hK _ _ (h g' c' W' h2 h3 h4 h5)
/-- The three kinds of lists. -/
theorem fresh_bytes (W : World) (B g : Nat) (a : Option Addr) (n c : Nat) (zs : List Int) (hn : zs.length = n) (hs : n ≤ 8000000) (hB : B ≤ g) (hown : W.ownsRow B 5 1 (.slice (some ⟨g, 0, none⟩) 0 0) 0 []) (hr : Rd W a zs) (ty : TypeId) :
    ∃ g' c' W', (Builtin.append_ #[22, 22] ty #[.slice (some ⟨g, 0, none⟩) 0 0, .slice a n c]).run Try.prog W = .ok (.slice (some ⟨g', 0, none⟩) n c') W' ∧ W'.ownsRow B 5 1 (.slice (some ⟨g', 0, none⟩) n c') n (zs.map (Value.int .u8)) ∧ B ≤ g' ∧ g' < W'.heap.size ∧ Below W.heap.size W W' := by
  obtain ⟨i0, hi, hz0, hz1, hz2⟩ := info_parts Try.info5
  refine run_fresh W B 22 ty 5 i0 (.int .u8 0) 1 1 Try.underlying22 hi hz0 hz1 hz2 rfl (by omega) g hB hown a n c (zs.map (Value.int .u8)) (by simp [hn]) ?_ (fun _ => by cases a with | none => exact .inl rfl | some ad => exact .inr ⟨ad, rfl⟩) (fun u hu => by obtain ⟨z, _, rfl⟩ := List.mem_map.1 hu; rfl) hs (by omega)
  rcases hr with rfl | ⟨b, off, rfl, hc⟩
  · exact .inl rfl
  · refine .inr ⟨_, rfl, fun j u hj => ?_⟩
    simp only [List.getElem?_map] at hj
    by_cases hjm : j < zs.length
    · have := hc j hjm
      rw [show (⟨b, off, none⟩ : Addr).add j = ⟨b, off + j, none⟩ by simp [Addr.add], this]
      rw [List.getElem?_eq_getElem hjm] at hj
      simpa [List.getElem?_eq_getElem hjm] using hj
    · rw [List.getElem?_eq_none (by omega)] at hj
      simp at hj
theorem fresh_pairs (W : World) (B g : Nat) (t e : TypeId) (i : TypeInfo) (z : Value) (bytes : Nat) (ht : Try.prog.underlying t = some (.slice e)) (hi : Try.prog.info? e = some i) (hz : i.zero = some z) (hsize : i.size = 2) (hby : i.bytes = bytes) (hzs : z.cells.size = 2) (hb64 : bytes ≤ 64) (a : Option Addr) (n c : Nat) (ps : List VP) (hn : ps.length = n) (hs : n ≤ 8000000) (hone : ∀ p ∈ ps, p.1.oneCell' = true ∧ p.2.oneCell' = true) (hB : B ≤ g) (hown : W.ownsRow B e 2 (.slice (some ⟨g, 0, none⟩) 0 0) 0 []) (hr : RdP W a ps) (ty : TypeId) :
    ∃ g' c' W', (Builtin.append_ #[t, t] ty #[.slice (some ⟨g, 0, none⟩) 0 0, .slice a n c]).run Try.prog W = .ok (.slice (some ⟨g', 0, none⟩) n c') W' ∧ W'.ownsRow B e 2 (.slice (some ⟨g', 0, none⟩) n c') n (pv ps) ∧ B ≤ g' ∧ g' < W'.heap.size ∧ Below W.heap.size W W' := by
  refine run_fresh W B t ty e i z 2 bytes ht hi hz hsize hby hzs (by omega) g hB hown a n c (pv ps) (by rw [pv_length, hn]) ?_ (fun _ => by cases a with | none => exact .inl rfl | some ad => exact .inr ⟨ad, rfl⟩) ?_ hs hb64
  · rcases hr with rfl | ⟨b, off, rfl, hc⟩
    · exact .inl rfl
    · refine .inr ⟨_, rfl, fun j u hj => ?_⟩
      have hjl : j < (pv ps).length := (List.getElem?_eq_some_iff.1 hj).1
      rw [pv_length] at hjl
      obtain ⟨p1, p2⟩ := pv_at ps (j / 2) (by omega)
      obtain ⟨q1, q2⟩ := hc (j / 2) (by omega)
      rw [show (⟨b, off, none⟩ : Addr).add j = ⟨b, off + j, none⟩ by simp [Addr.add]]
      rcases (show j = j / 2 * 2 ∨ j = j / 2 * 2 + 1 by omega) with e | e
      · rw [e] at hj ⊢
        rw [p1] at hj
        rw [q1]
        exact hj
      · rw [e] at hj ⊢
        rw [p2] at hj
        rw [← Nat.add_assoc, q2]
        exact hj
  · intro u hu
    unfold pv at hu
    obtain ⟨p, hp, hu⟩ := List.mem_flatMap.1 hu
    simp at hu
    rcases hu with rfl | rfl
    · exact (hone p hp).1
    · exact (hone p hp).2
theorem eP_one (es : List (ByteArray × Int)) : ∀ p ∈ eP es, p.1.oneCell' = true ∧ p.2.oneCell' = true := by
  intro p hp
  obtain ⟨e, _, rfl⟩ := List.mem_map.1 hp
  exact ⟨rfl, rfl⟩
theorem aP_one (es : List (ByteArray × ByteArray)) : ∀ p ∈ aP es, p.1.oneCell' = true ∧ p.2.oneCell' = true := by
  intro p hp
  obtain ⟨e, _, rfl⟩ := List.mem_map.1 hp
  exact ⟨rfl, rfl⟩
theorem empty_row (W : World) (B : Nat) (e : TypeId) (s : Nat) (hB : B ≤ W.heap.size) : (W.alloc (.cells #[] e)).ownsRow B e s (.slice (some ⟨W.heap.size, 0, none⟩) 0 0) 0 [] :=
  ⟨by simp, .inr ⟨W.heap.size, 0, #[], rfl, hB, heap_alloc_new W _, Nat.le_refl _, Nat.zero_le _, by simp, by simp⟩⟩
end

section
open Go.RowKit
/-- What a copy of an inode is: the same data, in lists of the call's own. -/
def CopyPost (w : World) (D : InoD) (e : Ending) (w' : World) : Prop :=
  ∃ (b1 : Option Addr) (d1 : Nat) (b2 : Option Addr) (d2 : Nat) (b3 : Option Addr) (d3 : Nat), e = .returned (.agg #[.int .i64 D.ino, .int .i64 D.kind, .int .i64 D.links, .slice b1 D.data.length d1, .slice b2 D.ents.length d2, .slice b3 D.attrs.length d3]) ∧
    InoG w' w.heap.size w'.heap.size D (.slice b1 D.data.length d1) (.slice b2 D.ents.length d2) (.slice b3 D.attrs.length d3) ∧ Below w.heap.size w w'
/-- Three boxes and what has been copied so far, while an inode is copied. -/
structure CX (w W : World) (xs os : Array Value) : Prop where
  below : Below w.heap.size w W
  x : Blk W w.heap.size 30 xs
  res : Blk W (w.heap.size + 1) 30 #[.int .i64 0, .int .i64 0, .int .i64 0, .slice none 0 0, .slice none 0 0, .slice none 0 0]
  o : Blk W (w.heap.size + 1 + 1) 30 os
theorem CX.keep {w W W' : World} {xs os : Array Value} (h : CX w W xs os) (hb : Below W.heap.size W W') : CX w W' xs os := ⟨h.below.trans (hb.mono h.below.size), h.x.keep hb, h.res.keep hb, h.o.keep hb⟩
theorem CX.set {w W : World} {xs os : Array Value} (h : CX w W xs os) (j : Nat) (v : Value) : CX w (W.setCell ⟨w.heap.size + 1 + 1, j, none⟩ v) xs (os.setIfInBounds j v) :=
  ⟨h.below.setCell (p := ⟨w.heap.size + 1 + 1, j, none⟩) (by simp only; omega) v, h.x.other (by omega) j v, h.res.other (by omega) j v, h.o.set j v⟩
theorem raw_below {B : Nat} {e : TypeId} {w w' : World} {v : Value} {s n : Nat} {xs : List Value} (h : w.ownsRow B e s v n xs) (hb : Below w.heap.size w w') : w'.ownsRow B e s v n xs := by
  refine ⟨h.1, ?_⟩
  rcases h.2 with h' | ⟨g', cap', cur, h', hb', hgg, rest⟩
  · exact .inl h'
  · exact .inr ⟨g', cap', cur, h', hb', (hb.block g' (Array.getElem?_eq_some_iff.1 hgg).1).trans hgg, rest⟩
theorem row_zero' {B : Nat} {w : World} {e : TypeId} {s n : Nat} {v : Value} {xs : List Value} (h : w.ownsRow B e s v n xs) : w.ownsRow 0 e s v n xs := by
  refine ⟨h.1, ?_⟩
  rcases h.2 with h' | ⟨g, cap, cur, h', _, rest⟩
  · exact .inl h'
  · exact .inr ⟨g, cap, cur, h', Nat.zero_le _, rest⟩
theorem KpT.trans' {W W1 W' : World} {ts : List TypeId} (h : KpT W W1 ts) (k : KpT W1 W' ts) : KpT W W' ts := fun B cur t fr hB ht => by
  have e := h B cur t fr hB ht
  rw [k B cur t fr (e.trans hB) ht, e]
theorem KpT6 {W : World} {H : Nat} {xs : Array Value} (h : Blk W H 30 xs) (v0 v1 v2 v3 v4 v5 : Value) : KpT W ((((((W.setCell ⟨H, 0, none⟩ v0).setCell ⟨H, 1, none⟩ v1).setCell ⟨H, 2, none⟩ v2).setCell ⟨H, 3, none⟩ v3).setCell ⟨H, 4, none⟩ v4).setCell ⟨H, 5, none⟩ v5) [5, 67, 70] :=
  (((((KpT.grown (gr_setC _ H 0 v0) h (by decide)).trans' (KpT.grown (gr_setC _ H 1 v1) (h.set 0 v0) (by decide))).trans' (KpT.grown (gr_setC _ H 2 v2) ((h.set 0 v0).set 1 v1) (by decide))).trans' (KpT.grown (gr_setC _ H 3 v3) (((h.set 0 v0).set 1 v1).set 2 v2) (by decide))).trans' (KpT.grown (gr_setC _ H 4 v4) ((((h.set 0 v0).set 1 v1).set 2 v2).set 3 v3) (by decide))).trans' (KpT.grown (gr_setC _ H 5 v5) (((((h.set 0 v0).set 1 v1).set 2 v2).set 3 v3).set 4 v4) (by decide))
set_option maxRecDepth 100000 in
set_option maxHeartbeats 4000000 in
theorem l3Copy_any (D : InoD) (a1 a2 a3 : Option Addr) (c1 c2 c3 : Nat) (w : World) (hsm : InoSmall D) (hr : InoRd w D a1 a2 a3) :
    Calls Try.prog 43 #[.agg #[.int .i64 D.ino, .int .i64 D.kind, .int .i64 D.links, .slice a1 D.data.length c1, .slice a2 D.ents.length c2, .slice a3 D.attrs.length c3]] w fun e w' => CopyPost w D e w' := by
  obtain ⟨n1, h1⟩ : ∃ n, D.data.length = n := ⟨_, rfl⟩
  obtain ⟨n2, h2⟩ : ∃ n, D.ents.length = n := ⟨_, rfl⟩
  obtain ⟨n3, h3⟩ : ∃ n, D.attrs.length = n := ⟨_, rfl⟩
  have hp : Hid (∀ (e : Ending) (w' : World) (b1 : Option Addr) (d1 : Nat) (b2 : Option Addr) (d2 : Nat) (b3 : Option Addr) (d3 : Nat), e = .returned (.agg #[.int .i64 D.ino, .int .i64 D.kind, .int .i64 D.links, .slice b1 n1 d1, .slice b2 n2 d2, .slice b3 n3 d3]) → InoG w' w.heap.size w'.heap.size D (.slice b1 n1 d1) (.slice b2 n2 d2) (.slice b3 n3 d3) → Below w.heap.size w w' → CopyPost w D e w') := by
    intro e w' b1 d1 b2 d2 b3 d3 he hg hb
    refine ⟨b1, d1, b2, d2, b3, d3, ?_, ?_, hb⟩
    · rw [h1, h2, h3]; exact he
    · rw [h1, h2, h3]; exact hg
  obtain ⟨r1, rb, r2, r3⟩ := hr
  obtain ⟨s1, s2, s3, _, _⟩ := hsm
  rw [h1] at s1
  rw [h2] at s2
  rw [h3] at s3
  have H1 : Hid (D.data.length = n1 ∧ D.ents.length = n2 ∧ D.attrs.length = n3) := ⟨h1, h2, h3⟩
  rw [h1, h2, h3]
  generalize CopyPost w D = P at hp ⊢
  obtain ⟨i1, hi1⟩ : ∃ n, D.ino = n := ⟨_, rfl⟩
  obtain ⟨i2, hi2⟩ : ∃ n, D.kind = n := ⟨_, rfl⟩
  obtain ⟨i3, hi3⟩ : ∃ n, D.links = n := ⟨_, rfl⟩
  rw [hi1, hi2, hi3] at hp ⊢
  clear h1 h2 h3 hi1 hi2 hi3
  obtain ⟨ie, hie, ze0, ze1, ze2⟩ := info_parts Try.infoEnt
  obtain ⟨ia, hia, za0, za1, za2⟩ := info_parts Try.infoAttr
  have cx0 : CX w (((w.alloc (.cells #[.int .i64 i1, .int .i64 i2, .int .i64 i3, .slice a1 n1 c1, .slice a2 n2 c2, .slice a3 n3 c3] 30)).alloc (.cells #[.int .i64 0, .int .i64 0, .int .i64 0, .slice none 0 0, .slice none 0 0, .slice none 0 0] 30)).alloc (.cells #[.int .i64 i1, .int .i64 i2, .int .i64 i3, .slice a1 n1 c1, .slice a2 n2 c2, .slice a3 n3 c3] 30)) #[.int .i64 i1, .int .i64 i2, .int .i64 i3, .slice a1 n1 c1, .slice a2 n2 c2, .slice a3 n3 c3] #[.int .i64 i1, .int .i64 i2, .int .i64 i3, .slice a1 n1 c1, .slice a2 n2 c2, .slice a3 n3 c3] := by
    have hz1 : Blk (((w.alloc (.cells #[.int .i64 i1, .int .i64 i2, .int .i64 i3, .slice a1 n1 c1, .slice a2 n2 c2, .slice a3 n3 c3] 30)).alloc (.cells #[.int .i64 0, .int .i64 0, .int .i64 0, .slice none 0 0, .slice none 0 0, .slice none 0 0] 30)).alloc (.cells #[.int .i64 i1, .int .i64 i2, .int .i64 i3, .slice a1 n1 c1, .slice a2 n2 c2, .slice a3 n3 c3] 30)) w.heap.size 30 #[.int .i64 i1, .int .i64 i2, .int .i64 i3, .slice a1 n1 c1, .slice a2 n2 c2, .slice a3 n3 c3] := ((Blk.new w _ _).alloc _).alloc _
    have hz2 := (Blk.new (w.alloc (.cells #[.int .i64 i1, .int .i64 i2, .int .i64 i3, .slice a1 n1 c1, .slice a2 n2 c2, .slice a3 n3 c3] 30)) 30 #[.int .i64 0, .int .i64 0, .int .i64 0, .slice none 0 0, .slice none 0 0, .slice none 0 0]).alloc (.cells #[.int .i64 i1, .int .i64 i2, .int .i64 i3, .slice a1 n1 c1, .slice a2 n2 c2, .slice a3 n3 c3] 30)
    have hz3 := Blk.new ((w.alloc (.cells #[.int .i64 i1, .int .i64 i2, .int .i64 i3, .slice a1 n1 c1, .slice a2 n2 c2, .slice a3 n3 c3] 30)).alloc (.cells #[.int .i64 0, .int .i64 0, .int .i64 0, .slice none 0 0, .slice none 0 0, .slice none 0 0] 30)) 30 #[.int .i64 i1, .int .i64 i2, .int .i64 i3, .slice a1 n1 c1, .slice a2 n2 c2, .slice a3 n3 c3]
    simp only [World.size_alloc] at hz2 hz3
    exact ⟨(((Below.refl _ w).alloc (Nat.le_refl _) _).alloc (by simp) _).alloc (by simp; omega) _, hz1, hz2, hz3⟩
  go_enter Try.func43, Try.ntmps43
  go_upto_region 2 with fail
  obtain ⟨W0, hW0⟩ : ∃ W, ((w.alloc (.cells #[.int .i64 i1, .int .i64 i2, .int .i64 i3, .slice a1 n1 c1, .slice a2 n2 c2, .slice a3 n3 c3] 30)).alloc (.cells #[.int .i64 0, .int .i64 0, .int .i64 0, .slice none 0 0, .slice none 0 0, .slice none 0 0] 30)).alloc (.cells #[.int .i64 i1, .int .i64 i2, .int .i64 i3, .slice a1 n1 c1, .slice a2 n2 c2, .slice a3 n3 c3] 30) = W := ⟨_, rfl⟩
  rw [hW0] at cx0 ⊢
  clear hW0
  -- list 1
  have bE1 : Below W0.heap.size W0 (W0.alloc (.cells #[] 5)) := (Below.refl _ W0).alloc (Nat.le_refl _) _
  have cxE1 := cx0.keep bE1
  have hf1 := fun ty => fresh_bytes (W0.alloc (.cells #[] 5)) w.heap.size W0.heap.size a1 n1 c1 D.data H1.out.1 (by omega) cx0.below.size (empty_row W0 w.heap.size 5 1 cx0.below.size) (r1.keep cxE1.below) ty
  have x1 := cxE1.x.cell 3
  simp at x1
  have hsz1 := cx0.below.size
  go_upto_region 3 with (at_builtin; refine wpList_fresh (W0.alloc (.cells #[] 5)) rfl (.tmp 5) (.tmp 7) 22 rfl w.heap.size W0.heap.size a1 n1 c1 5 1 (D.data.map (Value.int .u8)) rfl rfl hf1 ?_; intro g1 d1 V1 o1 hB1 hl1 b1; have cxV1 := cxE1.keep b1; have y1 := cxV1.o.cell 3; have f1 := cxV1.o.frozen 3; simp at y1; clear x1)
  have cx1 : CX w (V1.setCell ⟨w.heap.size + 1 + 1, 3, none⟩ (.slice (some ⟨g1, 0, none⟩) n1 d1)) #[.int .i64 i1, .int .i64 i2, .int .i64 i3, .slice a1 n1 c1, .slice a2 n2 c2, .slice a3 n3 c3] #[.int .i64 i1, .int .i64 i2, .int .i64 i3, .slice (some ⟨g1, 0, none⟩) n1 d1, .slice a2 n2 c2, .slice a3 n3 c3] := cxV1.set 3 _
  have bb1 := bE1.trans (b1.mono bE1.size)
  have gs1 := gr_setC V1 (w.heap.size + 1 + 1) 3 (.slice (some ⟨g1, 0, none⟩) n1 d1)
  have hne1 : g1 ≠ w.heap.size + 1 + 1 := fun e => (by subst e; obtain ⟨_, cur, hc⟩ := row_at o1 (g := w.heap.size + 1 + 1) rfl; have := cxV1.o; rw [show V1.heap[w.heap.size + 1 + 1]? = _ from this] at hc; simp at hc)
  have q11 := row_kept o1 gs1 (fun m hm h => by simp [Value.ownBlock] at hm h; omega)
  obtain ⟨W1, hW1⟩ : ∃ W, V1.setCell ⟨w.heap.size + 1 + 1, 3, none⟩ (.slice (some ⟨g1, 0, none⟩) n1 d1) = W := ⟨_, rfl⟩
  rw [hW1] at cx1 q11 ⊢
  have hss1 := bb1.size
  clear hW1 cxV1 cxE1 bE1 y1 f1 hf1 o1 gs1 b1 bb1
  have bE2 : Below W1.heap.size W1 (W1.alloc (.cells #[] 67)) := (Below.refl _ W1).alloc (Nat.le_refl _) _
  have cxE2 := cx1.keep bE2
  have hf2 := fun ty => fresh_pairs (W1.alloc (.cells #[] 67)) w.heap.size W1.heap.size 27 67 ie _ 24 Try.underlying27 hie ze0 ze1 ze2 rfl (by omega) a2 n2 c2 (eP D.ents) (by rw [eP_length]; exact H1.out.2.1) (by omega) (eP_one _) cx1.below.size (empty_row W1 w.heap.size 67 2 cx1.below.size) (r2.keep cxE2.below) ty
  have x2 := cxE2.x.cell 4
  simp at x2
  have hsz2 := cx1.below.size
  go_upto_region 4 with (at_builtin; refine wpList_fresh (W1.alloc (.cells #[] 67)) rfl (.tmp 10) (.tmp 12) 27 rfl w.heap.size W1.heap.size a2 n2 c2 67 2 (pv (eP D.ents)) rfl rfl hf2 ?_; intro g2 d2 V2 o2 hB2 hl2 b2; have cxV2 := cxE2.keep b2; have y2 := cxV2.o.cell 4; have f2 := cxV2.o.frozen 4; simp at y2; clear x2)
  have cx2 : CX w (V2.setCell ⟨w.heap.size + 1 + 1, 4, none⟩ (.slice (some ⟨g2, 0, none⟩) n2 d2)) #[.int .i64 i1, .int .i64 i2, .int .i64 i3, .slice a1 n1 c1, .slice a2 n2 c2, .slice a3 n3 c3] #[.int .i64 i1, .int .i64 i2, .int .i64 i3, .slice (some ⟨g1, 0, none⟩) n1 d1, .slice (some ⟨g2, 0, none⟩) n2 d2, .slice a3 n3 c3] := cxV2.set 4 _
  have bb2 := bE2.trans (b2.mono bE2.size)
  have gs2 := gr_setC V2 (w.heap.size + 1 + 1) 4 (.slice (some ⟨g2, 0, none⟩) n2 d2)
  have hne2 : g2 ≠ w.heap.size + 1 + 1 := fun e => (by subst e; obtain ⟨_, cur, hc⟩ := row_at o2 (g := w.heap.size + 1 + 1) rfl; have := cxV2.o; rw [show V2.heap[w.heap.size + 1 + 1]? = _ from this] at hc; simp at hc)
  have q22 := row_kept o2 gs2 (fun m hm h => by simp [Value.ownBlock] at hm h; omega)
  have q12 := row_kept (raw_below q11 bb2) gs2 (fun m hm h => by simp [Value.ownBlock] at hm h; omega)
  obtain ⟨W2, hW2⟩ : ∃ W, V2.setCell ⟨w.heap.size + 1 + 1, 4, none⟩ (.slice (some ⟨g2, 0, none⟩) n2 d2) = W := ⟨_, rfl⟩
  rw [hW2] at cx2 q12 q22 ⊢
  have hss2 := bb2.size
  clear hW2 cxV2 cxE2 bE2 y2 f2 hf2 o2 gs2 b2 bb2
  have bE3 : Below W2.heap.size W2 (W2.alloc (.cells #[] 70)) := (Below.refl _ W2).alloc (Nat.le_refl _) _
  have cxE3 := cx2.keep bE3
  have hf3 := fun ty => fresh_pairs (W2.alloc (.cells #[] 70)) w.heap.size W2.heap.size 28 70 ia _ 32 Try.underlying28 hia za0 za1 za2 rfl (by omega) a3 n3 c3 (aP D.attrs) (by rw [aP_length]; exact H1.out.2.2) (by omega) (aP_one _) cx2.below.size (empty_row W2 w.heap.size 70 2 cx2.below.size) (r3.keep cxE3.below) ty
  have x3 := cxE3.x.cell 5
  simp at x3
  have hsz3 := cx2.below.size
  go_upto_region 5 with (at_builtin; refine wpList_fresh (W2.alloc (.cells #[] 70)) rfl (.tmp 15) (.tmp 17) 28 rfl w.heap.size W2.heap.size a3 n3 c3 70 2 (pv (aP D.attrs)) rfl rfl hf3 ?_; intro g3 d3 V3 o3 hB3 hl3 b3; have cxV3 := cxE3.keep b3; have y3 := cxV3.o.cell 5; have f3 := cxV3.o.frozen 5; simp at y3; clear x3)
  have cx3 : CX w (V3.setCell ⟨w.heap.size + 1 + 1, 5, none⟩ (.slice (some ⟨g3, 0, none⟩) n3 d3)) #[.int .i64 i1, .int .i64 i2, .int .i64 i3, .slice a1 n1 c1, .slice a2 n2 c2, .slice a3 n3 c3] #[.int .i64 i1, .int .i64 i2, .int .i64 i3, .slice (some ⟨g1, 0, none⟩) n1 d1, .slice (some ⟨g2, 0, none⟩) n2 d2, .slice (some ⟨g3, 0, none⟩) n3 d3] := cxV3.set 5 _
  have bb3 := bE3.trans (b3.mono bE3.size)
  have gs3 := gr_setC V3 (w.heap.size + 1 + 1) 5 (.slice (some ⟨g3, 0, none⟩) n3 d3)
  have hne3 : g3 ≠ w.heap.size + 1 + 1 := fun e => (by subst e; obtain ⟨_, cur, hc⟩ := row_at o3 (g := w.heap.size + 1 + 1) rfl; have := cxV3.o; rw [show V3.heap[w.heap.size + 1 + 1]? = _ from this] at hc; simp at hc)
  have q33 := row_kept o3 gs3 (fun m hm h => by simp [Value.ownBlock] at hm h; omega)
  have q13 := row_kept (raw_below q12 bb3) gs3 (fun m hm h => by simp [Value.ownBlock] at hm h; omega)
  have q23 := row_kept (raw_below q22 bb3) gs3 (fun m hm h => by simp [Value.ownBlock] at hm h; omega)
  obtain ⟨W3, hW3⟩ : ∃ W, V3.setCell ⟨w.heap.size + 1 + 1, 5, none⟩ (.slice (some ⟨g3, 0, none⟩) n3 d3) = W := ⟨_, rfl⟩
  rw [hW3] at cx3 q13 q23 q33 ⊢
  have hss3 := bb3.size
  clear hW3 cxV3 cxE3 bE3 y3 f3 hf3 o3 gs3 b3 bb3
  obtain ⟨x0, x1, x2, x3, x4, x5⟩ := cx3.o.six
  obtain ⟨t0, t1, t2, t3, t4, t5⟩ := cx3.res.six
  have fz0 := cx3.res.frozen 0
  have fz1 := cx3.res.frozen 1
  have fz2 := cx3.res.frozen 2
  have fz3 := cx3.res.frozen 3
  have fz4 := cx3.res.frozen 4
  have fz5 := cx3.res.frozen 5
  have HG : Hid _ := cx3
  have HQ : Hid _ := And.intro q13 (And.intro q23 q33)
  have hl33 : g1 < W3.heap.size ∧ g2 < W3.heap.size ∧ g3 < W3.heap.size := ⟨(World.ownsRow.lt q13 g1 rfl).2, (World.ownsRow.lt q23 g2 rfl).2, (World.ownsRow.lt q33 g3 rfl).2⟩
  clear cx0 cx1 cx2 cx3 q11 q12 q22 q13 q23 q33 hie ze0 ze1 ze2 hia za0 za1 za2 r1 r2 r3
  go_wp2
  have zf := (((((HG.out.res.set 0 (.int .i64 i1)).set 1 (.int .i64 i2)).set 2 (.int .i64 i3)).set 3 (.slice (some ⟨g1, 0, none⟩) n1 d1)).set 4 (.slice (some ⟨g2, 0, none⟩) n2 d2)).set 5 (.slice (some ⟨g3, 0, none⟩) n3 d3)
  have dd0 := zf.cell 0
  have dd1 := zf.cell 1
  have dd2 := zf.cell 2
  have dd3 := zf.cell 3
  have dd4 := zf.cell 4
  have dd5 := zf.cell 5
  simp at dd0 dd1 dd2 dd3 dd4 dd5
  refine bodyPost_ret (v := .agg #[.int .i64 i1, .int .i64 i2, .int .i64 i3, .slice (some ⟨g1, 0, none⟩) n1 d1, .slice (some ⟨g2, 0, none⟩) n2 d2, .slice (some ⟨g3, 0, none⟩) n3 d3]) (by simp [results, Try.f43, go_sem, dd0, dd1, dd2, dd3, dd4, dd5]) rfl ?_
  have kF := KpT6 HG.out.res (.int .i64 i1) (.int .i64 i2) (.int .i64 i3) (.slice (some ⟨g1, 0, none⟩) n1 d1) (.slice (some ⟨g2, 0, none⟩) n2 d2) (.slice (some ⟨g3, 0, none⟩) n3 d3)
  have u1 := row_kp HQ.out.1 kF (by decide)
  have u2 := row_kp HQ.out.2.1 kF (by decide)
  have u3 := row_kp HQ.out.2.2 kF (by decide)
  refine hp.out _ _ _ _ _ _ _ _ rfl ⟨by rw [H1.out.1]; exact row_zero' u1, rb, by rw [H1.out.2.1]; exact row_zero' u2, by rw [H1.out.2.2]; exact row_zero' u3, ?_⟩ ?_
  · intro m hm
    simp [Value.ownBlock] at hm
    simp only [World.setCell, Array.size_modify]
    omega
  · exact ((((((HG.out.below.setCell (p := ⟨w.heap.size + 1, 0, none⟩) (by simp only; omega) _).setCell (p := ⟨w.heap.size + 1, 1, none⟩) (by simp only; omega) _).setCell (p := ⟨w.heap.size + 1, 2, none⟩) (by simp only; omega) _).setCell (p := ⟨w.heap.size + 1, 3, none⟩) (by simp only; omega) _).setCell (p := ⟨w.heap.size + 1, 4, none⟩) (by simp only; omega) _).setCell (p := ⟨w.heap.size + 1, 5, none⟩) (by simp only; omega) _)
end

section
open Go.RowKit Go.Maps
/-- Where the first one stands. -/
def firstAt (xs : List Int) (x : Int) : Option Nat := xs.findIdx? (fun z => z == x)
theorem firstAt_snoc (xs : List Int) (y x : Int) : firstAt (xs ++ [y]) x = (firstAt xs x).or (if y = x then some xs.length else none) := by
  unfold firstAt
  rw [List.findIdx?_append]
  congr 1
  by_cases h : y = x
  · simp [h, List.findIdx?_cons]
  · simp [h, List.findIdx?_cons]
/-- The map tells of each number where the first one stands. -/
def MapIs (D : DataW Unit) (xs : List Int) : Prop :=
  IsMap D ∧ ∀ x : Int, Maps.has D (.int .i64 x) = (firstAt xs x).isSome ∧ ∀ i, firstAt xs x = some i → D.atKey (.int .i64 x) (.lit (.int .i64 0)) = .lit (.int .i64 (i : Int))
theorem mapIs_nil : MapIs (.map []) [] := ⟨isMap_empty, fun x => ⟨rfl, fun i hi => by simp [firstAt] at hi⟩⟩
theorem mapIs_old {D : DataW Unit} {xs : List Int} (h : MapIs D xs) {y : Int} (hy : Maps.has D (.int .i64 y) = true) : MapIs D (xs ++ [y]) := by
  refine ⟨h.1, fun x => ?_⟩
  obtain ⟨h1, h2⟩ := h.2 x
  rw [firstAt_snoc]
  by_cases e : y = x
  · subst e
    rw [(h.2 y).1] at hy
    obtain ⟨i, hi⟩ := Option.isSome_iff_exists.1 hy
    rw [hi] at h1 ⊢
    exact ⟨h1, fun j hj => h2 j (by rw [hi]; simpa using hj)⟩
  · rw [if_neg e, Option.or_none]
    exact ⟨h1, h2⟩
theorem mapIs_new {D : DataW Unit} {xs : List Int} (h : MapIs D xs) {y : Int} (hy : Maps.has D (.int .i64 y) = false) : MapIs (D.put (.int .i64 y) (.lit (.int .i64 (xs.length : Int)))) (xs ++ [y]) := by
  refine ⟨h.1.put _ _, fun x => ?_⟩
  obtain ⟨h1, h2⟩ := h.2 x
  rw [firstAt_snoc]
  by_cases e : y = x
  · subst e
    rw [(h.2 y).1] at hy
    have hn : firstAt xs y = none := by simpa using hy
    rw [hn, if_pos rfl, has_put_same h.1 (show WideAt.IsKeyLit (.int .i64 y) from trivial), atKey_put_same h.1 (show WideAt.IsKeyLit (.int .i64 y) from trivial)]
    exact ⟨rfl, fun i hi => by simp at hi; rw [hi]⟩
  · rw [if_neg e, Option.or_none, has_put_other (by simp; exact fun h => e h.symm), atKey_put_other (by simp; exact fun h => e h.symm)]
    exact ⟨h1, h2⟩
def inos (rs : List InoR) : List Int := rs.map fun r => r.D.ino
theorem inos_take (rs : List InoR) (k : Nat) (r : InoR) (h : rs[k]? = some r) : inos (rs.take (k + 1)) = inos (rs.take k) ++ [r.D.ino] := by
  unfold inos
  rw [List.take_add_one, h]
  simp
theorem inos_len (rs : List InoR) (k : Nat) (h : k ≤ rs.length) : (inos (rs.take k)).length = k := by simp [inos]; omega
theorem Try.keyInt : Keyed Try.prog 3 := int_keyed Try.underlying3
theorem Try.zeroInt (w : World) : (zeroValue 3).run Try.prog w = .ok (.int .i64 0) w := by kernel_rfl
theorem Try.makeHint (n : Int) (w : World) : (Instr.makeMap 59 (some (.int .i64 n))).run Try.prog w = .ok (.map (some w.heap.size)) (w.alloc (.map #[] 0)) := by
  simp [Instr.makeMap, run_underlying Try.underlying59, asInt, asIntOf, Result.andThen]
/-- What byNumber answers. -/
def ByPost (w : World) (n : Nat) (rs : List InoR) (e : Ending) (w' : World) : Prop :=
  ∃ (cnt : Nat) (D : DataW Unit), e = .returned (.map (some (w.heap.size + 1))) ∧ cnt ≤ n ∧ MapIs D (inos rs) ∧ w'.ownsMap Try.prog 3 (plainElem Try.prog 3) (w.heap.size + 1) cnt D ∧ Below w.heap.size w w'
set_option maxRecDepth 100000 in
set_option maxHeartbeats 1600000 in
theorem byNumber_any (a : Option Addr) (n cap : Nat) (nx : Int) (rs : List InoR) (w : World) (hn : rs.length = n) (hs : n ≤ 4000000) (hwf : ∀ r ∈ rs, (Lit.int .i64 r.D.ino).wf = true) (hr : RdI w a rs) :
    Calls Try.prog 33 #[.agg #[.slice a n cap, .int .i64 nx]] w fun e w' => ByPost w n rs e w' := by
  have hmm := Try.makeHint
  have B0 : Below w.heap.size w (w.alloc (.cells #[.slice a n cap, .int .i64 nx] 26)) := (Below.refl _ w).alloc (Nat.le_refl _) _
  have hs0 : (w.alloc (.cells #[.slice a n cap, .int .i64 nx] 26)).heap.size = w.heap.size + 1 := by simp
  by_cases h0 : n = 0
  · subst h0
    obtain rfl : rs = [] := List.length_eq_zero_iff.1 hn
    have z0 := Blk.new w 26 #[.slice a 0 cap, .int .i64 nx]
    have hown := World.ownsMap_made (H := Unit) (w.alloc (.cells #[.slice a 0 cap, .int .i64 nx] 26)) Try.prog 3 (plainElem Try.prog 3)
    rw [hs0] at hown
    go_enter Try.func33, Try.ntmps33
    go_wp2
    refine wp_loop_rounds 1 ?_; rw [rounds_succ]
    go_wp2
    go_ret
    exact ⟨0, _, rfl, Nat.le_refl _, mapIs_nil, hown, B0.alloc (by simp) _⟩
  · obtain ⟨b, off, rfl, hlt, hc⟩ := hr.lt (by intro h; subst h; simp at hn; omega)
    have hown := World.ownsMap_made (H := Unit) (w.alloc (.cells #[.slice (some ⟨b, off, none⟩) n cap, .int .i64 nx] 26)) Try.prog 3 (plainElem Try.prog 3)
    rw [hs0] at hown
    have hn' : Hid (rs.length = n) := hn
    have HC : Hid _ := hc
    have HW : Hid _ := hwf
    clear hr hn hc hwf
    go_enter Try.func33, Try.ntmps33
    go_wp2
    go_loopw [15] (fun i wr => ∃ (k cnt : Nat) (D : DataW Unit), k ≤ n ∧ i = .int .i64 k ∧ cnt ≤ k ∧ Hid (MapIs D (inos (rs.take k))) ∧ wr.ownsMap Try.prog 3 (plainElem Try.prog 3) (w.heap.size + 1) cnt D ∧ Below w.heap.size w wr) (fun i _ => n - (intOf i).toNat)
    case atStart => exact ⟨0, 0, _, Nat.zero_le _, rfl, Nat.le_refl _, mapIs_nil, hown, B0.alloc (by simp) _⟩
    case round =>
      obtain ⟨k, cnt, D, hk, rfl, hcnt, hM, ho, hB⟩ := hrel
      by_cases hkn : k < n
      · have hki : (k : Int) < (n : Int) := by omega
        obtain ⟨r, hrk⟩ : ∃ r, rs[k]? = some r := ⟨_, List.getElem?_eq_getElem (by rw [hn'.out]; exact hkn)⟩
        obtain ⟨x6, _⟩ := HC.out k r hrk
        have hw1 := HW.out r (List.mem_of_getElem? hrk)
        have hit := inos_take rs k r hrk
        have hil := inos_len rs k (by rw [hn'.out]; exact hk)
        obtain ⟨x0, x1, x2, x3, x4, x5⟩ := x6.keep hB hlt
        generalize r.D.ino = i1 at x0 hw1 hit
        generalize r.D.kind = i2 at x1
        generalize r.D.links = i3 at x2
        generalize r.D.data.length = n1 at x3
        generalize r.D.ents.length = n2 at x4
        generalize r.D.attrs.length = n3 at x5
        have HIT : Hid _ := hit
        have hwz := hB.size
        have hkey : keyOf Try.prog 3 (.int .i64 i1) = some (.int .i64 i1) := keyOf_int_mk Try.underlying3 hw1
        have hwk : (Lit.int .i64 (k : Int)).wf = true := WalkArith.wf_i64 (by omega)
        have hoA := ho.alloc (.cells #[.int .i64 i1, .int .i64 i2, .int .i64 i3, .slice r.a1 n1 r.c1, .slice r.a2 n2 r.c2, .slice r.a3 n3 r.c3] 30)
        have hBA := hB.alloc hwz (.cells #[.int .i64 i1, .int .i64 i2, .int .i64 i3, .slice r.a1 n1 r.c1, .slice r.a2 n2 r.c2, .slice r.a3 n3 r.c3] 30)
        have HO : Hid _ := ho
        clear hit x6 hrk ho
        cases hhas : Maps.has D (.int .i64 i1) with
        | true =>
          have hM' : Hid (MapIs D (inos (rs.take (k + 1)))) := by rw [HIT.out]; exact mapIs_old hM.out hhas
          go_wp2_with (first
            | (at_lookup; refine wpList_lookup_own_ok_int _ rfl _ _ 59 rfl 3 3 .i64 Try.keyInt Try.underlying59 Try.underlying3 (Try.zeroInt _) (w.heap.size + 1) cnt D rfl hoA _ _ rfl hkey ?_; intro c hat hwc; rw [hhas])
            | go_in)
          go_roundw
          case rel => exact ⟨k + 1, cnt, D, by omega, by go_num, by omega, hM', hoA, hBA⟩
          case measure => simp [intOf]; omega
        | false =>
          have hM' : Hid (MapIs (D.put (.int .i64 i1) (.lit (.int .i64 (k : Int)))) (inos (rs.take (k + 1)))) := by
            have := mapIs_new hM.out hhas
            rw [hil] at this
            rw [HIT.out]
            exact this
          go_wp2_with (first
            | (at_lookup; refine wpList_lookup_own_ok_int _ rfl _ _ 59 rfl 3 3 .i64 Try.keyInt Try.underlying59 Try.underlying3 (Try.zeroInt _) (w.heap.size + 1) cnt D rfl hoA _ _ rfl hkey ?_; intro c hat hwc; rw [hhas])
            | (at_mapUpdate; refine wpList_mapUpdate_own _ rfl _ _ _ 59 rfl 3 3 Try.keyInt Try.underlying59 _ (w.heap.size + 1) cnt D rfl hoA (by unfold maxLen; omega) _ _ _ rfl rfl hkey _ [] (plainElem_int Try.underlying3 hwk) ?_; intro w1 hown1 hgrow1)
            | go_in)
          go_roundw
          case rel => exact ⟨k + 1, cnt + 1, _, by omega, by go_num, by omega, hM', hown1, hBA.grown hgrow1 hBA.size (fun j hj => by cases hj; omega)⟩
          case measure => simp [intOf]; omega
      · have hki : ¬ (k : Int) < (n : Int) := by omega
        have hM' := hM.out
        rw [List.take_of_length_le (by rw [hn'.out]; omega)] at hM'
        have HM' : Hid _ := hM'
        clear hM'
        go_wp2
        go_ret
        exact ⟨cnt, D, rfl, by omega, HM'.out, ho, hB⟩
end

section
open Go.RowKit
theorem inos_cnt (rs : List InoR) : (inos rs).length = rs.length := by simp [inos]
theorem firstAt_in {rs : List InoR} {x : Int} {p : Nat} (h : firstAt (inos rs) x = some p) : p < rs.length := by
  unfold firstAt at h
  have := (List.findIdx?_eq_some_iff_getElem.1 h).1
  rw [inos_cnt] at this
  exact this
theorem firstAt_is {xs : List Int} {x : Int} {k : Nat} (h : ∀ j, j < k → xs[j]? ≠ some x) (hk : xs[k]? = some x) : firstAt xs x = some k := by
  unfold firstAt
  obtain ⟨hl, he⟩ := List.getElem?_eq_some_iff.1 hk
  refine List.findIdx?_eq_some_iff_getElem.2 ⟨hl, by simp [he], fun j hj => ?_⟩
  have := h j hj
  rw [List.getElem?_eq_getElem (by omega)] at this
  simpa using this
theorem firstAt_no {xs : List Int} {x : Int} (h : ∀ j, j < xs.length → xs[j]? ≠ some x) : firstAt xs x = none := by
  unfold firstAt
  rw [List.findIdx?_eq_none_iff]
  intro y hy
  obtain ⟨j, hj, rfl⟩ := List.getElem_of_mem hy
  have := h j hj
  rw [List.getElem?_eq_getElem hj] at this
  simpa using this
/-- The place of the first inode of this number; -1. -/
def atN (rs : List InoR) (x : Int) : Int := match firstAt (inos rs) x with | some p => (p : Int) | none => -1
theorem inos_is {rs : List InoR} {k : Nat} {r : InoR} (h : rs[k]? = some r) : (inos rs)[k]? = some r.D.ino := by simp [inos, h]
/-- The inode that stands there, and whether one does. -/
def atD (rs : List InoR) (x : Int) : InoD := match firstAt (inos rs) x with | some p => (rs.getD p inoZ).D | none => inoZ.D
def atB (rs : List InoR) (x : Int) : Bool := (firstAt (inos rs) x).isSome
/-- What both InodeAt functions answer. -/
def AtPost (w : World) (rs : List InoR) (x : Int) (e : Ending) (w' : World) : Prop :=
  ∃ (b1 : Option Addr) (d1 : Nat) (b2 : Option Addr) (d2 : Nat) (b3 : Option Addr) (d3 : Nat), e = .returned (.tuple #[.agg #[.int .i64 (atD rs x).ino, .int .i64 (atD rs x).kind, .int .i64 (atD rs x).links, .slice b1 (atD rs x).data.length d1, .slice b2 (atD rs x).ents.length d2, .slice b3 (atD rs x).attrs.length d3], .bool (atB rs x)]) ∧
    InoG w' w.heap.size w'.heap.size (atD rs x) (.slice b1 (atD rs x).data.length d1) (.slice b2 (atD rs x).ents.length d2) (.slice b3 (atD rs x).attrs.length d3) ∧ Below w.heap.size w w'
set_option maxRecDepth 100000 in
set_option maxHeartbeats 2000000 in
theorem l4At_any (a : Option Addr) (n cap : Nat) (nx x : Int) (rs : List InoR) (w : World) (hn : rs.length = n) (hs : n ≤ 4000000) (hr : RdI w a rs) :
    Calls Try.prog 42 #[.agg #[.slice a n cap, .int .i64 nx], .int .i64 x] w fun e w' => e = .returned (.int .i64 (atN rs x)) ∧ Below w.heap.size w w' := by
  have B0 : Below w.heap.size w (w.alloc (.cells #[.slice a n cap, .int .i64 nx] 26)) := (Below.refl _ w).alloc (Nat.le_refl _) _
  have HB : Hid _ := B0
  have HR : Hid _ := hr.keep B0
  have hn' : Hid (rs.length = n) := hn
  have hR : Hid (∀ (k : Nat) (r : InoR), (∀ j, j < k → (inos rs)[j]? ≠ some x) → rs[k]? = some r → r.D.ino = x → (k : Int) = atN rs x) := by
    intro k r h hk he
    unfold atN
    rw [firstAt_is h (by rw [inos_is hk, he])]
  have hE : Hid ((∀ j, j < n → (inos rs)[j]? ≠ some x) → (-1 : Int) = atN rs x) := by
    intro h
    unfold atN
    rw [firstAt_no (fun j hj => h j (by rw [inos_cnt, hn] at hj; exact hj))]
  generalize atN rs x = R at hR hE ⊢
  clear hr hn B0
  go_enter Try.func42, Try.ntmps42
  go_wp2
  go_loop [5] (fun i => ∃ k : Nat, k ≤ n ∧ i = .int .i64 k ∧ Hid (∀ j, j < k → (inos rs)[j]? ≠ some x)) (fun i => n - (intOf i).toNat)
  case atStart => exact ⟨0, Nat.zero_le _, rfl, fun j hj => by omega⟩
  case round =>
    obtain ⟨k, hk, rfl, hall⟩ := hrel
    by_cases hkn : k < n
    · have hki : (k : Int) < (n : Int) := by omega
      obtain ⟨r, hrk⟩ : ∃ r, rs[k]? = some r := ⟨_, List.getElem?_eq_getElem (by rw [hn'.out]; exact hkn)⟩
      obtain ⟨b, off, rfl, hlt, hc⟩ := RdI.lt HR.out (by intro h; have := hn'.out; rw [h] at this; simp at this; omega)
      have x0 := (hc k r hrk).1.c0
      have hyes : Hid (r.D.ino = x → (k : Int) = R) := fun he => hR.out k r hall.out hrk he
      have hno : Hid (r.D.ino ≠ x → ∀ j, j < k + 1 → (inos rs)[j]? ≠ some x) := by
        intro he j hj
        rcases (show j < k ∨ j = k by omega) with h | rfl
        · exact hall.out j h
        · rw [inos_is hrk]
          simpa using he
      generalize r.D.ino = i1 at x0 hyes hno
      clear hc hrk hall hR hE HR
      by_cases he : i1 = x
      · have hb : (i1 == x) = true := by simp [he]
        have hend : Hid ((k : Int) = R) := hyes.out he
        subst he
        clear hyes hno
        go_wp2
        go_ret
        exact ⟨ret_int hend.out, HB.out⟩
      · have hb : (i1 == x) = false := by simp [he]
        have hnx : Hid _ := hno.out he
        clear hyes hno
        go_wp2
        go_round
        case rel => exact ⟨k + 1, by omega, by go_num, hnx⟩
        case measure => simp [intOf]; omega
    · have hki : ¬ (k : Int) < (n : Int) := by omega
      have hend : Hid ((-1 : Int) = R) := hE.out (fun j hj => hall.out j (by omega))
      clear hR hE HR hall
      go_wp2
      go_ret
      exact ⟨ret_int hend.out, HB.out⟩
end
end Go.Proofs.Ytgcmpimckpnemaa
