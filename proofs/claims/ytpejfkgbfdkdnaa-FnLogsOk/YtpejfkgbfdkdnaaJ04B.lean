/-
  Joined: El, ChM, EqCh.
-/
import Derived.Test.YtpejfkgbfdkdnaaJ03B
namespace Go.Proofs.Ytpejfkgbfdkdnaa
section
open Go.RowKit
/-- How an element of a row is laid into cells. -/
structure El (α : Type) where
  k : Nat
  pos : 0 < k
  en : α → List Value
  len : ∀ r, (en r).length = k
def El.xv {α : Type} (E : El α) (rs : List α) : List Value := rs.flatMap E.en
theorem El.xv_cons {α : Type} (E : El α) (r : α) (rs : List α) : E.xv (r :: rs) = E.en r ++ E.xv rs := rfl
theorem El.xv_append {α : Type} (E : El α) (rs ts : List α) : E.xv (rs ++ ts) = E.xv rs ++ E.xv ts := by simp [El.xv]
theorem El.xv_length {α : Type} (E : El α) (rs : List α) : (E.xv rs).length = rs.length * E.k := by
  induction rs with
  | nil => simp [El.xv]
  | cons r rs ih => rw [E.xv_cons, List.length_append, ih, E.len, List.length_cons, Nat.add_mul, Nat.one_mul, Nat.add_comm]
theorem El.xv_at {α : Type} (E : El α) (rs : List α) (i j : Nat) (r : α) (h : rs[i]? = some r) (hj : j < E.k) : (E.xv rs)[i * E.k + j]? = (E.en r)[j]? := by
  induction rs generalizing i with
  | nil => simp at h
  | cons q rs ih =>
    rw [E.xv_cons]
    have hl := E.len q
    cases i with
    | zero =>
      simp at h
      subst h
      rw [List.getElem?_append_left (by rw [hl]; simpa using hj), Nat.zero_mul, Nat.zero_add]
    | succ i =>
      have e : (i + 1) * E.k + j = E.k + (i * E.k + j) := by rw [Nat.add_mul, Nat.one_mul]; omega
      rw [List.getElem?_append_right (by rw [hl, e]; omega), hl, e, Nat.add_sub_cancel_left]
      exact ih i (by simpa using h)
theorem El.xv_set {α : Type} (E : El α) (rs : List α) (i j : Nat) (r r' : α) (x : Value) (h : rs[i]? = some r) (hj : j < E.k) (he : E.en r' = (E.en r).set j x) : (E.xv rs).set (i * E.k + j) x = E.xv (rs.set i r') := by
  induction rs generalizing i with
  | nil => simp at h
  | cons q rs ih =>
    have hl := E.len q
    cases i with
    | zero =>
      simp at h
      subst h
      rw [E.xv_cons, List.set_cons_zero, E.xv_cons, he, Nat.zero_mul, Nat.zero_add, List.set_append_left _ _ (by rw [hl]; exact hj)]
    | succ i =>
      have e : (i + 1) * E.k + j = E.k + (i * E.k + j) := by rw [Nat.add_mul, Nat.one_mul]; omega
      rw [E.xv_cons, List.set_cons_succ, E.xv_cons, List.set_append_right _ _ (by rw [hl, e]; omega), hl, e, Nat.add_sub_cancel_left, ih i (by simpa using h)]
/-- The elements rs can be read from the address a on; 'rd' is asked of each. -/
def RdE {α : Type} (E : El α) (rd : α → Prop) (w : World) (a : Option Addr) (rs : List α) : Prop :=
  rs = [] ∨ ∃ b off, a = some ⟨b, off, none⟩ ∧ ∀ i r, rs[i]? = some r → (∀ j, j < E.k → w.cell? ⟨b, off + i * E.k + j, none⟩ = (E.en r)[j]?) ∧ rd r
theorem RdE.lt {α : Type} {E : El α} {rd : α → Prop} {w : World} {a : Option Addr} {rs : List α} (h : RdE E rd w a rs) (hz : rs ≠ []) : ∃ b off, a = some ⟨b, off, none⟩ ∧ b < w.heap.size ∧ ∀ i r, rs[i]? = some r → (∀ j, j < E.k → w.cell? ⟨b, off + i * E.k + j, none⟩ = (E.en r)[j]?) ∧ rd r := by
  rcases h with h | ⟨b, off, rfl, hc⟩
  · exact absurd h hz
  · obtain ⟨r, l, rfl⟩ := List.exists_cons_of_ne_nil hz
    have := (hc 0 r rfl).1 0 E.pos
    have hl := E.len r
    have hp := E.pos
    rw [List.getElem?_eq_getElem (by omega)] at this
    exact ⟨b, off, rfl, World.block_lt_of_cell? w _ this, hc⟩
theorem RdE.mono {α : Type} {E : El α} {rd rd' : α → Prop} {w w' : World} {a : Option Addr} {rs : List α} (h : RdE E rd w a rs) (hb : Below w.heap.size w w') (hr : ∀ r, r ∈ rs → rd r → rd' r) : RdE E rd' w' a rs := by
  by_cases hz : rs = []
  · exact .inl hz
  · obtain ⟨b, off, rfl, hlt, hc⟩ := h.lt hz
    exact .inr ⟨b, off, rfl, fun i r hi => ⟨fun j hj => (hb.cell (p := ⟨b, off + i * E.k + j, none⟩) hlt).trans ((hc i r hi).1 j hj), hr r (List.mem_of_getElem? hi) (hc i r hi).2⟩⟩
theorem RdE.each {α : Type} {E : El α} {rd : α → Prop} {w : World} {a : Option Addr} {rs : List α} (h : RdE E rd w a rs) : ∀ r ∈ rs, rd r := fun r hr => by
  rcases h with rfl | ⟨b, off, rfl, hc⟩
  · simp at hr
  · obtain ⟨i, hi⟩ := List.mem_iff_getElem?.1 hr
    exact (hc i r hi).2
/-- v is a row of the call's own (or nil) of these elements. -/
def OwnE {α : Type} (E : El α) (ty : TypeId) (w : World) (v : Value) (n : Nat) (rs : List α) : Prop := w.ownsRow 0 ty E.k v n (E.xv rs)
theorem OwnE.len {α : Type} {E : El α} {ty : TypeId} {w : World} {v : Value} {n : Nat} {rs : List α} (h : OwnE E ty w v n rs) : rs.length = n := by
  have := h.1
  rw [E.xv_length] at this
  exact Nat.eq_of_mul_eq_mul_right E.pos this
theorem OwnE.cases {α : Type} {E : El α} {ty : TypeId} {w : World} {v : Value} {n : Nat} {rs : List α} (h : OwnE E ty w v n rs) : (v = .slice none 0 0 ∧ n = 0 ∧ rs = []) ∨ ∃ g c, v = .slice (some ⟨g, 0, none⟩) n c ∧ g < w.heap.size := by
  have hl := h.len
  rcases h.2 with ⟨rfl, rfl⟩ | ⟨g, cap, cur, rfl, _, hg, _⟩
  · exact .inl ⟨rfl, rfl, List.length_eq_zero_iff.1 hl⟩
  · exact .inr ⟨g, cap, rfl, (Array.getElem?_eq_some_iff.1 hg).1⟩
theorem OwnE.block {α : Type} {E : El α} {ty : TypeId} {w w' : World} {v : Value} {n : Nat} {rs : List α} (h : OwnE E ty w v n rs) (hb : ∀ g, v.ownBlock = some g → w'.heap[g]? = w.heap[g]?) : OwnE E ty w' v n rs := by
  refine ⟨h.1, ?_⟩
  rcases h.2 with h' | ⟨g', cap, cur, rfl, hb', hgg, rest⟩
  · exact .inl h'
  · exact .inr ⟨g', cap, cur, rfl, hb', (hb g' rfl).trans hgg, rest⟩
theorem OwnE.lt {α : Type} {E : El α} {ty : TypeId} {w : World} {v : Value} {n g : Nat} {rs : List α} (h : OwnE E ty w v n rs) (hg : v.ownBlock = some g) : g < w.heap.size := by
  rcases h.2 with ⟨rfl, _⟩ | ⟨g', cap, cur, rfl, _, hgg, _⟩
  · simp [Value.ownBlock] at hg
  · simp [Value.ownBlock] at hg
    subst hg
    exact (Array.getElem?_eq_some_iff.1 hgg).1
theorem OwnE.keep {α : Type} {E : El α} {ty : TypeId} {w w' : World} {v : Value} {n : Nat} {rs : List α} (h : OwnE E ty w v n rs) (hb : Below w.heap.size w w') : OwnE E ty w' v n rs := h.block fun g hg => hb.block g (h.lt hg)
theorem OwnE.frozen {α : Type} {E : El α} {ty : TypeId} {w : World} {g c n : Nat} {rs : List α} (h : OwnE E ty w (.slice (some ⟨g, 0, none⟩) n c) n rs) (i : Nat) : w.frozen? ⟨g, i, none⟩ = false := World.ownsRow.frozenAt h i
theorem OwnE.cell {α : Type} {E : El α} {ty : TypeId} {w : World} {g c n : Nat} {rs : List α} (h : OwnE E ty w (.slice (some ⟨g, 0, none⟩) n c) n rs) (i j : Nat) (r : α) (hi : rs[i]? = some r) (hj : j < E.k) : w.cell? ⟨g, i * E.k + j, none⟩ = (E.en r)[j]? := by
  have h1 := E.xv_at rs i j r hi hj
  rw [List.getElem?_eq_getElem (show j < (E.en r).length by rw [E.len]; exact hj)] at h1 ⊢
  have h2 := World.ownsRow.cells h (g := g) rfl (i * E.k + j) _ h1
  rw [add_at] at h2
  exact h2
theorem OwnE.set {α : Type} {E : El α} {ty : TypeId} {w : World} {g c n : Nat} {rs : List α} (h : OwnE E ty w (.slice (some ⟨g, 0, none⟩) n c) n rs) (i j : Nat) (r r' : α) (x : Value) (hi : rs[i]? = some r) (hj : j < E.k) (he : E.en r' = (E.en r).set j x) : OwnE E ty (w.setCell ⟨g, i * E.k + j, none⟩ x) (.slice (some ⟨g, 0, none⟩) n c) n (rs.set i r') := by
  have := (World.ownsRow.stored h (i * E.k + j) x).1
  rw [E.xv_set rs i j r r' x hi hj he] at this
  exact this
theorem OwnE.rd {α : Type} {E : El α} {ty : TypeId} {w : World} {v : Value} {n : Nat} {rs : List α} {rd : α → Prop} (h : OwnE E ty w v n rs) (hr : ∀ r ∈ rs, rd r) : ∃ a c, v = .slice a n c ∧ RdE E rd w a rs := by
  rcases h.cases with ⟨rfl, rfl, rfl⟩ | ⟨g, c, rfl, _⟩
  · exact ⟨none, 0, rfl, .inl rfl⟩
  · refine ⟨_, c, rfl, .inr ⟨g, 0, rfl, fun i r hi => ⟨fun j hj => ?_, hr r (List.mem_of_getElem? hi)⟩⟩⟩
    rw [Nat.zero_add]
    exact h.cell i j r hi hj
theorem ownE_nil {α : Type} (E : El α) (ty : TypeId) (w : World) : OwnE E ty w (.slice none 0 0) 0 [] := ⟨by simp [El.xv], .inl ⟨rfl, rfl⟩⟩
/-- All blocks but those of F are as they were. -/
structure Sv (F : List Nat) (w w' : World) : Prop where
  os : w'.os = w.os
  tape : w'.tape = w.tape
  output : w'.output = w.output
  size : w.heap.size ≤ w'.heap.size
  block : ∀ k, k < w.heap.size → k ∉ F → w'.heap[k]? = w.heap[k]?
theorem Sv.refl (F : List Nat) (w : World) : Sv F w w := ⟨rfl, rfl, rfl, Nat.le_refl _, fun _ _ _ => rfl⟩
theorem Sv.trans {F : List Nat} {a b c : World} (h : Sv F a b) (k : Sv F b c) : Sv F a c :=
  ⟨k.os.trans h.os, k.tape.trans h.tape, k.output.trans h.output, Nat.le_trans h.size k.size, fun i hi ho => (k.block i (Nat.lt_of_lt_of_le hi h.size) ho).trans (h.block i hi ho)⟩
theorem Sv.wider {F F' : List Nat} {a b : World} (h : Sv F a b) (h1 : ∀ g ∈ F, g ∈ F') : Sv F' a b :=
  ⟨h.os, h.tape, h.output, h.size, fun i hi ho => h.block i hi (fun hf => ho (h1 i hf))⟩
theorem Below.sv {a b : World} (h : Below a.heap.size a b) (F : List Nat) : Sv F a b := ⟨h.os, h.tape, h.output, h.size, fun k hk _ => h.block k hk⟩
theorem Sv.gr {F : List Nat} {a b : World} {r : Option Nat} (h : a.grownBy b r) (hr : ∀ g, r = some g → g ∈ F) : Sv F a b :=
  ⟨h.os, h.tape, h.output, h.size, fun k hk ho => h.block k hk (fun e => ho (hr k e.symm))⟩
theorem Below.svs {H : Nat} {F : List Nat} {w0 w w' : World} (h : Below H w0 w) (k : Sv F w w') (hF : ∀ g ∈ F, H ≤ g) (hH : H ≤ w0.heap.size) : Below H w0 w' :=
  ⟨k.os.trans h.os, k.tape.trans h.tape, k.output.trans h.output, Nat.le_trans h.size k.size, fun i hi => (k.block i (Nat.lt_of_lt_of_le hi (Nat.le_trans hH h.size)) (fun hf => by have := hF i hf; omega)).trans (h.block i hi)⟩
theorem Blk.svs {W W' : World} {b : Nat} {F : List Nat} {t : TypeId} {vs : Array Value} (h : Blk W b t vs) (k : Sv F W W') (hb : b ∉ F) : Blk W' b t vs := (k.block b h.lt hb).trans h
end

section
open Go.RowKit
/-- What a page says. -/
structure PgD where
  used : Bool
  zs : List Int
/-- What a block says. -/
structure BkD where
  ps : List PgD
  wear : Int
  bad : Bool
structure PgR where
  used : Bool
  a : Option Addr
  cap : Nat
  zs : List Int
def PgR.D (p : PgR) : PgD := ⟨p.used, p.zs⟩
def PgR.v (p : PgR) : Value := .slice p.a p.zs.length p.cap
def pgE : El PgR := ⟨2, by omega, fun p => [.bool p.used, .slice p.a p.zs.length p.cap], fun _ => rfl⟩
def RdPs (w : World) (a : Option Addr) (ps : List PgR) : Prop := RdE pgE (fun p => Rd w p.a p.zs) w a ps
structure BkR where
  a : Option Addr
  cap : Nat
  ps : List PgR
  wear : Int
  bad : Bool
def BkR.D (b : BkR) : BkD := ⟨b.ps.map PgR.D, b.wear, b.bad⟩
def BkR.v (b : BkR) : Value := .slice b.a b.ps.length b.cap
def bkE : El BkR := ⟨3, by omega, fun b => [.slice b.a b.ps.length b.cap, .int .i64 b.wear, .bool b.bad], fun _ => rfl⟩
def RdBs (w : World) (a : Option Addr) (bs : List BkR) : Prop := RdE bkE (fun b => RdPs w b.a b.ps) w a bs
theorem RdPs.keep {w w' : World} {a : Option Addr} {ps : List PgR} (h : RdPs w a ps) (hb : Below w.heap.size w w') : RdPs w' a ps := RdE.mono h hb fun _ _ hr => Rd.keep hr hb
theorem RdBs.keep {w w' : World} {a : Option Addr} {bs : List BkR} (h : RdBs w a bs) (hb : Below w.heap.size w w') : RdBs w' a bs := RdE.mono h hb fun _ _ hr => RdPs.keep hr hb
/-- The cells of a page. -/
structure TwoP (w : World) (b off : Nat) (p : PgR) : Prop where
  c0 : w.cell? ⟨b, off, none⟩ = some (.bool p.used)
  c1 : w.cell? ⟨b, off + 1, none⟩ = some (.slice p.a p.zs.length p.cap)
theorem TwoP.keep {w w' : World} {b off B : Nat} {p : PgR} (h : TwoP w b off p) (hb : Below B w w') (hlt : b < B) : TwoP w' b off p := ⟨(hb.cell hlt).trans h.c0, (hb.cell hlt).trans h.c1⟩
/-- The cells of a block. -/
structure ThreeB (w : World) (b off : Nat) (r : BkR) : Prop where
  c0 : w.cell? ⟨b, off, none⟩ = some (.slice r.a r.ps.length r.cap)
  c1 : w.cell? ⟨b, off + 1, none⟩ = some (.int .i64 r.wear)
  c2 : w.cell? ⟨b, off + 2, none⟩ = some (.bool r.bad)
theorem ThreeB.keep {w w' : World} {b off B : Nat} {r : BkR} (h : ThreeB w b off r) (hb : Below B w w') (hlt : b < B) : ThreeB w' b off r := ⟨(hb.cell hlt).trans h.c0, (hb.cell hlt).trans h.c1, (hb.cell hlt).trans h.c2⟩
theorem RdPs.lt {w : World} {a : Option Addr} {ps : List PgR} (h : RdPs w a ps) (hz : ps ≠ []) : ∃ b off, a = some ⟨b, off, none⟩ ∧ b < w.heap.size ∧ ∀ i p, ps[i]? = some p → TwoP w b (off + i * 2) p ∧ Rd w p.a p.zs := by
  obtain ⟨b, off, h1, h2, h3⟩ := RdE.lt h hz
  exact ⟨b, off, h1, h2, fun i p hi => ⟨⟨(h3 i p hi).1 0 (by decide), (h3 i p hi).1 1 (by decide)⟩, (h3 i p hi).2⟩⟩
theorem RdBs.lt {w : World} {a : Option Addr} {bs : List BkR} (h : RdBs w a bs) (hz : bs ≠ []) : ∃ b off, a = some ⟨b, off, none⟩ ∧ b < w.heap.size ∧ ∀ i r, bs[i]? = some r → ThreeB w b (off + i * 3) r ∧ RdPs w r.a r.ps := by
  obtain ⟨b, off, h1, h2, h3⟩ := RdE.lt h hz
  exact ⟨b, off, h1, h2, fun i p hi => ⟨⟨(h3 i p hi).1 0 (by decide), (h3 i p hi).1 1 (by decide), (h3 i p hi).1 2 (by decide)⟩, (h3 i p hi).2⟩⟩
/-- How much there is: pages and bytes of a list of pages; of blocks with all of theirs. -/
def totP (ps : List PgD) : Nat := (ps.map fun p => 1 + p.zs.length).sum
def totB (bs : List BkD) : Nat := (bs.map fun b => 1 + totP b.ps).sum
theorem totP_cons (p : PgD) (ps : List PgD) : totP (p :: ps) = 1 + p.zs.length + totP ps := by simp [totP]
theorem totB_cons (b : BkD) (bs : List BkD) : totB (b :: bs) = 1 + totP b.ps + totB bs := by simp [totB]
theorem totB_append (ps qs : List BkD) : totB (ps ++ qs) = totB ps + totB qs := by simp [totB]
theorem totP_mem {p : PgD} {ps : List PgD} (h : p ∈ ps) : 1 + p.zs.length ≤ totP ps := by
  induction ps with
  | nil => simp at h
  | cons q ps ih =>
    rw [totP_cons]
    rcases List.mem_cons.1 h with rfl | h
    · omega
    · have := ih h; omega
theorem totB_mem {b : BkD} {bs : List BkD} (h : b ∈ bs) : 1 + totP b.ps ≤ totB bs := by
  induction bs with
  | nil => simp at h
  | cons q bs ih =>
    rw [totB_cons]
    rcases List.mem_cons.1 h with rfl | h
    · omega
    · have := ih h; omega
theorem totP_len (ps : List PgD) : ps.length ≤ totP ps := by
  induction ps with
  | nil => simp [totP]
  | cons q ps ih => rw [totP_cons]; simp only [List.length_cons]; omega
theorem totB_len (bs : List BkD) : bs.length ≤ totB bs := by
  induction bs with
  | nil => simp [totB]
  | cons q ps ih => rw [totB_cons]; simp only [List.length_cons]; omega
theorem totB_at {bs : List BkR} {i : Nat} {b : BkR} (h : bs[i]? = some b) : 1 + totP (b.ps.map PgR.D) ≤ totB (bs.map BkR.D) := totB_mem (b := b.D) (List.mem_map_of_mem (List.mem_of_getElem? h))
theorem totP_at {ps : List PgR} {i : Nat} {p : PgR} (h : ps[i]? = some p) : 1 + p.zs.length ≤ totP (ps.map PgR.D) := totP_mem (p := p.D) (List.mem_map_of_mem (List.mem_of_getElem? h))
/-- The bytes of a page, of the call's own (or nil). -/
def PgR.own (w : World) (p : PgR) : Prop := RowB w p.v p.zs.length p.zs ∧ p.zs.length ≤ p.cap
/-- The pages of a block, of the call's own, with all of theirs. -/
def OwnPs (w : World) (v : Value) (ps : List PgR) : Prop := OwnE pgE 74 w v ps.length ps ∧ ∀ p ∈ ps, p.own w
def OwnBs (w : World) (v : Value) (bs : List BkR) : Prop := OwnE bkE 39 w v bs.length bs ∧ ∀ b ∈ bs, OwnPs w b.v b.ps
/-- The blocks of memory that it takes. -/
def fpPs (v : Value) (ps : List PgR) : List Nat := v.ownBlock.toList ++ ps.flatMap fun p => p.v.ownBlock.toList
def fpBs (v : Value) (bs : List BkR) : List Nat := v.ownBlock.toList ++ bs.flatMap fun b => fpPs b.v b.ps
theorem fpPs_row {v : Value} {ps : List PgR} {g : Nat} (h : v.ownBlock = some g) : g ∈ fpPs v ps := by simp [fpPs, h]
theorem fpPs_pg {v : Value} {ps : List PgR} {p : PgR} {g : Nat} (hp : p ∈ ps) (h : p.v.ownBlock = some g) : g ∈ fpPs v ps := List.mem_append_right _ (List.mem_flatMap.2 ⟨p, hp, by simp [h]⟩)
theorem fpBs_row {v : Value} {bs : List BkR} {g : Nat} (h : v.ownBlock = some g) : g ∈ fpBs v bs := by simp [fpBs, h]
theorem fpBs_bk {v : Value} {bs : List BkR} {b : BkR} {g : Nat} (hp : b ∈ bs) (h : g ∈ fpPs b.v b.ps) : g ∈ fpBs v bs := List.mem_append_right _ (List.mem_flatMap.2 ⟨b, hp, h⟩)
theorem PgR.own.lt {w : World} {p : PgR} {g : Nat} (h : p.own w) (hg : p.v.ownBlock = some g) : g < w.heap.size := (RowB.at_ h.1 hg).1
theorem PgR.own.block {w w' : World} {p : PgR} (h : p.own w) (hb : ∀ g, p.v.ownBlock = some g → w'.heap[g]? = w.heap[g]?) : p.own w' := ⟨RowB.block h.1 hb, h.2⟩
theorem OwnPs.block {w w' : World} {v : Value} {ps : List PgR} (h : OwnPs w v ps) (hb : ∀ g, g ∈ fpPs v ps → w'.heap[g]? = w.heap[g]?) : OwnPs w' v ps :=
  ⟨h.1.block fun g hg => hb g (fpPs_row hg), fun p hp => (h.2 p hp).block fun g hg => hb g (fpPs_pg hp hg)⟩
theorem OwnBs.block {w w' : World} {v : Value} {bs : List BkR} (h : OwnBs w v bs) (hb : ∀ g, g ∈ fpBs v bs → w'.heap[g]? = w.heap[g]?) : OwnBs w' v bs :=
  ⟨h.1.block fun g hg => hb g (fpBs_row hg), fun b hp => (h.2 b hp).block fun g hg => hb g (fpBs_bk hp hg)⟩
theorem OwnPs.lt {w : World} {v : Value} {ps : List PgR} (h : OwnPs w v ps) : ∀ g ∈ fpPs v ps, g < w.heap.size := fun g hg => by
  rcases List.mem_append.1 hg with h1 | h1
  · exact h.1.lt (by simpa using h1)
  · obtain ⟨p, hp, h2⟩ := List.mem_flatMap.1 h1
    exact (h.2 p hp).lt (by simpa using h2)
theorem OwnBs.lt {w : World} {v : Value} {bs : List BkR} (h : OwnBs w v bs) : ∀ g ∈ fpBs v bs, g < w.heap.size := fun g hg => by
  rcases List.mem_append.1 hg with h1 | h1
  · exact h.1.lt (by simpa using h1)
  · obtain ⟨b, hp, h2⟩ := List.mem_flatMap.1 h1
    exact (h.2 b hp).lt g h2
theorem OwnPs.keep {w w' : World} {v : Value} {ps : List PgR} (h : OwnPs w v ps) (hb : Below w.heap.size w w') : OwnPs w' v ps := h.block fun g hg => hb.block g (h.lt g hg)
theorem OwnBs.keep {w w' : World} {v : Value} {bs : List BkR} (h : OwnBs w v bs) (hb : Below w.heap.size w w') : OwnBs w' v bs := h.block fun g hg => hb.block g (h.lt g hg)
theorem OwnPs.svs {w w' : World} {v : Value} {ps : List PgR} {F : List Nat} (h : OwnPs w v ps) (k : Sv F w w') (hd : ∀ g ∈ fpPs v ps, g ∉ F) : OwnPs w' v ps := h.block fun g hg => k.block g (h.lt g hg) (hd g hg)
theorem OwnBs.svs {w w' : World} {v : Value} {bs : List BkR} {F : List Nat} (h : OwnBs w v bs) (k : Sv F w w') (hd : ∀ g ∈ fpBs v bs, g ∉ F) : OwnBs w' v bs := h.block fun g hg => k.block g (h.lt g hg) (hd g hg)
theorem PgR.own.rd {w : World} {p : PgR} (h : p.own w) : Rd w p.a p.zs := by
  obtain ⟨a, c, e, r⟩ := RowB.form h.1
  unfold PgR.v at e
  simp only [Value.slice.injEq] at e
  rw [e.1]; exact r
theorem OwnPs.rd {w : World} {a : Option Addr} {c n : Nat} {ps : List PgR} (h : OwnPs w (.slice a n c) ps) : RdPs w a ps := by
  obtain ⟨a', c', e, r⟩ := OwnE.rd (rd := fun p => Rd w p.a p.zs) h.1 (fun p hp => (h.2 p hp).rd)
  simp only [Value.slice.injEq] at e
  rw [e.1]; exact r
theorem OwnBs.rd {w : World} {a : Option Addr} {c n : Nat} {bs : List BkR} (h : OwnBs w (.slice a n c) bs) : RdBs w a bs := by
  obtain ⟨a', c', e, r⟩ := OwnE.rd (rd := fun b => RdPs w b.a b.ps) h.1 (fun p hp => (h.2 p hp).rd)
  simp only [Value.slice.injEq] at e
  rw [e.1]; exact r
end

section
open Go.RowKit
theorem same_at {α δ : Type} {f : α → δ} {ps qs : List α} (h : qs.map f = ps.map f) {k : Nat} {r : α} (hr : ps[k]? = some r) : ∃ t, qs[k]? = some t ∧ f t = f r := by
  have := congrArg (fun l => l[k]?) h
  simp only [List.getElem?_map, hr, Option.map_some] at this
  cases ht : qs[k]? with
  | none => rw [ht] at this; simp at this
  | some t => rw [ht] at this; simp at this; exact ⟨t, rfl, this⟩
end
end Go.Proofs.Ytpejfkgbfdkdnaa
