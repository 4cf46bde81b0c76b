/-
  Joined: FullM, TreeDa, Draw, Write6, GrownM, AsI.
-/
import Derived.Test.YtbjfihabkpianaaGreatDoorJ23E
import Derived.KernelRfl
import Derived.Laws.BitsLemmas
import Derived.LaidEql
import Derived.Stop.Asserts
import Derived.RowKitTokens
namespace Go.Proofs.YtbjfihabkpianaaGreatDoor
section
open Go.RowKit
/-- The new table. -/
def tab1 : List InoD := [⟨1, 2, 0, [], [], []⟩]
/-- An inode that is small, as a test. -/
def smallB (D : InoD) : Bool := ((decide (D.data.length ≤ 1048576) && decide (D.ents.length ≤ 1048576)) && decide (D.attrs.length ≤ 1048576)) && ((D.ents.all fun q => decide (q.1.size ≤ 1048576)) && (D.attrs.all fun q => decide (q.1.size ≤ 1048576) && decide (q.2.size ≤ 1048576)))
theorem smallB_ok {D : InoD} (h : smallB D = true) : InoSmall D := by
  unfold smallB at h
  simp only [Bool.and_eq_true, decide_eq_true_eq, List.all_eq_true] at h
  exact ⟨h.1.1.1, h.1.1.2, h.1.2, fun q hq => h.2.1 q hq, fun q hq => h.2.2 q hq⟩
/-- A tree of small inodes, as a test. -/
def goodB (nx : Int) (ds : List InoD) : Bool := treeD nx ds && ds.all smallB
theorem goodB_small {nx : Int} {ds : List InoD} (h : goodB nx ds = true) : (∀ D ∈ ds, InoSmall D) ∧ ds.length ≤ 1048576 ∧ treeD nx ds = true := by
  unfold goodB at h
  simp only [Bool.and_eq_true, List.all_eq_true] at h
  have h2 := (tabD_ok (treeD_parts h.1).1).2.1
  exact ⟨fun D hD => smallB_ok (h.2 D hD), by omega, h.1⟩
theorem range_all {n : Nat} {p : Nat → Bool} (h : (List.range n).all p = true) {k : Nat} (hk : k < n) : p k = true := List.all_eq_true.1 h k (List.mem_range.2 hk)
end

section
open Go.RowKit
/-- An inode without its bytes. -/
def sk (D : InoD) : InoD := { D with data := [] }
theorem look_sk (ds : List InoD) (x : Int) : look (ds.map sk) x = (look ds x).map sk := by
  unfold look
  induction ds with
  | nil => rfl
  | cons D ds ih =>
    rw [List.map_cons, List.find?_cons, List.find?_cons]
    by_cases h : D.ino = x
    · simp [sk, h]
    · have h' : (D.ino == x) = false := by simpa using h
      have h2 : ((sk D).ino == x) = false := h'
      rw [h', h2]
      exact ih
theorem dirEnts_sk (ds : List InoD) (x : Int) : dirEnts (ds.map sk) x = dirEnts ds x := by
  unfold dirEnts
  rw [look_sk]
  cases look ds x <;> rfl
theorem addE_sk (ds : List InoD) (o : List Int) (es : List (ByteArray × Int)) : addE (ds.map sk) o es = addE ds o es := by
  unfold addE
  have h : ∀ x, (look (ds.map sk) x).isSome = (look ds x).isSome := fun x => by rw [look_sk]; cases look ds x <;> rfl
  simp only [h]
theorem nextD_sk (ds : List InoD) (l : List Int) : nextD (ds.map sk) l = nextD ds l := by
  unfold nextD
  simp only [addE_sk, dirEnts_sk]
theorem reachN_sk (ds : List InoD) (k : Nat) : reachN (ds.map sk) k = reachN ds k := by
  induction k with
  | zero => rfl
  | succ k ih => rw [reachN, reachN, ih, nextD_sk]
theorem reachD_sk (ds : List InoD) : reachD (ds.map sk) = reachD ds := by
  unfold reachD
  have h : (look (ds.map sk) 1).isSome = (look ds 1).isSome := by rw [look_sk]; cases look ds 1 <;> rfl
  rw [h, List.length_map, reachN_sk]
theorem linksD_sk (ds : List InoD) (x : Int) : linksD (ds.map sk) x = linksD ds x := by
  unfold linksD
  rw [List.map_map]
  rfl
/-- Its bytes are few, and a directory has none. -/
def dataOk (D : InoD) : Prop := D.data.length ≤ 100 ∧ (D.kind = 1 ∨ D.data = [])
theorem inoOk_sk {D : InoD} (h : inoOk (sk D) = true) (hd : dataOk D) : inoOk D = true := by
  obtain ⟨ino, kind, links, data, ents, attrs⟩ := D
  obtain ⟨h1, h2⟩ := hd
  dsimp only at h1 h2
  unfold inoOk kindR sk at h
  unfold inoOk kindR
  dsimp only at h ⊢
  simp only [List.length_nil, Bool.and_eq_true, Bool.or_eq_true, decide_eq_true_eq, Nat.zero_le, true_and, and_true] at h ⊢
  obtain ⟨⟨⟨h3, h4⟩, h5⟩, h6⟩ := h
  refine ⟨⟨⟨⟨h3, h1⟩, h4⟩, h5⟩, ?_⟩
  rcases h6 with h6 | h6
  · exact .inl h6
  · rcases h2 with h2 | h2
    · omega
    · subst h2
      exact .inr ⟨h6.1, rfl, h6.2⟩
theorem getD_sk (ds : List InoD) (i : Nat) : (((ds.map sk).map lift).getD i inoZ).D = sk ((ds.map lift).getD i inoZ).D := by
  rw [List.getD_eq_getElem?_getD, List.getD_eq_getElem?_getD, List.getElem?_map, List.getElem?_map, List.getElem?_map]
  cases ds[i]? <;> rfl
theorem sk_mem (ds : List InoD) (i : Nat) (h : i < ds.length) : ((ds.map lift).getD i inoZ).D ∈ ds := by
  rw [List.getD_eq_getElem?_getD, List.getElem?_map, List.getElem?_eq_getElem h]
  exact List.getElem_mem h
/-- A tree, where its skeleton is one and the bytes are right. -/
theorem tree_sk {nx : Int} {ds : List InoD} (h : treeD nx (ds.map sk) = true) (hd : ∀ D ∈ ds, dataOk D) : treeD nx ds = true := by
  unfold treeD at h ⊢
  rw [Bool.and_eq_true] at h ⊢
  obtain ⟨h1, h2⟩ := h
  constructor
  · unfold tabD tabS at h1 ⊢
    simp only [Bool.and_eq_true, List.all_eq_true, List.length_map] at h1 ⊢
    obtain ⟨a1, a2, a3, a4⟩ := h1
    refine ⟨a1, a2, fun i hi => ?_, ?_⟩
    · have h3 := a3 i hi
      unfold stepT at h3 ⊢
      rw [Bool.and_eq_true] at h3 ⊢
      simp only [getD_sk] at h3
      exact ⟨inoOk_sk h3.1 (hd _ (sk_mem ds i (List.mem_range.1 hi))), h3.2⟩
    · simp only [getD_sk] at a4
      exact a4
  · rw [reachD_sk, List.length_map] at h2
    rw [Bool.and_eq_true] at h2 ⊢
    refine ⟨h2.1, ?_⟩
    rw [List.all_eq_true]
    intro D hD
    have h3 := List.all_eq_true.1 h2.2 (sk D) (List.mem_map_of_mem hD)
    rw [linksD_sk] at h3
    have h : ∀ x, (look (ds.map sk) x).isSome = (look ds x).isSome := fun x => by rw [look_sk]; cases look ds x <;> rfl
    simp only [h] at h3
    exact h3
end

section
open Go.RowKit
/-- The cursor gc over the slice (a, n, cap). -/
def Cur (w : World) (gc : Nat) (a : Option Addr) (n cap : Nat) : Prop :=
  ∃ (i : Nat) (h : Int), i ≤ n ∧ w.heap[gc]? = some (.cells #[.slice a n cap, .int .i64 i, .int .i64 h] 172 (0, 0))
theorem Cur.kept {w w' : World} {gc n cap g : Nat} {a : Option Addr} (h : Cur w gc a n cap) (hg : w.grownBy w' (some g)) (hne : gc ≠ g) : Cur w' gc a n cap := by
  obtain ⟨i, hh, hi, hb⟩ := h
  exact ⟨i, hh, hi, by rw [hg.block gc (Array.getElem?_eq_some_iff.1 hb).1 (by simpa using hne)]; exact hb⟩
theorem Cur.keep {w w' : World} {gc n cap B : Nat} {a : Option Addr} (h : Cur w gc a n cap) (hb : Below B w w') (hg : gc < B) : Cur w' gc a n cap := by
  obtain ⟨i, hh, hi, hbk⟩ := h
  exact ⟨i, hh, hi, by rw [hb.block gc hg]; exact hbk⟩
theorem Cur.lt {w : World} {gc n cap : Nat} {a : Option Addr} (h : Cur w gc a n cap) : gc < w.heap.size := by
  obtain ⟨i, hh, hi, hb⟩ := h
  exact (Array.getElem?_eq_some_iff.1 hb).1
theorem Rd.kept {w w' : World} {a : Option Addr} {zs : List Int} {g : Nat} (h : Rd w a zs) (hg : w.grownBy w' (some g)) (hne : zs ≠ [] → ∀ b off, a = some ⟨b, off, none⟩ → b ≠ g) : Rd w' a zs := by
  by_cases hz : zs = []
  · exact .inl hz
  · obtain ⟨b, off, rfl, hlt, hc⟩ := h.lt hz
    refine .inr ⟨b, off, rfl, fun i hi => ?_⟩
    have := hne hz b off rfl
    exact hg.cell (hc i hi) (by simpa using this)
/-- What a step of the cursor needs: the cursor, and the bytes that it reads, apart from it. -/
structure Src (w : World) (gc n cap : Nat) (a : Option Addr) (zs : List Int) : Prop where
  len : zs.length = n
  small : n ≤ 1048576
  cur : Cur w gc a n cap
  rd : Rd w a zs
  byt : Byt zs
  ne : zs ≠ [] → ∀ b off, a = some ⟨b, off, none⟩ → b < gc
theorem Src.step {w w' : World} {gc n cap : Nat} {a : Option Addr} {zs : List Int} (h : Src w gc n cap a zs) (hc : Cur w' gc a n cap) (hg : w.grownBy w' (some gc)) : Src w' gc n cap a zs :=
  ⟨h.len, h.small, hc, h.rd.kept hg (fun hz b off e => Nat.ne_of_lt (h.ne hz b off e)), h.byt, h.ne⟩
theorem Src.keep {w w' : World} {gc n cap : Nat} {a : Option Addr} {zs : List Int} (h : Src w gc n cap a zs) (hb : Below w.heap.size w w') : Src w' gc n cap a zs :=
  ⟨h.len, h.small, h.cur.keep hb h.cur.lt, h.rd.keep hb, h.byt, h.ne⟩
theorem Byt.snoc {ys : List Int} {x : Nat} (h : Byt ys) (hx : x ≤ 255) : Byt (ys ++ [(x : Int)]) := by
  intro z hz
  simp only [List.mem_append, List.mem_cons, List.not_mem_nil, or_false] at hz
  rcases hz with hz | hz
  · exact h z hz
  · omega
theorem Src.alloc {w : World} {gc n cap : Nat} {a : Option Addr} {zs : List Int} (h : Src w gc n cap a zs) (o : Obj) : Src (w.alloc o) gc n cap a zs := h.keep ((Below.refl _ _).alloc (Nat.le_refl _) o)
theorem Src.other {w w' : World} {gc n cap g : Nat} {a : Option Addr} {zs : List Int} (h : Src w gc n cap a zs) (hg : w.grownBy w' (some g)) (h1 : gc < g) : Src w' gc n cap a zs :=
  ⟨h.len, h.small, h.cur.kept hg (Nat.ne_of_lt h1), h.rd.kept hg (fun hz b off e => Nat.ne_of_lt (Nat.lt_trans (h.ne hz b off e) h1)), h.byt, h.ne⟩
theorem Src.drew {w : World} {gc n cap : Nat} {a : Option Addr} {zs : List Int} (h : Src w gc n cap a zs) : Src w.drew gc n cap a zs := h.keep (Below.refl _ _).drew
theorem Rd.at {w : World} {a : Option Addr} {zs : List Int} (h : Rd w a zs) : zs ≠ [] → ∀ b off, a = some ⟨b, off, none⟩ → b < w.heap.size := by
  intro hz b off e
  obtain ⟨b', off', e', hlt, _⟩ := h.lt hz
  rw [e] at e'
  simp at e'
  omega
end

section
open Go.RowKit
def growB (d : List Int) (m : Nat) : List Int := d ++ List.replicate (m - d.length) 0
def writeB (d : List Int) (o : Nat) (dz : List Int) : List Int := (growB d (o + dz.length)).take o ++ dz ++ (growB d (o + dz.length)).drop (o + dz.length)
def writeD (nx : Int) (ds : List InoD) (s : ByteArray) (off : Int) (dz : List Int) : List InoD × Int :=
  if treeD nx ds = false ∨ (splitOf s.data.toList).isSome = false ∨ ¬ (0 ≤ off ∧ off ≤ 100) then (ds, 1)
  else if (fileD ds s).2 = 0 ∧ 100 - off < (dz.length : Int) then (ds, 5)
  else if (fileD ds s).2 ≠ 0 then (ds, (fileD ds s).2)
  else (setD ds { (fileD ds s).1 with data := writeB (fileD ds s).1.data off.toNat dz }, 0)
def stepB (e : List Int) (o : Nat) (dz : List Int) (i : Nat) : List Int := e.take o ++ dz.take i ++ e.drop (o + i)
theorem stepB_zero (e : List Int) (o : Nat) (dz : List Int) : stepB e o dz 0 = e := by simp [stepB]
theorem stepB_len (e : List Int) (o : Nat) (dz : List Int) (i : Nat) (hi : i ≤ dz.length) (ho : o + dz.length ≤ e.length) : (stepB e o dz i).length = e.length := by
  unfold stepB
  simp
  omega
theorem stepB_end (d : List Int) (o : Nat) (dz : List Int) : stepB (growB d (o + dz.length)) o dz dz.length = writeB d o dz := by
  unfold stepB writeB
  rw [List.take_length]
theorem byt_step {e dz : List Int} (he : Byt e) (hd : Byt dz) (o i : Nat) : Byt (stepB e o dz i) := fun z hz => by
  unfold stepB at hz
  rcases List.mem_append.1 hz with hz | hz
  · rcases List.mem_append.1 hz with hz | hz
    · exact he z (List.mem_of_mem_take hz)
    · exact hd z (List.mem_of_mem_take hz)
  · exact he z (List.mem_of_mem_drop hz)
end

section
open Go.RowKit
def pDir : ByteArray := ⟨#[47, 100, 105, 114]⟩
def pOne : ByteArray := ⟨#[47, 100, 105, 114, 47, 111, 110, 101]⟩
def pTwo : ByteArray := ⟨#[47, 100, 105, 114, 47, 116, 119, 111]⟩
def pTop : ByteArray := ⟨#[47, 116, 111, 112]⟩
def nDir : ByteArray := ⟨#[100, 105, 114]⟩
def nOne : ByteArray := ⟨#[111, 110, 101]⟩
def nTwo : ByteArray := ⟨#[116, 119, 111]⟩
def nTop : ByteArray := ⟨#[116, 111, 112]⟩
/-- The tables on the way. -/
def gA1 : List InoD := [⟨1, 2, 0, [], [(nDir, 2)], []⟩, ⟨2, 2, 1, [], [], []⟩]
def gA2 : List InoD := [⟨1, 2, 0, [], [(nDir, 2)], []⟩, ⟨2, 2, 1, [], [(nOne, 3)], []⟩, ⟨3, 1, 1, [], [], []⟩]
def gA3 : List InoD := [⟨1, 2, 0, [], [(nDir, 2)], []⟩, ⟨2, 2, 1, [], [(nOne, 3), (nTwo, 4)], []⟩, ⟨3, 1, 1, [], [], []⟩, ⟨4, 1, 1, [], [], []⟩]
/-- The grown table: the bytes of its three files. -/
def gX (K L M : List Int) : List InoD := [⟨1, 2, 0, [], [(nDir, 2), (nTop, 5)], []⟩, ⟨2, 2, 1, [], [(nOne, 3), (nTwo, 4)], []⟩, ⟨3, 1, 1, K, [], []⟩, ⟨4, 1, 1, L, [], []⟩, ⟨5, 1, 1, M, [], []⟩]
set_option maxRecDepth 100000 in
theorem gA_one : makeD 2 tab1 pDir 2 = (3, gA1, 0) := by kernel_rfl
set_option maxRecDepth 100000 in
theorem gA_two : makeD 3 gA1 pOne 1 = (4, gA2, 0) := by kernel_rfl
set_option maxRecDepth 100000 in
theorem gA_three : makeD 4 gA2 pTwo 1 = (5, gA3, 0) := by kernel_rfl
set_option maxRecDepth 100000 in
theorem gA_four : makeD 5 gA3 pTop 1 = (6, gX [] [] [], 0) := by kernel_rfl
set_option maxRecDepth 100000 in
theorem gA_good : (goodB 3 gA1 && (goodB 4 gA2 && (goodB 5 gA3 && goodB 6 (gX [] [] [])))) = true := by kernel_rfl
theorem gA_goods : goodB 3 gA1 = true ∧ goodB 4 gA2 = true ∧ goodB 5 gA3 = true ∧ goodB 6 (gX [] [] []) = true := by
  have h := gA_good
  simpa only [Bool.and_eq_true] using h
theorem gX_sk (K L M : List Int) : (gX K L M).map sk = gX [] [] [] := rfl
theorem gX_mem {K L M : List Int} {p : InoD → Prop} (h1 : p ⟨1, 2, 0, [], [(nDir, 2), (nTop, 5)], []⟩) (h2 : p ⟨2, 2, 1, [], [(nOne, 3), (nTwo, 4)], []⟩) (h3 : p ⟨3, 1, 1, K, [], []⟩) (h4 : p ⟨4, 1, 1, L, [], []⟩) (h5 : p ⟨5, 1, 1, M, [], []⟩) : ∀ D ∈ gX K L M, p D := by
  intro D hD
  simp only [gX, List.mem_cons, List.not_mem_nil, or_false] at hD
  rcases hD with rfl | rfl | rfl | rfl | rfl
  · exact h1
  · exact h2
  · exact h3
  · exact h4
  · exact h5
theorem gX_tree {K L M : List Int} (hK : K.length ≤ 100) (hL : L.length ≤ 100) (hM : M.length ≤ 100) : treeD 6 (gX K L M) = true :=
  tree_sk (by rw [gX_sk]; exact (goodB_small gA_goods.2.2.2).2.2) (gX_mem ⟨by simp, .inr rfl⟩ ⟨by simp, .inr rfl⟩ ⟨hK, .inl rfl⟩ ⟨hL, .inl rfl⟩ ⟨hM, .inl rfl⟩)
theorem small_file {i : Int} {K : List Int} (hK : K.length ≤ 100) : InoSmall ⟨i, 1, 1, K, [], []⟩ := ⟨by dsimp only; omega, by simp, by simp, by simp, by simp⟩
theorem gX_small {K L M : List Int} (hK : K.length ≤ 100) (hL : L.length ≤ 100) (hM : M.length ≤ 100) : ∀ D ∈ gX K L M, InoSmall D :=
  gX_mem (smallB_ok (by decide)) (smallB_ok (by decide)) (small_file hK) (small_file hL) (small_file hM)
/-- What is written, where the tree has the file. -/
theorem write_eq {nx : Int} {ds : List InoD} {s : ByteArray} {k : Nat} {dz : List Int} {D : InoD} (ht : treeD nx ds = true) (hsp : (splitOf s.data.toList).isSome = true) (hf : fileD ds s = (D, 0)) (hk : k + dz.length ≤ 100) : writeD nx ds s (k : Int) dz = (setD ds { D with data := writeB D.data k dz }, 0) := by
  unfold writeD
  rw [hf]
  dsimp only
  rw [if_neg (by rw [ht, hsp]; simp; omega), if_neg (by simp; omega), if_neg (by simp), Int.toNat_natCast]
theorem write_bad {nx : Int} {ds : List InoD} {s : ByteArray} {k : Nat} {dz : List Int} {D : InoD} {c : Int} (ht : treeD nx ds = true) (hsp : (splitOf s.data.toList).isSome = true) (hf : fileD ds s = (D, c)) (hc : c ≠ 0) (hk : k ≤ 100) : writeD nx ds s (k : Int) dz = (ds, c) := by
  unfold writeD
  rw [hf]
  dsimp only
  rw [if_neg (by rw [ht, hsp]; simp; omega), if_neg (by simp [hc]), if_pos hc]
set_option maxRecDepth 100000 in
theorem pathsOk : ((splitOf pOne.data.toList).isSome && ((splitOf pTwo.data.toList).isSome && ((splitOf pTop.data.toList).isSome && (splitOf pDir.data.toList).isSome))) = true := by kernel_rfl
theorem paths_ok : (splitOf pOne.data.toList).isSome = true ∧ (splitOf pTwo.data.toList).isSome = true ∧ (splitOf pTop.data.toList).isSome = true ∧ (splitOf pDir.data.toList).isSome = true := by
  have h := pathsOk
  simpa only [Bool.and_eq_true] using h
set_option maxRecDepth 100000 in
theorem gX_one (K L M : List Int) : fileD (gX K L M) pOne = (⟨3, 1, 1, K, [], []⟩, 0) := by kernel_rfl
set_option maxRecDepth 100000 in
theorem gX_two (K L M : List Int) : fileD (gX K L M) pTwo = (⟨4, 1, 1, L, [], []⟩, 0) := by kernel_rfl
set_option maxRecDepth 100000 in
theorem gX_top (K L M : List Int) : fileD (gX K L M) pTop = (⟨5, 1, 1, M, [], []⟩, 0) := by kernel_rfl
set_option maxRecDepth 100000 in
theorem gX_dir (K L M : List Int) : fileD (gX K L M) pDir = (inoZ.D, 3) := by kernel_rfl
set_option maxRecDepth 100000 in
theorem gX_set3 (K L M N : List Int) : setD (gX K L M) ⟨3, 1, 1, N, [], []⟩ = gX N L M := by kernel_rfl
set_option maxRecDepth 100000 in
theorem gX_set4 (K L M N : List Int) : setD (gX K L M) ⟨4, 1, 1, N, [], []⟩ = gX K N M := by kernel_rfl
set_option maxRecDepth 100000 in
theorem gX_set5 (K L M N : List Int) : setD (gX K L M) ⟨5, 1, 1, N, [], []⟩ = gX K L N := by kernel_rfl
theorem writeB_nil (k : Nat) (dz : List Int) : writeB [] k dz = List.replicate k 0 ++ dz := by
  unfold writeB growB
  simp only [List.nil_append, List.length_nil, Nat.sub_zero, List.take_replicate, List.drop_replicate]
  rw [Nat.min_eq_left (by omega), Nat.sub_self]
  simp
theorem gX_w3 {K L M : List Int} (hK : K.length ≤ 100) (hL : L.length ≤ 100) (hM : M.length ≤ 100) {k : Nat} {dz : List Int} (hk : k + dz.length ≤ 100) : writeD 6 (gX K L M) pOne (k : Int) dz = (gX (writeB K k dz) L M, 0) := by
  rw [write_eq (gX_tree hK hL hM) paths_ok.1 (gX_one K L M) hk, gX_set3]
theorem gX_w4 {K L M : List Int} (hK : K.length ≤ 100) (hL : L.length ≤ 100) (hM : M.length ≤ 100) {k : Nat} {dz : List Int} (hk : k + dz.length ≤ 100) : writeD 6 (gX K L M) pTwo (k : Int) dz = (gX K (writeB L k dz) M, 0) := by
  rw [write_eq (gX_tree hK hL hM) paths_ok.2.1 (gX_two K L M) hk, gX_set4]
theorem gX_w5 {K L M : List Int} (hK : K.length ≤ 100) (hL : L.length ≤ 100) (hM : M.length ≤ 100) {k : Nat} {dz : List Int} (hk : k + dz.length ≤ 100) : writeD 6 (gX K L M) pTop (k : Int) dz = (gX K L (writeB M k dz), 0) := by
  rw [write_eq (gX_tree hK hL hM) paths_ok.2.2.1 (gX_top K L M) hk, gX_set5]
end

section
open Go.RowKit Go.Extern.Stop Go.Stop Go.Extern
theorem as_nil (t : Value) (w : World) : Calls Tryz.prog 107 #[.nilIface, t] w fun e w' => e = .returned (.bool false) ∧ w' = w := by
  go_enter Tryz.func107, Tryz.ntmps107
  go_wp2
  go_ret
  exact ⟨rfl, rfl⟩
theorem rf_valueOfP (t : Addr) (w : World) : (ReflectliteValue.unpack (.iface 147 (.pointer (some t)))).run Tryz.prog w
    = .ok (.agg #[.pointer (some ⟨2, 147, none⟩), .pointer (some ⟨w.heap.size, 0, none⟩), .int .u64 150]) (w.alloc (.cells #[.pointer (some t)] 147)) := by kernel_rfl
theorem rf_typeP (a : Addr) (w : World) : (ReflectliteValue.methodAny (ReflectliteValue.valueError "reflectlite.Value.Type" 0) (fun t _ _ _ => ReflectliteType.toType t) #[.agg #[.pointer (some ⟨2, 147, none⟩), .pointer (some a), .int .u64 150]]).run Tryz.prog w
    = .ok (.iface 225 (.agg #[.pointer (some ⟨2, 147, none⟩)])) w := by kernel_rfl
theorem rf_methodKind (h : Value) (w : World) : (Go.method 464 225 (.agg #[h]) "Kind").run Tryz.prog w = .ok (344, h) w := by kernel_rfl
theorem rf_kindP (w : World) : ((ReflectliteType.abiMethod fun t => (fun a : Nat => Value.int IntKind.u8 (a : Int)) <$> Rtype.kind t) #[.pointer (some ⟨2, 147, none⟩)]).run Tryz.prog w = .ok (.int .u8 22) w := by kernel_rfl
theorem rf_kindR (w : World) : ((ReflectliteType.abiMethod fun t => (fun a : Nat => Value.int IntKind.u8 (a : Int)) <$> Rtype.kind t) #[.pointer (some ⟨2, 139, none⟩)]).run Tryz.prog w = .ok (.int .u8 2) w := by kernel_rfl
theorem rf_rlm (z : Sem Value) (f : TypeId → Addr → Nat → Nat → Sem Value) (v : Value) :
    ReflectliteValue.method z f #[v] = (do match ← ReflectliteValue.parts v with | none => z | some (t, a, fl) => f t a fl (fl % 32)) := rfl
theorem rf_partsP (a : Addr) (w : World) : (ReflectliteValue.parts (.agg #[.pointer (some ⟨2, 147, none⟩), .pointer (some a), .int .u64 150])).run Tryz.prog w = .ok (some (147, a, 150)) w := by kernel_rfl
theorem rf_isNilP (a p : Addr) (W : World) (ha : W.cell? a = some (.pointer (some p))) :
    (ReflectliteValue.method (ReflectliteValue.valueError "reflectlite.Value.IsNil" 0) ReflectliteValue.isNil #[.agg #[.pointer (some ⟨2, 147, none⟩), .pointer (some a), .int .u64 150]]).run Tryz.prog W = .ok (.bool false) W := by
  rw [rf_rlm]
  simp only [Sem.run_bind, rf_partsP, Result.andThen]
  simp [ReflectliteValue.isNil, loadVar, isAgg, underlying, Tryz.underlying147, ha, Result.andThen]
theorem rf_methodElem (h : Value) (w : World) : (Go.method 464 225 (.agg #[h]) "Elem").run Tryz.prog w = .ok (354, .agg #[h]) w := by kernel_rfl
theorem rf_methodImplements (h : Value) (w : World) : (Go.method 464 225 (.agg #[h]) "Implements").run Tryz.prog w = .ok (355, .agg #[h]) w := by kernel_rfl
theorem rf_methodAssignableTo (h : Value) (w : World) : (Go.method 464 225 (.agg #[h]) "AssignableTo").run Tryz.prog w = .ok (352, .agg #[h]) w := by kernel_rfl
theorem rf_elemP (w : World) : (ReflectliteType.method ReflectliteType.elem #[.agg #[.pointer (some ⟨2, 147, none⟩)]]).run Tryz.prog w = .ok (.iface 225 (.agg #[.pointer (some ⟨2, 139, none⟩)])) w := by kernel_rfl
theorem rf_implementsR (w : World) : (ReflectliteType.relation "Implements" ReflectliteType.implements_ #[.agg #[.pointer (some ⟨2, 139, none⟩)], .iface 225 (.agg #[.pointer (some ⟨2, 91, none⟩)])]).run Tryz.prog w = .ok (.bool true) w := by kernel_rfl
theorem rf_typeOfR (v : Value) (w : World) : (ReflectliteType.typeOf #[.iface 139 v]).run Tryz.prog w = .ok (.iface 225 (.agg #[.pointer (some ⟨2, 139, none⟩)])) w := by kernel_rfl
theorem rf_assignableR (w : World) : (ReflectliteType.relation "AssignableTo" ReflectliteType.assignableTo #[.agg #[.pointer (some ⟨2, 139, none⟩)], .iface 225 (.agg #[.pointer (some ⟨2, 139, none⟩)])]).run Tryz.prog w = .ok (.bool true) w := by kernel_rfl
theorem rf_valueOfR (n : Int) (w : World) : (ReflectliteValue.unpack (.iface 139 (.int .i64 n))).run Tryz.prog w
    = .ok (.agg #[.pointer (some ⟨2, 139, none⟩), .pointer (some ⟨w.heap.size, 0, none⟩), .int .u64 130]) (w.alloc (.cells #[.int .i64 n] 139)) := by kernel_rfl
theorem rf_elemOfP (w : World) : (Rtype.elem? 147).run Tryz.prog w = .ok (some 139) w := by kernel_rfl
theorem rf_mkR (p : Addr) (w : World) : (ReflectliteValue.mk 139 p ReflectliteValue.flagAddr).run Tryz.prog w = .ok (.agg #[.pointer (some ⟨2, 139, none⟩), .pointer (some p), .int .u64 386]) w := by kernel_rfl
theorem rf_elemV (a p : Addr) (W : World) (ha : W.cell? a = some (.pointer (some p))) :
    (ReflectliteValue.method (ReflectliteValue.valueError "reflectlite.Value.Elem" 0) ReflectliteValue.elem #[.agg #[.pointer (some ⟨2, 147, none⟩), .pointer (some a), .int .u64 150]]).run Tryz.prog W
      = .ok (.agg #[.pointer (some ⟨2, 139, none⟩), .pointer (some p), .int .u64 386]) W := by
  rw [rf_rlm]
  simp only [Sem.run_bind, rf_partsP, Result.andThen]
  simp [ReflectliteValue.elem, loadVar, isAgg, underlying, Tryz.underlying147, ha, Result.andThen, rf_elemOfP, rf_mkR]
theorem rf_partsRa (a : Addr) (w : World) : (ReflectliteValue.parts (.agg #[.pointer (some ⟨2, 139, none⟩), .pointer (some a), .int .u64 386])).run Tryz.prog w = .ok (some (139, a, 386)) w := by kernel_rfl
theorem rf_partsR (a : Addr) (w : World) : (ReflectliteValue.parts (.agg #[.pointer (some ⟨2, 139, none⟩), .pointer (some a), .int .u64 130])).run Tryz.prog w = .ok (some (139, a, 130)) w := by kernel_rfl
theorem rf_directR (w : World) : (Rtype.directlyAssignable 139 139).run Tryz.prog w = .ok true w := by kernel_rfl
theorem rf_set (ta b : Addr) (n : Int) (old : Value) (W : World) (hb : W.cell? b = some (.int .i64 n)) (ht : W.cell? ta = some old) (hf : W.frozen? ta = false) :
    (ReflectliteValue.set #[.agg #[.pointer (some ⟨2, 139, none⟩), .pointer (some ta), .int .u64 386], .agg #[.pointer (some ⟨2, 139, none⟩), .pointer (some b), .int .u64 130]]).run Tryz.prog W
      = .ok (.tuple #[]) (W.setCell ta (.int .i64 n)) := by
  rw [show ReflectliteValue.set #[(.agg #[.pointer (some ⟨2, 139, none⟩), .pointer (some ta), .int .u64 386]), (.agg #[.pointer (some ⟨2, 139, none⟩), .pointer (some b), .int .u64 130])] = (ReflectliteValue.parts (.agg #[.pointer (some ⟨2, 139, none⟩), .pointer (some ta), .int .u64 386]) >>= fun p => ReflectliteValue.parts (.agg #[.pointer (some ⟨2, 139, none⟩), .pointer (some b), .int .u64 130]) >>= fun q => _) from rfl]
  simp only [Sem.run_bind, rf_partsRa, rf_partsR, Result.andThen]
  simp [ReflectliteValue.flagAddr, loadVar, isAgg, underlying, Tryz.underlying139, hb, Result.andThen, rf_directR, storeVar, Value.cells, storeCells, Addr.add]
  rw [run_store Tryz.prog W ta _ _ (by rfl)]
  simp [ht, hf]
/-- The one variable of the library that errors.As reads. -/
def EtCell (w : World) : Prop := w.cell? ⟨0, 0, none⟩ = some (.iface 225 (.agg #[.pointer (some ⟨2, 91, none⟩)]))
set_option maxRecDepth 100000 in
set_option maxHeartbeats 4000000 in
theorem as_hit (n : Int) (t : Addr) (old : Value) (w : World) (hg0 : EtCell w) (ht0 : w.cell? t = some old) (hf0 : w.frozen? t = false) :
    Calls Tryz.prog 107 #[.iface 139 (.int .i64 n), .iface 147 (.pointer (some t))] w fun ev w' => ev = .returned (.bool true) ∧ w' = ((((w.alloc (.cells #[.pointer (some t)] 147)).alloc (.cells #[.pointer (some ⟨2, 147, none⟩), .pointer (some ⟨w.heap.size, 0, none⟩), .int .u64 150] 188)).alloc (.cells #[.pointer (some ⟨2, 147, none⟩), .pointer (some ⟨w.heap.size, 0, none⟩), .int .u64 150] 188)).alloc (.cells #[.int .i64 n] 139)).setCell t (.int .i64 n) := by
  have hg : w.cell? ⟨0, 0, none⟩ = some (.iface 225 (.agg #[.pointer (some ⟨2, 91, none⟩)])) := hg0
  have h6 := @run_callFunc_extern Tryz.prog 149 _ (fun args => ReflectliteValue.unpack (args.getD 0 (.tuple #[]))) Tryz.func149 (by kernel_rfl) (by kernel_rfl) (by kernel_rfl) (by kernel_rfl)
  have h7 := @run_callFunc_extern Tryz.prog 150 _ (ReflectliteValue.methodAny (ReflectliteValue.valueError "reflectlite.Value.Type" 0) (fun t _ _ _ => ReflectliteType.toType t)) Tryz.func150 (by kernel_rfl) (by kernel_rfl) (by kernel_rfl) (by kernel_rfl)
  have h8 := @run_callFunc_extern Tryz.prog 151 _ (ReflectliteValue.method (ReflectliteValue.valueError "reflectlite.Value.IsNil" 0) ReflectliteValue.isNil) Tryz.func151 (by kernel_rfl) (by kernel_rfl) (by kernel_rfl) (by kernel_rfl)
  have h27 := @run_callFunc_extern Tryz.prog 344 _ (ReflectliteType.abiMethod fun t => do pure (.int .u8 (← Rtype.kind t))) Tryz.func344 (by kernel_rfl) (by kernel_rfl) (by kernel_rfl) (by kernel_rfl)
  have h37 := @run_callFunc_extern Tryz.prog 354 _ (ReflectliteType.method ReflectliteType.elem) Tryz.func354 (by kernel_rfl) (by kernel_rfl) (by kernel_rfl) (by kernel_rfl)
  have h38 := @run_callFunc_extern Tryz.prog 355 _ (ReflectliteType.relation "Implements" ReflectliteType.implements_) Tryz.func355 (by kernel_rfl) (by kernel_rfl) (by kernel_rfl) (by kernel_rfl)
  have h10 := @run_callFunc_extern Tryz.prog 201 _ ReflectliteType.typeOf Tryz.func201 (by kernel_rfl) (by kernel_rfl) (by kernel_rfl) (by kernel_rfl)
  have h35 := @run_callFunc_extern Tryz.prog 352 _ (ReflectliteType.relation "AssignableTo" ReflectliteType.assignableTo) Tryz.func352 (by kernel_rfl) (by kernel_rfl) (by kernel_rfl) (by kernel_rfl)
  have h11 := @run_callFunc_extern Tryz.prog 202 _ (ReflectliteValue.method (ReflectliteValue.valueError "reflectlite.Value.Elem" 0) ReflectliteValue.elem) Tryz.func202 (by kernel_rfl) (by kernel_rfl) (by kernel_rfl) (by kernel_rfl)
  have h12 := @run_callFunc_extern Tryz.prog 203 _ ReflectliteValue.set Tryz.func203 (by kernel_rfl) (by kernel_rfl) (by kernel_rfl) (by kernel_rfl)
  have tO := rf_typeOfR
  have mA := rf_methodAssignableTo
  have aR := rf_assignableR
  have vR := rf_valueOfR
  have f6 := rf_valueOfP
  have f7 := rf_typeP
  have mK := rf_methodKind
  have mE := rf_methodElem
  have mI := rf_methodImplements
  have kP := rf_kindP
  have kR := rf_kindR
  have eP := rf_elemP
  have iR := rf_implementsR
  have n8 := rf_isNilP ⟨w.heap.size, 0, none⟩ t ((w.alloc (.cells #[.pointer (some t)] 147)).alloc (.cells #[.pointer (some ⟨2, 147, none⟩), .pointer (some ⟨w.heap.size, 0, none⟩), .int .u64 150] 188)) (by simp)
  have hlt : 0 < w.heap.size := by
    rcases Nat.eq_zero_or_pos w.heap.size with h0 | h
    · simp [World.cell?, h0] at hg
    · exact h
  have hg2 : ((w.alloc (.cells #[.pointer (some t)] 147)).alloc (.cells #[.pointer (some ⟨2, 147, none⟩), .pointer (some ⟨w.heap.size, 0, none⟩), .int .u64 150] 188)).cell? ⟨0, 0, none⟩ = some (.iface 225 (.agg #[.pointer (some ⟨2, 91, none⟩)])) := by
    rw [World.cell?_alloc_lt _ _ ⟨0, 0, none⟩ (by simp), World.cell?_alloc_lt _ _ ⟨0, 0, none⟩ hlt]; exact hg
  have htl : t.block < w.heap.size := by
    rcases Nat.lt_or_ge t.block w.heap.size with h | h
    · exact h
    · simp [World.cell?, Array.getElem?_eq_none h] at ht0
  have el := rf_elemV ⟨w.heap.size, 0, none⟩ t (((w.alloc (.cells #[.pointer (some t)] 147)).alloc (.cells #[.pointer (some ⟨2, 147, none⟩), .pointer (some ⟨w.heap.size, 0, none⟩), .int .u64 150] 188)).alloc (.cells #[.pointer (some ⟨2, 147, none⟩), .pointer (some ⟨w.heap.size, 0, none⟩), .int .u64 150] 188)) (by rw [World.cell?_alloc_lt _ _ ⟨w.heap.size, 0, none⟩ (by simp; omega)]; simp)
  have st := rf_set t ⟨w.heap.size + 1 + 1 + 1, 0, none⟩ n old ((((w.alloc (.cells #[.pointer (some t)] 147)).alloc (.cells #[.pointer (some ⟨2, 147, none⟩), .pointer (some ⟨w.heap.size, 0, none⟩), .int .u64 150] 188)).alloc (.cells #[.pointer (some ⟨2, 147, none⟩), .pointer (some ⟨w.heap.size, 0, none⟩), .int .u64 150] 188)).alloc (.cells #[.int .i64 n] 139))
    (by rw [World.cell?_alloc_at _ _ _ _ (by simp)]; rfl)
    (by rw [World.cell?_alloc_lt _ _ t (by simp; omega), World.cell?_alloc_lt _ _ t (by simp; omega), World.cell?_alloc_lt _ _ t (by simp; omega), World.cell?_alloc_lt _ _ t htl]; exact ht0)
    (by rw [World.frozen?_alloc_old _ _ t (by simp; omega), World.frozen?_alloc_old _ _ t (by simp; omega), World.frozen?_alloc_old _ _ t (by simp; omega), World.frozen?_alloc_old _ _ t (Nat.ne_of_lt htl)]; exact hf0)
  go_enter Tryz.func107, Tryz.ntmps107
  go_wp2
  refine wp_loop_rounds 1 ?_
  rw [rounds_succ]
  go_wp2
  go_ret
  exact ⟨rfl, rfl⟩
end
end Go.Proofs.YtbjfihabkpianaaGreatDoor
