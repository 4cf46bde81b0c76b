/-
  What the law on InodeAt needs.
-/
import Derived.Test.YtnadeelnjhollaaGreatSzWV
import Derived.Test.YtnadeelnjhollaaGreatToJV
import Derived.Test.YtnadeelnjhollaaGreatAtS2V
import Derived.Lib.Slices
import Derived.Lib.Walk
import Derived.Lib.Bytealg
import Derived.Lib.IndexLaws
import Derived.Lib.BufferWrite
import Derived.Lib.UnsafeStr
import Derived.Laws.MakeOwn
import Derived.Laws.Strings3
import Derived.Deep.RegionLaw
namespace Go.Proofs.YtnadeelnjhollaaGreat
open Go.RowKit
theorem getD_D {rs ts : List InoR} (h : ts.map InoR.D = rs.map InoR.D) (i : Nat) : (ts.getD i inoZ).D = (rs.getD i inoZ).D := by
  have h1 := congrArg (fun l => l[i]?) h
  simp only [List.getElem?_map] at h1
  simp only [List.getD_eq_getElem?_getD]
  cases ha : ts[i]? <;> cases hb : rs[i]? <;> rw [ha, hb] at h1 <;> simp_all
theorem inos_D (rs : List InoR) : inos rs = (rs.map InoR.D).map fun D => D.ino := by simp [inos]
theorem inos_cong {rs ts : List InoR} (h : ts.map InoR.D = rs.map InoR.D) : inos ts = inos rs := by rw [inos_D, inos_D, h]
theorem atD_cong {rs ts : List InoR} (h : ts.map InoR.D = rs.map InoR.D) (x : Int) : atD ts x = atD rs x := by
  unfold atD
  rw [inos_cong h]
  cases firstAt (inos rs) x with
  | none => rfl
  | some p => exact getD_D h p
theorem atB_cong {rs ts : List InoR} (h : ts.map InoR.D = rs.map InoR.D) (x : Int) : atB ts x = atB rs x := by unfold atB; rw [inos_cong h]
theorem atD_small {rs : List InoR} (h : ∀ r ∈ rs, InoSmall r.D) (x : Int) : InoSmall (atD rs x) := by
  unfold atD
  cases hf : firstAt (inos rs) x with
  | none => exact ⟨by simp [inoZ], by simp [inoZ], by simp [inoZ], by simp [inoZ], by simp [inoZ]⟩
  | some p =>
    have hp := firstAt_in hf
    dsimp only
    rw [List.getD_eq_getElem?_getD, List.getElem?_eq_getElem hp]
    exact h _ (List.getElem_mem hp)
def costD (D : InoD) : Nat := 3 + D.data.length + 2 * D.ents.length + 2 * D.attrs.length
theorem cost_sum (rs : List InoR) : ((rs.map InoR.D).map costD).sum ≤ 3 * rs.length + 2 * cntI rs := by
  unfold cntI
  induction rs with
  | nil => simp
  | cons r rs ih =>
    simp only [List.map_cons, List.sum_cons, List.length_cons]
    unfold costD at ih ⊢
    omega
theorem q_bound {rs : List InoR} {js : List InoJ} {n : Nat} (h : (js.map InoJ.r).map InoR.D = rs.map InoR.D) (hn : rs.length = n) (hc : n + cntI rs ≤ 1048576) : qAt 1 js n ≤ 9999990 := by
  have hl : js.length = n := by have := congrArg List.length h; simp at this; omega
  unfold qAt
  rw [List.take_of_length_le (by omega), show js.map InoJ.cost = ((js.map InoJ.r).map InoR.D).map costD by simp [InoJ.cost, costD, Function.comp_def], h]
  have := cost_sum rs
  omega
theorem wf_cong {rs ts : List InoR} (h : ts.map InoR.D = rs.map InoR.D) (hw : ∀ r ∈ rs, (Lit.int .i64 r.D.ino).wf = true) : ∀ r ∈ ts, (Lit.int .i64 r.D.ino).wf = true := fun r hr => by
  have h1 : r.D ∈ ts.map InoR.D := List.mem_map_of_mem hr
  rw [h] at h1
  obtain ⟨q, hq, hqr⟩ := List.mem_map.1 h1
  rw [← hqr]
  exact hw q hq
/-- What both InodeAt functions answer of a copied table. -/
def AtOut (W : World) (D : InoD) (bo : Bool) (e : Ending) (w' : World) : Prop :=
  ∃ (b1 : Option Addr) (d1 : Nat) (b2 : Option Addr) (d2 : Nat) (b3 : Option Addr) (d3 : Nat), e = .returned (.tuple #[.agg #[.int .i64 D.ino, .int .i64 D.kind, .int .i64 D.links, .slice b1 D.data.length d1, .slice b2 D.ents.length d2, .slice b3 D.attrs.length d3], .bool bo]) ∧
    InoG w' W.heap.size w'.heap.size D (.slice b1 D.data.length d1) (.slice b2 D.ents.length d2) (.slice b3 D.attrs.length d3) ∧ Below W.heap.size W w'
theorem atSQ {W : World} {B g n : Nat} {rs ts : List InoR} (nx x : Int) (hs : n ≤ 1048576) (hsm : ∀ r ∈ rs, InoSmall r.D) (h : TabQ W B g n rs ts) :
    Calls Tryz.prog 45 #[.agg #[.slice (some ⟨g, 0, none⟩) n n, .int .i64 nx], .int .i64 x] W fun e w' => AtOut W (atD rs x) (atB rs x) e w' := by
  have := inodeAtS (some ⟨g, 0, none⟩) n n nx x ts W h.tlen (by omega) (h.cpd.small hsm) h.rd
  unfold AtPost at this
  rw [atD_cong h.cpd.1, atB_cong h.cpd.1] at this
  exact this
theorem BoxT.outs {W W' : World} {b B T : Nat} {t : TypeId} {a : Option Addr} {n cap : Nat} {nx : Int} (h : BoxT W b t a n cap nx) (k : Out B T W W') (hb : b < B ∨ T ≤ b) : BoxT W' b t a n cap nx := Blk.outs h k hb
end Go.Proofs.YtnadeelnjhollaaGreat
