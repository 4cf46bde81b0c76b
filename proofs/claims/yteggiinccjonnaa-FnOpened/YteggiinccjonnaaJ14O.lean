/-
  Joined: AscT, AscF, DvT.
-/
import Derived.Test.YteggiinccjonnaaJ05O
import Derived.Maps.OwnSet
import Derived.Maps.OwnOps
namespace Go.Proofs.Yteggiinccjonnaa
section
open Go.RowKit
/-- All ascend from the second one on. -/
def ascN (xs : List Int) : Bool := (List.range xs.length).all fun i => decide (i = 0) || decide (xs.getD (i - 1) 0 < xs.getD i 0)
end

section
open Go.RowKit
def tmsF (rs : List FtD) : List Int := rs.map FtD.tm
theorem tmsF_length (rs : List FtD) : (tmsF rs).length = rs.length := by simp [tmsF]
end

section
open Go.RowKit
/-- What a device says. -/
structure DvD where
  ds : List BkD
  ops : Int
  fs : List FtD
  down : Bool
/-- A device of the call's own, new since B. -/
structure NewDv (w : World) (B : Nat) (a : Option Addr) (n c : Nat) (fa : Option Addr) (m fc : Nat) (ds : List BkD) (fs : List FtD) (qs : List BkR) : Prop where
  bs : NewBs w B (.slice a n c) ds qs
  fs : OwnFa w (.slice fa m fc) m fs
  new : ∀ g, (Value.slice fa m fc).ownBlock = some g → B ≤ g ∧ g ∉ fpBs (.slice a n c) qs
/-- The blocks of memory that it takes. -/
def fpDv (a : Option Addr) (n c : Nat) (fa : Option Addr) (m fc : Nat) (qs : List BkR) : List Nat := fpBs (.slice a n c) qs ++ (Value.slice fa m fc).ownBlock.toList
theorem fpDv_bs {a : Option Addr} {n c : Nat} {fa : Option Addr} {m fc : Nat} {qs : List BkR} {g : Nat} (h : g ∈ fpBs (.slice a n c) qs) : g ∈ fpDv a n c fa m fc qs := List.mem_append_left _ h
theorem fpDv_fs {a : Option Addr} {n c : Nat} {fa : Option Addr} {m fc : Nat} {qs : List BkR} {g : Nat} (h : (Value.slice fa m fc).ownBlock = some g) : g ∈ fpDv a n c fa m fc qs := List.mem_append_right _ (by simp [h])
theorem NewDv.keep {w w' : World} {B n c m fc : Nat} {a fa : Option Addr} {ds : List BkD} {fs : List FtD} {qs : List BkR} (h : NewDv w B a n c fa m fc ds fs qs) (hb : Below w.heap.size w w') : NewDv w' B a n c fa m fc ds fs qs := ⟨h.bs.keep hb, OwnE.keep h.fs hb, h.new⟩
theorem NewDv.lt {w : World} {B n c m fc : Nat} {a fa : Option Addr} {ds : List BkD} {fs : List FtD} {qs : List BkR} (h : NewDv w B a n c fa m fc ds fs qs) : ∀ g ∈ fpDv a n c fa m fc qs, g < w.heap.size := fun g hg => by
  rcases List.mem_append.1 hg with h1 | h1
  · exact h.bs.own.lt g h1
  · exact OwnE.lt h.fs (by simpa using h1)
theorem NewDv.from {w : World} {B n c m fc : Nat} {a fa : Option Addr} {ds : List BkD} {fs : List FtD} {qs : List BkR} (h : NewDv w B a n c fa m fc ds fs qs) : ∀ g ∈ fpDv a n c fa m fc qs, B ≤ g := fun g hg => by
  rcases List.mem_append.1 hg with h1 | h1
  · exact h.bs.new g h1
  · exact (h.new g (by simpa using h1)).1
theorem NewDv.svs {w w' : World} {B n c m fc : Nat} {a fa : Option Addr} {ds : List BkD} {fs : List FtD} {qs : List BkR} {F : List Nat} (h : NewDv w B a n c fa m fc ds fs qs) (k : Sv F w w') (hd : ∀ g ∈ fpDv a n c fa m fc qs, g ∉ F) : NewDv w' B a n c fa m fc ds fs qs :=
  ⟨h.bs.svs k fun g hg => hd g (fpDv_bs hg), OwnE.block h.fs fun g hg => k.block g (OwnE.lt h.fs hg) (hd g (fpDv_fs hg)), h.new⟩
theorem NewDv.wider {w : World} {B B' n c m fc : Nat} {a fa : Option Addr} {ds : List BkD} {fs : List FtD} {qs : List BkR} (h : NewDv w B a n c fa m fc ds fs qs) (hB : B' ≤ B) : NewDv w B' a n c fa m fc ds fs qs := ⟨h.bs.wider hB, h.fs, fun g hg => ⟨Nat.le_trans hB (h.new g hg).1, (h.new g hg).2⟩⟩
theorem NewDv.set_below {W : World} {B n c m fc j i : Nat} {a fa : Option Addr} {ds : List BkD} {fs : List FtD} {qs : List BkR} {u : Value} (h : NewDv W B a n c fa m fc ds fs qs) (hj : j < B) : NewDv (W.setCell ⟨j, i, none⟩ u) B a n c fa m fc ds fs qs :=
  ⟨h.bs.set_below hj, OwnE.block h.fs fun g hg => Below.heap_setCell _ _ _ _ (by have := (h.new g hg).1; show g ≠ j; omega), h.new⟩
theorem OwnFa.fr {w : World} {a : Option Addr} {c m : Nat} {fs : List FtD} (h : OwnFa w (.slice a m c) m fs) (hm : m ≤ 1048576) : FR w a m fs := ⟨OwnE.len h, hm, h.rd⟩
/-- A new device was answered. -/
def DvA (w : World) (D : DvD) (e : Ending) (w' : World) : Prop := ∃ a n c fa m fc qs, e = .returned (.agg #[.slice a n c, .int .i64 D.ops, .slice fa m fc, .bool D.down]) ∧ NewDv w' w.heap.size a n c fa m fc D.ds D.fs qs ∧ qs.length = n ∧ Below w.heap.size w w'
end
end Go.Proofs.Yteggiinccjonnaa
