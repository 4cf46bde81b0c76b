/-
  Joined: TabM, Kept.
-/
import Derived.Test.YteefhgbbanpniaaJ03I
import Derived.Deep.DeepCutAuto
import Derived.Lib.AppendStr
import Derived.Lib.ConvBytes
import Derived.Deep.RegionHeld3
import Derived.Deep.AppendLies
namespace Go.Proofs.Yteefhgbbanpniaa
section
open Go.RowKit
/-- An inode, and where its lists lie. -/
structure InoR where
  D : InoD
  a1 : Option Addr
  c1 : Nat
  a2 : Option Addr
  c2 : Nat
  a3 : Option Addr
  c3 : Nat
def InoR.v (r : InoR) : Value := inoV r.D r.a1 r.c1 r.a2 r.c2 r.a3 r.c3
def InoR.rd (w : World) (r : InoR) : Prop := InoRd w r.D r.a1 r.a2 r.a3
theorem InoR.rd.keep {w w' : World} {r : InoR} (h : r.rd w) (hb : Below w.heap.size w w') : r.rd w' := InoRd.keep h hb
/-- The six cells of an inode. -/
def InoR.six (r : InoR) : List Value := [.int .i64 r.D.ino, .int .i64 r.D.kind, .int .i64 r.D.links, .slice r.a1 r.D.data.length r.c1, .slice r.a2 r.D.ents.length r.c2, .slice r.a3 r.D.attrs.length r.c3]
/-- The six cells from an address on. -/
structure SixA (w : World) (b off : Nat) (r : InoR) : Prop where
  c0 : w.cell? ⟨b, off, none⟩ = some (.int .i64 r.D.ino)
  c1 : w.cell? ⟨b, off + 1, none⟩ = some (.int .i64 r.D.kind)
  c2 : w.cell? ⟨b, off + 2, none⟩ = some (.int .i64 r.D.links)
  c3 : w.cell? ⟨b, off + 3, none⟩ = some (.slice r.a1 r.D.data.length r.c1)
  c4 : w.cell? ⟨b, off + 4, none⟩ = some (.slice r.a2 r.D.ents.length r.c2)
  c5 : w.cell? ⟨b, off + 5, none⟩ = some (.slice r.a3 r.D.attrs.length r.c3)
theorem SixA.keep {w w' : World} {b off B : Nat} {r : InoR} (h : SixA w b off r) (hb : Below B w w') (hlt : b < B) : SixA w' b off r :=
  ⟨(hb.cell hlt).trans h.c0, (hb.cell hlt).trans h.c1, (hb.cell hlt).trans h.c2, (hb.cell hlt).trans h.c3, (hb.cell hlt).trans h.c4, (hb.cell hlt).trans h.c5⟩
theorem SixA.lt {w : World} {b off : Nat} {r : InoR} (h : SixA w b off r) : b < w.heap.size := World.block_lt_of_cell? w _ h.c0
/-- The inodes rs can be read from the address a on. -/
def RdI (w : World) (a : Option Addr) (rs : List InoR) : Prop :=
  rs = [] ∨ ∃ b off, a = some ⟨b, off, none⟩ ∧ ∀ i r, rs[i]? = some r → SixA w b (off + i * 6) r ∧ r.rd w
theorem RdI.lt {w : World} {a : Option Addr} {rs : List InoR} (h : RdI w a rs) (hz : rs ≠ []) : ∃ b off, a = some ⟨b, off, none⟩ ∧ b < w.heap.size ∧ ∀ i r, rs[i]? = some r → SixA w b (off + i * 6) r ∧ r.rd w := by
  rcases h with h | ⟨b, off, rfl, hc⟩
  · exact absurd h hz
  · obtain ⟨r, l, rfl⟩ := List.exists_cons_of_ne_nil hz
    exact ⟨b, off, rfl, (hc 0 r rfl).1.lt, hc⟩
theorem RdI.keep {w w' : World} {a : Option Addr} {rs : List InoR} (h : RdI w a rs) (hb : Below w.heap.size w w') : RdI w' a rs := by
  by_cases hz : rs = []
  · exact .inl hz
  · obtain ⟨b, off, rfl, hlt, hc⟩ := h.lt hz
    exact .inr ⟨b, off, rfl, fun i r hi => ⟨(hc i r hi).1.keep hb hlt, (hc i r hi).2.keep hb⟩⟩
end

section
open Go.RowKit
theorem Blk.drew {w : World} {B : Nat} {t : TypeId} {vs : Array Value} (h : Blk w B t vs) : Blk w.drew B t vs := h
end
end Go.Proofs.Yteefhgbbanpniaa
