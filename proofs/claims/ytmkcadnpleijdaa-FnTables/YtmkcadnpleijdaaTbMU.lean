/-
  Rows of tables of volumes: five cells an element, a text and a flag among them; read, owned, measured, copied, compared, marked, held.
-/
import Derived.Test.YtmkcadnpleijdaaJ07U
namespace Go.Proofs.Ytmkcadnpleijdaa
open Go.RowKit
/-- A row: a volume's number, its name, whether it is for reading alone, its limit, where its map is. -/
structure RwD where
  id : Int
  name : ByteArray
  ro : Bool
  lim : Int
  mp : Int
deriving Inhabited
def rwE : El RwD := ⟨5, by omega, fun f => [.int .i64 f.id, .string f.name, .bool f.ro, .int .i64 f.lim, .int .i64 f.mp], fun _ => rfl⟩
def RdRw (w : World) (a : Option Addr) (ps : List RwD) : Prop := RdE rwE (fun _ => True) w a ps
theorem RdRw.keep {w w' : World} {a : Option Addr} {ps : List RwD} (h : RdRw w a ps) (hb : Below w.heap.size w w') : RdRw w' a ps := RdE.mono h hb fun _ _ hr => hr
/-- The cells of a row. -/
structure Fiv (w : World) (b off : Nat) (r : RwD) : Prop where
  c0 : w.cell? ⟨b, off, none⟩ = some (.int .i64 r.id)
  c1 : w.cell? ⟨b, off + 1, none⟩ = some (.string r.name)
  c2 : w.cell? ⟨b, off + 2, none⟩ = some (.bool r.ro)
  c3 : w.cell? ⟨b, off + 3, none⟩ = some (.int .i64 r.lim)
  c4 : w.cell? ⟨b, off + 4, none⟩ = some (.int .i64 r.mp)
theorem Fiv.keep {w w' : World} {b off B : Nat} {r : RwD} (h : Fiv w b off r) (hb : Below B w w') (hlt : b < B) : Fiv w' b off r := ⟨(hb.cell hlt).trans h.c0, (hb.cell hlt).trans h.c1, (hb.cell hlt).trans h.c2, (hb.cell hlt).trans h.c3, (hb.cell hlt).trans h.c4⟩
theorem RdRw.lt {w : World} {a : Option Addr} {ps : List RwD} (h : RdRw w a ps) (hz : ps ≠ []) : ∃ b off, a = some ⟨b, off, none⟩ ∧ b < w.heap.size ∧ ∀ i r, ps[i]? = some r → Fiv w b (off + i * 5) r := by
  obtain ⟨b, off, h1, h2, h3⟩ := RdE.lt h hz
  exact ⟨b, off, h1, h2, fun i p hi => ⟨(h3 i p hi).1 0 (by decide), (h3 i p hi).1 1 (by decide), (h3 i p hi).1 2 (by decide), (h3 i p hi).1 3 (by decide), (h3 i p hi).1 4 (by decide)⟩⟩
/-- Rows that can be read. -/
structure WR (w : World) (a : Option Addr) (m : Nat) (ps : List RwD) : Prop where
  len : ps.length = m
  tot : m ≤ 1048576
  nam : ∀ r ∈ ps, r.name.size ≤ 1048576
  rd : RdRw w a ps
theorem WR.keep {w w' : World} {a : Option Addr} {m : Nat} {ps : List RwD} (h : WR w a m ps) (hb : Below w.heap.size w w') : WR w' a m ps := ⟨h.len, h.tot, h.nam, h.rd.keep hb⟩
theorem WR.some {w : World} {a : Option Addr} {m k : Nat} {ps : List RwD} (h : WR w a m ps) (hk : k < m) : ∃ b off r, a = some ⟨b, off, none⟩ ∧ b < w.heap.size ∧ ps[k]? = .some r ∧ Fiv w b (off + k * 5) r := by
  have hl := h.len
  have hrk : ps[k]? = .some ps[k] := List.getElem?_eq_getElem (by omega)
  obtain ⟨b, off, e, hlt, hc⟩ := h.rd.lt (by intro h0; subst h0; simp at hl; omega)
  exact ⟨b, off, ps[k], e, hlt, hrk, hc k _ hrk⟩
/-- Rows of the call's own. -/
def OwnRw (w : World) (v : Value) (m : Nat) (ps : List RwD) : Prop := OwnE rwE 35 w v m ps
theorem OwnRw.rd {w : World} {a : Option Addr} {c n m : Nat} {ps : List RwD} (h : OwnRw w (.slice a n c) m ps) : RdRw w a ps := by
  obtain ⟨a', c', e, r⟩ := OwnE.rd (rd := fun _ => True) h (fun _ _ => trivial)
  simp only [Value.slice.injEq] at e
  rw [e.1]; exact r
theorem OwnRw.wr {w : World} {a : Option Addr} {c m : Nat} {ps : List RwD} (h : OwnRw w (.slice a m c) m ps) (hm : m ≤ 1048576) (hn : ∀ r ∈ ps, r.name.size ≤ 1048576) : WR w a m ps := ⟨OwnE.len h, hm, hn, h.rd⟩
def rwZ : RwD := ⟨0, ⟨#[]⟩, false, 0, 0⟩
theorem Try.infoRow : (Try.prog.info? 35).map (fun i => (i.zero, i.size, i.bytes)) = some (some (.agg #[.int .i64 0, .string ⟨#[]⟩, .bool false, .int .i64 0, .int .i64 0]), 5, 48) := by kernel_rfl
end Go.Proofs.Ytmkcadnpleijdaa

