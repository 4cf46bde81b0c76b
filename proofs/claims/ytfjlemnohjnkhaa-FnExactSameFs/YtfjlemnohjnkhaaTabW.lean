/-
  What the walks over tables share.
-/
import Derived.Test.YtfjlemnohjnkhaaRows
import Derived.Test.YtfjlemnohjnkhaaBase
import Derived.Test.YtfjlemnohjnkhaaPairs
import Derived.Test.YtfjlemnohjnkhaaInode
import Derived.Test.YtfjlemnohjnkhaaSzIno
import Derived.Test.YtfjlemnohjnkhaaSix
import Derived.Test.YtfjlemnohjnkhaaTabM
import Derived.Test.YtfjlemnohjnkhaaToTab
import Derived.Test.YtfjlemnohjnkhaaEqTab
import Derived.WalkKit
import Derived.WalkSpells
import Derived.WalkLawsBesides
import Derived.Deep.QuietTactic
import Derived.BigQuiet
import Derived.OpenShut
import Derived.Laws.BitsAllLaws
import Derived.Maps.AppendAt
import Derived.Lib.SliceRun
import Derived.Lib.Strings
import Derived.Deep.RegionWith
import Derived.Laws.IdiomStrings
import Derived.Deep.Slices
import Derived.ProofKit
import Derived.ChangeOld
import Derived.Below
import Derived.Deep.RegionHeld3
namespace Go.Proofs.Ytfjlemnohjnkhaa
open Go.RowKit
theorem Cpd.len {w : World} {B : Nat} {rs ts : List InoR} (h : Cpd w B rs ts) : ts.length = rs.length := by
  have := congrArg List.length h.1
  simpa using this
theorem Cpd.small {w : World} {B : Nat} {rs ts : List InoR} (h : Cpd w B rs ts) (hs : ∀ r ∈ rs, InoSmall r.D) : ∀ r ∈ ts, InoSmall r.D := by
  intro r hr
  have h1 : r.D ∈ ts.map InoR.D := List.mem_map_of_mem hr
  rw [h.1] at h1
  obtain ⟨q, hq, hqr⟩ := List.mem_map.1 h1
  rw [← hqr]
  exact hs q hq
theorem Cpd.keep {w w' : World} {B : Nat} {rs ts : List InoR} (h : Cpd w B rs ts) (hb : Below w.heap.size w w') : Cpd w' B rs ts := ⟨h.1, fun r hr => (h.2 r hr).keep hb⟩
/-- A table copied: the row g, at or behind B; the copies' data are rs's. -/
structure TabQ (w : World) (B g n : Nat) (rs ts : List InoR) : Prop where
  at_ : B ≤ g
  len : rs.length = n
  cpd : Cpd w (g + 1) rs ts
  own : OwnI w g n n ts
theorem TabQ.keep {w w' : World} {B g n : Nat} {rs ts : List InoR} (h : TabQ w B g n rs ts) (hb : Below w.heap.size w w') : TabQ w' B g n rs ts := ⟨h.at_, h.len, h.cpd.keep hb, h.own.keep hb⟩
theorem TabQ.rd {w : World} {B g n : Nat} {rs ts : List InoR} (h : TabQ w B g n rs ts) : RdI w (some ⟨g, 0, none⟩) ts := h.own.rd h.cpd.2
theorem TabQ.tlen {w : World} {B g n : Nat} {rs ts : List InoR} (h : TabQ w B g n rs ts) : ts.length = n := by rw [h.cpd.len, h.len]
/-- toTab, in these words. -/
theorem toTabQ (a : Option Addr) (n cap : Nat) (nx : Int) (rs : List InoR) (w : World) (hn : rs.length = n) (hs : n ≤ 1048576) (hsm : ∀ r ∈ rs, InoSmall r.D) (hr : RdI w a rs) :
    Calls Try.prog 48 #[.agg #[.slice a n cap, .int .i64 nx]] w fun e w' => ∃ g ts, e = .returned (.agg #[.slice (some ⟨g, 0, none⟩) n n, .int .i64 nx]) ∧ TabQ w' w.heap.size g n rs ts ∧ Below w.heap.size w w' :=
  (toTab_any a n cap nx rs w hn hs hsm hr).mono fun _ _ ⟨g, ts, h1, h2, h3, h4, h5⟩ => ⟨g, ts, h1, ⟨h2, hn, h3, h4⟩, h5⟩
/-- eqTab of two copies, or of a copy and what it is of. -/
theorem eqTabQ (B B' g g' n cap cap' : Nat) (nx : Int) (rs ts ts' : List InoR) (w : World) (hs : n ≤ 1048576) (hsm : ∀ r ∈ rs, InoSmall r.D) (h : TabQ w B g n rs ts) (h' : TabQ w B' g' n rs ts') :
    Calls Try.prog 40 #[.agg #[.slice (some ⟨g, 0, none⟩) n cap, .int .i64 nx], .agg #[.slice (some ⟨g', 0, none⟩) n cap', .int .i64 nx]] w fun e w' => e = .returned (.bool true) ∧ Below w.heap.size w w' :=
  eqTab_same _ _ n cap cap' nx ts ts' w h.tlen (by omega) (by rw [h'.cpd.1, h.cpd.1]) (h.cpd.small hsm) h.rd h'.rd
/-- The box of a table. -/
def BoxT (W : World) (B : Nat) (t : TypeId) (a : Option Addr) (n cap : Nat) (nx : Int) : Prop := Blk W B t #[.slice a n cap, .int .i64 nx]
theorem BoxT.keep {W W' : World} {B : Nat} {t : TypeId} {a : Option Addr} {n cap : Nat} {nx : Int} (h : BoxT W B t a n cap nx) (hb : Below W.heap.size W W') : BoxT W' B t a n cap nx := Blk.keep h hb
theorem BoxT.lt {W : World} {B : Nat} {t : TypeId} {a : Option Addr} {n cap : Nat} {nx : Int} (h : BoxT W B t a n cap nx) : B < W.heap.size := Blk.lt h
theorem BoxT.two {W : World} {B : Nat} {t : TypeId} {a : Option Addr} {n cap : Nat} {nx : Int} (h : BoxT W B t a n cap nx) : W.cell? ⟨B, 0, none⟩ = some (.slice a n cap) ∧ W.cell? ⟨B, 1, none⟩ = some (.int .i64 nx) := ⟨Blk.cell h 0, Blk.cell h 1⟩
theorem BoxT.new (W : World) (t : TypeId) (a : Option Addr) (n cap : Nat) (nx : Int) : BoxT (W.alloc (.cells #[.slice a n cap, .int .i64 nx] t)) W.heap.size t a n cap nx := Blk.new W t _
end Go.Proofs.Ytfjlemnohjnkhaa
