/-
  Two volumes compared by the program.
-/
import Derived.Test.YtfjlemnohjnkhaaGreatJ13F
import Derived.Test.YtfjlemnohjnkhaaGreatJ34F
import Derived.Test.YtfjlemnohjnkhaaGreatSetSF
import Derived.Test.YtfjlemnohjnkhaaGreatSetIF
namespace Go.Proofs.YtfjlemnohjnkhaaGreat
open Go.RowKit
set_option maxRecDepth 100000 in
set_option maxHeartbeats 1600000 in
theorem volumeOf_any (id : Int) (name : ByteArray) (ro : Bool) (limit : Int) (a : Option Addr) (n cap : Nat) (nx : Int) (w : World) :
    Calls Tryz.prog 24 #[.agg #[.int .i64 id, .string name, .bool ro, .int .i64 limit, .slice a n cap, .int .i64 nx]] w fun e w' => e = .returned (.agg #[.slice a n cap, .int .i64 nx, .int .i64 id, .string name, .bool ro, .int .i64 limit]) ∧ Below w.heap.size w w' := by
  have HB : Hid (Below w.heap.size w ((w.alloc (.cells #[.int .i64 id, .string name, .bool ro, .int .i64 limit, .slice a n cap, .int .i64 nx] 49)).alloc (.cells #[.slice a n cap, .int .i64 nx, .int .i64 id, .string name, .bool ro, .int .i64 limit] 56))) := ((Below.refl _ w).alloc (Nat.le_refl _) _).alloc (by simp) _
  have z1 := Blk.new (w.alloc (.cells #[.int .i64 id, .string name, .bool ro, .int .i64 limit, .slice a n cap, .int .i64 nx] 49)) 56 #[.slice a n cap, .int .i64 nx, .int .i64 id, .string name, .bool ro, .int .i64 limit]
  simp only [World.size_alloc] at z1
  obtain ⟨d0, d1, d2, d3, d4, d5⟩ : _ ∧ _ ∧ _ ∧ _ ∧ _ ∧ _ := ⟨z1.cell 0, z1.cell 1, z1.cell 2, z1.cell 3, z1.cell 4, z1.cell 5⟩
  simp at d0 d1 d2 d3 d4 d5
  clear z1
  go_enter Tryz.func24, Tryz.ntmps24
  go_wp2
  refine bodyPost_ret (v := .agg #[.slice a n cap, .int .i64 nx, .int .i64 id, .string name, .bool ro, .int .i64 limit]) (by simp [results, Tryz.f24, go_sem]) rfl ?_
  exact ⟨rfl, HB.out⟩
/-- Behind the two volumes that were made of those handed in. -/
def SVR (w : World) (u v : Array Value) (s5 s6 : Value) (wx : World) : Prop :=
  ∃ X Y : Nat, s5 = .pointer (some ⟨X, 0, none⟩) ∧ s6 = .pointer (some ⟨Y, 0, none⟩) ∧ Blk wx X 56 u ∧ Blk wx Y 56 v ∧ Below w.heap.size w wx
theorem svr_f1 {id : Int} {name : ByteArray} {ro : Bool} {limit : Int} {a : Option Addr} {n cap : Nat} {nx : Int} {id' : Int} {name' : ByteArray} {ro' : Bool} {limit' : Int} {a' : Option Addr} {n' cap' : Nat} {nx' : Int} {w W : World} (h : Below w.heap.size w W) : SVR w #[.slice a n cap, .int .i64 nx, .int .i64 id, .string name, .bool ro, .int .i64 limit] #[.slice a' n' cap', .int .i64 nx', .int .i64 id', .string name', .bool ro', .int .i64 limit'] (.pointer (some ⟨W.heap.size, 0, none⟩)) (.pointer (some ⟨W.heap.size + 1, 0, none⟩)) ((W.alloc (.cells #[.slice a n cap, .int .i64 nx, .int .i64 id, .string name, .bool ro, .int .i64 limit] 56)).alloc (.cells #[.slice a' n' cap', .int .i64 nx', .int .i64 id', .string name', .bool ro', .int .i64 limit'] 56)) :=
  ⟨_, _, rfl, rfl, (Blk.new W _ _).alloc _, Blk.newAt (by simp), (h.alloc h.size _).alloc (by have := h.size; simp; omega) _⟩
theorem svr_f2 {id : Int} {name : ByteArray} {ro : Bool} {limit : Int} {a : Option Addr} {n cap : Nat} {nx : Int} {id' : Int} {name' : ByteArray} {ro' : Bool} {limit' : Int} {a' : Option Addr} {n' cap' : Nat} {nx' : Int} {w W : World} (h : Below w.heap.size w W) : SVR w #[.slice a n cap, .int .i64 nx, .int .i64 id, .string name, .bool ro, .int .i64 limit] #[.slice a' n' cap', .int .i64 nx', .int .i64 id', .string name', .bool ro', .int .i64 limit'] (.pointer (some ⟨W.heap.size + 1, 0, none⟩)) (.pointer (some ⟨W.heap.size, 0, none⟩)) ((W.alloc (.cells #[.slice a' n' cap', .int .i64 nx', .int .i64 id', .string name', .bool ro', .int .i64 limit'] 56)).alloc (.cells #[.slice a n cap, .int .i64 nx, .int .i64 id, .string name, .bool ro, .int .i64 limit] 56)) :=
  ⟨_, _, rfl, rfl, Blk.newAt (by simp), (Blk.new W _ _).alloc _, (h.alloc h.size _).alloc (by have := h.size; simp; omega) _⟩
theorem svr_f3 {id : Int} {name : ByteArray} {ro : Bool} {limit : Int} {a : Option Addr} {n cap : Nat} {nx : Int} {id' : Int} {name' : ByteArray} {ro' : Bool} {limit' : Int} {a' : Option Addr} {n' cap' : Nat} {nx' : Int} {w W : World} {X : Nat} (h : Below w.heap.size w W) (k : Blk W X 56 #[.slice none 0 0, .int .i64 0, .int .i64 0, .string ⟨#[]⟩, .bool false, .int .i64 0]) (hX : w.heap.size ≤ X) : SVR w #[.slice a n cap, .int .i64 nx, .int .i64 id, .string name, .bool ro, .int .i64 limit] #[.slice a' n' cap', .int .i64 nx', .int .i64 id', .string name', .bool ro', .int .i64 limit'] (.pointer (some ⟨X, 0, none⟩)) (.pointer (some ⟨W.heap.size, 0, none⟩)) (((((((W.setCell ⟨X, 0, none⟩ (.slice a n cap)).setCell ⟨X, 1, none⟩ (.int .i64 nx)).setCell ⟨X, 2, none⟩ (.int .i64 id)).setCell ⟨X, 3, none⟩ (.string name)).setCell ⟨X, 4, none⟩ (.bool ro)).setCell ⟨X, 5, none⟩ (.int .i64 limit)).alloc (.cells #[.slice a' n' cap', .int .i64 nx', .int .i64 id', .string name', .bool ro', .int .i64 limit'] 56)) := by
  have b := ((((((h.setCell (p := ⟨X, 0, none⟩) hX (.slice a n cap)).setCell (p := ⟨X, 1, none⟩) hX (.int .i64 nx)).setCell (p := ⟨X, 2, none⟩) hX (.int .i64 id)).setCell (p := ⟨X, 3, none⟩) hX (.string name)).setCell (p := ⟨X, 4, none⟩) hX (.bool ro)).setCell (p := ⟨X, 5, none⟩) hX (.int .i64 limit))
  have k' := ((((((k.set 0 (.slice a n cap)).set 1 (.int .i64 nx)).set 2 (.int .i64 id)).set 3 (.string name)).set 4 (.bool ro)).set 5 (.int .i64 limit))
  refine ⟨_, _, rfl, rfl, k'.alloc _, Blk.newAt (by simp [World.setCell]), b.alloc b.size _⟩
theorem svr_f4 {id : Int} {name : ByteArray} {ro : Bool} {limit : Int} {a : Option Addr} {n cap : Nat} {nx : Int} {id' : Int} {name' : ByteArray} {ro' : Bool} {limit' : Int} {a' : Option Addr} {n' cap' : Nat} {nx' : Int} {w W : World} {X : Nat} (h : Below w.heap.size w W) (k : Blk W X 56 #[.slice none 0 0, .int .i64 0, .int .i64 0, .string ⟨#[]⟩, .bool false, .int .i64 0]) (hX : w.heap.size ≤ X) : SVR w #[.slice a n cap, .int .i64 nx, .int .i64 id, .string name, .bool ro, .int .i64 limit] #[.slice a' n' cap', .int .i64 nx', .int .i64 id', .string name', .bool ro', .int .i64 limit'] (.pointer (some ⟨W.heap.size, 0, none⟩)) (.pointer (some ⟨X, 0, none⟩)) (((((((W.setCell ⟨X, 0, none⟩ (.slice a' n' cap')).setCell ⟨X, 1, none⟩ (.int .i64 nx')).setCell ⟨X, 2, none⟩ (.int .i64 id')).setCell ⟨X, 3, none⟩ (.string name')).setCell ⟨X, 4, none⟩ (.bool ro')).setCell ⟨X, 5, none⟩ (.int .i64 limit')).alloc (.cells #[.slice a n cap, .int .i64 nx, .int .i64 id, .string name, .bool ro, .int .i64 limit] 56)) := by
  have b := ((((((h.setCell (p := ⟨X, 0, none⟩) hX (.slice a' n' cap')).setCell (p := ⟨X, 1, none⟩) hX (.int .i64 nx')).setCell (p := ⟨X, 2, none⟩) hX (.int .i64 id')).setCell (p := ⟨X, 3, none⟩) hX (.string name')).setCell (p := ⟨X, 4, none⟩) hX (.bool ro')).setCell (p := ⟨X, 5, none⟩) hX (.int .i64 limit'))
  have k' := ((((((k.set 0 (.slice a' n' cap')).set 1 (.int .i64 nx')).set 2 (.int .i64 id')).set 3 (.string name')).set 4 (.bool ro')).set 5 (.int .i64 limit'))
  refine ⟨_, _, rfl, rfl, Blk.newAt (by simp [World.setCell]), k'.alloc _, b.alloc b.size _⟩
theorem svr_f5 {id : Int} {name : ByteArray} {ro : Bool} {limit : Int} {a : Option Addr} {n cap : Nat} {nx : Int} {id' : Int} {name' : ByteArray} {ro' : Bool} {limit' : Int} {a' : Option Addr} {n' cap' : Nat} {nx' : Int} {w W : World} {X Y : Nat} (h : Below w.heap.size w W) (k : Blk W X 56 #[.slice none 0 0, .int .i64 0, .int .i64 0, .string ⟨#[]⟩, .bool false, .int .i64 0]) (l : Blk W Y 56 #[.slice none 0 0, .int .i64 0, .int .i64 0, .string ⟨#[]⟩, .bool false, .int .i64 0]) (hX : w.heap.size ≤ X) (hY : w.heap.size ≤ Y) (hne : X ≠ Y) : SVR w #[.slice a n cap, .int .i64 nx, .int .i64 id, .string name, .bool ro, .int .i64 limit] #[.slice a' n' cap', .int .i64 nx', .int .i64 id', .string name', .bool ro', .int .i64 limit'] (.pointer (some ⟨X, 0, none⟩)) (.pointer (some ⟨Y, 0, none⟩)) ((((((((((((W.setCell ⟨X, 0, none⟩ (.slice a n cap)).setCell ⟨X, 1, none⟩ (.int .i64 nx)).setCell ⟨X, 2, none⟩ (.int .i64 id)).setCell ⟨X, 3, none⟩ (.string name)).setCell ⟨X, 4, none⟩ (.bool ro)).setCell ⟨X, 5, none⟩ (.int .i64 limit)).setCell ⟨Y, 0, none⟩ (.slice a' n' cap')).setCell ⟨Y, 1, none⟩ (.int .i64 nx')).setCell ⟨Y, 2, none⟩ (.int .i64 id')).setCell ⟨Y, 3, none⟩ (.string name')).setCell ⟨Y, 4, none⟩ (.bool ro')).setCell ⟨Y, 5, none⟩ (.int .i64 limit')) := by
  have b := ((((((h.setCell (p := ⟨X, 0, none⟩) hX (.slice a n cap)).setCell (p := ⟨X, 1, none⟩) hX (.int .i64 nx)).setCell (p := ⟨X, 2, none⟩) hX (.int .i64 id)).setCell (p := ⟨X, 3, none⟩) hX (.string name)).setCell (p := ⟨X, 4, none⟩) hX (.bool ro)).setCell (p := ⟨X, 5, none⟩) hX (.int .i64 limit))
  have b2 := ((((((b.setCell (p := ⟨Y, 0, none⟩) hY (.slice a' n' cap')).setCell (p := ⟨Y, 1, none⟩) hY (.int .i64 nx')).setCell (p := ⟨Y, 2, none⟩) hY (.int .i64 id')).setCell (p := ⟨Y, 3, none⟩) hY (.string name')).setCell (p := ⟨Y, 4, none⟩) hY (.bool ro')).setCell (p := ⟨Y, 5, none⟩) hY (.int .i64 limit'))
  have k' := ((((((k.set 0 (.slice a n cap)).set 1 (.int .i64 nx)).set 2 (.int .i64 id)).set 3 (.string name)).set 4 (.bool ro)).set 5 (.int .i64 limit))
  have k2 := ((((((k'.other hne 0 (.slice a' n' cap')).other hne 1 (.int .i64 nx')).other hne 2 (.int .i64 id')).other hne 3 (.string name')).other hne 4 (.bool ro')).other hne 5 (.int .i64 limit'))
  have l' := ((((((l.other (Ne.symm hne) 0 (.slice a n cap)).other (Ne.symm hne) 1 (.int .i64 nx)).other (Ne.symm hne) 2 (.int .i64 id)).other (Ne.symm hne) 3 (.string name)).other (Ne.symm hne) 4 (.bool ro)).other (Ne.symm hne) 5 (.int .i64 limit))
  have l2 := ((((((l'.set 0 (.slice a' n' cap')).set 1 (.int .i64 nx')).set 2 (.int .i64 id')).set 3 (.string name')).set 4 (.bool ro')).set 5 (.int .i64 limit'))
  exact ⟨_, _, rfl, rfl, k2, l2, b2⟩
set_option maxHeartbeats 1600000 in
theorem sameAs_any (a a' : Option Addr) (n m cap cap' : Nat) (nx ny : Int) (rs ts : List InoR) (w : World) (hn : rs.length = n) (hm : ts.length = m) (hs : n ≤ 4000000) (hs' : m ≤ 4000000) (h1 : ∀ r ∈ rs, InoSmall r.D) (h2 : ∀ r ∈ ts, InoSmall r.D) (hr : RdI w a rs) (hr' : RdI w a' ts) :
    Calls Tryz.prog 73 #[.agg #[.slice a n cap, .int .i64 nx], .agg #[.slice a' m cap', .int .i64 ny]] w fun e w' => e = .returned (.bool (sameTabOf nx ny rs ts)) ∧ Below w.heap.size w w' := by
  have B0 : Below w.heap.size w ((w.alloc (.cells #[.slice a n cap, .int .i64 nx] 47)).alloc (.cells #[.slice a' m cap', .int .i64 ny] 47)) := ((Below.refl _ w).alloc (Nat.le_refl _) _).alloc (by simp) _
  have hc := sameTabI a a' n m cap cap' nx ny rs ts _ hn hm hs hs' h1 h2 (hr.keep B0) (hr'.keep B0)
  generalize sameTabOf nx ny rs ts = R at hc ⊢
  have HB : Hid _ := B0
  clear h1 h2 hr hr' hn hm B0
  go_enter Tryz.func73, Tryz.ntmps73
  go_wp2_with fail
  (with_reducible refine hc.mono ?_)
  rintro e w1 ⟨rfl, b1⟩
  go_wp2
  go_ret
  exact ⟨rfl, HB.out.trans (b1.mono HB.out.size)⟩
/-- What both say of two volumes. -/
def sameVD (d e : VolD) : Bool := ((((d.id == e.id) && (d.name.toList == e.name.toList)) && (d.ro == e.ro)) && (d.limit == e.limit)) && ((d.nx == e.nx) && sameAll d.ds e.ds)
set_option maxRecDepth 100000 in
set_option maxHeartbeats 8000000 in
theorem sameVol_any (id : Int) (name : ByteArray) (ro : Bool) (limit : Int) (a : Option Addr) (n cap : Nat) (nx : Int) (rs : List InoR) (id' : Int) (name' : ByteArray) (ro' : Bool) (limit' : Int) (a' : Option Addr) (n' cap' : Nat) (nx' : Int) (ts : List InoR) (w : World) (hn : rs.length = n) (hm : ts.length = n') (hs : n ≤ 1048576) (hs' : n' ≤ 1048576) (h1 : ∀ r ∈ rs, InoSmall r.D) (h2 : ∀ r ∈ ts, InoSmall r.D) (hr : RdI w a rs) (hr' : RdI w a' ts) :
    Calls Tryz.prog 39 #[.agg #[.int .i64 id, .string name, .bool ro, .int .i64 limit, .slice a n cap, .int .i64 nx], .agg #[.int .i64 id', .string name', .bool ro', .int .i64 limit', .slice a' n' cap', .int .i64 nx']] w fun e w' => e = .returned (.bool (sameVD ⟨id, name, ro, limit, nx, rs.map InoR.D⟩ ⟨id', name', ro', limit', nx', ts.map InoR.D⟩)) ∧ Below w.heap.size w w' := by
  have B0 : Below w.heap.size w ((w.alloc (.cells #[.int .i64 id, .string name, .bool ro, .int .i64 limit, .slice a n cap, .int .i64 nx] 49)).alloc (.cells #[.int .i64 id', .string name', .bool ro', .int .i64 limit', .slice a' n' cap', .int .i64 nx'] 49)) := ((Below.refl _ w).alloc (Nat.le_refl _) _).alloc (by simp) _
  have z0 := (Blk.new w 49 #[.int .i64 id, .string name, .bool ro, .int .i64 limit, .slice a n cap, .int .i64 nx]).alloc (.cells #[.int .i64 id', .string name', .bool ro', .int .i64 limit', .slice a' n' cap', .int .i64 nx'] 49)
  have z1 := Blk.new (w.alloc (.cells #[.int .i64 id, .string name, .bool ro, .int .i64 limit, .slice a n cap, .int .i64 nx] 49)) 49 #[.int .i64 id', .string name', .bool ro', .int .i64 limit', .slice a' n' cap', .int .i64 nx']
  have hsz : ((w.alloc (.cells #[.int .i64 id, .string name, .bool ro, .int .i64 limit, .slice a n cap, .int .i64 nx] 49)).alloc (.cells #[.int .i64 id', .string name', .bool ro', .int .i64 limit', .slice a' n' cap', .int .i64 nx'] 49)).heap.size = w.heap.size + 2 := by simp
  simp only [World.size_alloc] at z1
  unfold sameVD
  dsimp only
  obtain ⟨R, hR⟩ : ∃ R, ((((id == id') && (name.toList == name'.toList)) && (ro == ro')) && (limit == limit')) = R := ⟨_, rfl⟩
  have hcT : ∀ W : World, Below w.heap.size w W → _ := fun W hb => sameAs_any a a' n n' cap cap' nx nx' rs ts W hn hm (by omega) (by omega) h1 h2 (hr.keep hb) (hr'.keep hb)
  unfold sameTabOf at hcT
  obtain ⟨S, hS⟩ : ∃ S, ((nx == nx') && sameAll (rs.map InoR.D) (ts.map InoR.D)) = S := ⟨_, rfl⟩
  rw [hS] at hcT ⊢
  have HT : Hid _ := hcT
  clear hcT hr hr' h1 h2 hn hm hS
  go_enter Tryz.func39, Tryz.ntmps39
  go_upto_region 1 with fail
  obtain ⟨W0, hW0⟩ : ∃ W, (w.alloc (.cells #[.int .i64 id, .string name, .bool ro, .int .i64 limit, .slice a n cap, .int .i64 nx] 49)).alloc (.cells #[.int .i64 id', .string name', .bool ro', .int .i64 limit', .slice a' n' cap', .int .i64 nx'] 49) = W := ⟨_, rfl⟩
  rw [hW0] at B0 z0 z1 hsz ⊢
  clear hW0
  have HZ : Hid _ := And.intro z0 z1
  have bR : Below W0.heap.size W0 W0 := Below.refl _ W0
  have bD : Below W0.heap.size W0 W0.drew := bR.drew
  obtain ⟨x0, x1, x2, x3, x4, x5⟩ : _ ∧ _ ∧ _ ∧ _ ∧ _ ∧ _ := ⟨z0.cell 0, z0.cell 1, z0.cell 2, z0.cell 3, z0.cell 4, z0.cell 5⟩
  obtain ⟨y0, y1, y2, y3, y4, y5⟩ : _ ∧ _ ∧ _ ∧ _ ∧ _ ∧ _ := ⟨z1.cell 0, z1.cell 1, z1.cell 2, z1.cell 3, z1.cell 4, z1.cell 5⟩
  simp at x0 x1 x2 x3 x4 x5 y0 y1 y2 y3 y4 y5
  clear z0 z1
  have HS0 : Hid _ := hsz
  have nP0a : ¬ w.heap.size = W0.heap.size := (by omega)
  have nP0b : ¬ W0.heap.size = w.heap.size := (by omega)
  have nP1a : ¬ w.heap.size + 1 = W0.heap.size := (by omega)
  have nP1b : ¬ W0.heap.size = w.heap.size + 1 := (by omega)
  have nQ0a : ¬ w.heap.size = W0.heap.size + 1 := (by omega)
  have nQ0b : ¬ W0.heap.size + 1 = w.heap.size := (by omega)
  have nQ1a : ¬ w.heap.size + 1 = W0.heap.size + 1 := (by omega)
  have nQ1b : ¬ W0.heap.size + 1 = w.heap.size + 1 := (by omega)
  clear hsz
  go_cut [5, 6] (fun s5 s6 wx => SVR w #[.slice a n cap, .int .i64 nx, .int .i64 id, .string name, .bool ro, .int .i64 limit] #[.slice a' n' cap', .int .i64 nx', .int .i64 id', .string name', .bool ro', .int .i64 limit'] s5 s6 wx)
  case first =>
    go_region_held3 (fun W : World => W.cell? ⟨w.heap.size, 0, none⟩ = some (.int .i64 id) ∧ W.cell? ⟨w.heap.size, 1, none⟩ = some (.string name) ∧ W.cell? ⟨w.heap.size, 2, none⟩ = some (.bool ro) ∧ W.cell? ⟨w.heap.size, 3, none⟩ = some (.int .i64 limit) ∧ W.cell? ⟨w.heap.size, 4, none⟩ = some (.slice a n cap) ∧ W.cell? ⟨w.heap.size, 5, none⟩ = some (.int .i64 nx) ∧ W.cell? ⟨w.heap.size + 1, 0, none⟩ = some (.int .i64 id') ∧ W.cell? ⟨w.heap.size + 1, 1, none⟩ = some (.string name') ∧ W.cell? ⟨w.heap.size + 1, 2, none⟩ = some (.bool ro') ∧ W.cell? ⟨w.heap.size + 1, 3, none⟩ = some (.int .i64 limit') ∧ W.cell? ⟨w.heap.size + 1, 4, none⟩ = some (.slice a' n' cap') ∧ W.cell? ⟨w.heap.size + 1, 5, none⟩ = some (.int .i64 nx')) (go_keep) (first
      | (go_at_call 24; (with_reducible refine (volumeOf_any id name ro limit a n cap nx _).mono ?_); rintro e w11 ⟨rfl, b11⟩; have B11 : Below W0.heap.size W0 w11 := below_tr (by first | with_reducible exact bD | with_reducible exact (below_al bR _).drew | with_reducible exact (below_al (below_al bR _) _).drew) b11; have hs11 := b11.size; (try simp at hs11); obtain ⟨x0, x1, x2, x3, x4, x5⟩ : _ ∧ _ ∧ _ ∧ _ ∧ _ ∧ _ := ⟨(HZ.out.1.keep B11).cell 0, (HZ.out.1.keep B11).cell 1, (HZ.out.1.keep B11).cell 2, (HZ.out.1.keep B11).cell 3, (HZ.out.1.keep B11).cell 4, (HZ.out.1.keep B11).cell 5⟩; obtain ⟨y0, y1, y2, y3, y4, y5⟩ : _ ∧ _ ∧ _ ∧ _ ∧ _ ∧ _ := ⟨(HZ.out.2.keep B11).cell 0, (HZ.out.2.keep B11).cell 1, (HZ.out.2.keep B11).cell 2, (HZ.out.2.keep B11).cell 3, (HZ.out.2.keep B11).cell 4, (HZ.out.2.keep B11).cell 5⟩; (simp at x0 x1 x2 x3 x4 x5 y0 y1 y2 y3 y4 y5); (first | (with_reducible (have kA : Blk w11 W0.heap.size 56 #[.slice none 0 0, .int .i64 0, .int .i64 0, .string ⟨#[]⟩, .bool false, .int .i64 0] := Blk.keep (W := (W0.alloc (.cells #[.slice none 0 0, .int .i64 0, .int .i64 0, .string ⟨#[]⟩, .bool false, .int .i64 0] 56)).drew) (Blk.drew (Blk.newAt rfl)) b11)) | ((with_reducible (have kA : Blk w11 W0.heap.size 56 #[.slice none 0 0, .int .i64 0, .int .i64 0, .string ⟨#[]⟩, .bool false, .int .i64 0] := Blk.keep (W := ((W0.alloc (.cells #[.slice none 0 0, .int .i64 0, .int .i64 0, .string ⟨#[]⟩, .bool false, .int .i64 0] 56)).alloc (.cells #[.slice none 0 0, .int .i64 0, .int .i64 0, .string ⟨#[]⟩, .bool false, .int .i64 0] 56)).drew) (Blk.drew (Blk.alloc (Blk.newAt rfl) _)) b11)); have kB : Blk w11 (W0.heap.size + 1) 56 #[.slice none 0 0, .int .i64 0, .int .i64 0, .string ⟨#[]⟩, .bool false, .int .i64 0] := Blk.keep (W := ((W0.alloc (.cells #[.slice none 0 0, .int .i64 0, .int .i64 0, .string ⟨#[]⟩, .bool false, .int .i64 0] 56)).alloc (.cells #[.slice none 0 0, .int .i64 0, .int .i64 0, .string ⟨#[]⟩, .bool false, .int .i64 0] 56)).drew) (Blk.drew (Blk.newAt (by simp))) b11) | skip); (try (have lkA := kA.lt; have m1kA : ¬ W0.heap.size = w11.heap.size := (by omega); have m2kA : ¬ w11.heap.size = W0.heap.size := (by omega); have m3kA : ¬ W0.heap.size = w11.heap.size + 1 := (by omega); have m4kA : ¬ w11.heap.size + 1 = W0.heap.size := (by omega))); (try (have lkB := kB.lt; have m1kB : ¬ W0.heap.size + 1 = w11.heap.size := (by omega); have m2kB : ¬ w11.heap.size = W0.heap.size + 1 := (by omega); have m3kB : ¬ W0.heap.size + 1 = w11.heap.size + 1 := (by omega); have m4kB : ¬ w11.heap.size + 1 = W0.heap.size + 1 := (by omega))); have hq11 := B11.size; have hq0 := HS0.out; have nR0a : ¬ w.heap.size = w11.heap.size := (by omega); have nR0b : ¬ w11.heap.size = w.heap.size := (by omega); have nR1a : ¬ w.heap.size + 1 = w11.heap.size := (by omega); have nR1b : ¬ w11.heap.size = w.heap.size + 1 := (by omega); have nR2a : ¬ w.heap.size = w11.heap.size + 1 := (by omega); have nR2b : ¬ w11.heap.size + 1 = w.heap.size := (by omega); have nR3a : ¬ w.heap.size + 1 = w11.heap.size + 1 := (by omega); have nR3b : ¬ w11.heap.size + 1 = w.heap.size + 1 := (by omega); clear hq0 hs11)
      | (go_at_call 24; (with_reducible refine (volumeOf_any id' name' ro' limit' a' n' cap' nx' _).mono ?_); rintro e w13 ⟨rfl, b13⟩; have B13 : Below W0.heap.size W0 w13 := below_tr (by first | with_reducible exact B11 | with_reducible exact below_al B11 _ | with_reducible exact below_al (below_al B11 _) _) b13; have hs13 := b13.size; (try simp at hs13); obtain ⟨x0, x1, x2, x3, x4, x5⟩ : _ ∧ _ ∧ _ ∧ _ ∧ _ ∧ _ := ⟨(HZ.out.1.keep B13).cell 0, (HZ.out.1.keep B13).cell 1, (HZ.out.1.keep B13).cell 2, (HZ.out.1.keep B13).cell 3, (HZ.out.1.keep B13).cell 4, (HZ.out.1.keep B13).cell 5⟩; obtain ⟨y0, y1, y2, y3, y4, y5⟩ : _ ∧ _ ∧ _ ∧ _ ∧ _ ∧ _ := ⟨(HZ.out.2.keep B13).cell 0, (HZ.out.2.keep B13).cell 1, (HZ.out.2.keep B13).cell 2, (HZ.out.2.keep B13).cell 3, (HZ.out.2.keep B13).cell 4, (HZ.out.2.keep B13).cell 5⟩; (simp at x0 x1 x2 x3 x4 x5 y0 y1 y2 y3 y4 y5); have bQ : Below w11.heap.size w11 w13 := below_tr (by first | with_reducible exact (Below.refl w11.heap.size w11) | with_reducible exact below_al (Below.refl w11.heap.size w11) _ | with_reducible exact below_al (below_al (Below.refl w11.heap.size w11) _) _) b13; (try (have kA := kA.keep bQ)); (try (have kB := kB.keep bQ)); (first | (with_reducible (have kC : Blk w13 w11.heap.size 56 #[.slice none 0 0, .int .i64 0, .int .i64 0, .string ⟨#[]⟩, .bool false, .int .i64 0] := Blk.keep (W := w11.alloc (.cells #[.slice none 0 0, .int .i64 0, .int .i64 0, .string ⟨#[]⟩, .bool false, .int .i64 0] 56)) (Blk.newAt rfl) b13)) | ((with_reducible (have kC : Blk w13 w11.heap.size 56 #[.slice none 0 0, .int .i64 0, .int .i64 0, .string ⟨#[]⟩, .bool false, .int .i64 0] := Blk.keep (W := (w11.alloc (.cells #[.slice none 0 0, .int .i64 0, .int .i64 0, .string ⟨#[]⟩, .bool false, .int .i64 0] 56)).alloc (.cells #[.slice none 0 0, .int .i64 0, .int .i64 0, .string ⟨#[]⟩, .bool false, .int .i64 0] 56)) (Blk.alloc (Blk.newAt rfl) _) b13)); have kD : Blk w13 (w11.heap.size + 1) 56 #[.slice none 0 0, .int .i64 0, .int .i64 0, .string ⟨#[]⟩, .bool false, .int .i64 0] := Blk.keep (W := (w11.alloc (.cells #[.slice none 0 0, .int .i64 0, .int .i64 0, .string ⟨#[]⟩, .bool false, .int .i64 0] 56)).alloc (.cells #[.slice none 0 0, .int .i64 0, .int .i64 0, .string ⟨#[]⟩, .bool false, .int .i64 0] 56)) (Blk.newAt (by simp)) b13) | skip); (try (have lkA2 := kA.lt; have p1kA : ¬ W0.heap.size = w13.heap.size := (by omega); have p2kA : ¬ w13.heap.size = W0.heap.size := (by omega); have p3kA : ¬ W0.heap.size = w13.heap.size + 1 := (by omega); have p4kA : ¬ w13.heap.size + 1 = W0.heap.size := (by omega); have ckA0 := kA.cell 0; have fkA0 := kA.frozen 0; have ckA1 := kA.cell 1; have fkA1 := kA.frozen 1; have ckA2 := kA.cell 2; have fkA2 := kA.frozen 2; have ckA3 := kA.cell 3; have fkA3 := kA.frozen 3; have ckA4 := kA.cell 4; have fkA4 := kA.frozen 4; have ckA5 := kA.cell 5; have fkA5 := kA.frozen 5; (simp at ckA0 ckA1 ckA2 ckA3 ckA4 ckA5))); (try (have lkB2 := kB.lt; have p1kB : ¬ W0.heap.size + 1 = w13.heap.size := (by omega); have p2kB : ¬ w13.heap.size = W0.heap.size + 1 := (by omega); have p3kB : ¬ W0.heap.size + 1 = w13.heap.size + 1 := (by omega); have p4kB : ¬ w13.heap.size + 1 = W0.heap.size + 1 := (by omega); have ckB0 := kB.cell 0; have fkB0 := kB.frozen 0; have ckB1 := kB.cell 1; have fkB1 := kB.frozen 1; have ckB2 := kB.cell 2; have fkB2 := kB.frozen 2; have ckB3 := kB.cell 3; have fkB3 := kB.frozen 3; have ckB4 := kB.cell 4; have fkB4 := kB.frozen 4; have ckB5 := kB.cell 5; have fkB5 := kB.frozen 5; (simp at ckB0 ckB1 ckB2 ckB3 ckB4 ckB5))); (try (have lkC2 := kC.lt; have p1kC : ¬ w11.heap.size = w13.heap.size := (by omega); have p2kC : ¬ w13.heap.size = w11.heap.size := (by omega); have p3kC : ¬ w11.heap.size = w13.heap.size + 1 := (by omega); have p4kC : ¬ w13.heap.size + 1 = w11.heap.size := (by omega); have ckC0 := kC.cell 0; have fkC0 := kC.frozen 0; have ckC1 := kC.cell 1; have fkC1 := kC.frozen 1; have ckC2 := kC.cell 2; have fkC2 := kC.frozen 2; have ckC3 := kC.cell 3; have fkC3 := kC.frozen 3; have ckC4 := kC.cell 4; have fkC4 := kC.frozen 4; have ckC5 := kC.cell 5; have fkC5 := kC.frozen 5; (simp at ckC0 ckC1 ckC2 ckC3 ckC4 ckC5))); (try (have lkD2 := kD.lt; have p1kD : ¬ w11.heap.size + 1 = w13.heap.size := (by omega); have p2kD : ¬ w13.heap.size = w11.heap.size + 1 := (by omega); have p3kD : ¬ w11.heap.size + 1 = w13.heap.size + 1 := (by omega); have p4kD : ¬ w13.heap.size + 1 = w11.heap.size + 1 := (by omega); have ckD0 := kD.cell 0; have fkD0 := kD.frozen 0; have ckD1 := kD.cell 1; have fkD1 := kD.frozen 1; have ckD2 := kD.cell 2; have fkD2 := kD.frozen 2; have ckD3 := kD.cell 3; have fkD3 := kD.frozen 3; have ckD4 := kD.cell 4; have fkD4 := kD.frozen 4; have ckD5 := kD.cell 5; have fkD5 := kD.frozen 5; (simp at ckD0 ckD1 ckD2 ckD3 ckD4 ckD5))); have hq13 := B13.size; have hr13 := bQ.size; have hq0 := HS0.out; have hw0 := B0.size; have nS0a : ¬ w.heap.size = w13.heap.size := (by omega); have nS0b : ¬ w13.heap.size = w.heap.size := (by omega); have nS1a : ¬ w.heap.size + 1 = w13.heap.size := (by omega); have nS1b : ¬ w13.heap.size = w.heap.size + 1 := (by omega); clear hq0)
      | fail)
    all_goals (go_wp2_with fail; go_meet; have B13w : Below w.heap.size w w13 := below_tr B0 B13; have hw0 := B0.size; have hq0 := HS0.out; first | with_reducible exact svr_f1 B13w | with_reducible exact svr_f2 B13w | with_reducible exact svr_f3 B13w kA (by omega) | with_reducible exact svr_f3 B13w kB (by omega) | with_reducible exact svr_f3 B13w kC (by omega) | with_reducible exact svr_f3 B13w kD (by omega) | with_reducible exact svr_f4 B13w kA (by omega) | with_reducible exact svr_f4 B13w kB (by omega) | with_reducible exact svr_f4 B13w kC (by omega) | with_reducible exact svr_f4 B13w kD (by omega) | with_reducible exact svr_f5 B13w kA kB (by omega) (by omega) (by omega) | with_reducible exact svr_f5 B13w kA kC (by omega) (by omega) (by omega) | with_reducible exact svr_f5 B13w kA kD (by omega) (by omega) (by omega) | with_reducible exact svr_f5 B13w kB kA (by omega) (by omega) (by omega) | with_reducible exact svr_f5 B13w kB kC (by omega) (by omega) (by omega) | with_reducible exact svr_f5 B13w kB kD (by omega) (by omega) (by omega) | with_reducible exact svr_f5 B13w kC kA (by omega) (by omega) (by omega) | with_reducible exact svr_f5 B13w kC kB (by omega) (by omega) (by omega) | with_reducible exact svr_f5 B13w kC kD (by omega) (by omega) (by omega) | with_reducible exact svr_f5 B13w kD kA (by omega) (by omega) (by omega) | with_reducible exact svr_f5 B13w kD kB (by omega) (by omega) (by omega) | with_reducible exact svr_f5 B13w kD kC (by omega) (by omega) (by omega) | fail)
  case rest =>
  obtain ⟨X, Y, rfl, rfl, kX, kY, hbw⟩ := hcut
  obtain ⟨W1, hwc⟩ : ∃ W, W = wc := ⟨_, rfl⟩
  subst hwc
  clear bR bD x0 x1 x2 x3 x4 x5 y0 y1 y2 y3 y4 y5 HZ B0 HS0 nP0a nP0b nP1a nP1b nQ0a nQ0b nQ1a nQ1b
  obtain ⟨x0, x1, x2, x3, x4, x5⟩ : _ ∧ _ ∧ _ ∧ _ ∧ _ ∧ _ := ⟨kX.cell 0, kX.cell 1, kX.cell 2, kX.cell 3, kX.cell 4, kX.cell 5⟩
  obtain ⟨y0, y1, y2, y3, y4, y5⟩ : _ ∧ _ ∧ _ ∧ _ ∧ _ ∧ _ := ⟨kY.cell 0, kY.cell 1, kY.cell 2, kY.cell 3, kY.cell 4, kY.cell 5⟩
  simp at x0 x1 x2 x3 x4 x5 y0 y1 y2 y3 y4 y5
  have hc := HT.out W1 hbw
  have HBW : Hid _ := hbw
  clear kX kY HT hbw hR
  cases hb1 : (id == id') with
  | false =>
    have hend : Hid (((((id == id') && (name.toList == name'.toList)) && (ro == ro')) && (limit == limit') && S) = false) := by show _ = _; rw [hb1]; simp
    clear hc
    go_wp2
    go_ret
    exact ⟨ret_bool hend.out.symm, HBW.out⟩
  | true =>
    cases hb2 : (name.toList == name'.toList) with
    | false =>
      have hend : Hid (((((id == id') && (name.toList == name'.toList)) && (ro == ro')) && (limit == limit') && S) = false) := by show _ = _; rw [hb2]; simp
      clear hc
      go_wp2
      go_ret
      exact ⟨ret_bool hend.out.symm, HBW.out⟩
    | true =>
      cases hb3 : (ro == ro') with
      | false =>
        have hend : Hid (((((id == id') && (name.toList == name'.toList)) && (ro == ro')) && (limit == limit') && S) = false) := by show _ = _; rw [hb3]; simp
        clear hc
        go_wp2
        go_ret
        exact ⟨ret_bool hend.out.symm, HBW.out⟩
      | true =>
        cases hb4 : (limit == limit') with
        | false =>
          have hend : Hid (((((id == id') && (name.toList == name'.toList)) && (ro == ro')) && (limit == limit') && S) = false) := by show _ = _; rw [hb4]; simp
          clear hc
          go_wp2
          go_ret
          exact ⟨ret_bool hend.out.symm, HBW.out⟩
        | true =>
          have hend : Hid (((((id == id') && (name.toList == name'.toList)) && (ro == ro')) && (limit == limit') && S) = S) := by show _ = _; rw [hb1, hb2, hb3, hb4]; simp
          go_wp2_with fail
          (with_reducible refine hc.mono ?_)
          rintro e w2 ⟨rfl, b2⟩
          clear x0 x1 x2 x3 x4 x5 y0 y1 y2 y3 y4 y5 hc
          go_wp2
          go_ret
          exact ⟨ret_bool hend.out.symm, HBW.out.trans (b2.mono HBW.out.size)⟩
end Go.Proofs.YtfjlemnohjnkhaaGreat
