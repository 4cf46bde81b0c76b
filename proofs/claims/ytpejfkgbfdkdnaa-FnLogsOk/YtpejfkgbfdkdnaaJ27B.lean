/-
  Joined: Reader, GetM, NumsB.
-/
import Derived.Test.YtpejfkgbfdkdnaaJ23B
namespace Go.Proofs.Ytpejfkgbfdkdnaa
section
open Go.RowKit
/-- A number read on; the place is none once something was not there whole. -/
def rdN (zs : List Int) : Option Nat → Nat × Option Nat
  | none => (0, none)
  | some p => if (gn zs (p : Int)).2.2 = true then ((gn zs (p : Int)).1, some (gn zs (p : Int)).2.1) else (0, none)
/-- A text read on. -/
def rdT (zs : List Int) : Option Nat → ByteArray × Option Nat
  | none => (ByteArray.empty, none)
  | some p => if (gtOf zs (gn zs (p : Int))).2.2 = true then ((gtOf zs (gn zs (p : Int))).1, some (gtOf zs (gn zs (p : Int))).2.1) else (ByteArray.empty, none)
/-- The reader of the specification in block R stands at st. -/
def RS (W : World) (R : Nat) (a : Option Addr) (n cap : Nat) (st : Option Nat) : Prop :=
  ∃ p : Nat, Blk W R 84 #[.slice a n cap, .int .i64 (p : Int), .bool st.isNone] ∧ ∀ q, st = some q → p = q
theorem rdN_some {zs : List Int} {p x nx : Nat} (h : gn zs (p : Int) = (x, nx, true)) : rdN zs (some p) = (x, some nx) := by simp [rdN, h]
theorem rdN_bad {zs : List Int} {p : Nat} (h : (gn zs (p : Int)).2.2 = false) : rdN zs (some p) = (0, none) := by simp [rdN, h]
theorem rdT_some {zs : List Int} {p nx : Nat} {s : ByteArray} (h : gtOf zs (gn zs (p : Int)) = (s, nx, true)) : rdT zs (some p) = (s, some nx) := by simp [rdT, h]
theorem rdT_bad {zs : List Int} {p : Nat} (h : (gtOf zs (gn zs (p : Int))).2.2 = false) : rdT zs (some p) = (ByteArray.empty, none) := by simp [rdT, h]
theorem gr_two (w : World) (R i : Nat) (v : Value) (d : Nat) : w.grownBy ((w.drewN d).setCell ⟨R, i, none⟩ v) (some R) :=
  ⟨rfl, rfl, rfl, by simp [World.setCell, World.drewN], fun k _ hk => heap_setCell_other (w.drewN d) ⟨R, i, none⟩ k v (fun e => hk (by simp [e]))⟩
set_option maxHeartbeats 2000000 in
theorem l3Num_any (R : Nat) (a : Option Addr) (n cap : Nat) (zs : List Int) (st : Option Nat) (w : World) (hn : zs.length = n) (hs : n ≤ 4000000) (hr : Rd w a zs) (hb : Byt zs) (h : RS w R a n cap st) :
    Calls Try.prog 48 #[.pointer (some ⟨R, 0, none⟩)] w fun e w' => e = .returned (.int .i64 ((rdN zs st).1 : Int)) ∧ RS w' R a n cap (rdN zs st).2 ∧ w.grownBy w' (some R) := by
  obtain ⟨p, hB, hp⟩ := h
  have c0 := hB.cell 0
  have c1 := hB.cell 1
  have c2 := hB.cell 2
  have f1 := hB.frozen 1
  have f2 := hB.frozen 2
  simp at c0 c1 c2
  have hG := fun W (h : Rd W a zs) => specGetNum_any a n cap zs (p : Int) W hn hs h hb
  obtain ⟨x, hx⟩ : ∃ x, (gn zs (p : Int)).1 = x := ⟨_, rfl⟩
  obtain ⟨nx, hnx⟩ : ∃ x, (gn zs (p : Int)).2.1 = x := ⟨_, rfl⟩
  obtain ⟨ok, hok⟩ : ∃ x, (gn zs (p : Int)).2.2 = x := ⟨_, rfl⟩
  have hgn : gn zs (p : Int) = (x, nx, ok) := by rw [← hx, ← hnx, ← hok]
  rw [hgn] at hG
  have HG : ∀ W : World, W.heap = w.heap → Calls Try.prog 66 #[.slice a n cap, .int .i64 (p : Int)] W fun e w' => e = .returned (.tuple #[.int .i64 (x : Int), .int .i64 (nx : Int), .bool ok]) ∧ w' = W := fun W hW => hG W (by
    rcases hr with h | ⟨b, off, rfl, hc⟩
    · exact .inl h
    · refine .inr ⟨b, off, rfl, fun i hi => ?_⟩
      have := hc i hi
      simpa [World.cell?, hW] using this)
  have hHB : Hid (Blk w R 84 #[.slice a n cap, .int .i64 (p : Int), .bool st.isNone]) := hB
  have HP : Hid _ := hp
  have hgn' : Hid _ := hgn
  clear hG hB hp hgn hx hnx hok hr
  cases st with
  | none =>
    simp only [Option.isNone_none] at c2
    have hz : Hid (rdN zs none = (0, none)) := rfl
    go_enter Try.func48, Try.ntmps48
    go_wp2
    go_quiet ((go_at_call 66; refine Calls.quiet_of_same (HG _ rfl)))
    go_wp2
    go_ret
    refine ⟨rfl, ⟨p, ?_, fun q hq => by cases hq⟩, gr_two w R 2 _ _⟩
    exact (Blk.set (W := w.drewN _) (show Blk (w.drewN _) R _ _ from hHB.out) 2 (.bool true))
  | some q =>
    obtain rfl := HP.out q rfl
    simp only [Option.isNone_some] at c2
    cases ok with
    | false =>
      have hz : Hid (rdN zs (some p) = (0, none)) := rdN_bad (by rw [hgn'.out])
      go_enter Try.func48, Try.ntmps48
      go_wp2
      go_quiet ((go_at_call 66; refine Calls.quiet_of_same (HG _ rfl)))
      go_wp2
      go_ret
      rw [hz.out]
      refine ⟨rfl, ⟨p, ?_, fun q hq => by cases hq⟩, gr_two w R 2 _ _⟩
      exact (Blk.set (W := w.drewN _) (show Blk (w.drewN _) R _ _ from hHB.out) 2 (.bool true))
    | true =>
      have hz : Hid (rdN zs (some p) = (x, some nx)) := rdN_some hgn'.out
      go_enter Try.func48, Try.ntmps48
      go_wp2
      go_quiet ((go_at_call 66; refine Calls.quiet_of_same (HG _ rfl)))
      go_wp2
      go_ret
      rw [hz.out]
      refine ⟨rfl, ⟨nx, ?_, fun q hq => by cases hq; rfl⟩, gr_two w R 1 _ _⟩
      exact (Blk.set (W := w.drewN _) (show Blk (w.drewN _) R _ _ from hHB.out) 1 (.int .i64 (nx : Int)))
set_option maxHeartbeats 2000000 in
theorem l3Text_any (R : Nat) (a : Option Addr) (n cap : Nat) (zs : List Int) (st : Option Nat) (w : World) (hn : zs.length = n) (hs : n ≤ 4000000) (hcap : n ≤ cap) (hr : Rd w a zs) (hb : Byt zs) (h : RS w R a n cap st) :
    Calls Try.prog 49 #[.pointer (some ⟨R, 0, none⟩)] w fun e w' => e = .returned (.string (rdT zs st).1) ∧ RS w' R a n cap (rdT zs st).2 ∧ w.grownBy w' (some R) := by
  obtain ⟨p, hB, hp⟩ := h
  have c0 := hB.cell 0
  have c1 := hB.cell 1
  have c2 := hB.cell 2
  have f1 := hB.frozen 1
  have f2 := hB.frozen 2
  simp at c0 c1 c2
  have hG := fun W (h : Rd W a zs) => specGetText_any a n cap zs (p : Int) W hn hs hcap h hb
  obtain ⟨x, hx⟩ : ∃ x, (gtOf zs (gn zs (p : Int))).1 = x := ⟨_, rfl⟩
  obtain ⟨nx, hnx⟩ : ∃ x, (gtOf zs (gn zs (p : Int))).2.1 = x := ⟨_, rfl⟩
  obtain ⟨ok, hok⟩ : ∃ x, (gtOf zs (gn zs (p : Int))).2.2 = x := ⟨_, rfl⟩
  have hgn : gtOf zs (gn zs (p : Int)) = (x, nx, ok) := by rw [← hx, ← hnx, ← hok]
  rw [hgn] at hG
  have HG : ∀ W : World, W.heap = w.heap → Calls Try.prog 67 #[.slice a n cap, .int .i64 (p : Int)] W fun e w' => e = .returned (.tuple #[.string x, .int .i64 (nx : Int), .bool ok]) ∧ w' = W := fun W hW => hG W (by
    rcases hr with h | ⟨b, off, rfl, hc⟩
    · exact .inl h
    · refine .inr ⟨b, off, rfl, fun i hi => ?_⟩
      have := hc i hi
      simpa [World.cell?, hW] using this)
  have hHB : Hid (Blk w R 84 #[.slice a n cap, .int .i64 (p : Int), .bool st.isNone]) := hB
  have HP : Hid _ := hp
  have hgn' : Hid _ := hgn
  clear hG hB hp hgn hx hnx hok hr
  cases st with
  | none =>
    simp only [Option.isNone_none] at c2
    have hz : Hid (rdT zs none = (ByteArray.empty, none)) := rfl
    go_enter Try.func49, Try.ntmps49
    go_wp2
    go_quiet ((go_at_call 67; refine Calls.quiet_of_same (HG _ rfl)))
    go_wp2
    go_ret
    refine ⟨rfl, ⟨p, ?_, fun q hq => by cases hq⟩, gr_two w R 2 _ _⟩
    exact (Blk.set (W := w.drewN _) (show Blk (w.drewN _) R _ _ from hHB.out) 2 (.bool true))
  | some q =>
    obtain rfl := HP.out q rfl
    simp only [Option.isNone_some] at c2
    cases ok with
    | false =>
      have hz : Hid (rdT zs (some p) = (ByteArray.empty, none)) := rdT_bad (by rw [hgn'.out])
      go_enter Try.func49, Try.ntmps49
      go_wp2
      go_quiet ((go_at_call 67; refine Calls.quiet_of_same (HG _ rfl)))
      go_wp2
      go_ret
      rw [hz.out]
      refine ⟨rfl, ⟨p, ?_, fun q hq => by cases hq⟩, gr_two w R 2 _ _⟩
      exact (Blk.set (W := w.drewN _) (show Blk (w.drewN _) R _ _ from hHB.out) 2 (.bool true))
    | true =>
      have hz : Hid (rdT zs (some p) = (x, some nx)) := rdT_some hgn'.out
      go_enter Try.func49, Try.ntmps49
      go_wp2
      go_quiet ((go_at_call 67; refine Calls.quiet_of_same (HG _ rfl)))
      go_wp2
      go_ret
      rw [hz.out]
      refine ⟨rfl, ⟨nx, ?_, fun q hq => by cases hq; rfl⟩, gr_two w R 1 _ _⟩
      exact (Blk.set (W := w.drewN _) (show Blk (w.drewN _) R _ _ from hHB.out) 1 (.int .i64 (nx : Int)))
end

section
open Go.RowKit
/-- k entries read on. -/
def rdE (zs : List Int) (st : Option Nat) : Nat → List (ByteArray × Int) × Option Nat
  | 0 => ([], st)
  | k + 1 => ((rdE zs st k).1 ++ [((rdT zs (rdE zs st k).2).1, ((rdN zs (rdT zs (rdE zs st k).2).2).1 : Int))], (rdN zs (rdT zs (rdE zs st k).2).2).2)
/-- k attributes read on. -/
def rdA (zs : List Int) (st : Option Nat) : Nat → List (ByteArray × ByteArray) × Option Nat
  | 0 => ([], st)
  | k + 1 => ((rdA zs st k).1 ++ [((rdT zs (rdA zs st k).2).1, (rdT zs (rdT zs (rdA zs st k).2).2).1)], (rdT zs (rdT zs (rdA zs st k).2).2).2)
def g1 (zs : List Int) := rdN zs (some 0)
def g2 (zs : List Int) := rdN zs (g1 zs).2
def g3 (zs : List Int) := rdN zs (g2 zs).2
def g4 (zs : List Int) := rdT zs (g3 zs).2
def g5 (zs : List Int) := rdN zs (g4 zs).2
def gE (zs : List Int) := rdE zs (g5 zs).2 (min (g5 zs).1 11)
def g6 (zs : List Int) := rdN zs (gE zs).2
def gA (zs : List Int) := rdA zs (g6 zs).2 (min (g6 zs).1 5)
theorem rdT_size (zs : List Int) (st : Option Nat) : (rdT zs st).1.size ≤ zs.length := by
  cases st with
  | none => simp [rdT]
  | some p =>
    unfold rdT
    simp only
    split
    · unfold gtOf
      split
      · simp
      · rw [show (str ((zs.drop (gn zs (p : Int)).2.1).take (gn zs (p : Int)).1), (gn zs (p : Int)).2.1 + (gn zs (p : Int)).1, true).1 = str ((zs.drop (gn zs (p : Int)).2.1).take (gn zs (p : Int)).1) from rfl, str_size]
        simp
        omega
    · simp
end

section
open Go.RowKit
theorem getD_app (zs l : List Int) (k : Nat) : (zs ++ l).getD (zs.length + k) 0 = l.getD k 0 := by
  simp [List.getElem?_append_right]
theorem enc1 {m : Nat} (h : m < 128) : encGo 3 m = [(m : Int)] := encGo_last (by omega)
theorem enc2 {m : Nat} (h : 128 ≤ m) (h2 : m < 16384) : encGo 3 m = [((m % 128 + 128 : Nat) : Int), ((m / 128 : Nat) : Int)] := by
  rw [encGo_more h, encGo_last (by omega)]
theorem enc3 {m : Nat} (h : 16384 ≤ m) (h2 : m ≤ 1000000) : encGo 3 m = [((m % 128 + 128 : Nat) : Int), ((m / 128 % 128 + 128 : Nat) : Int), ((m / 128 / 128 : Nat) : Int)] := by
  rw [encGo_more (by omega), encGo_more (by omega), encGo_last (by omega)]
theorem gn_at (L : List Int) (p : Nat) (h : p < L.length) : gn L (p : Int) = gnGo L p 3 0 0 := by
  unfold gn; rw [if_neg (by omega)]; simp
/-- What was put is got. -/
theorem gn_enc (zs rest : List Int) (x : Int) : gn (zs ++ enc x ++ rest) (zs.length : Int) = (clamp x, zs.length + (enc x).length, true) := by
  have hm := clamp_le x
  unfold enc
  generalize clamp x = m at *
  rw [List.append_assoc]
  rcases (show m < 128 ∨ (128 ≤ m ∧ m < 16384) ∨ 16384 ≤ m by omega) with h | ⟨h, h2⟩ | h
  · rw [enc1 h, gn_at _ _ (by simp)]
    rw [gnGo_good (Z := m) (by simp) (by rw [getD_app]; rfl) (by omega) (by omega)]
    simp; omega
  · rw [enc2 h h2, gn_at _ _ (by simp)]
    rw [gnGo_more (Z := m % 128 + 128) (by simp) (by rw [getD_app]; rfl) (by omega)]
    rw [gnGo_good (Z := m / 128) (by simp) (by rw [getD_app]; rfl) (by omega) (by omega)]
    simp; omega
  · rw [enc3 h hm, gn_at _ _ (by simp)]
    rw [gnGo_more (Z := m % 128 + 128) (by simp) (by rw [getD_app]; rfl) (by omega)]
    rw [gnGo_more (Z := m / 128 % 128 + 128) (by simp) (by rw [getD_app]; rfl) (by omega)]
    rw [gnGo_good (Z := m / 128 / 128) (by simp) (by rw [getD_app]; rfl) (by omega) (by omega)]
    simp; omega
/-- Cut by its last byte it is not. -/
theorem str_is (l : List Int) : str l = ⟨(l.map fun n => UInt8.ofNat n.toNat).toArray⟩ := by
  have h := str_data l
  rw [← Lib.mk_data (str l), h]
theorem strZ_str (l : List Int) (h : Byt l) : strZ (str l) = l := by
  rw [str_is]
  unfold strZ
  simp only [List.map_map]
  apply List.ext_getElem
  · simp
  · intro i h1 h2
    have hb := h (l[i]) (List.getElem_mem h2)
    simp only [List.getElem_map, Function.comp]
    have : (UInt8.ofNat l[i].toNat).toNat = l[i].toNat := by
      rw [UInt8.toNat_ofNat']; omega
    rw [this]; omega
end
end Go.Proofs.Ytpejfkgbfdkdnaa
