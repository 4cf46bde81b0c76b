/-
  Joined: PutText, Text.
-/
import Derived.Test.YtmkcadnpleijdaaJ05U
import Derived.Laws.BytesString
namespace Go.Proofs.Ytmkcadnpleijdaa
section
open Go.RowKit
theorem encPos (x : Int) : 0 < (enc x).length := by
  unfold enc encGo
  split <;> simp
theorem own_base {w : World} {g n c B : Nat} {zs : List Int} (h : Own w g n c zs) (hB : B ≤ g) : w.ownsRow B 5 1 (.slice (some ⟨g, 0, none⟩) n c) n (zs.map (Value.int .u8)) := by
  refine ⟨h.1, ?_⟩
  rcases h.2 with ⟨h', _⟩ | ⟨g', cap', cur, h', _, rest⟩
  · simp at h'
  · refine .inr ⟨g', cap', cur, h', ?_, rest⟩
    simp only [Value.slice.injEq, Option.some.injEq, Addr.mk.injEq, and_true, true_and] at h'
    omega
theorem own_form {w : World} {B n : Nat} {v : Value} {zs : List Int} {s : ByteArray} (h : w.ownsRow B 5 1 v n (zs.map (Value.int .u8) ++ Lib.strCells s)) (hv : ¬ v = .slice none 0 0) :
    ∃ g c, v = .slice (some ⟨g, 0, none⟩) n c ∧ B ≤ g ∧ Own w g n c (zs ++ strZ s) := by
  have h1 := h
  rcases h.2 with ⟨h', _⟩ | ⟨g', cap', cur, rfl, hB, rest⟩
  · exact absurd h' hv
  · refine ⟨g', cap', rfl, hB, ?_⟩
    refine ⟨?_, .inr ⟨g', cap', cur, rfl, Nat.zero_le _, ?_⟩⟩
    · rw [List.map_append, ← strZ_cells]; exact h1.1
    · rw [List.map_append, ← strZ_cells]; exact rest
theorem encTs_one (s : ByteArray) : encTs [s] = encT s := by simp [encTs]
set_option maxHeartbeats 400000 in
theorem specPutText_any (ad : Addr) (n cap : Nat) (zs : List Int) (s : ByteArray) (w : World) (hn : zs.length = n) (hs : n ≤ 2000000) (hz : s.size ≤ 2000000) (hr : Rd w (some ad) zs) :
    Calls Try.prog 49 #[.slice (some ad) n cap, .string s] w (PutPost w (n + (enc (s.size : Int)).length + s.size) (zs ++ enc (s.size : Int) ++ strZ s)) := by
  obtain ⟨i0, hi, hz0, hz1, hz2⟩ := info_parts Try.info5
  have hn' : Hid (zs.length = n) := hn
  have hle := enc_len (s.size : Int)
  clear hn
  go_enter Try.func49, Try.ntmps49
  go_wp2_with fail
  refine (specPutNum_any ad n cap zs (s.size : Int) w hn'.out (by omega) hr).mono ?_
  rintro e w1 ⟨g, c, rfl, hg, ho, hb⟩
  have hob := own_base ho hg
  have hm1 : n + (enc (s.size : Int)).length + s.size ≤ maxLen := by unfold maxLen; omega
  go_wp2_with (at_builtin; refine Lib.wpList_append_own_string _ rfl (.tmp 8) (.tmp 9) 22 9 rfl w.heap.size 5 i0 Try.underlying22 Try.underlying9 hi hz0 hz1 hz2 (.slice (some ⟨g, 0, none⟩) (n + (enc (s.size : Int)).length) c) _ _ rfl hob s rfl hm1 (by omega) hb.size ?_; intro v' w2 ho2 hg2 hnil)
  obtain ⟨g2, c2, rfl, hg2', ho2'⟩ := own_form ho2 (fun e => by have := (hnil.1 e).1; simp at this)
  go_ret
  exact ⟨g2, c2, rfl, hg2', ho2', hb.grown hg2 hb.size (by intro k hk; simp [Value.ownBlock] at hk; omega)⟩
end

section
open Go.RowKit
theorem gnGo_next {zs : List Int} {p f k acc : Nat} (hf : f + k = 3) (h : (gnGo zs p f k acc).2.2 = true) : 1 ≤ (gnGo zs p f k acc).2.1 ∧ (gnGo zs p f k acc).2.1 ≤ zs.length ∧ (gnGo zs p f k acc).1 ≤ 1000000 := by
  induction f generalizing k acc with
  | zero => simp [gnGo] at h
  | succ f ih =>
    unfold gnGo at h ⊢
    split at h
    · rename_i h1
      rw [if_pos h1]
      split at h
      · rename_i h2
        rw [if_pos h2]
        exact ih (by omega) h
      · rename_i h2
        rw [if_neg h2]
        split at h
        · simp at h
        · rename_i h3
          rw [if_neg h3]
          simp only
          omega
    · simp at h
theorem gn_next {zs : List Int} {at' : Int} (h : (gn zs at').2.2 = true) : 1 ≤ (gn zs at').2.1 ∧ (gn zs at').2.1 ≤ zs.length ∧ (gn zs at').1 ≤ 1000000 := by
  unfold gn at h ⊢
  split at h
  · simp at h
  · rename_i h1
    rw [if_neg h1]
    exact gnGo_next rfl h
def str (l : List Int) : ByteArray := l.foldl (fun r n => r.push (UInt8.ofNat n.toNat)) ByteArray.empty
def gtOf (zs : List Int) (r : Nat × Nat × Bool) : ByteArray × Nat × Bool :=
  if r.2.2 = false ∨ zs.length < r.2.1 + r.1 then (ByteArray.empty, 0, false)
  else (str ((zs.drop r.2.1).take r.1), r.2.1 + r.1, true)
def gtVal (r : ByteArray × Nat × Bool) : Value := .tuple #[.string r.1, .int .i64 r.2.1, .bool r.2.2]
theorem conv_at (w : World) (b off n : Nat) (zs : List Int) (nx x : Nat) (hn : zs.length = n) (hx : nx + x ≤ n) (hc : ∀ i, i < zs.length → w.cell? ⟨b, off + i, none⟩ = some (.int .u8 (zs.getD i 0))) (cap : Nat) :
    (convert 22 9 (.slice (some ⟨b, off + nx, none⟩) x cap)).run Try.prog w = .ok (.string (str ((zs.drop nx).take x))) w := by
  rw [run_convert_bytes_string w 22 9 5 _ _ _ Try.underlying22 Try.underlying5 Try.underlying9]
  have hl : ((zs.drop nx).take x).length = x := by simp; omega
  have h := run_loadCells_list (P := Try.prog) (w := w) ⟨b, off + nx, none⟩ (((zs.drop nx).take x).map (Value.int .u8)) (by
    intro j v hj
    simp only [List.getElem?_map] at hj
    by_cases hjx : j < x
    · have e : (⟨b, off + nx, none⟩ : Addr).add j = ⟨b, off + (nx + j), none⟩ := by simp [Addr.add, Nat.add_assoc]
      rw [e, hc (nx + j) (by omega)]
      rw [List.getElem?_take, if_pos hjx, List.getElem?_drop] at hj
      rw [← hj, List.getElem?_eq_getElem (by omega)]
      simp [List.getElem?_eq_getElem (show nx + j < zs.length by omega)]
    · rw [List.getElem?_take, if_neg hjx] at hj
      simp at hj)
  simp only [List.length_map, hl] at h
  exact run_bytesToString w _ x cap _ h
theorem conv_none (w : World) (a : Addr) (cap : Nat) : (convert 22 9 (.slice (some a) 0 cap)).run Try.prog w = .ok (.string ByteArray.empty) w := by
  rw [run_convert_bytes_string w 22 9 5 _ _ _ Try.underlying22 Try.underlying5 Try.underlying9]
  have h := run_loadCells_list (P := Try.prog) (w := w) a [] (by intro j v hj; simp at hj)
  exact run_bytesToString w a 0 cap [] h
theorem ret_gt {s : ByteArray} {y : Int} {b : Bool} {r : ByteArray × Nat × Bool} (h1 : s = r.1) (h2 : y = r.2.1) (h3 : b = r.2.2) : Ending.returned (.tuple #[.string s, .int .i64 y, .bool b]) = .returned (gtVal r) := by
  rw [h1, h2, h3]; rfl
set_option maxRecDepth 100000 in
set_option maxHeartbeats 800000 in
theorem implGetText_of (a : Option Addr) (n cap : Nat) (zs : List Int) (at' : Int) (w : World) (hn : zs.length = n) (hs : n ≤ 4000000) (hcap : n ≤ cap) (hr : Rd w a zs) (x nx : Nat) (ok : Bool)
    (hx : ok = true → 1 ≤ nx ∧ nx ≤ zs.length ∧ x ≤ 1000000)
    (HC : Hid (Calls Try.prog 56 #[.slice a n cap, .int .i64 at'] w fun e w' => e = .returned (gnVal (x, nx, ok)) ∧ w' = w)) :
    Calls Try.prog 58 #[.slice a n cap, .int .i64 at'] w fun e w' => e = .returned (gtVal (gtOf zs (x, nx, ok))) ∧ w' = w := by
  cases ok with
  | false =>
    clear hx hr hn
    go_enter Try.func58, Try.ntmps58
    go_wp2_with fail
    refine (Calls.mono HC.out ?_)
    rintro e w' ⟨rfl, rfl⟩
    unfold gnVal
    go_wp2
    go_ret3
    exact ⟨rfl, rfl⟩
  | true =>
    obtain ⟨hx1, hx2, hx3⟩ := hx rfl
    clear hx
    have hnn : nx ≤ n := by omega
    by_cases hlt : n < nx + x
    · have hR : gtOf zs (x, nx, true) = (ByteArray.empty, 0, false) := by unfold gtOf; rw [if_pos (.inr (by rw [hn]; exact hlt))]
      rw [hR]
      have h1 : (n : Int) - (nx : Int) < (x : Int) := by omega
      clear hR hr hn hx2
      go_enter Try.func58, Try.ntmps58
      go_wp2_with fail
      refine (Calls.mono HC.out ?_)
      rintro e w' ⟨rfl, rfl⟩
      unfold gnVal
      go_wp2
      go_ret3
      exact ⟨rfl, rfl⟩
    · have hR : gtOf zs (x, nx, true) = (str ((zs.drop nx).take x), nx + x, true) := by unfold gtOf; rw [if_neg (by simp; omega)]
      rw [hR]
      have h1 : ¬ (n : Int) - (nx : Int) < (x : Int) := by omega
      have h2 : (nx : Int) + (x : Int) ≤ (cap : Int) := by omega
      obtain ⟨b, off, rfl, hlt', hc⟩ := hr.lt (by intro h; subst h; simp at hn; omega)
      by_cases hcn : cap = nx
      · obtain rfl : x = 0 := by omega
        have hcv := conv_none w
        clear hn hR hx2 hr hc hcn
        go_enter Try.func58, Try.ntmps58
        go_wp2_with fail
        refine (Calls.mono HC.out ?_)
        rintro e w' ⟨rfl, rfl⟩
        unfold gnVal
        go_wp2
        all_goals
          go_ret3
          exact ⟨ret_gt rfl (by simp) rfl, rfl⟩
      · have hcv := conv_at w b off n zs nx x hn (by omega) hc
        clear hn hR hx2 hr hc
        go_enter Try.func58, Try.ntmps58
        go_wp2_with fail
        refine (Calls.mono HC.out ?_)
        rintro e w' ⟨rfl, rfl⟩
        unfold gnVal
        go_wp2
        go_ret3
        exact ⟨ret_gt rfl (by simp) rfl, rfl⟩
theorem implGetText_any (a : Option Addr) (n cap : Nat) (zs : List Int) (at' : Int) (w : World) (hn : zs.length = n) (hs : n ≤ 4000000) (hcap : n ≤ cap) (hr : Rd w a zs) (hb : Byt zs) :
    Calls Try.prog 58 #[.slice a n cap, .int .i64 at'] w fun e w' => e = .returned (gtVal (gtOf zs (gn zs at'))) ∧ w' = w :=
  implGetText_of a n cap zs at' w hn hs hcap hr (gn zs at').1 (gn zs at').2.1 (gn zs at').2.2 gn_next (implGetNum_any a n cap zs at' w hn hs hcap hr hb)
set_option maxRecDepth 100000 in
set_option maxHeartbeats 800000 in
theorem specGetText_of (a : Option Addr) (n cap : Nat) (zs : List Int) (at' : Int) (w : World) (hn : zs.length = n) (hs : n ≤ 4000000) (hcap : n ≤ cap) (hr : Rd w a zs) (x nx : Nat) (ok : Bool)
    (hx : ok = true → 1 ≤ nx ∧ nx ≤ zs.length ∧ x ≤ 1000000)
    (HC : Hid (Calls Try.prog 61 #[.slice a n cap, .int .i64 at'] w fun e w' => e = .returned (gnVal (x, nx, ok)) ∧ w' = w)) :
    Calls Try.prog 62 #[.slice a n cap, .int .i64 at'] w fun e w' => e = .returned (gtVal (gtOf zs (x, nx, ok))) ∧ w' = w := by
  cases ok with
  | false =>
    clear hx hr hn
    go_enter Try.func62, Try.ntmps62
    go_wp2_with fail
    refine (Calls.mono HC.out ?_)
    rintro e w' ⟨rfl, rfl⟩
    unfold gnVal
    go_wp2
    go_ret3
    exact ⟨rfl, rfl⟩
  | true =>
    obtain ⟨hx1, hx2, hx3⟩ := hx rfl
    clear hx
    have hnn : nx ≤ n := by omega
    by_cases hlt : n < nx + x
    · have hR : gtOf zs (x, nx, true) = (ByteArray.empty, 0, false) := by unfold gtOf; rw [if_pos (.inr (by rw [hn]; exact hlt))]
      rw [hR]
      have h1 : (n : Int) - (nx : Int) < (x : Int) := by omega
      clear hR hr hn hx2
      go_enter Try.func62, Try.ntmps62
      go_wp2_with fail
      refine (Calls.mono HC.out ?_)
      rintro e w' ⟨rfl, rfl⟩
      unfold gnVal
      go_wp2
      go_ret3
      exact ⟨rfl, rfl⟩
    · have hR : gtOf zs (x, nx, true) = (str ((zs.drop nx).take x), nx + x, true) := by unfold gtOf; rw [if_neg (by simp; omega)]
      rw [hR]
      have h1 : ¬ (n : Int) - (nx : Int) < (x : Int) := by omega
      have h2 : (nx : Int) + (x : Int) ≤ (cap : Int) := by omega
      obtain ⟨b, off, rfl, hlt', hc⟩ := hr.lt (by intro h; subst h; simp at hn; omega)
      by_cases hcn : cap = nx
      · obtain rfl : x = 0 := by omega
        have hcv := conv_none w
        clear hn hR hx2 hr hc hcn
        go_enter Try.func62, Try.ntmps62
        go_wp2_with fail
        refine (Calls.mono HC.out ?_)
        rintro e w' ⟨rfl, rfl⟩
        unfold gnVal
        go_wp2
        all_goals
          go_ret3
          exact ⟨ret_gt rfl (by simp) rfl, rfl⟩
      · have hcv := conv_at w b off n zs nx x hn (by omega) hc
        clear hn hR hx2 hr hc
        go_enter Try.func62, Try.ntmps62
        go_wp2_with fail
        refine (Calls.mono HC.out ?_)
        rintro e w' ⟨rfl, rfl⟩
        unfold gnVal
        go_wp2
        go_ret3
        exact ⟨ret_gt rfl (by simp) rfl, rfl⟩
theorem specGetText_any (a : Option Addr) (n cap : Nat) (zs : List Int) (at' : Int) (w : World) (hn : zs.length = n) (hs : n ≤ 4000000) (hcap : n ≤ cap) (hr : Rd w a zs) (hb : Byt zs) :
    Calls Try.prog 62 #[.slice a n cap, .int .i64 at'] w fun e w' => e = .returned (gtVal (gtOf zs (gn zs at'))) ∧ w' = w :=
  specGetText_of a n cap zs at' w hn hs hcap hr (gn zs at').1 (gn zs at').2.1 (gn zs at').2.2 gn_next (specGetNum_any a n cap zs at' w hn hs hr hb)
end
end Go.Proofs.Ytmkcadnpleijdaa
