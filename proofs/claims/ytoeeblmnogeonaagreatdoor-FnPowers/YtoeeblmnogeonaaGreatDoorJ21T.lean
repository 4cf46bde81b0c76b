/-
  Joined: Text, SameB, InoEnc, SpecPut.
-/
import Derived.Test.YtoeeblmnogeonaaGreatDoorJ12T
import Derived.Laws.BytesString
import Derived.Laws.StructEq
namespace Go.Proofs.YtoeeblmnogeonaaGreatDoor
section
open Go.RowKit
theorem gnGo_next {zs : List Int} {p f k acc : Nat} (hf : f + k = 3) (h : (gnGo zs p f k acc).2.2 = true) : 1 ≤ (gnGo zs p f k acc).2.1 ∧ (gnGo zs p f k acc).2.1 ≤ zs.length ∧ (gnGo zs p f k acc).1 ≤ 1000000 := by
  induction f generalizing k acc with
  | zero => simp [gnGo] at h
  | succ f ih =>
    unfold gnGo at h ⊢
    split at h
    · rename_i h1
      rw [if_pos h1]
      split at h
      · rename_i h2
        rw [if_pos h2]
        exact ih (by omega) h
      · rename_i h2
        rw [if_neg h2]
        split at h
        · simp at h
        · rename_i h3
          rw [if_neg h3]
          simp only
          omega
    · simp at h
theorem gn_next {zs : List Int} {at' : Int} (h : (gn zs at').2.2 = true) : 1 ≤ (gn zs at').2.1 ∧ (gn zs at').2.1 ≤ zs.length ∧ (gn zs at').1 ≤ 1000000 := by
  unfold gn at h ⊢
  split at h
  · simp at h
  · rename_i h1
    rw [if_neg h1]
    exact gnGo_next rfl h
def str (l : List Int) : ByteArray := l.foldl (fun r n => r.push (UInt8.ofNat n.toNat)) ByteArray.empty
def gtOf (zs : List Int) (r : Nat × Nat × Bool) : ByteArray × Nat × Bool :=
  if r.2.2 = false ∨ zs.length < r.2.1 + r.1 then (ByteArray.empty, 0, false)
  else (str ((zs.drop r.2.1).take r.1), r.2.1 + r.1, true)
def gtVal (r : ByteArray × Nat × Bool) : Value := .tuple #[.string r.1, .int .i64 r.2.1, .bool r.2.2]
theorem conv_at (w : World) (b off n : Nat) (zs : List Int) (nx x : Nat) (hn : zs.length = n) (hx : nx + x ≤ n) (hc : ∀ i, i < zs.length → w.cell? ⟨b, off + i, none⟩ = some (.int .u8 (zs.getD i 0))) (cap : Nat) :
    (convert 22 9 (.slice (some ⟨b, off + nx, none⟩) x cap)).run Tryz.prog w = .ok (.string (str ((zs.drop nx).take x))) w := by
  rw [run_convert_bytes_string w 22 9 5 _ _ _ Tryz.underlying22 Tryz.underlying5 Tryz.underlying9]
  have hl : ((zs.drop nx).take x).length = x := by simp; omega
  have h := run_loadCells_list (P := Tryz.prog) (w := w) ⟨b, off + nx, none⟩ (((zs.drop nx).take x).map (Value.int .u8)) (by
    intro j v hj
    simp only [List.getElem?_map] at hj
    by_cases hjx : j < x
    · have e : (⟨b, off + nx, none⟩ : Addr).add j = ⟨b, off + (nx + j), none⟩ := by simp [Addr.add, Nat.add_assoc]
      rw [e, hc (nx + j) (by omega)]
      rw [List.getElem?_take, if_pos hjx, List.getElem?_drop] at hj
      rw [← hj, List.getElem?_eq_getElem (by omega)]
      simp [List.getElem?_eq_getElem (show nx + j < zs.length by omega)]
    · rw [List.getElem?_take, if_neg hjx] at hj
      simp at hj)
  simp only [List.length_map, hl] at h
  exact run_bytesToString w _ x cap _ h
theorem conv_none (w : World) (a : Addr) (cap : Nat) : (convert 22 9 (.slice (some a) 0 cap)).run Tryz.prog w = .ok (.string ByteArray.empty) w := by
  rw [run_convert_bytes_string w 22 9 5 _ _ _ Tryz.underlying22 Tryz.underlying5 Tryz.underlying9]
  have h := run_loadCells_list (P := Tryz.prog) (w := w) a [] (by intro j v hj; simp at hj)
  exact run_bytesToString w a 0 cap [] h
theorem ret_gt {s : ByteArray} {y : Int} {b : Bool} {r : ByteArray × Nat × Bool} (h1 : s = r.1) (h2 : y = r.2.1) (h3 : b = r.2.2) : Ending.returned (.tuple #[.string s, .int .i64 y, .bool b]) = .returned (gtVal r) := by
  rw [h1, h2, h3]; rfl
set_option maxRecDepth 100000 in
set_option maxHeartbeats 800000 in
theorem implGetText_of (a : Option Addr) (n cap : Nat) (zs : List Int) (at' : Int) (w : World) (hn : zs.length = n) (hs : n ≤ 4000000) (hcap : n ≤ cap) (hr : Rd w a zs) (x nx : Nat) (ok : Bool)
    (hx : ok = true → 1 ≤ nx ∧ nx ≤ zs.length ∧ x ≤ 1000000)
    (HC : Hid (Calls Tryz.prog 149 #[.slice a n cap, .int .i64 at'] w fun e w' => e = .returned (gnVal (x, nx, ok)) ∧ w' = w)) :
    Calls Tryz.prog 151 #[.slice a n cap, .int .i64 at'] w fun e w' => e = .returned (gtVal (gtOf zs (x, nx, ok))) ∧ w' = w := by
  cases ok with
  | false =>
    clear hx hr hn
    go_enter Tryz.func151, Tryz.ntmps151
    go_wp2_with fail
    refine (Calls.mono HC.out ?_)
    rintro e w' ⟨rfl, rfl⟩
    unfold gnVal
    go_wp2
    go_ret3
    exact ⟨rfl, rfl⟩
  | true =>
    obtain ⟨hx1, hx2, hx3⟩ := hx rfl
    clear hx
    have hnn : nx ≤ n := by omega
    by_cases hlt : n < nx + x
    · have hR : gtOf zs (x, nx, true) = (ByteArray.empty, 0, false) := by unfold gtOf; rw [if_pos (.inr (by rw [hn]; exact hlt))]
      rw [hR]
      have h1 : (n : Int) - (nx : Int) < (x : Int) := by omega
      clear hR hr hn hx2
      go_enter Tryz.func151, Tryz.ntmps151
      go_wp2_with fail
      refine (Calls.mono HC.out ?_)
      rintro e w' ⟨rfl, rfl⟩
      unfold gnVal
      go_wp2
      go_ret3
      exact ⟨rfl, rfl⟩
    · have hR : gtOf zs (x, nx, true) = (str ((zs.drop nx).take x), nx + x, true) := by unfold gtOf; rw [if_neg (by simp; omega)]
      rw [hR]
      have h1 : ¬ (n : Int) - (nx : Int) < (x : Int) := by omega
      have h2 : (nx : Int) + (x : Int) ≤ (cap : Int) := by omega
      obtain ⟨b, off, rfl, hlt', hc⟩ := hr.lt (by intro h; subst h; simp at hn; omega)
      by_cases hcn : cap = nx
      · obtain rfl : x = 0 := by omega
        have hcv := conv_none w
        clear hn hR hx2 hr hc hcn
        go_enter Tryz.func151, Tryz.ntmps151
        go_wp2_with fail
        refine (Calls.mono HC.out ?_)
        rintro e w' ⟨rfl, rfl⟩
        unfold gnVal
        go_wp2
        all_goals
          go_ret3
          exact ⟨ret_gt rfl (by simp) rfl, rfl⟩
      · have hcv := conv_at w b off n zs nx x hn (by omega) hc
        clear hn hR hx2 hr hc
        go_enter Tryz.func151, Tryz.ntmps151
        go_wp2_with fail
        refine (Calls.mono HC.out ?_)
        rintro e w' ⟨rfl, rfl⟩
        unfold gnVal
        go_wp2
        go_ret3
        exact ⟨ret_gt rfl (by simp) rfl, rfl⟩
theorem implGetText_any (a : Option Addr) (n cap : Nat) (zs : List Int) (at' : Int) (w : World) (hn : zs.length = n) (hs : n ≤ 4000000) (hcap : n ≤ cap) (hr : Rd w a zs) (hb : Byt zs) :
    Calls Tryz.prog 151 #[.slice a n cap, .int .i64 at'] w fun e w' => e = .returned (gtVal (gtOf zs (gn zs at'))) ∧ w' = w :=
  implGetText_of a n cap zs at' w hn hs hcap hr (gn zs at').1 (gn zs at').2.1 (gn zs at').2.2 gn_next (implGetNum_any a n cap zs at' w hn hs hcap hr hb)
end

section
open Go.RowKit
theorem conv_any (w : World) (a : Option Addr) (n cap : Nat) (zs : List Int) (hn : zs.length = n) (hr : Rd w a zs) :
    (convert 22 9 (.slice a n cap)).run Tryz.prog w = .ok (.string (str zs)) w := by
  rcases hr with h | ⟨b, off, rfl, hc⟩
  · subst h
    subst hn
    cases a with
    | none =>
      rw [run_convert_bytes_string w 22 9 5 _ _ _ Tryz.underlying22 Tryz.underlying5 Tryz.underlying9]
      simp [Conv.bytesToString, str]
    | some a => exact conv_none w a cap
  · have := conv_at w b off n zs 0 n hn (by omega) hc cap
    rw [Nat.add_zero, List.drop_zero, List.take_of_length_le (by omega)] at this
    exact this
theorem str_go (zs : List Int) (s : ByteArray) : (zs.foldl (fun r n => r.push (UInt8.ofNat n.toNat)) s).data.toList = s.data.toList ++ zs.map (fun n => UInt8.ofNat n.toNat) := by
  induction zs generalizing s with
  | nil => simp
  | cons z zs ih => rw [List.foldl_cons, ih]; simp [ByteArray.push]
theorem str_data (zs : List Int) : (str zs).data.toList = zs.map (fun n => UInt8.ofNat n.toNat) := by
  unfold str
  rw [str_go, show ByteArray.empty.data.toList = [] from rfl, List.nil_append]
theorem str_size (zs : List Int) : (str zs).size = zs.length := by
  have := congrArg List.length (str_data zs)
  rw [List.length_map, Array.length_toList] at this
  exact this
theorem str_inj {zs ys : List Int} (hz : Byt zs) (hy : Byt ys) (h : str zs = str ys) : zs = ys := by
  have h1 := congrArg (fun s : ByteArray => s.data.toList) h
  simp only [str_data] at h1
  have hl : zs.length = ys.length := by simpa using congrArg List.length h1
  refine List.ext_getElem hl fun i hi hj => ?_
  have h2 := congrArg (fun l => l[i]?) h1
  simp only [List.getElem?_map, List.getElem?_eq_getElem hi, List.getElem?_eq_getElem hj, Option.map_some, Option.some.injEq] at h2
  have hzi := hz zs[i] (List.getElem_mem hi)
  have hyi := hy ys[i] (List.getElem_mem hj)
  have h3 := congrArg UInt8.toNat h2
  simp only [UInt8.toNat_ofNat'] at h3
  omega
theorem str_eq {zs ys : List Int} (hz : Byt zs) (hy : Byt ys) : ((str zs).toList == (str ys).toList) = decide (zs = ys) := by
  by_cases h : zs = ys
  · subst h; simp
  · rw [decide_eq_false h]
    exact bytes_ne (fun e => h (str_inj hz hy e))
set_option maxHeartbeats 1000000 in
theorem bytesEq_any (a a' : Option Addr) (n m cap cap' : Nat) (zs ys : List Int) (w : World) (hn : zs.length = n) (hm : ys.length = m) (hr : Rd w a zs) (hr' : Rd w a' ys) (hz : Byt zs) (hy : Byt ys) :
    Calls Tryz.prog 147 #[.slice a n cap, .slice a' m cap'] w fun e w' => e = .returned (.bool (decide (zs = ys))) ∧ w' = w := by
  have h1 := conv_any w a n cap zs hn hr
  have h2 := conv_any w a' m cap' ys hm hr'
  have h3 := str_eq hz hy
  obtain ⟨s, hs⟩ : ∃ s, str zs = s := ⟨_, rfl⟩
  obtain ⟨t, ht⟩ : ∃ t, str ys = t := ⟨_, rfl⟩
  rw [hs] at h1 h3
  rw [ht] at h2 h3
  have H3 : Hid _ := h3
  clear h3 hs ht hr hr' hz hy hn hm
  go_enter Tryz.func147, Tryz.ntmps147
  go_wp2
  go_ret
  exact ⟨ret_bool H3.out, rfl⟩
end

section
open Go.RowKit
theorem encT_len (s : ByteArray) : (encT s).length ≤ s.size + 4 := by
  have := enc_len (s.size : Int)
  unfold encT
  rw [List.length_append, strZ_len]
  omega
end

section
open Go.RowKit
theorem specNum0 (ad : Addr) (x : Int) (W : World) :
    Calls Tryz.prog 135 #[.slice (some ad) 0 0, .int .i64 x] W (PutPost W (enc x).length (enc x)) := by
  have h := specPutNum_any ad 0 0 [] x W rfl (by omega) (.inl rfl)
  rw [Nat.zero_add, List.nil_append] at h
  exact h
end
end Go.Proofs.YtoeeblmnogeonaaGreatDoor
