/-
  Bytes compared: the program's bytes.Equal, the specification's l3SameBytes.
-/
import Derived.Test.YtfjlemnohjnkhaaRows
import Derived.Test.YtfjlemnohjnkhaaBase
import Derived.Test.YtfjlemnohjnkhaaName
import Derived.Test.YtfjlemnohjnkhaaPairs
import Derived.Test.YtfjlemnohjnkhaaEntOf
import Derived.Test.YtfjlemnohjnkhaaText
import Derived.WalkKit
import Derived.WalkSpells
import Derived.WalkLawsBesides
import Derived.Deep.QuietTactic
import Derived.BigQuiet
import Derived.OpenShut
import Derived.Laws.BitsAllLaws
import Derived.Maps.AppendAt
import Derived.Lib.SliceRun
import Derived.Lib.Strings
import Derived.Deep.RegionWith
import Derived.Laws.IdiomStrings
import Derived.Deep.Slices
import Derived.ProofKit
import Derived.ChangeOld
import Derived.Below
import Derived.Laws.StructEq
import Derived.Laws.BytesString
namespace Go.Proofs.Ytfjlemnohjnkhaa
open Go.RowKit
theorem conv_any (w : World) (a : Option Addr) (n cap : Nat) (zs : List Int) (hn : zs.length = n) (hr : Rd w a zs) :
    (convert 62 9 (.slice a n cap)).run Try.prog w = .ok (.string (str zs)) w := by
  rcases hr with h | ⟨b, off, rfl, hc⟩
  · subst h
    subst hn
    cases a with
    | none =>
      rw [run_convert_bytes_string w 62 9 5 _ _ _ Try.underlying62 Try.underlying5 Try.underlying9]
      simp [Conv.bytesToString, str]
    | some a => exact conv_none w a cap
  · have := conv_at w b off n zs 0 n hn (by omega) hc cap
    rw [Nat.add_zero, List.drop_zero, List.take_of_length_le (by omega)] at this
    exact this
theorem str_go (zs : List Int) (s : ByteArray) : (zs.foldl (fun r n => r.push (UInt8.ofNat n.toNat)) s).data.toList = s.data.toList ++ zs.map (fun n => UInt8.ofNat n.toNat) := by
  induction zs generalizing s with
  | nil => simp
  | cons z zs ih => rw [List.foldl_cons, ih]; simp [ByteArray.push]
theorem str_data (zs : List Int) : (str zs).data.toList = zs.map (fun n => UInt8.ofNat n.toNat) := by
  unfold str
  rw [str_go, show ByteArray.empty.data.toList = [] from rfl, List.nil_append]
theorem str_inj {zs ys : List Int} (hz : Byt zs) (hy : Byt ys) (h : str zs = str ys) : zs = ys := by
  have h1 := congrArg (fun s : ByteArray => s.data.toList) h
  simp only [str_data] at h1
  have hl : zs.length = ys.length := by simpa using congrArg List.length h1
  refine List.ext_getElem hl fun i hi hj => ?_
  have h2 := congrArg (fun l => l[i]?) h1
  simp only [List.getElem?_map, List.getElem?_eq_getElem hi, List.getElem?_eq_getElem hj, Option.map_some, Option.some.injEq] at h2
  have hzi := hz zs[i] (List.getElem_mem hi)
  have hyi := hy ys[i] (List.getElem_mem hj)
  have h3 := congrArg UInt8.toNat h2
  simp only [UInt8.toNat_ofNat'] at h3
  omega
theorem str_eq {zs ys : List Int} (hz : Byt zs) (hy : Byt ys) : ((str zs).toList == (str ys).toList) = decide (zs = ys) := by
  by_cases h : zs = ys
  · subst h; simp
  · rw [decide_eq_false h]
    exact bytes_ne (fun e => h (str_inj hz hy e))
set_option maxHeartbeats 1000000 in
theorem bytesEq_any (a a' : Option Addr) (n m cap cap' : Nat) (zs ys : List Int) (w : World) (hn : zs.length = n) (hm : ys.length = m) (hr : Rd w a zs) (hr' : Rd w a' ys) (hz : Byt zs) (hy : Byt ys) :
    Calls Try.prog 59 #[.slice a n cap, .slice a' m cap'] w fun e w' => e = .returned (.bool (decide (zs = ys))) ∧ w' = w := by
  have h1 := conv_any w a n cap zs hn hr
  have h2 := conv_any w a' m cap' ys hm hr'
  have h3 := str_eq hz hy
  obtain ⟨s, hs⟩ : ∃ s, str zs = s := ⟨_, rfl⟩
  obtain ⟨t, ht⟩ : ∃ t, str ys = t := ⟨_, rfl⟩
  rw [hs] at h1 h3
  rw [ht] at h2 h3
  have H3 : Hid _ := h3
  clear h3 hs ht hr hr' hz hy hn hm
  go_enter Try.func59, Try.ntmps59
  go_wp2
  go_ret
  exact ⟨ret_bool H3.out, rfl⟩
set_option maxHeartbeats 1000000 in
theorem sameB_any (a a' : Option Addr) (n m cap cap' : Nat) (zs ys : List Int) (w : World) (hn : zs.length = n) (hm : ys.length = m) (hs : n ≤ 4000000) (hs' : m ≤ 4000000) (hr : Rd w a zs) (hr' : Rd w a' ys) :
    Calls Try.prog 49 #[.slice a n cap, .slice a' m cap'] w fun e w' => e = .returned (.bool (decide (zs = ys))) ∧ ∃ d, w' = w.drewN d := by
  by_cases hnm : n = m
  · subst hnm
    by_cases h0 : n = 0
    · subst h0
      obtain rfl : zs = [] := List.length_eq_zero_iff.1 hn
      obtain rfl : ys = [] := List.length_eq_zero_iff.1 hm
      go_enter Try.func49, Try.ntmps49
      go_wp2
      refine wp_loop_rounds 1 ?_; rw [rounds_succ]
      go_wp2
      go_ret
      exact ⟨rfl, 0, rfl⟩
    · obtain ⟨b, off, rfl, hlt, hc⟩ := hr.lt (by intro h; subst h; simp at hn; omega)
      obtain ⟨b', off', rfl, hlt', hc'⟩ := hr'.lt (by intro h; subst h; simp at hm; omega)
      have HC : Hid _ := hc
      have HC' : Hid _ := hc'
      have hn' : Hid (zs.length = n) := hn
      have hm' : Hid (ys.length = n) := hm
      clear hr hr' hc hc' hn hm
      go_enter Try.func49, Try.ntmps49
      go_wp2
      go_loopw [5] (fun i wr => ∃ k d : Nat, k ≤ n ∧ i = .int .i64 k ∧ wr = w.drewN d ∧ Hid (∀ j, j < k → zs.getD j 0 = ys.getD j 0)) (fun i _ => n - (intOf i).toNat)
      case atStart => exact ⟨0, 0, Nat.zero_le _, rfl, rfl, fun j hj => by omega⟩
      case round =>
        obtain ⟨k, d, hk, rfl, hwr0, hall⟩ := hrel
        have hwr : Hid (wr = w.drewN d) := hwr0
        have hcells : ∀ p, wr.cell? p = w.cell? p := fun p => by rw [hwr0]; rfl
        clear hwr0
        by_cases hkn : k < n
        · have hki : (k : Int) < (n : Int) := by omega
          have x1 := HC.out k (by rw [hn'.out]; exact hkn)
          have y1 := HC'.out k (by rw [hm'.out]; exact hkn)
          rw [← hcells] at x1 y1
          have hyes : zs.getD k 0 = ys.getD k 0 → ∀ j, j < k + 1 → zs.getD j 0 = ys.getD j 0 := by
            intro e j hj
            rcases (show j < k ∨ j = k by omega) with hj | rfl
            · exact hall.out j hj
            · exact e
          have hno : zs.getD k 0 ≠ ys.getD k 0 → decide (zs = ys) = false := fun e => decide_eq_false (fun e' => e (by rw [e']))
          obtain ⟨z, hz⟩ : ∃ z, zs.getD k 0 = z := ⟨_, rfl⟩
          obtain ⟨y, hy⟩ : ∃ y, ys.getD k 0 = y := ⟨_, rfl⟩
          rw [hz] at x1 hyes hno
          rw [hy] at y1 hyes hno
          by_cases heq : z = y
          · have heq' : (z == y) = true := by simp [heq]
            have hnx : Hid _ := hyes heq
            clear hyes hno heq hz hy hcells hall
            go_wp2
            go_quiet (fail)
            go_wp2
            go_roundw
            case rel => exact ⟨k + 1, d + nq, by omega, by go_num, by rw [hwr.out, World.drewN_drewN], hnx⟩
            case measure => simp [intOf]; omega
          · have heq' : (z == y) = false := by simp [heq]
            have hfin : Hid _ := hno heq
            clear hyes hno heq hz hy hcells hall
            go_wp2
            go_quiet (fail)
            go_wp2
            go_ret
            exact ⟨ret_bool hfin.out.symm, d + nq, by rw [hwr.out, World.drewN_drewN]⟩
        · have hki : ¬ (k : Int) < (n : Int) := by omega
          have hfin : Hid (decide (zs = ys) = true) := decide_eq_true (List.ext_getElem (by rw [hn'.out, hm'.out]) (fun j h h' => by
            have := hall.out j (by rw [hn'.out] at h; omega)
            simpa [h, h'] using this))
          clear hcells hall
          go_wp2
          go_ret
          exact ⟨ret_bool hfin.out.symm, d, hwr.out⟩
  · have hne : Hid (decide (zs = ys) = false) := decide_eq_false (fun e => hnm (by rw [← hn, ← hm, e]))
    have hnm' : ((n : Int) == (m : Int)) = false := by simp; omega
    clear hr hr' hn hm hnm
    go_enter Try.func49, Try.ntmps49
    go_wp2
    go_ret
    exact ⟨ret_bool hne.out.symm, 0, rfl⟩
end Go.Proofs.Ytfjlemnohjnkhaa
