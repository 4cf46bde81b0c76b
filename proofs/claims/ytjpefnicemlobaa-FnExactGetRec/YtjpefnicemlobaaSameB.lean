/-
  Bytes compared: the program's bytes.Equal, the specification's l3SameBytes.
-/
import Derived.Test.YtjpefnicemlobaaRows
import Derived.Test.YtjpefnicemlobaaBase
import Derived.Test.YtjpefnicemlobaaName
import Derived.Test.YtjpefnicemlobaaEntOf
import Derived.Test.YtjpefnicemlobaaText
import Derived.WalkKit
import Derived.WalkSpells
import Derived.WalkLawsBesides
import Derived.Deep.QuietTactic
import Derived.BigQuiet
import Derived.OpenShut
import Derived.Laws.BitsAllLaws
import Derived.Maps.AppendAt
import Derived.Lib.SliceRun
import Derived.Lib.Strings
import Derived.Deep.RegionWith
import Derived.Laws.IdiomStrings
import Derived.Deep.Slices
import Derived.ProofKit
import Derived.ChangeOld
import Derived.Below
import Derived.Laws.StructEq
import Derived.Laws.BytesString
namespace Go.Proofs.Ytjpefnicemlobaa
open Go.RowKit
theorem conv_any (w : World) (a : Option Addr) (n cap : Nat) (zs : List Int) (hn : zs.length = n) (hr : Rd w a zs) :
    (convert 22 9 (.slice a n cap)).run Try.prog w = .ok (.string (str zs)) w := by
  rcases hr with h | ⟨b, off, rfl, hc⟩
  · subst h
    subst hn
    cases a with
    | none =>
      rw [run_convert_bytes_string w 22 9 5 _ _ _ Try.underlying22 Try.underlying5 Try.underlying9]
      simp [Conv.bytesToString, str]
    | some a => exact conv_none w a cap
  · have := conv_at w b off n zs 0 n hn (by omega) hc cap
    rw [Nat.add_zero, List.drop_zero, List.take_of_length_le (by omega)] at this
    exact this
theorem str_go (zs : List Int) (s : ByteArray) : (zs.foldl (fun r n => r.push (UInt8.ofNat n.toNat)) s).data.toList = s.data.toList ++ zs.map (fun n => UInt8.ofNat n.toNat) := by
  induction zs generalizing s with
  | nil => simp
  | cons z zs ih => rw [List.foldl_cons, ih]; simp [ByteArray.push]
theorem str_data (zs : List Int) : (str zs).data.toList = zs.map (fun n => UInt8.ofNat n.toNat) := by
  unfold str
  rw [str_go, show ByteArray.empty.data.toList = [] from rfl, List.nil_append]
theorem str_size (zs : List Int) : (str zs).size = zs.length := by
  have := congrArg List.length (str_data zs)
  rw [List.length_map, Array.length_toList] at this
  exact this
theorem str_inj {zs ys : List Int} (hz : Byt zs) (hy : Byt ys) (h : str zs = str ys) : zs = ys := by
  have h1 := congrArg (fun s : ByteArray => s.data.toList) h
  simp only [str_data] at h1
  have hl : zs.length = ys.length := by simpa using congrArg List.length h1
  refine List.ext_getElem hl fun i hi hj => ?_
  have h2 := congrArg (fun l => l[i]?) h1
  simp only [List.getElem?_map, List.getElem?_eq_getElem hi, List.getElem?_eq_getElem hj, Option.map_some, Option.some.injEq] at h2
  have hzi := hz zs[i] (List.getElem_mem hi)
  have hyi := hy ys[i] (List.getElem_mem hj)
  have h3 := congrArg UInt8.toNat h2
  simp only [UInt8.toNat_ofNat'] at h3
  omega
theorem str_eq {zs ys : List Int} (hz : Byt zs) (hy : Byt ys) : ((str zs).toList == (str ys).toList) = decide (zs = ys) := by
  by_cases h : zs = ys
  · subst h; simp
  · rw [decide_eq_false h]
    exact bytes_ne (fun e => h (str_inj hz hy e))
set_option maxHeartbeats 1000000 in
theorem bytesEq_any (a a' : Option Addr) (n m cap cap' : Nat) (zs ys : List Int) (w : World) (hn : zs.length = n) (hm : ys.length = m) (hr : Rd w a zs) (hr' : Rd w a' ys) (hz : Byt zs) (hy : Byt ys) :
    Calls Try.prog 46 #[.slice a n cap, .slice a' m cap'] w fun e w' => e = .returned (.bool (decide (zs = ys))) ∧ w' = w := by
  have h1 := conv_any w a n cap zs hn hr
  have h2 := conv_any w a' m cap' ys hm hr'
  have h3 := str_eq hz hy
  obtain ⟨s, hs⟩ : ∃ s, str zs = s := ⟨_, rfl⟩
  obtain ⟨t, ht⟩ : ∃ t, str ys = t := ⟨_, rfl⟩
  rw [hs] at h1 h3
  rw [ht] at h2 h3
  have H3 : Hid _ := h3
  clear h3 hs ht hr hr' hz hy hn hm
  go_enter Try.func46, Try.ntmps46
  go_wp2
  go_ret
  exact ⟨ret_bool H3.out, rfl⟩
end Go.Proofs.Ytjpefnicemlobaa
