/-
  What the laws on inodes need: a drawn inode.
-/
import Derived.Test.YtjpefnicemlobaaRows
import Derived.Test.YtjpefnicemlobaaBase
import Derived.Test.YtjpefnicemlobaaPut
import Derived.Test.YtjpefnicemlobaaPuts
import Derived.Test.YtjpefnicemlobaaDraw
import Derived.Test.YtjpefnicemlobaaSpecGet
import Derived.WalkKit
import Derived.WalkSpells
import Derived.WalkLawsBesides
import Derived.Deep.QuietTactic
import Derived.BigQuiet
import Derived.OpenShut
import Derived.Laws.BitsAllLaws
import Derived.Maps.AppendAt
import Derived.Lib.SliceRun
import Derived.Lib.Strings
import Derived.Deep.RegionWith
import Derived.Laws.IdiomStrings
import Derived.Deep.Slices
import Derived.ProofKit
import Derived.ChangeOld
import Derived.Below
import Derived.Deep.DeepCutAuto
import Derived.Lib.AppendStr
import Derived.Lib.ConvBytes
import Derived.Deep.RegionHeld3
import Derived.Deep.AppendLies
import Derived.Laws.StructEq
import Derived.Laws.BytesString
import Derived.Laws.BitsLemmas
import Derived.Deep.RegionLaw
import Derived.Deep.OwnRows
import Derived.Deep.CutBlock
namespace Go.Proofs.Ytjpefnicemlobaa
open Go.RowKit
theorem Own.cap' {w : World} {g n c : Nat} {zs : List Int} (h : Own w g n c zs) : n ≤ c := by
  rcases h.2 with ⟨h', _⟩ | ⟨g', c', cur, h', _, _, h5, _⟩
  · simp at h'
  · simp at h'
    omega
theorem encGo_byt' (f m : Nat) (h : m < 128 ^ (f + 1)) : Byt (encGo f m) := by
  induction f generalizing m with
  | zero =>
    intro z hz
    simp [encGo] at hz
    simp at h
    omega
  | succ f ih =>
    intro z hz
    by_cases hm : 128 ≤ m
    · rw [encGo_more hm] at hz
      rcases List.mem_cons.1 hz with rfl | hz
      · omega
      · exact ih (m / 128) (by rw [Nat.pow_succ] at h; omega) z hz
    · rw [encGo_last hm] at hz
      simp at hz
      omega
theorem enc_byt' (x : Int) : Byt (enc x) := encGo_byt' 3 _ (by have := clamp_le x; omega)
theorem byt_app {a b : List Int} (ha : Byt a) (hb : Byt b) : Byt (a ++ b) := by
  intro z hz
  rcases List.mem_append.1 hz with hz | hz
  · exact ha z hz
  · exact hb z hz
theorem encT_byt (s : ByteArray) : Byt (encT s) := byt_app (enc_byt' _) (strZ_byt' s)
end Go.Proofs.Ytjpefnicemlobaa
