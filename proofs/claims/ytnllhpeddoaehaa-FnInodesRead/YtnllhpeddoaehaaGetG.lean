/-
  What both GetInode functions answer, in one form; what the walk of FnExactGetInode shares.
-/
import Derived.Test.YtnllhpeddoaehaaImplGet
import Derived.Test.YtnllhpeddoaehaaMarkGI
namespace Go.Proofs.Ytnllhpeddoaehaa
open Go.RowKit

/-- The inode that is answered: the one that the bytes tell, or the zero one. -/
def gR (zs : List Int) : InoD := if gOk zs = true then gD zs else ⟨0, 0, 0, [], [], []⟩
theorem gR_small (zs : List Int) (h : zs.length ≤ 1048576) : InoSmall (gR zs) := by
  unfold gR
  split
  · exact gD_small zs h
  · exact ⟨by simp, by simp, by simp, by simp, by simp⟩
theorem gR_few (zs : List Int) (h : zs.length ≤ 1048576) : (gR zs).data.length + 2 * (gR zs).ents.length + 2 * (gR zs).attrs.length ≤ 1048700 := by
  unfold gR
  split
  · have h1 := (gD_small zs h).data
    have h2 : (gD zs).ents.length ≤ 11 := by show (gE zs).1.length ≤ _; unfold gE; rw [rdE_len]; omega
    have h3 : (gD zs).attrs.length ≤ 5 := by show (gA zs).1.length ≤ _; unfold gA; rw [rdA_len]; omega
    omega
  · simp
theorem row_zero {B : Nat} {w : World} {e : TypeId} {s n : Nat} {v : Value} {xs : List Value} (h : w.ownsRow B e s v n xs) : w.ownsRow 0 e s v n xs := by
  refine ⟨h.1, ?_⟩
  rcases h.2 with h' | ⟨g, cap, cur, h', _, rest⟩
  · exact .inl h'
  · exact .inr ⟨g, cap, cur, h', Nat.zero_le _, rest⟩
/-- In one form. -/
def GetOut (B : Nat) (w' : World) (zs : List Int) (e : Ending) : Prop :=
  ∃ (a1 : Option Addr) (c1 : Nat) (a2 : Option Addr) (c2 : Nat) (a3 : Option Addr) (c3 : Nat), e = .returned (.tuple #[.agg #[.int .i64 (gR zs).ino, .int .i64 (gR zs).kind, .int .i64 (gR zs).links, .slice a1 (gR zs).data.length c1, .slice a2 (gR zs).ents.length c2, .slice a3 (gR zs).attrs.length c3], .bool (gOk zs)]) ∧
    InoG w' B w'.heap.size (gR zs) (.slice a1 (gR zs).data.length c1) (.slice a2 (gR zs).ents.length c2) (.slice a3 (gR zs).attrs.length c3)
theorem GetPost.out {B : Nat} {w' : World} {zs : List Int} {e : Ending} (h : GetPost B w' zs e) : GetOut B w' zs e := by
  rcases h with ⟨hok, v1, v2, v3, rfl, h1, h2, h3⟩ | ⟨hok, rfl⟩
  · have hR : gR zs = gD zs := by unfold gR; rw [if_pos hok]
    have hG : InoG w' B w'.heap.size (gD zs) v1 v2 v3 := by
      refine ⟨h1.rowB, strZ_byt' _, row_zero h2, row_zero h3, fun g hg => ?_⟩
      rcases hg with hg | hg | hg
      · obtain ⟨g', c, rfl, hB, ho⟩ := h1
        simp [Value.ownBlock] at hg
        subst hg
        exact ⟨hB, ho.lt⟩
      · obtain ⟨hB, cur, hc⟩ := row_at h2 hg
        exact ⟨hB, (Array.getElem?_eq_some_iff.1 hc).1⟩
      · obtain ⟨hB, cur, hc⟩ := row_at h3 hg
        exact ⟨hB, (Array.getElem?_eq_some_iff.1 hc).1⟩
    obtain ⟨a1, c1, a2, c2, a3, c3, rfl, rfl, rfl, _⟩ := hG.form
    refine ⟨a1, c1, a2, c2, a3, c3, ?_, ?_⟩
    · rw [hR, hok]; rfl
    · rw [hR]; exact hG
  · have hR : gR zs = ⟨0, 0, 0, [], [], []⟩ := by unfold gR; rw [hok]; rfl
    refine ⟨none, 0, none, 0, none, 0, ?_, ?_⟩
    · rw [hR, hok]; rfl
    · rw [hR]
      exact ⟨RowB.nil _, fun z hz => by simp at hz, ownQ_nil _ _, ownQ_nil _ _, fun g hg => by simp [Value.ownBlock] at hg⟩
theorem getSO (a : Option Addr) (n cap : Nat) (zs : List Int) (w : World) (hn : zs.length = n) (hs : n ≤ 1048576) (hcap : n ≤ cap) (hr : Rd w a zs) (hb : Byt zs) :
    Calls Try.prog 22 #[.slice a n cap] w fun e w' => GetOut w.heap.size w' zs e ∧ Below w.heap.size w w' :=
  (getS a n cap zs w hn hs hcap hr hb).mono fun _ _ ⟨h1, h2⟩ => ⟨h1.out, h2⟩
theorem getIO (a : Option Addr) (n cap : Nat) (zs : List Int) (w : World) (hn : zs.length = n) (hs : n ≤ 1048576) (hcap : n ≤ cap) (hr : Rd w a zs) (hb : Byt zs) :
    Calls Try.prog 18 #[.slice a n cap] w fun e w' => GetOut w.heap.size w' zs e ∧ Below w.heap.size w w' :=
  (getI a n cap zs w hn hs hcap hr hb).mono fun _ _ ⟨h1, h2⟩ => ⟨h1.out, h2⟩
end Go.Proofs.Ytnllhpeddoaehaa
