/-
  Joined: ChBi, ChQi, DrK.
-/
import Derived.Test.YtpejfkgbfdkdnaaJ11B
namespace Go.Proofs.Ytpejfkgbfdkdnaa
section
open Go.RowKit
theorem totB_set : ∀ (ds : List BkD) (k : Nat) (b b' : BkD), ds[k]? = some b → totP b'.ps ≤ totP b.ps → totB (ds.set k b') ≤ totB ds
  | [], _, _, _, h, _ => by simp at h
  | d :: ds, 0, b, b', h, hp => by simp at h; subst h; rw [List.set_cons_zero, totB_cons, totB_cons]; omega
  | d :: ds, k + 1, b, b', h, hp => by
    have := totB_set ds k b b' (by simpa using h) hp
    rw [List.set_cons_succ, totB_cons, totB_cons]
    omega
end

section
open Go.RowKit
/-- The code of a program, and the chip behind it. -/
def codeP (ok : Bool) (ds : List BkD) (x : Int) (nb : Nat) : Int := if 400 < nb then 1 else mayD ok ds x (decide (nextD ds x = 8))
def progAt (ds : List BkD) (k : Nat) (zs : List Int) : List BkD := match ds[k]? with | some b => ds.set k ⟨b.ps.set (nextP b.ps) ⟨true, zs⟩, b.wear, b.bad⟩ | none => ds
def programD (ok : Bool) (ds : List BkD) (x : Int) (zs : List Int) : List BkD := if codeP ok ds x zs.length = 0 then progAt ds x.toNat zs else ds
theorem totP_bound : ∀ (ps : List PgD), (∀ p ∈ ps, p.zs.length ≤ 400) → totP ps ≤ 401 * ps.length
  | [], _ => by simp [totP]
  | p :: ps, h => by
    have h1 := totP_bound ps (fun q hq => h q (List.mem_cons_of_mem _ hq))
    have h2 := h p List.mem_cons_self
    rw [totP_cons, List.length_cons]
    omega
theorem totB_bound : ∀ (ds : List BkD), (∀ b ∈ ds, totP b.ps ≤ 3208) → totB ds ≤ 3209 * ds.length
  | [], _ => by simp [totB]
  | b :: ds, h => by
    have h1 := totB_bound ds (fun q hq => h q (List.mem_cons_of_mem _ hq))
    have h2 := h b List.mem_cons_self
    rw [totB_cons, List.length_cons]
    omega
end

section
open Go.RowKit
theorem next_put {ps : List PgD} (hu : ∀ (i : Nat) (p : PgD), ps[i]? = some p → p.used = decide (i < nextP ps)) (hn : nextP ps < ps.length) (zs : List Int) : nextP (ps.set (nextP ps) ⟨true, zs⟩) = nextP ps + 1 := by
  obtain ⟨p, hp⟩ : ∃ p, ps[nextP ps]? = some p := ⟨_, List.getElem?_eq_getElem hn⟩
  have hpu : p.used = false := by rw [hu _ p hp]; simp
  obtain ⟨e1, e2⟩ := split_at hp (⟨true, zs⟩ : PgD)
  obtain ⟨m, hm⟩ : ∃ m, nextP ps = m := ⟨_, rfl⟩
  rw [hm] at e1 e2 ⊢
  have h1 : nextP ps = ((ps.take m).filter PgD.used).length + ((ps.drop (m + 1)).filter PgD.used).length := by
    unfold nextP
    conv => lhs; rw [e1]
    rw [List.filter_append, List.length_append, List.filter_cons_of_neg (by rw [hpu]; simp)]
  have h2 : nextP (ps.set m ⟨true, zs⟩) = ((ps.take m).filter PgD.used).length + (((ps.drop (m + 1)).filter PgD.used).length + 1) := by
    unfold nextP
    rw [e2, List.filter_append, List.length_append, List.filter_cons_of_pos (by rfl), List.length_cons]
  omega
theorem ok_page {b : BkD} (h : BkOk b) (hn : nextP b.ps < 8) {zs : List Int} (hz : zs.length ≤ 400) : BkOk ⟨b.ps.set (nextP b.ps) ⟨true, zs⟩, b.wear, b.bad⟩ := by
  have hnp := next_put (fun i p hp => (h.2.2.2 i p hp).2) (by rw [h.1]; exact hn) zs
  refine ⟨by rw [List.length_set]; exact h.1, h.2.1, h.2.2.1, fun i p hp => ?_⟩
  dsimp only at hp ⊢
  rw [hnp]
  rw [List.getElem?_set] at hp
  split at hp
  · rename_i e
    subst e
    split at hp
    · simp at hp
      subst hp
      exact ⟨by simp [pgOk, hz], by simp⟩
    · simp at hp
  · rename_i e
    obtain ⟨h1, h2⟩ := h.2.2.2 i p hp
    refine ⟨h1, ?_⟩
    rw [h2]
    by_cases h3 : i < nextP b.ps
    · rw [decide_eq_true h3, decide_eq_true (by omega)]
    · rw [decide_eq_false h3, decide_eq_false (by omega)]
theorem ok_set {ds : List BkD} {k : Nat} {b : BkD} (h : ChOk ds) (hb : BkOk b) : ChOk (ds.set k b) :=
  ⟨by rw [List.length_set]; exact h.1, by rw [List.length_set]; exact h.2.1, fun d hd => by
    rcases List.mem_or_eq_of_mem_set hd with h1 | h1
    · exact h.2.2 d h1
    · subst h1; exact hb⟩
theorem ok_prog {ds : List BkD} (h : ChOk ds) (x : Int) (zs : List Int) : ChOk (programD true ds x zs) := by
  unfold programD
  split
  · rename_i hc
    unfold codeP at hc
    split at hc
    · omega
    · rename_i h4
      unfold progAt
      split
      · rename_i b hb
        unfold mayD at hc
        split at hc
        · omega
        · rename_i hx
          obtain ⟨k, rfl⟩ : ∃ k : Nat, x = (k : Int) := ⟨x.toNat, by omega⟩
          rw [Int.toNat_natCast] at hb
          simp only [Int.toNat_natCast, hb, Option.map_some, Option.getD_some] at hc
          split at hc
          · omega
          · split at hc
            · omega
            · rename_i h8
              have hnd : nextD ds (k : Int) = (nextP b.ps : Nat) := by unfold nextD; rw [if_pos (by omega)]; simp [hb]
              rw [hnd] at h8
              have hok := h.2.2 b (List.mem_of_getElem? hb)
              have hle := nextP_le b.ps
              rw [hok.1] at hle
              have hlt : nextP b.ps < 8 := by simp at h8; omega
              exact ok_set h (ok_page hok hlt (by omega))
      · exact h
  · exact h
theorem ok_erase {ds : List BkD} (h : ChOk ds) (x : Int) : ChOk (eraseD true ds x) := by
  unfold eraseD
  split
  · rename_i hc
    unfold codeE mayD at hc
    split at hc
    · omega
    · rename_i hx
      obtain ⟨k, rfl⟩ : ∃ k : Nat, x = (k : Int) := ⟨x.toNat, by omega⟩
      split at hc
      · omega
      · split at hc
        · omega
        · rename_i hw
          unfold eraseAt
          split
          · rename_i b hb
            rw [Int.toNat_natCast] at hb ⊢
            have hok := h.2.2 b (List.mem_of_getElem? hb)
            have hww : b.wear < 100000 := by
              unfold wornAt at hw
              simp [hb] at hw
              exact hw
            refine ok_set h ⟨rfl, by have := hok.2.1; dsimp only; omega, by dsimp only; omega, fun i p hp => ?_⟩
            have hp' : (List.replicate 8 (⟨false, []⟩ : PgD))[i]? = some p := hp
            rw [List.getElem?_replicate] at hp'
            split at hp'
            · simp at hp'
              subst hp'
              exact ⟨rfl, by show false = decide (i < 0); simp⟩
            · simp at hp'
          · exact h
  · exact h
theorem ok_new {x : Int} (h : 3 ≤ x ∧ x ≤ 24) : ChOk (newD x) := by
  unfold newD
  rw [if_pos h]
  refine ⟨by simp; omega, by simp; omega, fun b hb => ?_⟩
  rw [List.mem_replicate] at hb
  rw [hb.2]
  refine ⟨rfl, by decide, by decide, fun i p hp => ?_⟩
  have hp' : (List.replicate 8 (⟨false, []⟩ : PgD))[i]? = some p := hp
  rw [List.getElem?_replicate] at hp'
  split at hp'
  · simp at hp'
    subst hp'
    exact ⟨rfl, by show false = decide (i < 0); simp⟩
  · simp at hp'
theorem ok_tot {ds : List BkD} (h : ChOk ds) : totB ds ≤ 1048576 := by
  have hb : ∀ b ∈ ds, totP b.ps ≤ 3208 := fun b hb => by
    have h1 := h.2.2 b hb
    have h2 := totP_bound b.ps (fun p hp => by
      obtain ⟨i, hi⟩ := List.mem_iff_getElem?.1 hp
      have := (h1.2.2.2 i p hi).1
      unfold pgOk at this
      simp at this
      exact this.1)
    rw [h1.1] at h2
    omega
  have h3 := totB_bound ds hb
  have h4 := h.2.1
  omega
end
end Go.Proofs.Ytpejfkgbfdkdnaa
