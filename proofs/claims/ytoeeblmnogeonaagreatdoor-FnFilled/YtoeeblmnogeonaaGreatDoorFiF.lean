/-
  Joined: Path, Inode, EntsOk, AttsOk, LogW, InoOk, GetM, Any3, GetG, TmM, LdI, FiM, SamL, LdJ, LogV, FiW, FiZ.
-/
import Derived.Test.YtoeeblmnogeonaaGreatDoorJ00T
import Derived.Test.YtoeeblmnogeonaaGreatDoorJ01T
import Derived.Test.YtoeeblmnogeonaaGreatDoorJ02T
import Derived.Test.YtoeeblmnogeonaaGreatDoorJ03T
import Derived.Test.YtoeeblmnogeonaaGreatDoorJ04T
import Derived.Test.YtoeeblmnogeonaaGreatDoorJ05T
import Derived.Test.YtoeeblmnogeonaaGreatDoorJ06T
import Derived.Test.YtoeeblmnogeonaaGreatDoorJ07T
import Derived.Test.YtoeeblmnogeonaaGreatDoorJ08T
import Derived.Test.YtoeeblmnogeonaaGreatDoorJ09T
import Derived.Test.YtoeeblmnogeonaaGreatDoorJ10T
import Derived.Test.YtoeeblmnogeonaaGreatDoorJ11T
import Derived.Test.YtoeeblmnogeonaaGreatDoorJ12T
import Derived.Test.YtoeeblmnogeonaaGreatDoorEntsOkT
import Derived.Test.YtoeeblmnogeonaaGreatDoorJ14T
import Derived.Test.YtoeeblmnogeonaaGreatDoorJ15T
import Derived.Test.YtoeeblmnogeonaaGreatDoorJ16T
import Derived.Test.YtoeeblmnogeonaaGreatDoorJ17T
import Derived.Test.YtoeeblmnogeonaaGreatDoorJ18T
import Derived.Test.YtoeeblmnogeonaaGreatDoorJ19T
import Derived.Test.YtoeeblmnogeonaaGreatDoorJ20T
import Derived.Test.YtoeeblmnogeonaaGreatDoorJ21T
import Derived.Test.YtoeeblmnogeonaaGreatDoorJ22T
import Derived.Test.YtoeeblmnogeonaaGreatDoorJ23T
import Derived.Test.YtoeeblmnogeonaaGreatDoorJ24T
import Derived.Test.YtoeeblmnogeonaaGreatDoorJ25T
import Derived.Test.YtoeeblmnogeonaaGreatDoorJ26T
import Derived.Test.YtoeeblmnogeonaaGreatDoorJ27T
import Derived.Test.YtoeeblmnogeonaaGreatDoorJ28T
import Derived.Test.YtoeeblmnogeonaaGreatDoorJ29T
import Derived.Test.YtoeeblmnogeonaaGreatDoorJ30T
import Derived.Test.YtoeeblmnogeonaaGreatDoorJ31T
import Derived.WalkKit
import Derived.WalkSpells
import Derived.WalkLawsBesides
import Derived.Deep.QuietTactic
import Derived.BigQuiet
import Derived.OpenShut
import Derived.Laws.BitsAllLaws
import Derived.Maps.AppendAt
import Derived.Lib.SliceRun
import Derived.Lib.Strings
import Derived.Deep.RegionWith
import Derived.Laws.IdiomStrings
import Derived.Deep.Slices
import Derived.ProofKit
import Derived.ChangeOld
import Derived.Below
import Derived.Deep.DeepCutAuto
import Derived.Lib.AppendStr
import Derived.Lib.ConvBytes
import Derived.Deep.RegionHeld3
import Derived.Deep.AppendLies
import Derived.Deep.AppendSrc
import Derived.Deep.RegionLaw
import Derived.Deep.MidRow
import Derived.Deep.WholeRow
import Derived.Deep.RegionHeld
import Derived.LaidEql
import Derived.Stop.Asserts
import Derived.RowKitTokens
import Derived.Maps.OwnSet
import Derived.Maps.OwnOps
import Derived.Defers
import Derived.Recover
import Derived.Laws.StructEq
import Derived.Laws.BytesString
import Derived.Laws.BitsLemmas
import Derived.Deep.OwnRows
import Derived.Deep.CutBlock
import Derived.WalkMore
import Derived.ArgAppend
import Derived.Deep.DrawnRows
namespace Go.Proofs.YtoeeblmnogeonaaGreatDoor
section
/-- A sign that a name may have. -/
def sign (c : UInt8) : Bool := (decide (97 ≤ c.toNat) && decide (c.toNat ≤ 122)) || (decide (48 ≤ c.toNat) && decide (c.toNat ≤ 57)) || decide (c.toNat = 95) || decide (c.toNat = 45) || decide (c.toNat = 46)
def nameOk (l : Str) : Bool := decide (1 ≤ l.length) && decide (l.length ≤ 14) && decide (l ≠ [46]) && decide (l ≠ [46, 46]) && l.all sign
end

section
open Go.RowKit
/-- What an inode tells. -/
structure InoD where
  ino : Int
  kind : Int
  links : Int
  data : List Int
  ents : List (ByteArray × Int)
  attrs : List (ByteArray × ByteArray)
end

section
open Go.RowKit
def entD : ByteArray × Int := (⟨#[]⟩, 0)
/-- The i-th entry is right beside the one ahead of it. -/
def entAt (es : List (ByteArray × Int)) (i : Nat) : Bool :=
  nameOk (es.getD i entD).1.data.toList && (decide (2 ≤ (es.getD i entD).2) && decide ((es.getD i entD).2 ≤ 1000)) && (decide (i = 0) || Op.bytesLess (es.getD (i - 1) entD).1.toList (es.getD i entD).1.toList)
def entsOk (es : List (ByteArray × Int)) : Bool := (List.range es.length).all (entAt es) && decide (es.length ≤ 10)
end

section
open Go.RowKit
def attD : ByteArray × ByteArray := (⟨#[]⟩, ⟨#[]⟩)
/-- The i-th entry is right beside the one ahead of it. -/
def attAt (es : List (ByteArray × ByteArray)) (i : Nat) : Bool :=
  nameOk (es.getD i attD).1.data.toList && decide ((es.getD i attD).2.size ≤ 16) && (decide (i = 0) || Op.bytesLess (es.getD (i - 1) attD).1.toList (es.getD i attD).1.toList)
def attsOk (es : List (ByteArray × ByteArray)) : Bool := (List.range es.length).all (attAt es) && decide (es.length ≤ 4)
end

section
open Go.RowKit
theorem fstD_ge (p : BkD → Bool) (ds : List BkD) : -1 ≤ fstD p ds := by
  unfold fstD
  split <;> omega
theorem openD_ge (ds : List BkD) (spare : Int) : -1 ≤ openD ds spare := by
  have h1 := fstD_ge begB ds
  have h2 := fstD_ge freeB ds
  unfold openD
  split
  · exact h1
  · split
    · exact h2
    · omega
end

section
open Go.RowKit
/-- The kind is right for the rest. -/
def kindR (D : InoD) : Bool := (decide (D.kind = 1) && decide (D.ents.length = 0)) || (decide (D.kind = 2) && (decide (D.data.length = 0) && decide (D.links ≤ 1)))
/-- The inode is right. -/
def inoOk (D : InoD) : Bool :=
  (decide (1 ≤ D.ino) && decide (D.ino ≤ 1000)) && (decide (0 ≤ D.links) && decide (D.links ≤ 1000)) && ((D.links == 0) == (D.ino == 1)) && decide (D.data.length ≤ 100) && entsOk D.ents && attsOk D.attrs && kindR D
end

section
open Go.RowKit
/-- The inode that the bytes tell. -/
def gD (zs : List Int) : InoD := ⟨((g1 zs).1 : Int), ((g2 zs).1 : Int), ((g3 zs).1 : Int), strZ (g4 zs).1, (gE zs).1, (gA zs).1⟩
/-- It is there whole, nothing follows, and it is right. -/
def gOk (zs : List Int) : Bool := decide ((gA zs).2 = some zs.length) && inoOk (gD zs)
end

section
open Go.RowKit
section
variable {w W W' : World} {gc sn scap : Nat} {sa : Option Addr} {zs : List Int} {X : Nat} {xs : Array Value} {v1 : Value} {dz : List Int} {v2 : Value} {es : List (ByteArray × Int)} {v3 : Value} {ats : List (ByteArray × ByteArray)}
end
theorem row_down {B B' : Nat} {w : World} {e : TypeId} {s n : Nat} {v : Value} {xs : List Value} (h : w.ownsRow B e s v n xs) (hB : B' ≤ B) : w.ownsRow B' e s v n xs :=
  ⟨h.1, h.2.imp id (fun ⟨g, c, cur, h1, h2, rest⟩ => ⟨g, c, cur, h1, Nat.le_trans hB h2, rest⟩)⟩
end

section
open Go.RowKit
/-- The inode that is answered: the one that the bytes tell, or the zero one. -/
def gR (zs : List Int) : InoD := if gOk zs = true then gD zs else ⟨0, 0, 0, [], [], []⟩
end

section
open Go.RowKit
theorem fB_nil : faultsB [] = true := by unfold faultsB; simp
end

section
open Go.RowKit
theorem fst_none {p : BkD → Bool} {ds : List BkD} (h : ¬ 0 ≤ fstD p ds) : ∀ b ∈ ds, p b = false := by
  unfold fstD at h
  split at h
  · omega
  · rename_i hn
    intro b hb
    have := List.findIdx?_eq_none_iff.1 hn b hb
    simpa using this
theorem open_none {ds : List BkD} {spare : Int} (h : openD ds spare = -1) : (freeD ds : Int) ≤ spare ∨ freeD ds = 0 := by
  unfold openD at h
  split at h
  · omega
  · split at h
    · have h1 := fst_none (p := freeB) (ds := ds) (by omega)
      right
      unfold freeD
      rw [List.filter_eq_nil_iff.2 (fun b hb => by rw [h1 b hb]; simp)]
      rfl
    · omega
end

section
open Go.RowKit
/-- Pages that were written. -/
def usedN (ds : List BkD) : Nat := (ds.map fun b => nextP b.ps).sum
theorem sum_le8 {α : Type} (f : α → Nat) (m : Nat) : ∀ l : List α, (∀ b ∈ l, f b ≤ m) → (l.map f).sum ≤ m * l.length := by
  intro l
  induction l with
  | nil => intro _; simp
  | cons b l ih =>
    intro h
    have h1 := h b (List.mem_cons_self ..)
    have h2 := ih fun c hc => h c (List.mem_cons_of_mem _ hc)
    rw [List.map_cons, List.sum_cons, List.length_cons, Nat.mul_succ]
    omega
theorem usedN_le {ds : List BkD} (h : ChOk ds) : usedN ds ≤ 192 := by
  have h1 := sum_le8 (fun b : BkD => nextP b.ps) 8 ds fun b hb => by
    have h2 := nextP_le b.ps
    have h3 := (h.2.2 b hb).1
    omega
  have h2 := h.2.1
  unfold usedN
  omega
theorem usedN_prog {ds : List BkD} {k : Nat} {b : BkD} {zs : List Int} (hC : ChOk ds) (hk : ds[k]? = some b) (hn : nextP b.ps < 8) : usedN (progAt ds k zs) = usedN ds + 1 := by
  have hb := hC.2.2 b (List.mem_of_getElem? hk)
  have hp := next_put (fun i p hp => (hb.2.2.2 i p hp).2) (by rw [hb.1]; exact hn) zs
  have he : progAt ds k zs = ds.set k ⟨b.ps.set (nextP b.ps) ⟨true, zs⟩, b.wear, b.bad⟩ := by unfold progAt; rw [hk]
  obtain ⟨e1, e2⟩ := split_at hk (⟨b.ps.set (nextP b.ps) ⟨true, zs⟩, b.wear, b.bad⟩ : BkD)
  rw [he]
  unfold usedN
  rw [e2]
  conv => rhs; rw [e1]
  simp only [List.map_append, List.map_cons, List.sum_append, List.sum_cons, hp]
  omega
/-- Other pages are xs they were. -/
theorem pgA_other {ds : List BkD} {k x : Nat} {b : BkD} {zs : List Int} (hk : ds[k]? = some b) (_hn : nextP b.ps < 8) (hx : x ≠ 8 * k + nextP b.ps) : pgA (progAt ds k zs) (x : Int) = pgA ds (x : Int) := by
  have he : progAt ds k zs = ds.set k ⟨b.ps.set (nextP b.ps) ⟨true, zs⟩, b.wear, b.bad⟩ := by unfold progAt; rw [hk]
  have hkl : k < ds.length := (List.getElem?_eq_some_iff.1 hk).1
  have hd : (x : Int).tdiv 8 = ((x / 8 : Nat) : Int) := by
    show (x : Int).tdiv ((8 : Nat) : Int) = _
    rw [← Int.ofNat_tdiv]
  have hm : (x : Int).tmod 8 = ((x % 8 : Nat) : Int) := by
    show (x : Int).tmod ((8 : Nat) : Int) = _
    rw [← Int.ofNat_tmod]
  unfold pgA readD
  rw [hd, hm, if_pos (by omega), if_pos (by omega), he]
  simp only [Int.toNat_natCast]
  by_cases hkx : x / 8 = k
  · rw [hkx, List.getElem?_set_self hkl, hk]
    dsimp only
    rw [List.getElem?_set_ne (by omega)]
  · rw [List.getElem?_set_ne (Ne.symm hkx)]
/-- A page that was not written has nothing. -/
theorem pgA_free {ds : List BkD} {k : Nat} {b : BkD} (hC : ChOk ds) (hk : ds[k]? = some b) (hn : nextP b.ps < 8) : pgA ds ((8 * k + nextP b.ps : Nat) : Int) = [] := by
  have hb := hC.2.2 b (List.mem_of_getElem? hk)
  obtain ⟨p, hp⟩ : ∃ p, b.ps[nextP b.ps]? = some p := ⟨_, List.getElem?_eq_getElem (by rw [hb.1]; exact hn)⟩
  rw [pgA_at hC hk hp hn]
  have h1 := hb.2.2.2 _ p hp
  have h2 : p.used = false := by rw [h1.2]; simp
  have h3 := h1.1
  unfold pgOk at h3
  rw [h2] at h3
  simp at h3
  exact h3.2
theorem rec_four (D : RecD) : 4 ≤ (summedOf (recEnc D)).length := by rw [summedOf_len]; omega
/-- One record of kind 1 written where no fault is to come. -/
theorem fill_out {ds : List BkD} {ops seq : Int} {body : List Int} (hd : devB ds ops [] = true) (hS : SeqB ds seq) (hq : seq < 1000000) (ho : ops < 100000) (hb : Byt body) (hl : body.length ≤ 9) :
    (openD ds 1 < 0 → wrOut ds ops [] false seq 1 body 1 = ⟨⟨ds, ops, false⟩, false, -1, 9⟩) ∧
    (0 ≤ openD ds 1 → ∃ (k : Nat) (b : BkD), ds[k]? = some b ∧ nextP b.ps < 8 ∧ wrOut ds ops [] false seq 1 body 1 = ⟨⟨progAt ds k (summedOf (recEnc ⟨1, seq, body⟩)), ops + 1, false⟩, true, ((8 * k + nextP b.ps : Nat) : Int), 0⟩ ∧ devB (progAt ds k (summedOf (recEnc ⟨1, seq, body⟩))) (ops + 1) [] = true ∧ SeqB (progAt ds k (summedOf (recEnc ⟨1, seq, body⟩))) (seq + 1)) := by
  obtain ⟨hC, hops, hF⟩ := devB_parts.1 hd
  have hr : recOk ⟨1, seq, body⟩ = true := (recOk_iff _).2 ⟨by show (1 : Int) ≤ 1; omega, by show (1 : Int) ≤ 4; omega, hS.1.1, hS.1.2, by show body.length ≤ 380; omega⟩
  have hZm : (summedOf (recEnc ⟨1, seq, body⟩)).length ≤ 400 := rec_len hr
  have h3 : seq ≠ 1000000 := by omega
  refine ⟨fun hn => by rw [wrOut_go hr hd h3, wrA_neg hn], fun hn => ?_⟩
  obtain ⟨k, b, e, hkb, hbad, hnp⟩ := openD_hit hC hn
  have hI : LgI [] ⟨ds, ops, false⟩ := ⟨hd, rfl⟩
  have hst : stC [] k (summedOf (recEnc ⟨1, seq, body⟩)).length ⟨ds, ops, false⟩ = 0 := by
    rw [stC_eq hI hkb hbad hnp hZm, if_neg (by dsimp only; omega)]
  have hso : stO [] k (summedOf (recEnc ⟨1, seq, body⟩)) ⟨ds, ops, false⟩ = 0 := by
    unfold stO outCode
    rw [hst]
    simp [faD]
  have hstN : stN [] k (summedOf (recEnc ⟨1, seq, body⟩)) ⟨ds, ops, false⟩ = ⟨progAt ds k (summedOf (recEnc ⟨1, seq, body⟩)), ops + 1, false⟩ := by
    unfold stN outDs outOps outDown
    dsimp only
    rw [hst]
    simp [faD]
  have hND : nextD ds (k : Int) = (nextP b.ps : Nat) := by
    unfold nextD
    rw [if_pos (by omega), Int.toNat_natCast, hkb]
  have hR : wrOut ds ops [] false seq 1 body 1 = ⟨⟨progAt ds k (summedOf (recEnc ⟨1, seq, body⟩)), ops + 1, false⟩, true, ((8 * k + nextP b.ps : Nat) : Int), 0⟩ := by
    rw [wrOut_go hr hd h3, wrA_good e hso, hstN]
    dsimp only
    rw [hND]
    congr 1
    omega
  have hkeep := wrOut_keep (down := false) (seq := seq) (kind := 1) (body := body) (spare := 1) hd
  have hsb := seqB_wrOut (ops := ops) (fs := []) (down := false) (kind := 1) (spare := 1) hb hS
  rw [hR] at hkeep hsb
  exact ⟨k, b, hkb, hnp, hR, hkeep.1, hsb⟩
/-- Behind t records, at these addresses. -/
structure FilI (t : Nat) (ds : List BkD) (ops seq : Int) (body : List Int) (xs : List Int) : Prop where
  dv : devB ds ops [] = true
  sq : SeqB ds seq
  s1 : seq ≤ 20 + (t : Int)
  o1 : ops ≤ 520 + (t : Int)
  u : t ≤ usedN ds
  bt : BytC ds
  l : xs.length = t
  rd : ∀ a ∈ xs, ∃ (x : Nat) (s : Int), a = (x : Int) ∧ x < 192 ∧ (0 ≤ s ∧ s ≤ 1000000) ∧ pgA ds a = summedOf (recEnc ⟨1, s, body⟩)
  df : ∀ (i : Nat) (a b : Int), xs[i]? = some a → xs[i + 1]? = some b → a ≠ b
theorem FilI.lt {t : Nat} {ds : List BkD} {ops seq : Int} {body xs : List Int} (h : FilI t ds ops seq body xs) : t ≤ 192 := Nat.le_trans h.u (usedN_le (devB_parts.1 h.dv).1)
theorem FilI.put {t k : Nat} {ds : List BkD} {ops seq : Int} {body xs : List Int} {b : BkD} (h : FilI t ds ops seq body xs) (_ : Byt body) (hk : ds[k]? = some b) (hn : nextP b.ps < 8) (hd : devB (progAt ds k (summedOf (recEnc ⟨1, seq, body⟩))) (ops + 1) [] = true) (hs : SeqB (progAt ds k (summedOf (recEnc ⟨1, seq, body⟩))) (seq + 1)) :
    FilI (t + 1) (progAt ds k (summedOf (recEnc ⟨1, seq, body⟩))) (ops + 1) (seq + 1) body (xs ++ [((8 * k + nextP b.ps : Nat) : Int)]) := by
  have hC := (devB_parts.1 h.dv).1
  have hC2 := (devB_parts.1 hd).1
  have hb8 := (hC.2.2 b (List.mem_of_getElem? hk)).1
  have hkl : k < ds.length := (List.getElem?_eq_some_iff.1 hk).1
  have h24 := hC.2.1
  have hfree := pgA_free hC hk hn
  have hne : ∀ a ∈ xs, a ≠ ((8 * k + nextP b.ps : Nat) : Int) := fun a ha e => by
    obtain ⟨x, s, _, _, _, hp⟩ := h.rd a ha
    rw [e, hfree] at hp
    have := rec_four ⟨1, s, body⟩
    rw [← hp] at this
    simp at this
  refine ⟨hd, hs, by have := h.s1; omega, by have := h.o1; omega, ?_, bytC_prog h.bt _ (summedOf_byt (recEnc_byt _)), by rw [List.length_append, h.l]; rfl, ?_, ?_⟩
  · rw [usedN_prog hC hk hn]
    have := h.u
    omega
  · intro a ha
    rcases List.mem_append.1 ha with h1 | h1
    · obtain ⟨x, s, rfl, hx, hs2, hp⟩ := h.rd a h1
      refine ⟨x, s, rfl, hx, hs2, ?_⟩
      rw [pgA_other hk hn (fun e => hne _ h1 (by rw [e])), hp]
    · have h2 : a = ((8 * k + nextP b.ps : Nat) : Int) := by simpa using h1
      subst h2
      exact ⟨_, seq, rfl, by omega, h.sq.1, pgA_prog hC2 hk hn hb8⟩
  · intro i a c h1 h2
    by_cases hi : i + 1 < xs.length
    · rw [List.getElem?_append_left hi] at h2
      rw [List.getElem?_append_left (by omega)] at h1
      exact h.df i a c h1 h2
    · by_cases he : i + 1 = xs.length
      · rw [List.getElem?_append_right (by omega)] at h2
        rw [List.getElem?_append_left (by omega)] at h1
        rw [he, Nat.sub_self] at h2
        simp at h2
        rw [← h2]
        exact hne a (List.mem_of_getElem? h1)
      · have : (xs ++ [((8 * k + nextP b.ps : Nat) : Int)]).length ≤ i + 1 := by simp; omega
        rw [List.getElem?_eq_none this] at h2
        simp at h2
theorem FilI.at {t : Nat} {ds : List BkD} {ops seq : Int} {body xs : List Int} {a : Int} (h : FilI t ds ops seq body xs) (hb : Byt body) (hl : body.length ≤ 9) (ha : a ∈ xs) : (0 ≤ a ∧ a < 192) ∧ atOk ds a 1 = true ∧ ∃ s, atRec ds a 1 = ⟨1, s, body⟩ := by
  obtain ⟨x, s, rfl, hx, hs, hp⟩ := h.rd a ha
  have hr : recOk ⟨1, s, body⟩ = true := (recOk_iff _).2 ⟨by show (1 : Int) ≤ 1; omega, by show (1 : Int) ≤ 4; omega, hs.1, hs.2, by show body.length ≤ 380; omega⟩
  have h1 : rcOk (pgA ds (x : Int)) = true := by rw [hp]; exact (rc_enc _ hr hb).1
  have h2 : rcR (pgA ds (x : Int)) = ⟨1, s, body⟩ := by rw [hp]; exact (rc_enc _ hr hb).2
  have h3 := atOk_yes h1 (kd := 1) (by rw [h2])
  exact ⟨⟨by omega, by omega⟩, h3.2, s, by rw [h3.1, h2]⟩
theorem FilI.zero {ds : List BkD} {ops seq : Int} {fs : List FtD} {body : List Int} (hd : devB ds ops fs = true) (hs : SeqO 20 ds ops seq) (hb : BytC ds) : FilI 0 ds ops seq body [] := by
  obtain ⟨h1, h2, _⟩ := devB_parts.1 hd
  exact ⟨devB_parts.2 ⟨h1, h2, fB_nil⟩, hs.1, by have := hs.2.1; omega, by have := hs.2.2; omega, Nat.zero_le _, hb, rfl, fun a ha => by simp at ha, fun i a b h => by simp at h⟩
end

section
open Go.RowKit
set_option maxHeartbeats 1000000 in
theorem sameLb_any (a a' : Option Addr) (n m cap cap' : Nat) (zs ys : List Int) (w : World) (hn : zs.length = n) (hm : ys.length = m) (hs : n ≤ 4000000) (hs' : m ≤ 4000000) (hr : Rd w a zs) (hr' : Rd w a' ys) :
    Calls Tryz.prog 16 #[.slice a n cap, .slice a' m cap'] w fun e w' => e = .returned (.bool (decide (zs = ys))) ∧ ∃ d, w' = w.drewN d := by
  by_cases hnm : n = m
  · subst hnm
    by_cases h0 : n = 0
    · subst h0
      obtain rfl : zs = [] := List.length_eq_zero_iff.1 hn
      obtain rfl : ys = [] := List.length_eq_zero_iff.1 hm
      go_enter Tryz.func16, Tryz.ntmps16
      go_wp2
      refine wp_loop_rounds 1 ?_; rw [rounds_succ]
      go_wp2
      go_ret
      exact ⟨rfl, 0, rfl⟩
    · obtain ⟨b, off, rfl, hlt, hc⟩ := hr.lt (by intro h; subst h; simp at hn; omega)
      obtain ⟨b', off', rfl, hlt', hc'⟩ := hr'.lt (by intro h; subst h; simp at hm; omega)
      have HC : Hid _ := hc
      have HC' : Hid _ := hc'
      have hn' : Hid (zs.length = n) := hn
      have hm' : Hid (ys.length = n) := hm
      clear hr hr' hc hc' hn hm
      go_enter Tryz.func16, Tryz.ntmps16
      go_wp2
      go_loopw [5] (fun i wr => ∃ k d : Nat, k ≤ n ∧ i = .int .i64 k ∧ wr = w.drewN d ∧ Hid (∀ j, j < k → zs.getD j 0 = ys.getD j 0)) (fun i _ => n - (intOf i).toNat)
      case atStart => exact ⟨0, 0, Nat.zero_le _, rfl, rfl, fun j hj => by omega⟩
      case round =>
        obtain ⟨k, d, hk, rfl, hwr0, hall⟩ := hrel
        have hwr : Hid (wr = w.drewN d) := hwr0
        have hcells : ∀ p, wr.cell? p = w.cell? p := fun p => by rw [hwr0]; rfl
        clear hwr0
        by_cases hkn : k < n
        · have hki : (k : Int) < (n : Int) := by omega
          have x1 := HC.out k (by rw [hn'.out]; exact hkn)
          have y1 := HC'.out k (by rw [hm'.out]; exact hkn)
          rw [← hcells] at x1 y1
          have hyes : zs.getD k 0 = ys.getD k 0 → ∀ j, j < k + 1 → zs.getD j 0 = ys.getD j 0 := by
            intro e j hj
            rcases (show j < k ∨ j = k by omega) with hj | rfl
            · exact hall.out j hj
            · exact e
          have hno : zs.getD k 0 ≠ ys.getD k 0 → decide (zs = ys) = false := fun e => decide_eq_false (fun e' => e (by rw [e']))
          obtain ⟨z, hz⟩ : ∃ z, zs.getD k 0 = z := ⟨_, rfl⟩
          obtain ⟨y, hy⟩ : ∃ y, ys.getD k 0 = y := ⟨_, rfl⟩
          rw [hz] at x1 hyes hno
          rw [hy] at y1 hyes hno
          by_cases heq : z = y
          · have heq' : (z == y) = true := by simp [heq]
            have hnx : Hid _ := hyes heq
            clear hyes hno heq hz hy hcells hall
            go_wp2
            go_quiet (fail)
            go_wp2
            go_roundw
            case rel => exact ⟨k + 1, d + nq, by omega, by go_num, by rw [hwr.out, World.drewN_drewN], hnx⟩
            case measure => simp [intOf]; omega
          · have heq' : (z == y) = false := by simp [heq]
            have hfin : Hid _ := hno heq
            clear hyes hno heq hz hy hcells hall
            go_wp2
            go_quiet (fail)
            go_wp2
            go_ret
            exact ⟨ret_bool hfin.out.symm, d + nq, by rw [hwr.out, World.drewN_drewN]⟩
        · have hki : ¬ (k : Int) < (n : Int) := by omega
          have hfin : Hid (decide (zs = ys) = true) := decide_eq_true (List.ext_getElem (by rw [hn'.out, hm'.out]) (fun j h h' => by
            have := hall.out j (by rw [hn'.out] at h; omega)
            simpa [h, h'] using this))
          clear hcells hall
          go_wp2
          go_ret
          exact ⟨ret_bool hfin.out.symm, d, hwr.out⟩
  · have hne : Hid (decide (zs = ys) = false) := decide_eq_false (fun e => hnm (by rw [← hn, ← hm, e]))
    have hnm' : ((n : Int) == (m : Int)) = false := by simp; omega
    clear hr hr' hn hm hnm
    go_enter Tryz.func16, Tryz.ntmps16
    go_wp2
    go_ret
    exact ⟨ret_bool hne.out.symm, 0, rfl⟩
end

section
open Go.RowKit
/-- A right log was drawn, and a body, all in memory of their own. -/
def DrawnLog (w : World) (e : Ending) (w' : World) : Prop := ∃ (D : DvD) (seq : Int) (va : Option Addr) (vn vc : Nat) (fa : Option Addr) (m fc : Nat) (qs : List BkR) (g mb c : Nat) (ys : List Int), e = .returned (.tuple #[.agg #[.slice va vn vc, .int .i64 D.ops, .slice fa m fc, .bool D.down, .int .i64 seq], .slice (some ⟨g, 0, none⟩) mb c]) ∧ NewDv w' w.heap.size va vn vc fa m fc D.ds D.fs qs ∧ qs.length = vn ∧ devB D.ds D.ops D.fs = true ∧ BytC D.ds ∧ SeqO 20 D.ds D.ops seq ∧ mb ≤ 9 ∧ Own w' g mb c ys ∧ Byt ys ∧ w.heap.size ≤ g ∧ g ∉ fpDv va vn vc fa m fc qs ∧ Below w.heap.size w w'
set_option maxRecDepth 100000 in
set_option maxHeartbeats 8000000 in
theorem drawLog_any (a : Option Addr) (n cap : Nat) (zs : List Int) (w : World) (hn : zs.length = n) (hs : n ≤ 1048576) (hr : Rd w a zs) (hb : Byt zs) :
    Calls Tryz.prog 35 #[.slice a n cap] w (DrawnLog w) := by
  have b0 : Below w.heap.size w (w.alloc (.cells #[.slice none 0 0, .int .i64 0, .slice none 0 0, .bool false, .int .i64 0] 55)) := (Below.refl _ w).alloc (Nat.le_refl _) _
  have z0 := Blk.new w 55 #[.slice none 0 0, .int .i64 0, .slice none 0 0, .bool false, .int .i64 0]
  have hsz : (w.alloc (.cells #[.slice none 0 0, .int .i64 0, .slice none 0 0, .bool false, .int .i64 0] 55)).heap.size = w.heap.size + 1 := by simp
  have HSZ : Hid _ := hsz
  have HB0 : Hid _ := b0
  obtain ⟨P, hP⟩ : ∃ P, DrawnLog w = P := ⟨_, rfl⟩
  have HP : Hid _ := hP
  rw [hP]
  clear hsz hP
  go_enter Tryz.func35, Tryz.ntmps35
  go_wp2_with fail
  refine (new_step a n cap zs _ hn hs (hr.keep b0) hb).mono ?_
  rintro e w1 ⟨rfl, s1, b1⟩
  have zr := z0.keep b1
  have B1 := HB0.out.trans (b1.mono HB0.out.size)
  rw [HSZ.out] at s1 ⊢
  have hsz1 := b1.size
  rw [HSZ.out] at hsz1
  have hc1 := s1.cur.lt
  clear z0 b0 b1 hr hb hn
  go_wp2_with fail
  (with_reducible refine (l13DrawS _ n cap a zs w1 s1).mono ?_)
  rintro e w2 ⟨D, seq, va, vn, vc, fa, m, fc, qs, rfl, hnd, hql, hok, hbt, hsq, s2, sv2⟩
  have zr2 : Blk w2 w.heap.size 55 _ := Blk.svs zr sv2 (by simp)
  have B2 : Below w.heap.size w w2 := below_svs B1 sv2 (by simp) (Nat.le_refl _)
  have hsv2 := sv2.size
  clear zr B1 s1 sv2
  go_wp2_with fail
  refine (some_step _ n cap a zs w2 s2).mono ?_
  rintro e w4 ⟨g, mb, c, ys, rfl, hmb, hg, hby, oy, s4, g4⟩
  have k4 := sv_grown g4
  have zr : Blk w4 w.heap.size 55 _ := Blk.svs zr2 k4 (by simp)
  have B4 : Below w.heap.size w w4 := below_svs B2 k4 (by simp) (Nat.le_refl _)
  have nd4 : NewDv w4 (w.heap.size + 1) va vn vc fa m fc D.ds D.fs qs := (hnd.svs k4 (fun j hj hf => by have := hnd.from j hj; simp at hf; omega)).wider (by omega)
  have hgf : g ∉ fpDv va vn vc fa m fc qs := fun hf => by have := hnd.lt g hf; omega
  have HQ : Hid (DrawnLog w (.returned (.tuple #[.agg #[.slice va vn vc, .int .i64 D.ops, .slice fa m fc, .bool D.down, .int .i64 seq], .slice (some ⟨g, 0, none⟩) mb c])) (((((w4.setCell ⟨w.heap.size, 0, none⟩ (.slice va vn vc)).setCell ⟨w.heap.size, 1, none⟩ (.int .i64 D.ops)).setCell ⟨w.heap.size, 2, none⟩ (.slice fa m fc)).setCell ⟨w.heap.size, 3, none⟩ (.bool D.down)).setCell ⟨w.heap.size, 4, none⟩ (.int .i64 seq))) := by
    have on : ∀ (W : World) (i : Nat) (v : Value), Own W g mb c ys → Own (W.setCell ⟨w.heap.size, i, none⟩ v) g mb c ys := fun W i v h => Own.kept h (gr_setC W w.heap.size i v) (by omega)
    refine ⟨D, seq, va, vn, vc, fa, m, fc, qs, g, mb, c, ys, rfl, (((((nd4.set_below (by omega)).set_below (by omega)).set_below (by omega)).set_below (by omega)).set_below (by omega)).wider (by omega), hql, hok, hbt, hsq, hmb, on _ _ _ (on _ _ _ (on _ _ _ (on _ _ _ (on _ _ _ oy)))), hby, by omega, hgf, ?_⟩
    exact ((((B4.setCell (p := ⟨w.heap.size, 0, none⟩) (Nat.le_refl _) _).setCell (p := ⟨w.heap.size, 1, none⟩) (Nat.le_refl _) _).setCell (p := ⟨w.heap.size, 2, none⟩) (Nat.le_refl _) _).setCell (p := ⟨w.heap.size, 3, none⟩) (Nat.le_refl _) _).setCell (p := ⟨w.heap.size, 4, none⟩) (Nat.le_refl _) _
  obtain ⟨r0, r1, r2, r3, r4⟩ := zr.log
  have f0 := zr.frozen 0
  have f1 := zr.frozen 1
  have f2 := zr.frozen 2
  have f3 := zr.frozen 3
  have f4 := zr.frozen 4
  have zf := (((((zr.set 0 (.slice va vn vc)).set 1 (.int .i64 D.ops)).set 2 (.slice fa m fc)).set 3 (.bool D.down)).set 4 (.int .i64 seq))
  simp at zf
  obtain ⟨t0, t1, t2, t3, t4⟩ := zf.log
  clear zr zr2 B2 B4 s2 s4 g4 zf k4 hnd nd4 oy hgf hbt hok hsq
  go_wp2
  refine bodyPost_ret (v := .tuple #[.agg #[.slice va vn vc, .int .i64 D.ops, .slice fa m fc, .bool D.down, .int .i64 seq], .slice (some ⟨g, 0, none⟩) mb c]) (by simp [results, Tryz.f35, go_sem, t0, t1, t2, t3, t4]) rfl ?_
  rw [← HP.out]
  exact HQ.out
end

section
open Go.RowKit
/-- Behind Write's first statement: the log's copy in its box, the record in its own. -/
def WRR (w : World) (H : Nat) (c0 : Array Value) (D : DvD) (seq kind : Int) (ab : Option Addr) (lb cbb : Nat) (p q : Value) (W : World) : Prop :=
  ∃ (X Y : Nat) (a1 : Option Addr) (n1 c1 : Nat) (fa1 : Option Addr) (m1 fc1 : Nat) (qs : List BkR), p = .pointer (some ⟨X, 0, none⟩) ∧ q = .pointer (some ⟨Y, 0, none⟩) ∧
    Blk W X 55 #[.slice a1 n1 c1, .int .i64 D.ops, .slice fa1 m1 fc1, .bool D.down, .int .i64 seq] ∧ Blk W Y 61 #[.int .i64 kind, .int .i64 seq, .slice ab lb cbb] ∧ NewDv W (H + 1 + 1) a1 n1 c1 fa1 m1 fc1 D.ds D.fs qs ∧ qs.length = n1 ∧
    Blk W H 55 c0 ∧ Blk W (H + 1) 55 #[.slice none 0 0, .int .i64 0, .slice none 0 0, .bool false, .int .i64 0] ∧ Below w.heap.size w W ∧ H + 1 < X ∧ H + 1 < Y ∧ X ≠ Y
theorem wrr_of {w U WZ : World} {H X Y : Nat} {c0 : Array Value} {D : DvD} {seq kind : Int} {ab : Option Addr} {lb cbb : Nat} {a1 : Option Addr} {n1 c1 : Nat} {fa1 : Option Addr} {m1 fc1 : Nat} {qs : List BkR} (hH : w.heap.size = H) (hb : Below w.heap.size w U) (z0 : Blk U H 55 c0) (z1 : Blk U (H + 1) 55 #[.slice none 0 0, .int .i64 0, .slice none 0 0, .bool false, .int .i64 0])
    (h : Blk WZ X 55 #[.slice none 0 0, .int .i64 0, .slice none 0 0, .bool false, .int .i64 0] ∧ Blk WZ Y 61 #[.int .i64 0, .int .i64 0, .slice none 0 0] ∧ NewDv WZ (H + 1 + 1) a1 n1 c1 fa1 m1 fc1 D.ds D.fs qs ∧ qs.length = n1 ∧ Below U.heap.size U WZ ∧ X ∉ fpDv a1 n1 c1 fa1 m1 fc1 qs ∧ Y ∉ fpDv a1 n1 c1 fa1 m1 fc1 qs ∧ H + 1 < X ∧ H + 1 < Y ∧ X ≠ Y) :
    WRR w H c0 D seq kind ab lb cbb (.pointer (some ⟨X, 0, none⟩)) (.pointer (some ⟨Y, 0, none⟩)) (((((((((WZ.setCell ⟨X, 0, none⟩ (.slice a1 n1 c1)).setCell ⟨X, 1, none⟩ (.int .i64 D.ops)).setCell ⟨X, 2, none⟩ (.slice fa1 m1 fc1)).setCell ⟨X, 3, none⟩ (.bool D.down)).setCell ⟨X, 4, none⟩ (.int .i64 seq)).setCell ⟨Y, 0, none⟩ (.int .i64 kind)).setCell ⟨Y, 1, none⟩ (.int .i64 seq)).setCell ⟨Y, 2, none⟩ (.slice ab lb cbb))) := by
  obtain ⟨zX, zY, hN, hql, hB, hXn, hYn, hX2, hY2, hXY⟩ := h
  have zXa := ((((zX.set 0 (.slice a1 n1 c1)).set 1 (.int .i64 D.ops)).set 2 (.slice fa1 m1 fc1)).set 3 (.bool D.down)).set 4 (.int .i64 seq)
  have zYa := (((((zY.other (B' := X) hXY.symm 0 (.slice a1 n1 c1)).other (B' := X) hXY.symm 1 (.int .i64 D.ops)).other (B' := X) hXY.symm 2 (.slice fa1 m1 fc1)).other (B' := X) hXY.symm 3 (.bool D.down)).other (B' := X) hXY.symm 4 (.int .i64 seq))
  have k : ∀ (j : Nat) (t : TypeId) (vs : Array Value), j < H + 1 + 1 → Blk U j t vs → Blk (((((((((WZ.setCell ⟨X, 0, none⟩ (.slice a1 n1 c1)).setCell ⟨X, 1, none⟩ (.int .i64 D.ops)).setCell ⟨X, 2, none⟩ (.slice fa1 m1 fc1)).setCell ⟨X, 3, none⟩ (.bool D.down)).setCell ⟨X, 4, none⟩ (.int .i64 seq)).setCell ⟨Y, 0, none⟩ (.int .i64 kind)).setCell ⟨Y, 1, none⟩ (.int .i64 seq)).setCell ⟨Y, 2, none⟩ (.slice ab lb cbb))) j t vs := fun j t vs hj hz => (((((((((hz.keep hB).other (B' := X) (by omega) _ _).other (B' := X) (by omega) _ _).other (B' := X) (by omega) _ _).other (B' := X) (by omega) _ _).other (B' := X) (by omega) _ _).other (B' := Y) (by omega) _ _).other (B' := Y) (by omega) _ _).other (B' := Y) (by omega) _ _)
  have s : ∀ (W : World) (g i : Nat) (v : Value), H + 1 < g → Below w.heap.size w W → Below w.heap.size w (W.setCell ⟨g, i, none⟩ v) := fun W g i v hg hb => hb.setCell (p := ⟨g, i, none⟩) (by simp only; omega) v
  exact ⟨X, Y, a1, n1, c1, fa1, m1, fc1, qs, rfl, rfl, ((zXa.other (B' := Y) hXY 0 (.int .i64 kind)).other (B' := Y) hXY 1 (.int .i64 seq)).other (B' := Y) hXY 2 (.slice ab lb cbb), ((zYa.set 0 (.int .i64 kind)).set 1 (.int .i64 seq)).set 2 (.slice ab lb cbb), (((((((hN.setN hXn).setN hXn).setN hXn).setN hXn).setN hXn).setN hYn).setN hYn).setN hYn, hql, k H _ _ (by omega) z0, k (H + 1) _ _ (by omega) z1, s _ _ _ _ hY2 (s _ _ _ _ hY2 (s _ _ _ _ hY2 (s _ _ _ _ hX2 (s _ _ _ _ hX2 (s _ _ _ _ hX2 (s _ _ _ _ hX2 (s _ _ _ _ hX2 (hb.trans (hB.mono hb.size))))))))), hX2, hY2, hXY⟩
set_option maxRecDepth 100000 in
set_option maxHeartbeats 8000000 in
theorem writeI (a : Option Addr) (n cap : Nat) (bs : List BkR) (ops : Int) (fa : Option Addr) (m fc : Nat) (fs : List FtD) (down : Bool) (seq kind : Int) (body : List Int) (ab : Option Addr) (lb cbb : Nat) (spare : Int) (w : World) (ht : CR w a n bs) (hf : FR w fa m fs) (hbl : body.length = lb) (hlb : lb ≤ 1048576) (hrb : Rd w ab body) (hby : Byt body) (hE : EtCell w) :
    Calls Tryz.prog 30 #[.agg #[.slice a n cap, .int .i64 ops, .slice fa m fc, .bool down, .int .i64 seq], .int .i64 kind, .slice ab lb cbb, .int .i64 spare] w (LwA w w.heap.size ((wrOut (bs.map BkR.D) ops fs down seq kind body spare).D fs) ((wrOut (bs.map BkR.D) ops fs down seq kind body spare).sq seq) (wrOut (bs.map BkR.D) ops fs down seq kind body spare).adr (wrOut (bs.map BkR.D) ops fs down seq kind body spare).code) := by
  have B0 : Below w.heap.size w ((w.alloc (.cells #[.slice a n cap, .int .i64 ops, .slice fa m fc, .bool down, .int .i64 seq] 55)).alloc (.cells #[.slice none 0 0, .int .i64 0, .slice none 0 0, .bool false, .int .i64 0] 55)) := ((Below.refl _ w).alloc (Nat.le_refl _) _).alloc (by simp) _
  have z0 := (Blk.new w 55 #[.slice a n cap, .int .i64 ops, .slice fa m fc, .bool down, .int .i64 seq]).alloc (.cells #[.slice none 0 0, .int .i64 0, .slice none 0 0, .bool false, .int .i64 0] 55)
  have z1 := Blk.new (w.alloc (.cells #[.slice a n cap, .int .i64 ops, .slice fa m fc, .bool down, .int .i64 seq] 55)) 55 #[.slice none 0 0, .int .i64 0, .slice none 0 0, .bool false, .int .i64 0]
  simp only [World.size_alloc] at z1
  obtain ⟨W0, hW0⟩ : ∃ W, (w.alloc (.cells #[.slice a n cap, .int .i64 ops, .slice fa m fc, .bool down, .int .i64 seq] 55)).alloc (.cells #[.slice none 0 0, .int .i64 0, .slice none 0 0, .bool false, .int .i64 0] 55) = W := ⟨_, rfl⟩
  have hs0 : W0.heap.size = w.heap.size + 1 + 1 := by rw [← hW0]; simp
  rw [hW0] at B0 z0 z1
  have hC := fun (W : World) (h : Below W0.drew.heap.size W0.drew W) => copyLogI a n cap bs ops fa m fc fs down seq W (ht.keep (B0.drew.trans (h.mono B0.drew.size))) (hf.keep (B0.drew.trans (h.mono B0.drew.size)))
  have hln : (bs.map BkR.D).length = n := by simp [ht.len]
  have HDV : Hid (∀ W : World, Below w.heap.size w W → Calls Tryz.prog 17 #[.agg #[.slice a n cap, .int .i64 ops, .slice fa m fc, .bool down]] W fun e w' => e = .returned (.bool (devB (bs.map BkR.D) ops fs)) ∧ Below W.heap.size W w') := fun W hW => devOkI a n cap bs ops fa m fc fs down W (ht.keep hW) (hf.keep hW)
  have hro := fun (W : World) => recOkI ⟨kind, seq, body⟩ ab cbb W (by dsimp only; omega)
  unfold recC at hro
  dsimp only at hro
  rw [hbl] at hro
  have HRB : Hid (∀ W : World, Below w.heap.size w W → Rd W ab body ∧ EtCell W) := fun W hW => ⟨hrb.keep hW, hE.keep hW⟩
  have hfm := hf.tot
  generalize hGP : LwA w w.heap.size ((wrOut (bs.map BkR.D) ops fs down seq kind body spare).D fs) ((wrOut (bs.map BkR.D) ops fs down seq kind body spare).sq seq) (wrOut (bs.map BkR.D) ops fs down seq kind body spare).adr (wrOut (bs.map BkR.D) ops fs down seq kind body spare).code = P
  obtain ⟨R, hR⟩ : ∃ R, wrOut (bs.map BkR.D) ops fs down seq kind body spare = R := ⟨_, rfl⟩
  rw [hR] at hGP
  have HGP : Hid _ := hGP
  obtain ⟨H, hH⟩ : ∃ H, w.heap.size = H := ⟨_, rfl⟩
  have HH : Hid (w.heap.size = H) := hH
  rw [hH] at z0 z1 hs0
  have HS0 : Hid (W0.heap.size = H + 1 + 1) := hs0
  generalize hds : bs.map BkR.D = ds at hC hln HDV hR
  have HB0 : Hid (Below w.heap.size w W0.drew) := B0.drew
  have HZ0 : Hid (Blk W0.drew H 55 #[.slice a n cap, .int .i64 ops, .slice fa m fc, .bool down, .int .i64 seq]) := z0.keep (Below.refl _ _).drew
  have HZ1 : Hid (Blk W0.drew (H + 1) 55 #[.slice none 0 0, .int .i64 0, .slice none 0 0, .bool false, .int .i64 0]) := z1.keep (Below.refl _ _).drew
  have HFL : Hid (fs.length = m) := hf.len
  have hall : Hid (∀ W : World, Below W0.drew.heap.size W0.drew W → W.cell? ⟨H, 0, none⟩ = some (.slice a n cap) ∧ W.cell? ⟨H, 1, none⟩ = some (.int .i64 ops) ∧ W.cell? ⟨H, 2, none⟩ = some (.slice fa m fc) ∧ W.cell? ⟨H, 3, none⟩ = some (.bool down) ∧ W.cell? ⟨H, 4, none⟩ = some (.int .i64 seq)) := fun W hW => (Blk.keep HZ0.out hW).log
  have HBA : Hid (Below W0.drew.heap.size W0.drew (W0.alloc (.cells #[.slice none 0 0, .int .i64 0, .slice none 0 0, .bool false, .int .i64 0] 55)).drew) := (Below.refl _ W0.drew).alloc (Nat.le_refl _) _
  have HBR : Hid (Below W0.drew.heap.size W0.drew (W0.alloc (.cells #[.int .i64 0, .int .i64 0, .slice none 0 0] 61)).drew) := (Below.refl _ W0.drew).alloc (Nat.le_refl _) _
  have HBAR : Hid (Below W0.drew.heap.size W0.drew ((W0.alloc (.cells #[.slice none 0 0, .int .i64 0, .slice none 0 0, .bool false, .int .i64 0] 55)).alloc (.cells #[.int .i64 0, .int .i64 0, .slice none 0 0] 61)).drew) := HBA.out.alloc HBA.out.size _
  have HBRA : Hid (Below W0.drew.heap.size W0.drew ((W0.alloc (.cells #[.int .i64 0, .int .i64 0, .slice none 0 0] 61)).alloc (.cells #[.slice none 0 0, .int .i64 0, .slice none 0 0, .bool false, .int .i64 0] 55)).drew) := HBR.out.alloc HBR.out.size _
  have hc0 := hC W0.drew (Below.refl _ _)
  have hcA := hC _ HBA.out
  have hcR := hC _ HBR.out
  have hcAR := hC _ HBAR.out
  have hcRA := hC _ HBRA.out
  obtain ⟨s0, s1, s2, s3, s4⟩ := hall.out W0.drew (Below.refl _ _)
  clear ht hf hrb hE B0 z0 z1 hGP hds hs0 hC
  go_enter Tryz.func30, Tryz.ntmps30
  go_upto_region 1 with fail
  try rw [hW0]
  try rw [hH]
  clear hW0
  go_cut [11, 12] from 13 to 46 (fun p q wx => WRR w H #[.slice a n cap, .int .i64 ops, .slice fa m fc, .bool down, .int .i64 seq] ⟨ds, ops, fs, down⟩ seq kind ab lb cbb p q wx)
  case first =>
    refine wp_region_noPanic ?_
    refine wp_region_last (fun W : World => W.cell? ⟨H, 0, none⟩ = some (.slice a n cap) ∧ W.cell? ⟨H, 1, none⟩ = some (.int .i64 ops) ∧ W.cell? ⟨H, 2, none⟩ = some (.slice fa m fc) ∧ W.cell? ⟨H, 3, none⟩ = some (.bool down) ∧ W.cell? ⟨H, 4, none⟩ = some (.int .i64 seq)) 10 (by kernel_rfl) (by kernel_rfl) (by go_keep) 10 (by kernel_rfl) (fun hS => ?_)
    refine wpAnyH_take (i := 0) (v := ?gv1) rfl (by kernel_rfl) (by kernel_rfl) (by kernel_rfl) (fun _ _ _ h => h) (Or.inl ⟨by kernel_rfl, ?gy1⟩) (by assumption) ?gr1
    case gy1 => (intro w' hSw; (try dsimp only at hSw); go_simp; (try with_reducible rfl))
    try simp only [Act.put, List.setIfInBounds_toArray, List.set_cons_zero, List.set_cons_succ, List.getElem_toArray, List.getElem_cons_zero]
    refine wpAnyH_take (i := 2) (v := ?gv2) rfl (by kernel_rfl) (by kernel_rfl) (by kernel_rfl) (fun _ _ _ h => h) (Or.inl ⟨by kernel_rfl, ?gy2⟩) (by assumption) ?gr2
    case gy2 => (intro w' hSw; (try dsimp only at hSw); go_simp; (try with_reducible rfl))
    try simp only [Act.put, List.setIfInBounds_toArray, List.set_cons_zero, List.set_cons_succ, List.getElem_toArray, List.getElem_cons_succ, List.getElem_cons_zero]
    refine wpAnyH_take (i := 3) (v := ?gv3) rfl (by kernel_rfl) (by kernel_rfl) (by kernel_rfl) (fun _ _ _ h => h) (Or.inl ⟨by kernel_rfl, ?gy3⟩) (by assumption) ?gr3
    case gy3 => (intro w' hSw; (try dsimp only at hSw); go_simp; (try with_reducible rfl))
    try simp only [Act.put, List.setIfInBounds_toArray, List.set_cons_zero, List.set_cons_succ, List.getElem_toArray, List.getElem_cons_succ, List.getElem_cons_zero]
    refine wpAnyH_take (i := 4) (v := ?gv4) rfl (by kernel_rfl) (by kernel_rfl) (by kernel_rfl) (fun _ _ _ h => h) (Or.inl ⟨by kernel_rfl, ?gy4⟩) (by assumption) ?gr4
    case gy4 => (intro w' hSw; (try dsimp only at hSw); go_simp; (try with_reducible rfl))
    try simp only [Act.put, List.setIfInBounds_toArray, List.set_cons_zero, List.set_cons_succ, List.getElem_toArray, List.getElem_cons_succ, List.getElem_cons_zero]
    refine wpAnyH_take (i := 5) (v := ?gv5) rfl (by kernel_rfl) (by kernel_rfl) (by kernel_rfl) (fun _ _ _ h => h) (Or.inl ⟨by kernel_rfl, ?gy5⟩) (by assumption) ?gr5
    case gy5 => (intro w' hSw; (try dsimp only at hSw); go_simp; (try with_reducible rfl))
    try simp only [Act.put, List.setIfInBounds_toArray, List.set_cons_zero, List.set_cons_succ, List.getElem_toArray, List.getElem_cons_succ, List.getElem_cons_zero]
    refine wpAnyH_take (i := 6) (v := ?gv6) rfl (by kernel_rfl) (by kernel_rfl) (by kernel_rfl) (fun _ _ _ h => h) (Or.inl ⟨by kernel_rfl, ?gy6⟩) (by assumption) ?gr6
    case gy6 => (intro w' hSw; (try dsimp only at hSw); go_simp; (try with_reducible rfl))
    try simp only [Act.put, List.setIfInBounds_toArray, List.set_cons_zero, List.set_cons_succ, List.getElem_toArray, List.getElem_cons_succ, List.getElem_cons_zero]
    refine wpAnyH_ready (rs := [1, 7, 8]) (by kernel_rfl) (by simp) ?_
    refine AllReadyH.cons rfl (fun K hK => ?_) (AllReadyH.cons rfl (fun K hK => ?_) (AllReadyH.cons rfl (fun K hK => ?_) AllReadyH.nil))
    go_simp
    (with_reducible refine hc0.mono ?_)
    rintro e W9 ⟨a1, n1, c1, fa1, m1, fc1, qs, rfl, hq, hql, b9⟩
    have HND : Hid (NewDv W9 (H + 1 + 1) a1 n1 c1 fa1 m1 fc1 ds fs qs ∧ qs.length = n1 ∧ Below W0.drew.heap.size W0.drew W9 ∧ (∀ g ∈ fpDv a1 n1 c1 fa1 m1 fc1 qs, g < W9.heap.size)) := ⟨hq.wider (by have := HS0.out; simp; omega), hql, (Below.refl W0.drew.heap.size W0.drew).trans (b9.mono (Below.refl W0.drew.heap.size W0.drew).size), hq.lt⟩
    skip
    clear hq hql b9
    dsimp only
    clear hS
    try dsimp only
    refine Shut.out hK _ _ (hall.out W9 HND.out.2.2.1) (fun hS => ?_)
    try simp only [Act.put, List.setIfInBounds_toArray, List.set_cons_zero, List.set_cons_succ, List.getElem_toArray, List.getElem_cons_succ, List.getElem_cons_zero]
    refine wpAnyH_ready (rs := [7, 8]) (by kernel_rfl) (by simp) ?_
    refine AllReadyH.cons rfl (fun K hK => ?_) (AllReadyH.cons rfl (fun K hK => ?_) AllReadyH.nil)
    go_simp
    clear hS
    try dsimp only
    refine Shut.out hK _ _ (hall.out _ (HND.out.2.2.1.alloc HND.out.2.2.1.size _)) (fun hS => ?_)
    try simp only [Act.put, List.setIfInBounds_toArray, List.set_cons_zero, List.set_cons_succ, List.getElem_toArray, List.getElem_cons_succ, List.getElem_cons_zero]
    refine wpAnyH_ready (rs := [8]) (by kernel_rfl) (by simp) ?_
    refine AllReadyH.cons rfl (fun K hK => ?_) AllReadyH.nil
    go_simp
    clear hS
    try dsimp only
    refine Shut.out hK _ _ (hall.out _ (Below.alloc (HND.out.2.2.1.alloc HND.out.2.2.1.size _) (by have := HND.out.2.2.1.size; simp only [World.size_alloc]; omega) _)) (fun hS => ?_)
    try simp only [Act.put, List.setIfInBounds_toArray, List.set_cons_zero, List.set_cons_succ, List.getElem_toArray, List.getElem_cons_succ, List.getElem_cons_zero]
    refine wpAnyH_ready (rs := [9]) (by kernel_rfl) (by simp) ?_
    refine AllReadyH.cons rfl (fun K hK => ?_) AllReadyH.nil
    obtain ⟨WZ, hWZ⟩ : ∃ W, (W9.alloc (.cells #[.slice none 0 0, .int .i64 0, .slice none 0 0, .bool false, .int .i64 0] 55)).alloc (.cells #[.int .i64 0, .int .i64 0, .slice none 0 0] 61) = W := ⟨_, rfl⟩
    have hbz : Below W9.heap.size W9 WZ := (by rw [← hWZ]; first | exact Below.refl _ _ | exact (Below.refl _ _).alloc (Nat.le_refl _) _ | exact ((Below.refl _ _).alloc (Nat.le_refl _) _).alloc (by simp) _)
    obtain ⟨X, hXe⟩ : ∃ X, W9.heap.size = X := ⟨_, rfl⟩
    obtain ⟨Y, hYe⟩ : ∃ Y, W9.heap.size + 1 = Y := ⟨_, rfl⟩
    have zX : Blk WZ X 55 #[.slice none 0 0, .int .i64 0, .slice none 0 0, .bool false, .int .i64 0] := (by rw [← hXe, ← hWZ]; exact (Blk.new W9 55 #[.slice none 0 0, .int .i64 0, .slice none 0 0, .bool false, .int .i64 0]).alloc _)
    have zY : Blk WZ Y 61 #[.int .i64 0, .int .i64 0, .slice none 0 0] := (by rw [← hYe, ← hWZ]; (have h := Blk.new (W9.alloc (.cells #[.slice none 0 0, .int .i64 0, .slice none 0 0, .bool false, .int .i64 0] 55)) 61 #[.int .i64 0, .int .i64 0, .slice none 0 0]; simp only [World.size_alloc] at h; exact h))
    have hXn : X ∉ fpDv a1 n1 c1 fa1 m1 fc1 qs := (by rw [← hXe]; exact (fun h => by have := HND.out.2.2.2 _ h; omega))
    have hYn : Y ∉ fpDv a1 n1 c1 fa1 m1 fc1 qs := (by rw [← hYe]; exact (fun h => by have := HND.out.2.2.2 _ h; omega))
    have hX2 : H + 1 < X := (by have := HS0.out; have := HND.out.2.2.1.size; simp at this; omega)
    have hY2 : H + 1 < Y := (by have := HS0.out; have := HND.out.2.2.1.size; simp at this; omega)
    have hXY : X ≠ Y := (by first | omega | (have := HX.out.2.2; omega) | (have := HY.out.2.2; omega))
    try rw [hWZ]
    (try rw [HS0.out])
    (try rw [hYe])
    (try rw [hXe])
    have hN9 := HND.out.1.keep hbz
    have hB9 := HND.out.2.2.1.trans (hbz.mono HND.out.2.2.1.size)
    obtain ⟨r0, r1, r2, r3, r4⟩ := zX.log
    have g0 := zX.frozen 0
    have g1 := zX.frozen 1
    have g2 := zX.frozen 2
    have g3 := zX.frozen 3
    have g4 := zX.frozen 4
    have zY5 := ((((zY.other (B' := X) hXY.symm 0 (.slice a1 n1 c1)).other (B' := X) hXY.symm 1 (.int .i64 ops)).other (B' := X) hXY.symm 2 (.slice fa1 m1 fc1)).other (B' := X) hXY.symm 3 (.bool down)).other (B' := X) hXY.symm 4 (.int .i64 seq)
    obtain ⟨y0, y1, y2⟩ := zY5.thr
    have k0 := zY5.frozen 0
    have k1 := zY5.frozen 1
    have k2 := zY5.frozen 2
    have HFIN : Hid (Blk WZ X 55 #[.slice none 0 0, .int .i64 0, .slice none 0 0, .bool false, .int .i64 0] ∧ Blk WZ Y 61 #[.int .i64 0, .int .i64 0, .slice none 0 0] ∧ NewDv WZ (H + 1 + 1) a1 n1 c1 fa1 m1 fc1 ds fs qs ∧ qs.length = n1 ∧ Below W0.drew.heap.size W0.drew WZ ∧ X ∉ fpDv a1 n1 c1 fa1 m1 fc1 qs ∧ Y ∉ fpDv a1 n1 c1 fa1 m1 fc1 qs ∧ H + 1 < X ∧ H + 1 < Y ∧ X ≠ Y) := ⟨zX, zY, hN9, HND.out.2.1, hB9, hXn, hYn, hX2, hY2, hXY⟩
    clear zX zY zY5 hN9 hB9 hXn hYn hbz hXe hYe
    go_simp
    clear hS
    try dsimp only
    refine Shut.out hK _ _ (((((((HZ0.out.keep HFIN.out.2.2.2.2.1).other (B' := X) (by omega) 0 (.slice a1 n1 c1)).other (B' := X) (by omega) 1 (.int .i64 ops)).other (B' := X) (by omega) 2 (.slice fa1 m1 fc1)).other (B' := X) (by omega) 3 (.bool down)).other (B' := X) (by omega) 4 (.int .i64 seq)).log) (fun hS => ?_)
    try simp only [Act.put, List.setIfInBounds_toArray, List.set_cons_zero, List.set_cons_succ, List.getElem_toArray, List.getElem_cons_succ, List.getElem_cons_zero]
    refine wpAnyH_done (by kernel_rfl) ?_ _
    refine wpOp_last rfl (fun K hK => ?_)
    clear hS
    go_simp
    refine Shut.out hK _ _ (NoPanic.normal ?_)
    rotate_left 1
    go_simp
    clear hS
    try dsimp only
    refine Shut.out hK _ _ (hall.out _ (HND.out.2.2.1.alloc HND.out.2.2.1.size _)) (fun hS => ?_)
    try simp only [Act.put, List.setIfInBounds_toArray, List.set_cons_zero, List.set_cons_succ, List.getElem_toArray, List.getElem_cons_succ, List.getElem_cons_zero]
    refine wpAnyH_ready (rs := [7]) (by kernel_rfl) (by simp) ?_
    refine AllReadyH.cons rfl (fun K hK => ?_) AllReadyH.nil
    go_simp
    clear hS
    try dsimp only
    refine Shut.out hK _ _ (hall.out _ (Below.alloc (HND.out.2.2.1.alloc HND.out.2.2.1.size _) (by have := HND.out.2.2.1.size; simp only [World.size_alloc]; omega) _)) (fun hS => ?_)
    try simp only [Act.put, List.setIfInBounds_toArray, List.set_cons_zero, List.set_cons_succ, List.getElem_toArray, List.getElem_cons_succ, List.getElem_cons_zero]
    refine wpAnyH_ready (rs := [9]) (by kernel_rfl) (by simp) ?_
    refine AllReadyH.cons rfl (fun K hK => ?_) AllReadyH.nil
    obtain ⟨WZ, hWZ⟩ : ∃ W, (W9.alloc (.cells #[.int .i64 0, .int .i64 0, .slice none 0 0] 61)).alloc (.cells #[.slice none 0 0, .int .i64 0, .slice none 0 0, .bool false, .int .i64 0] 55) = W := ⟨_, rfl⟩
    have hbz : Below W9.heap.size W9 WZ := (by rw [← hWZ]; first | exact Below.refl _ _ | exact (Below.refl _ _).alloc (Nat.le_refl _) _ | exact ((Below.refl _ _).alloc (Nat.le_refl _) _).alloc (by simp) _)
    obtain ⟨X, hXe⟩ : ∃ X, W9.heap.size + 1 = X := ⟨_, rfl⟩
    obtain ⟨Y, hYe⟩ : ∃ Y, W9.heap.size = Y := ⟨_, rfl⟩
    have zX : Blk WZ X 55 #[.slice none 0 0, .int .i64 0, .slice none 0 0, .bool false, .int .i64 0] := (by rw [← hXe, ← hWZ]; (have h := Blk.new (W9.alloc (.cells #[.int .i64 0, .int .i64 0, .slice none 0 0] 61)) 55 #[.slice none 0 0, .int .i64 0, .slice none 0 0, .bool false, .int .i64 0]; simp only [World.size_alloc] at h; exact h))
    have zY : Blk WZ Y 61 #[.int .i64 0, .int .i64 0, .slice none 0 0] := (by rw [← hYe, ← hWZ]; exact (Blk.new W9 61 #[.int .i64 0, .int .i64 0, .slice none 0 0]).alloc _)
    have hXn : X ∉ fpDv a1 n1 c1 fa1 m1 fc1 qs := (by rw [← hXe]; exact (fun h => by have := HND.out.2.2.2 _ h; omega))
    have hYn : Y ∉ fpDv a1 n1 c1 fa1 m1 fc1 qs := (by rw [← hYe]; exact (fun h => by have := HND.out.2.2.2 _ h; omega))
    have hX2 : H + 1 < X := (by have := HS0.out; have := HND.out.2.2.1.size; simp at this; omega)
    have hY2 : H + 1 < Y := (by have := HS0.out; have := HND.out.2.2.1.size; simp at this; omega)
    have hXY : X ≠ Y := (by first | omega | (have := HX.out.2.2; omega) | (have := HY.out.2.2; omega))
    try rw [hWZ]
    (try rw [HS0.out])
    (try rw [hXe])
    (try rw [hYe])
    have hN9 := HND.out.1.keep hbz
    have hB9 := HND.out.2.2.1.trans (hbz.mono HND.out.2.2.1.size)
    obtain ⟨r0, r1, r2, r3, r4⟩ := zX.log
    have g0 := zX.frozen 0
    have g1 := zX.frozen 1
    have g2 := zX.frozen 2
    have g3 := zX.frozen 3
    have g4 := zX.frozen 4
    have zY5 := ((((zY.other (B' := X) hXY.symm 0 (.slice a1 n1 c1)).other (B' := X) hXY.symm 1 (.int .i64 ops)).other (B' := X) hXY.symm 2 (.slice fa1 m1 fc1)).other (B' := X) hXY.symm 3 (.bool down)).other (B' := X) hXY.symm 4 (.int .i64 seq)
    obtain ⟨y0, y1, y2⟩ := zY5.thr
    have k0 := zY5.frozen 0
    have k1 := zY5.frozen 1
    have k2 := zY5.frozen 2
    have HFIN : Hid (Blk WZ X 55 #[.slice none 0 0, .int .i64 0, .slice none 0 0, .bool false, .int .i64 0] ∧ Blk WZ Y 61 #[.int .i64 0, .int .i64 0, .slice none 0 0] ∧ NewDv WZ (H + 1 + 1) a1 n1 c1 fa1 m1 fc1 ds fs qs ∧ qs.length = n1 ∧ Below W0.drew.heap.size W0.drew WZ ∧ X ∉ fpDv a1 n1 c1 fa1 m1 fc1 qs ∧ Y ∉ fpDv a1 n1 c1 fa1 m1 fc1 qs ∧ H + 1 < X ∧ H + 1 < Y ∧ X ≠ Y) := ⟨zX, zY, hN9, HND.out.2.1, hB9, hXn, hYn, hX2, hY2, hXY⟩
    clear zX zY zY5 hN9 hB9 hXn hYn hbz hXe hYe
    go_simp
    clear hS
    try dsimp only
    refine Shut.out hK _ _ (((((((HZ0.out.keep HFIN.out.2.2.2.2.1).other (B' := X) (by omega) 0 (.slice a1 n1 c1)).other (B' := X) (by omega) 1 (.int .i64 ops)).other (B' := X) (by omega) 2 (.slice fa1 m1 fc1)).other (B' := X) (by omega) 3 (.bool down)).other (B' := X) (by omega) 4 (.int .i64 seq)).log) (fun hS => ?_)
    try simp only [Act.put, List.setIfInBounds_toArray, List.set_cons_zero, List.set_cons_succ, List.getElem_toArray, List.getElem_cons_succ, List.getElem_cons_zero]
    refine wpAnyH_done (by kernel_rfl) ?_ _
    refine wpOp_last rfl (fun K hK => ?_)
    clear hS
    go_simp
    refine Shut.out hK _ _ (NoPanic.normal ?_)
    rotate_left 1
    go_simp
    clear hS
    try dsimp only
    refine Shut.out hK _ _ (hall.out _ HBA.out) (fun hS => ?_)
    try simp only [Act.put, List.setIfInBounds_toArray, List.set_cons_zero, List.set_cons_succ, List.getElem_toArray, List.getElem_cons_succ, List.getElem_cons_zero]
    refine wpAnyH_ready (rs := [1, 8]) (by kernel_rfl) (by simp) ?_
    refine AllReadyH.cons rfl (fun K hK => ?_) (AllReadyH.cons rfl (fun K hK => ?_) AllReadyH.nil)
    go_simp
    (with_reducible refine hcA.mono ?_)
    rintro e W9 ⟨a1, n1, c1, fa1, m1, fc1, qs, rfl, hq, hql, b9⟩
    have HND : Hid (NewDv W9 (H + 1 + 1) a1 n1 c1 fa1 m1 fc1 ds fs qs ∧ qs.length = n1 ∧ Below W0.drew.heap.size W0.drew W9 ∧ (∀ g ∈ fpDv a1 n1 c1 fa1 m1 fc1 qs, g < W9.heap.size)) := ⟨hq.wider (by have := HS0.out; simp; omega), hql, HBA.out.trans (b9.mono HBA.out.size), hq.lt⟩
    have HX : Hid (Blk W9 (H + 1 + 1) 55 #[.slice none 0 0, .int .i64 0, .slice none 0 0, .bool false, .int .i64 0] ∧ H + 1 + 1 ∉ fpDv a1 n1 c1 fa1 m1 fc1 qs ∧ H + 1 + 1 < W9.heap.size) := (by have h0 := Blk.new W0 55 #[.slice none 0 0, .int .i64 0, .slice none 0 0, .bool false, .int .i64 0]; (try simp only [World.size_alloc] at h0); rw [HS0.out] at h0; have h1 := Blk.keep (Blk.keep h0 (Below.refl _ _).drew) b9; exact ⟨h1, fun h => by (have h2 := hq.from _ h; have h3 := HS0.out; simp at h2; omega), h1.lt⟩)
    clear hq hql b9
    dsimp only
    clear hS
    try dsimp only
    refine Shut.out hK _ _ (hall.out W9 HND.out.2.2.1) (fun hS => ?_)
    try simp only [Act.put, List.setIfInBounds_toArray, List.set_cons_zero, List.set_cons_succ, List.getElem_toArray, List.getElem_cons_succ, List.getElem_cons_zero]
    refine wpAnyH_ready (rs := [8]) (by kernel_rfl) (by simp) ?_
    refine AllReadyH.cons rfl (fun K hK => ?_) AllReadyH.nil
    go_simp
    clear hS
    try dsimp only
    refine Shut.out hK _ _ (hall.out _ (HND.out.2.2.1.alloc HND.out.2.2.1.size _)) (fun hS => ?_)
    try simp only [Act.put, List.setIfInBounds_toArray, List.set_cons_zero, List.set_cons_succ, List.getElem_toArray, List.getElem_cons_succ, List.getElem_cons_zero]
    refine wpAnyH_ready (rs := [9]) (by kernel_rfl) (by simp) ?_
    refine AllReadyH.cons rfl (fun K hK => ?_) AllReadyH.nil
    obtain ⟨WZ, hWZ⟩ : ∃ W, W9.alloc (.cells #[.int .i64 0, .int .i64 0, .slice none 0 0] 61) = W := ⟨_, rfl⟩
    have hbz : Below W9.heap.size W9 WZ := (by rw [← hWZ]; first | exact Below.refl _ _ | exact (Below.refl _ _).alloc (Nat.le_refl _) _ | exact ((Below.refl _ _).alloc (Nat.le_refl _) _).alloc (by simp) _)
    obtain ⟨X, hXe⟩ : ∃ X, H + 1 + 1 = X := ⟨_, rfl⟩
    obtain ⟨Y, hYe⟩ : ∃ Y, W9.heap.size = Y := ⟨_, rfl⟩
    have zX : Blk WZ X 55 #[.slice none 0 0, .int .i64 0, .slice none 0 0, .bool false, .int .i64 0] := (by rw [← hXe, ← hWZ]; exact HX.out.1.alloc _)
    have zY : Blk WZ Y 61 #[.int .i64 0, .int .i64 0, .slice none 0 0] := (by rw [← hYe, ← hWZ]; exact Blk.new W9 61 #[.int .i64 0, .int .i64 0, .slice none 0 0])
    have hXn : X ∉ fpDv a1 n1 c1 fa1 m1 fc1 qs := (by rw [← hXe]; exact HX.out.2.1)
    have hYn : Y ∉ fpDv a1 n1 c1 fa1 m1 fc1 qs := (by rw [← hYe]; exact (fun h => by have := HND.out.2.2.2 _ h; omega))
    have hX2 : H + 1 < X := (by have := HS0.out; have := HND.out.2.2.1.size; simp at this; omega)
    have hY2 : H + 1 < Y := (by have := HS0.out; have := HND.out.2.2.1.size; simp at this; omega)
    have hXY : X ≠ Y := (by first | omega | (have := HX.out.2.2; omega) | (have := HY.out.2.2; omega))
    try rw [hWZ]
    (try rw [HS0.out])
    (try rw [hYe])
    (try rw [hXe])
    have hN9 := HND.out.1.keep hbz
    have hB9 := HND.out.2.2.1.trans (hbz.mono HND.out.2.2.1.size)
    obtain ⟨r0, r1, r2, r3, r4⟩ := zX.log
    have g0 := zX.frozen 0
    have g1 := zX.frozen 1
    have g2 := zX.frozen 2
    have g3 := zX.frozen 3
    have g4 := zX.frozen 4
    have zY5 := ((((zY.other (B' := X) hXY.symm 0 (.slice a1 n1 c1)).other (B' := X) hXY.symm 1 (.int .i64 ops)).other (B' := X) hXY.symm 2 (.slice fa1 m1 fc1)).other (B' := X) hXY.symm 3 (.bool down)).other (B' := X) hXY.symm 4 (.int .i64 seq)
    obtain ⟨y0, y1, y2⟩ := zY5.thr
    have k0 := zY5.frozen 0
    have k1 := zY5.frozen 1
    have k2 := zY5.frozen 2
    have HFIN : Hid (Blk WZ X 55 #[.slice none 0 0, .int .i64 0, .slice none 0 0, .bool false, .int .i64 0] ∧ Blk WZ Y 61 #[.int .i64 0, .int .i64 0, .slice none 0 0] ∧ NewDv WZ (H + 1 + 1) a1 n1 c1 fa1 m1 fc1 ds fs qs ∧ qs.length = n1 ∧ Below W0.drew.heap.size W0.drew WZ ∧ X ∉ fpDv a1 n1 c1 fa1 m1 fc1 qs ∧ Y ∉ fpDv a1 n1 c1 fa1 m1 fc1 qs ∧ H + 1 < X ∧ H + 1 < Y ∧ X ≠ Y) := ⟨zX, zY, hN9, HND.out.2.1, hB9, hXn, hYn, hX2, hY2, hXY⟩
    clear zX zY zY5 hN9 hB9 hXn hYn hbz hXe hYe
    go_simp
    clear hS
    try dsimp only
    refine Shut.out hK _ _ (((((((HZ0.out.keep HFIN.out.2.2.2.2.1).other (B' := X) (by omega) 0 (.slice a1 n1 c1)).other (B' := X) (by omega) 1 (.int .i64 ops)).other (B' := X) (by omega) 2 (.slice fa1 m1 fc1)).other (B' := X) (by omega) 3 (.bool down)).other (B' := X) (by omega) 4 (.int .i64 seq)).log) (fun hS => ?_)
    try simp only [Act.put, List.setIfInBounds_toArray, List.set_cons_zero, List.set_cons_succ, List.getElem_toArray, List.getElem_cons_succ, List.getElem_cons_zero]
    refine wpAnyH_done (by kernel_rfl) ?_ _
    refine wpOp_last rfl (fun K hK => ?_)
    clear hS
    go_simp
    refine Shut.out hK _ _ (NoPanic.normal ?_)
    rotate_left 1
    go_simp
    clear hS
    try dsimp only
    refine Shut.out hK _ _ (hall.out _ HBAR.out) (fun hS => ?_)
    try simp only [Act.put, List.setIfInBounds_toArray, List.set_cons_zero, List.set_cons_succ, List.getElem_toArray, List.getElem_cons_succ, List.getElem_cons_zero]
    refine wpAnyH_ready (rs := [1]) (by kernel_rfl) (by simp) ?_
    refine AllReadyH.cons rfl (fun K hK => ?_) AllReadyH.nil
    go_simp
    (with_reducible refine hcAR.mono ?_)
    rintro e W9 ⟨a1, n1, c1, fa1, m1, fc1, qs, rfl, hq, hql, b9⟩
    have HND : Hid (NewDv W9 (H + 1 + 1) a1 n1 c1 fa1 m1 fc1 ds fs qs ∧ qs.length = n1 ∧ Below W0.drew.heap.size W0.drew W9 ∧ (∀ g ∈ fpDv a1 n1 c1 fa1 m1 fc1 qs, g < W9.heap.size)) := ⟨hq.wider (by have := HS0.out; simp; omega), hql, HBAR.out.trans (b9.mono HBAR.out.size), hq.lt⟩
    have HX : Hid (Blk W9 (H + 1 + 1) 55 #[.slice none 0 0, .int .i64 0, .slice none 0 0, .bool false, .int .i64 0] ∧ H + 1 + 1 ∉ fpDv a1 n1 c1 fa1 m1 fc1 qs ∧ H + 1 + 1 < W9.heap.size) := (by have h0 := (Blk.new W0 55 #[.slice none 0 0, .int .i64 0, .slice none 0 0, .bool false, .int .i64 0]).alloc (.cells #[.int .i64 0, .int .i64 0, .slice none 0 0] 61); (try simp only [World.size_alloc] at h0); rw [HS0.out] at h0; have h1 := Blk.keep (Blk.keep h0 (Below.refl _ _).drew) b9; exact ⟨h1, fun h => by (have h2 := hq.from _ h; have h3 := HS0.out; simp at h2; omega), h1.lt⟩)
    have HY : Hid (Blk W9 (H + 1 + 1 + 1) 61 #[.int .i64 0, .int .i64 0, .slice none 0 0] ∧ H + 1 + 1 + 1 ∉ fpDv a1 n1 c1 fa1 m1 fc1 qs ∧ H + 1 + 1 + 1 < W9.heap.size) := (by have h0 := Blk.new (W0.alloc (.cells #[.slice none 0 0, .int .i64 0, .slice none 0 0, .bool false, .int .i64 0] 55)) 61 #[.int .i64 0, .int .i64 0, .slice none 0 0]; (try simp only [World.size_alloc] at h0); rw [HS0.out] at h0; have h1 := Blk.keep (Blk.keep h0 (Below.refl _ _).drew) b9; exact ⟨h1, fun h => by (have h2 := hq.from _ h; have h3 := HS0.out; simp at h2; omega), h1.lt⟩)
    clear hq hql b9
    dsimp only
    clear hS
    try dsimp only
    refine Shut.out hK _ _ (hall.out W9 HND.out.2.2.1) (fun hS => ?_)
    try simp only [Act.put, List.setIfInBounds_toArray, List.set_cons_zero, List.set_cons_succ, List.getElem_toArray, List.getElem_cons_succ, List.getElem_cons_zero]
    refine wpAnyH_ready (rs := [9]) (by kernel_rfl) (by simp) ?_
    refine AllReadyH.cons rfl (fun K hK => ?_) AllReadyH.nil
    obtain ⟨WZ, hWZ⟩ : ∃ W, W9 = W := ⟨_, rfl⟩
    have hbz : Below W9.heap.size W9 WZ := (by rw [← hWZ]; first | exact Below.refl _ _ | exact (Below.refl _ _).alloc (Nat.le_refl _) _ | exact ((Below.refl _ _).alloc (Nat.le_refl _) _).alloc (by simp) _)
    obtain ⟨X, hXe⟩ : ∃ X, H + 1 + 1 = X := ⟨_, rfl⟩
    obtain ⟨Y, hYe⟩ : ∃ Y, H + 1 + 1 + 1 = Y := ⟨_, rfl⟩
    have zX : Blk WZ X 55 #[.slice none 0 0, .int .i64 0, .slice none 0 0, .bool false, .int .i64 0] := (by rw [← hXe, ← hWZ]; exact HX.out.1)
    have zY : Blk WZ Y 61 #[.int .i64 0, .int .i64 0, .slice none 0 0] := (by rw [← hYe, ← hWZ]; exact HY.out.1)
    have hXn : X ∉ fpDv a1 n1 c1 fa1 m1 fc1 qs := (by rw [← hXe]; exact HX.out.2.1)
    have hYn : Y ∉ fpDv a1 n1 c1 fa1 m1 fc1 qs := (by rw [← hYe]; exact HY.out.2.1)
    have hX2 : H + 1 < X := (by have := HS0.out; have := HND.out.2.2.1.size; simp at this; omega)
    have hY2 : H + 1 < Y := (by have := HS0.out; have := HND.out.2.2.1.size; simp at this; omega)
    have hXY : X ≠ Y := (by first | omega | (have := HX.out.2.2; omega) | (have := HY.out.2.2; omega))
    try rw [hWZ]
    (try rw [HS0.out])
    (try rw [hYe])
    (try rw [hXe])
    have hN9 := HND.out.1.keep hbz
    have hB9 := HND.out.2.2.1.trans (hbz.mono HND.out.2.2.1.size)
    obtain ⟨r0, r1, r2, r3, r4⟩ := zX.log
    have g0 := zX.frozen 0
    have g1 := zX.frozen 1
    have g2 := zX.frozen 2
    have g3 := zX.frozen 3
    have g4 := zX.frozen 4
    have zY5 := ((((zY.other (B' := X) hXY.symm 0 (.slice a1 n1 c1)).other (B' := X) hXY.symm 1 (.int .i64 ops)).other (B' := X) hXY.symm 2 (.slice fa1 m1 fc1)).other (B' := X) hXY.symm 3 (.bool down)).other (B' := X) hXY.symm 4 (.int .i64 seq)
    obtain ⟨y0, y1, y2⟩ := zY5.thr
    have k0 := zY5.frozen 0
    have k1 := zY5.frozen 1
    have k2 := zY5.frozen 2
    have HFIN : Hid (Blk WZ X 55 #[.slice none 0 0, .int .i64 0, .slice none 0 0, .bool false, .int .i64 0] ∧ Blk WZ Y 61 #[.int .i64 0, .int .i64 0, .slice none 0 0] ∧ NewDv WZ (H + 1 + 1) a1 n1 c1 fa1 m1 fc1 ds fs qs ∧ qs.length = n1 ∧ Below W0.drew.heap.size W0.drew WZ ∧ X ∉ fpDv a1 n1 c1 fa1 m1 fc1 qs ∧ Y ∉ fpDv a1 n1 c1 fa1 m1 fc1 qs ∧ H + 1 < X ∧ H + 1 < Y ∧ X ≠ Y) := ⟨zX, zY, hN9, HND.out.2.1, hB9, hXn, hYn, hX2, hY2, hXY⟩
    clear zX zY zY5 hN9 hB9 hXn hYn hbz hXe hYe
    go_simp
    clear hS
    try dsimp only
    refine Shut.out hK _ _ (((((((HZ0.out.keep HFIN.out.2.2.2.2.1).other (B' := X) (by omega) 0 (.slice a1 n1 c1)).other (B' := X) (by omega) 1 (.int .i64 ops)).other (B' := X) (by omega) 2 (.slice fa1 m1 fc1)).other (B' := X) (by omega) 3 (.bool down)).other (B' := X) (by omega) 4 (.int .i64 seq)).log) (fun hS => ?_)
    try simp only [Act.put, List.setIfInBounds_toArray, List.set_cons_zero, List.set_cons_succ, List.getElem_toArray, List.getElem_cons_succ, List.getElem_cons_zero]
    refine wpAnyH_done (by kernel_rfl) ?_ _
    refine wpOp_last rfl (fun K hK => ?_)
    clear hS
    go_simp
    refine Shut.out hK _ _ (NoPanic.normal ?_)
    rotate_left 1
    go_simp
    clear hS
    try dsimp only
    refine Shut.out hK _ _ (hall.out _ HBR.out) (fun hS => ?_)
    try simp only [Act.put, List.setIfInBounds_toArray, List.set_cons_zero, List.set_cons_succ, List.getElem_toArray, List.getElem_cons_succ, List.getElem_cons_zero]
    refine wpAnyH_ready (rs := [1, 7]) (by kernel_rfl) (by simp) ?_
    refine AllReadyH.cons rfl (fun K hK => ?_) (AllReadyH.cons rfl (fun K hK => ?_) AllReadyH.nil)
    go_simp
    (with_reducible refine hcR.mono ?_)
    rintro e W9 ⟨a1, n1, c1, fa1, m1, fc1, qs, rfl, hq, hql, b9⟩
    have HND : Hid (NewDv W9 (H + 1 + 1) a1 n1 c1 fa1 m1 fc1 ds fs qs ∧ qs.length = n1 ∧ Below W0.drew.heap.size W0.drew W9 ∧ (∀ g ∈ fpDv a1 n1 c1 fa1 m1 fc1 qs, g < W9.heap.size)) := ⟨hq.wider (by have := HS0.out; simp; omega), hql, HBR.out.trans (b9.mono HBR.out.size), hq.lt⟩
    have HY : Hid (Blk W9 (H + 1 + 1) 61 #[.int .i64 0, .int .i64 0, .slice none 0 0] ∧ H + 1 + 1 ∉ fpDv a1 n1 c1 fa1 m1 fc1 qs ∧ H + 1 + 1 < W9.heap.size) := (by have h0 := Blk.new W0 61 #[.int .i64 0, .int .i64 0, .slice none 0 0]; (try simp only [World.size_alloc] at h0); rw [HS0.out] at h0; have h1 := Blk.keep (Blk.keep h0 (Below.refl _ _).drew) b9; exact ⟨h1, fun h => by (have h2 := hq.from _ h; have h3 := HS0.out; simp at h2; omega), h1.lt⟩)
    clear hq hql b9
    dsimp only
    clear hS
    try dsimp only
    refine Shut.out hK _ _ (hall.out W9 HND.out.2.2.1) (fun hS => ?_)
    try simp only [Act.put, List.setIfInBounds_toArray, List.set_cons_zero, List.set_cons_succ, List.getElem_toArray, List.getElem_cons_succ, List.getElem_cons_zero]
    refine wpAnyH_ready (rs := [7]) (by kernel_rfl) (by simp) ?_
    refine AllReadyH.cons rfl (fun K hK => ?_) AllReadyH.nil
    go_simp
    clear hS
    try dsimp only
    refine Shut.out hK _ _ (hall.out _ (HND.out.2.2.1.alloc HND.out.2.2.1.size _)) (fun hS => ?_)
    try simp only [Act.put, List.setIfInBounds_toArray, List.set_cons_zero, List.set_cons_succ, List.getElem_toArray, List.getElem_cons_succ, List.getElem_cons_zero]
    refine wpAnyH_ready (rs := [9]) (by kernel_rfl) (by simp) ?_
    refine AllReadyH.cons rfl (fun K hK => ?_) AllReadyH.nil
    obtain ⟨WZ, hWZ⟩ : ∃ W, W9.alloc (.cells #[.slice none 0 0, .int .i64 0, .slice none 0 0, .bool false, .int .i64 0] 55) = W := ⟨_, rfl⟩
    have hbz : Below W9.heap.size W9 WZ := (by rw [← hWZ]; first | exact Below.refl _ _ | exact (Below.refl _ _).alloc (Nat.le_refl _) _ | exact ((Below.refl _ _).alloc (Nat.le_refl _) _).alloc (by simp) _)
    obtain ⟨X, hXe⟩ : ∃ X, W9.heap.size = X := ⟨_, rfl⟩
    obtain ⟨Y, hYe⟩ : ∃ Y, H + 1 + 1 = Y := ⟨_, rfl⟩
    have zX : Blk WZ X 55 #[.slice none 0 0, .int .i64 0, .slice none 0 0, .bool false, .int .i64 0] := (by rw [← hXe, ← hWZ]; exact Blk.new W9 55 #[.slice none 0 0, .int .i64 0, .slice none 0 0, .bool false, .int .i64 0])
    have zY : Blk WZ Y 61 #[.int .i64 0, .int .i64 0, .slice none 0 0] := (by rw [← hYe, ← hWZ]; exact HY.out.1.alloc _)
    have hXn : X ∉ fpDv a1 n1 c1 fa1 m1 fc1 qs := (by rw [← hXe]; exact (fun h => by have := HND.out.2.2.2 _ h; omega))
    have hYn : Y ∉ fpDv a1 n1 c1 fa1 m1 fc1 qs := (by rw [← hYe]; exact HY.out.2.1)
    have hX2 : H + 1 < X := (by have := HS0.out; have := HND.out.2.2.1.size; simp at this; omega)
    have hY2 : H + 1 < Y := (by have := HS0.out; have := HND.out.2.2.1.size; simp at this; omega)
    have hXY : X ≠ Y := (by first | omega | (have := HX.out.2.2; omega) | (have := HY.out.2.2; omega))
    try rw [hWZ]
    (try rw [HS0.out])
    (try rw [hXe])
    (try rw [hYe])
    have hN9 := HND.out.1.keep hbz
    have hB9 := HND.out.2.2.1.trans (hbz.mono HND.out.2.2.1.size)
    obtain ⟨r0, r1, r2, r3, r4⟩ := zX.log
    have g0 := zX.frozen 0
    have g1 := zX.frozen 1
    have g2 := zX.frozen 2
    have g3 := zX.frozen 3
    have g4 := zX.frozen 4
    have zY5 := ((((zY.other (B' := X) hXY.symm 0 (.slice a1 n1 c1)).other (B' := X) hXY.symm 1 (.int .i64 ops)).other (B' := X) hXY.symm 2 (.slice fa1 m1 fc1)).other (B' := X) hXY.symm 3 (.bool down)).other (B' := X) hXY.symm 4 (.int .i64 seq)
    obtain ⟨y0, y1, y2⟩ := zY5.thr
    have k0 := zY5.frozen 0
    have k1 := zY5.frozen 1
    have k2 := zY5.frozen 2
    have HFIN : Hid (Blk WZ X 55 #[.slice none 0 0, .int .i64 0, .slice none 0 0, .bool false, .int .i64 0] ∧ Blk WZ Y 61 #[.int .i64 0, .int .i64 0, .slice none 0 0] ∧ NewDv WZ (H + 1 + 1) a1 n1 c1 fa1 m1 fc1 ds fs qs ∧ qs.length = n1 ∧ Below W0.drew.heap.size W0.drew WZ ∧ X ∉ fpDv a1 n1 c1 fa1 m1 fc1 qs ∧ Y ∉ fpDv a1 n1 c1 fa1 m1 fc1 qs ∧ H + 1 < X ∧ H + 1 < Y ∧ X ≠ Y) := ⟨zX, zY, hN9, HND.out.2.1, hB9, hXn, hYn, hX2, hY2, hXY⟩
    clear zX zY zY5 hN9 hB9 hXn hYn hbz hXe hYe
    go_simp
    clear hS
    try dsimp only
    refine Shut.out hK _ _ (((((((HZ0.out.keep HFIN.out.2.2.2.2.1).other (B' := X) (by omega) 0 (.slice a1 n1 c1)).other (B' := X) (by omega) 1 (.int .i64 ops)).other (B' := X) (by omega) 2 (.slice fa1 m1 fc1)).other (B' := X) (by omega) 3 (.bool down)).other (B' := X) (by omega) 4 (.int .i64 seq)).log) (fun hS => ?_)
    try simp only [Act.put, List.setIfInBounds_toArray, List.set_cons_zero, List.set_cons_succ, List.getElem_toArray, List.getElem_cons_succ, List.getElem_cons_zero]
    refine wpAnyH_done (by kernel_rfl) ?_ _
    refine wpOp_last rfl (fun K hK => ?_)
    clear hS
    go_simp
    refine Shut.out hK _ _ (NoPanic.normal ?_)
    rotate_left 1
    go_simp
    clear hS
    try dsimp only
    refine Shut.out hK _ _ (hall.out _ HBRA.out) (fun hS => ?_)
    try simp only [Act.put, List.setIfInBounds_toArray, List.set_cons_zero, List.set_cons_succ, List.getElem_toArray, List.getElem_cons_succ, List.getElem_cons_zero]
    refine wpAnyH_ready (rs := [1]) (by kernel_rfl) (by simp) ?_
    refine AllReadyH.cons rfl (fun K hK => ?_) AllReadyH.nil
    go_simp
    (with_reducible refine hcRA.mono ?_)
    rintro e W9 ⟨a1, n1, c1, fa1, m1, fc1, qs, rfl, hq, hql, b9⟩
    have HND : Hid (NewDv W9 (H + 1 + 1) a1 n1 c1 fa1 m1 fc1 ds fs qs ∧ qs.length = n1 ∧ Below W0.drew.heap.size W0.drew W9 ∧ (∀ g ∈ fpDv a1 n1 c1 fa1 m1 fc1 qs, g < W9.heap.size)) := ⟨hq.wider (by have := HS0.out; simp; omega), hql, HBRA.out.trans (b9.mono HBRA.out.size), hq.lt⟩
    have HY : Hid (Blk W9 (H + 1 + 1) 61 #[.int .i64 0, .int .i64 0, .slice none 0 0] ∧ H + 1 + 1 ∉ fpDv a1 n1 c1 fa1 m1 fc1 qs ∧ H + 1 + 1 < W9.heap.size) := (by have h0 := (Blk.new W0 61 #[.int .i64 0, .int .i64 0, .slice none 0 0]).alloc (.cells #[.slice none 0 0, .int .i64 0, .slice none 0 0, .bool false, .int .i64 0] 55); (try simp only [World.size_alloc] at h0); rw [HS0.out] at h0; have h1 := Blk.keep (Blk.keep h0 (Below.refl _ _).drew) b9; exact ⟨h1, fun h => by (have h2 := hq.from _ h; have h3 := HS0.out; simp at h2; omega), h1.lt⟩)
    have HX : Hid (Blk W9 (H + 1 + 1 + 1) 55 #[.slice none 0 0, .int .i64 0, .slice none 0 0, .bool false, .int .i64 0] ∧ H + 1 + 1 + 1 ∉ fpDv a1 n1 c1 fa1 m1 fc1 qs ∧ H + 1 + 1 + 1 < W9.heap.size) := (by have h0 := Blk.new (W0.alloc (.cells #[.int .i64 0, .int .i64 0, .slice none 0 0] 61)) 55 #[.slice none 0 0, .int .i64 0, .slice none 0 0, .bool false, .int .i64 0]; (try simp only [World.size_alloc] at h0); rw [HS0.out] at h0; have h1 := Blk.keep (Blk.keep h0 (Below.refl _ _).drew) b9; exact ⟨h1, fun h => by (have h2 := hq.from _ h; have h3 := HS0.out; simp at h2; omega), h1.lt⟩)
    clear hq hql b9
    dsimp only
    clear hS
    try dsimp only
    refine Shut.out hK _ _ (hall.out W9 HND.out.2.2.1) (fun hS => ?_)
    try simp only [Act.put, List.setIfInBounds_toArray, List.set_cons_zero, List.set_cons_succ, List.getElem_toArray, List.getElem_cons_succ, List.getElem_cons_zero]
    refine wpAnyH_ready (rs := [9]) (by kernel_rfl) (by simp) ?_
    refine AllReadyH.cons rfl (fun K hK => ?_) AllReadyH.nil
    obtain ⟨WZ, hWZ⟩ : ∃ W, W9 = W := ⟨_, rfl⟩
    have hbz : Below W9.heap.size W9 WZ := (by rw [← hWZ]; first | exact Below.refl _ _ | exact (Below.refl _ _).alloc (Nat.le_refl _) _ | exact ((Below.refl _ _).alloc (Nat.le_refl _) _).alloc (by simp) _)
    obtain ⟨X, hXe⟩ : ∃ X, H + 1 + 1 + 1 = X := ⟨_, rfl⟩
    obtain ⟨Y, hYe⟩ : ∃ Y, H + 1 + 1 = Y := ⟨_, rfl⟩
    have zX : Blk WZ X 55 #[.slice none 0 0, .int .i64 0, .slice none 0 0, .bool false, .int .i64 0] := (by rw [← hXe, ← hWZ]; exact HX.out.1)
    have zY : Blk WZ Y 61 #[.int .i64 0, .int .i64 0, .slice none 0 0] := (by rw [← hYe, ← hWZ]; exact HY.out.1)
    have hXn : X ∉ fpDv a1 n1 c1 fa1 m1 fc1 qs := (by rw [← hXe]; exact HX.out.2.1)
    have hYn : Y ∉ fpDv a1 n1 c1 fa1 m1 fc1 qs := (by rw [← hYe]; exact HY.out.2.1)
    have hX2 : H + 1 < X := (by have := HS0.out; have := HND.out.2.2.1.size; simp at this; omega)
    have hY2 : H + 1 < Y := (by have := HS0.out; have := HND.out.2.2.1.size; simp at this; omega)
    have hXY : X ≠ Y := (by first | omega | (have := HX.out.2.2; omega) | (have := HY.out.2.2; omega))
    try rw [hWZ]
    (try rw [HS0.out])
    (try rw [hXe])
    (try rw [hYe])
    have hN9 := HND.out.1.keep hbz
    have hB9 := HND.out.2.2.1.trans (hbz.mono HND.out.2.2.1.size)
    obtain ⟨r0, r1, r2, r3, r4⟩ := zX.log
    have g0 := zX.frozen 0
    have g1 := zX.frozen 1
    have g2 := zX.frozen 2
    have g3 := zX.frozen 3
    have g4 := zX.frozen 4
    have zY5 := ((((zY.other (B' := X) hXY.symm 0 (.slice a1 n1 c1)).other (B' := X) hXY.symm 1 (.int .i64 ops)).other (B' := X) hXY.symm 2 (.slice fa1 m1 fc1)).other (B' := X) hXY.symm 3 (.bool down)).other (B' := X) hXY.symm 4 (.int .i64 seq)
    obtain ⟨y0, y1, y2⟩ := zY5.thr
    have k0 := zY5.frozen 0
    have k1 := zY5.frozen 1
    have k2 := zY5.frozen 2
    have HFIN : Hid (Blk WZ X 55 #[.slice none 0 0, .int .i64 0, .slice none 0 0, .bool false, .int .i64 0] ∧ Blk WZ Y 61 #[.int .i64 0, .int .i64 0, .slice none 0 0] ∧ NewDv WZ (H + 1 + 1) a1 n1 c1 fa1 m1 fc1 ds fs qs ∧ qs.length = n1 ∧ Below W0.drew.heap.size W0.drew WZ ∧ X ∉ fpDv a1 n1 c1 fa1 m1 fc1 qs ∧ Y ∉ fpDv a1 n1 c1 fa1 m1 fc1 qs ∧ H + 1 < X ∧ H + 1 < Y ∧ X ≠ Y) := ⟨zX, zY, hN9, HND.out.2.1, hB9, hXn, hYn, hX2, hY2, hXY⟩
    clear zX zY zY5 hN9 hB9 hXn hYn hbz hXe hYe
    go_simp
    clear hS
    try dsimp only
    refine Shut.out hK _ _ (((((((HZ0.out.keep HFIN.out.2.2.2.2.1).other (B' := X) (by omega) 0 (.slice a1 n1 c1)).other (B' := X) (by omega) 1 (.int .i64 ops)).other (B' := X) (by omega) 2 (.slice fa1 m1 fc1)).other (B' := X) (by omega) 3 (.bool down)).other (B' := X) (by omega) 4 (.int .i64 seq)).log) (fun hS => ?_)
    try simp only [Act.put, List.setIfInBounds_toArray, List.set_cons_zero, List.set_cons_succ, List.getElem_toArray, List.getElem_cons_succ, List.getElem_cons_zero]
    refine wpAnyH_done (by kernel_rfl) ?_ _
    refine wpOp_last rfl (fun K hK => ?_)
    clear hS
    go_simp
    refine Shut.out hK _ _ (NoPanic.normal ?_)
    rotate_left 1
    all_goals (have HM : Hid _ := wrr_of (D := ⟨ds, ops, fs, down⟩) (seq := seq) (kind := kind) (ab := ab) (lb := lb) (cbb := cbb) HH.out HB0.out HZ0.out HZ1.out HFIN.out; clear hK HFIN HND; go_wp2_with fail; go_meet; exact HM.out)
  case rest =>
    obtain ⟨X, Y, a1, n1, c1, fa1, m1, fc1, qs, rfl, rfl, zX, zY, hN, hl, zH, zR, hB, hX2, hY2, hXY⟩ := hcut
    dsimp only at hN zX
    have hn1 : n1 = n := by rw [← hl, hN.bs.len, hln]
    have hm1 : m1 = m := by rw [← OwnE.len hN.fs, HFL.out]
    subst hn1 hm1
    have HB2 : Hid (Below w.heap.size w wc) := hB
    have HN : Hid (NewDv wc (H + 1 + 1) a1 n1 c1 fa1 m1 fc1 ds fs qs ∧ qs.length = n1 ∧ Blk wc X 55 #[.slice a1 n1 c1, .int .i64 ops, .slice fa1 m1 fc1, .bool down, .int .i64 seq] ∧ Blk wc H 55 #[.slice a n1 cap, .int .i64 ops, .slice fa m1 fc, .bool down, .int .i64 seq] ∧ Blk wc (H + 1) 55 #[.slice none 0 0, .int .i64 0, .slice none 0 0, .bool false, .int .i64 0]) := ⟨hN, hl, zX, zH, zR⟩
    have HY : Hid (Blk wc Y 61 #[.int .i64 kind, .int .i64 seq, .slice ab lb cbb]) := zY
    obtain ⟨y0, y1, y2⟩ := zY.thr
    clear zX zY hN hl zH zR hB HB0 HZ0 HZ1 hall HBA HBR HBAR HBRA hc0 hcA hcR hcAR hcRA s0 s1 s2 s3 s4 HS0 HFL
    go_wp2_with fail
    refine (hro wc).mono ?_
    rintro e w3 ⟨rfl, b3⟩
    clear hro y0 y1 y2
    cases hk : recOk ⟨kind, seq, body⟩ with
    | false =>
      have bX := b3
      try rw [hk]
      have HR : Hid (WrA.mk ⟨ds, ops, down⟩ false (-1) 1 = R) := by show _ = _; rw [← hR, wrOut_form (.inl hk)]
      clear hR hk HDV HRB HY b3
      have HND : Hid (NewDv w3 w.heap.size a1 n1 c1 fa1 m1 fc1 ds fs qs ∧ qs.length = n1 ∧ Below w.heap.size w w3 ∧ H + 1 ∉ fpDv a1 n1 c1 fa1 m1 fc1 qs) := ⟨(HN.out.1.keep bX).wider (by have := HH.out; omega), HN.out.2.1, HB2.out.trans (bX.mono HB2.out.size), fun h => by have := HN.out.1.from (H + 1) h; omega⟩
      obtain ⟨x0, x1, x2, x3, x4⟩ := (HN.out.2.2.1.keep bX).log
      have zr := HN.out.2.2.2.2.keep bX
      clear bX
      obtain ⟨r0, r1, r2, r3, r4⟩ := zr.log
      have g0 := zr.frozen 0
      have g1 := zr.frozen 1
      have g2 := zr.frozen 2
      have g3 := zr.frozen 3
      have g4 := zr.frozen 4
      have zf := ((((zr.set 0 (.slice a1 n1 c1)).set 1 (.int .i64 ops)).set 2 (.slice fa1 m1 fc1)).set 3 (.bool down)).set 4 (.int .i64 seq)
      obtain ⟨d0, d1, d2, d3, d4⟩ := zf.log
      clear zr zf
      go_wp2
      refine bodyPost_ret (v := .tuple #[.agg #[.slice a1 n1 c1, .int .i64 ops, .slice fa1 m1 fc1, .bool down, .int .i64 seq], .int .i64 (-1), .int .i64 1]) (by simp [results, Tryz.f30, go_sem, d0, d1, d2, d3, d4]) rfl ?_
      rw [← HGP.out, ← HR.out]
      obtain ⟨hnd, hql, hb, hf1⟩ := HND.out
      have s : ∀ (W : World) (i : Nat) (v : Value), Below w.heap.size w W → Below w.heap.size w (W.setCell ⟨H + 1, i, none⟩ v) := fun W i v hb => hb.setCell (p := ⟨H + 1, i, none⟩) (by have := HH.out; simp only; omega) v
      exact ⟨a1, n1, c1, fa1, m1, fc1, _, (by unfold WrA.D WrA.sq; rfl), ((((hnd.setN hf1).setN hf1).setN hf1).setN hf1).setN hf1, hql, s _ _ _ (s _ _ _ (s _ _ _ (s _ _ _ (s _ _ _ hb))))⟩
    | true =>
      try rw [hk]
      have hrange := (recOk_iff _).1 hk
      dsimp only at hrange
      obtain ⟨_, _, hs0', hs1', _⟩ := hrange
      obtain ⟨q0, q1, q2, q3, q4⟩ := (HN.out.2.2.2.1.keep b3).log
      go_wp2_with fail
      refine (HDV.out w3 (HB2.out.trans (b3.mono HB2.out.size))).mono ?_
      rintro e w4 ⟨rfl, b4⟩
      have b34 := b3.trans (b4.mono b3.size)
      clear HDV q0 q1 q2 q3 q4 b4 b3
      cases hd : devB ds ops fs with
      | false =>
        have bX := b34
        try rw [hd]
        have HR : Hid (WrA.mk ⟨ds, ops, down⟩ false (-1) 1 = R) := by show _ = _; rw [← hR, wrOut_form (.inr (.inl hd))]
        clear hR hd hk HRB HY b34
        have HND : Hid (NewDv w4 w.heap.size a1 n1 c1 fa1 m1 fc1 ds fs qs ∧ qs.length = n1 ∧ Below w.heap.size w w4 ∧ H + 1 ∉ fpDv a1 n1 c1 fa1 m1 fc1 qs) := ⟨(HN.out.1.keep bX).wider (by have := HH.out; omega), HN.out.2.1, HB2.out.trans (bX.mono HB2.out.size), fun h => by have := HN.out.1.from (H + 1) h; omega⟩
        obtain ⟨x0, x1, x2, x3, x4⟩ := (HN.out.2.2.1.keep bX).log
        have zr := HN.out.2.2.2.2.keep bX
        clear bX
        obtain ⟨r0, r1, r2, r3, r4⟩ := zr.log
        have g0 := zr.frozen 0
        have g1 := zr.frozen 1
        have g2 := zr.frozen 2
        have g3 := zr.frozen 3
        have g4 := zr.frozen 4
        have zf := ((((zr.set 0 (.slice a1 n1 c1)).set 1 (.int .i64 ops)).set 2 (.slice fa1 m1 fc1)).set 3 (.bool down)).set 4 (.int .i64 seq)
        obtain ⟨d0, d1, d2, d3, d4⟩ := zf.log
        clear zr zf
        go_wp2
        refine bodyPost_ret (v := .tuple #[.agg #[.slice a1 n1 c1, .int .i64 ops, .slice fa1 m1 fc1, .bool down, .int .i64 seq], .int .i64 (-1), .int .i64 1]) (by simp [results, Tryz.f30, go_sem, d0, d1, d2, d3, d4]) rfl ?_
        rw [← HGP.out, ← HR.out]
        obtain ⟨hnd, hql, hb, hf1⟩ := HND.out
        have s : ∀ (W : World) (i : Nat) (v : Value), Below w.heap.size w W → Below w.heap.size w (W.setCell ⟨H + 1, i, none⟩ v) := fun W i v hb => hb.setCell (p := ⟨H + 1, i, none⟩) (by have := HH.out; simp only; omega) v
        exact ⟨a1, n1, c1, fa1, m1, fc1, _, (by unfold WrA.D WrA.sq; rfl), ((((hnd.setN hf1).setN hf1).setN hf1).setN hf1).setN hf1, hql, s _ _ _ (s _ _ _ (s _ _ _ (s _ _ _ (s _ _ _ hb))))⟩
      | true =>
        try rw [hd]
        obtain ⟨q0, q1, q2, q3, q4⟩ := (HN.out.2.2.2.1.keep b34).log
        by_cases hsq : seq ≥ 1000000
        · have bX := b34
          have hse : (seq == 1000000) = true := by simp; omega
          have HR : Hid (WrA.mk ⟨ds, ops, down⟩ false (-1) 1 = R) := by show _ = _; rw [← hR, wrOut_form (.inr (.inr (by omega)))]
          clear hR hd hk HRB HY b34
          have HND : Hid (NewDv w4 w.heap.size a1 n1 c1 fa1 m1 fc1 ds fs qs ∧ qs.length = n1 ∧ Below w.heap.size w w4 ∧ H + 1 ∉ fpDv a1 n1 c1 fa1 m1 fc1 qs) := ⟨(HN.out.1.keep bX).wider (by have := HH.out; omega), HN.out.2.1, HB2.out.trans (bX.mono HB2.out.size), fun h => by have := HN.out.1.from (H + 1) h; omega⟩
          obtain ⟨x0, x1, x2, x3, x4⟩ := (HN.out.2.2.1.keep bX).log
          have zr := HN.out.2.2.2.2.keep bX
          clear bX
          obtain ⟨r0, r1, r2, r3, r4⟩ := zr.log
          have g0 := zr.frozen 0
          have g1 := zr.frozen 1
          have g2 := zr.frozen 2
          have g3 := zr.frozen 3
          have g4 := zr.frozen 4
          have zf := ((((zr.set 0 (.slice a1 n1 c1)).set 1 (.int .i64 ops)).set 2 (.slice fa1 m1 fc1)).set 3 (.bool down)).set 4 (.int .i64 seq)
          obtain ⟨d0, d1, d2, d3, d4⟩ := zf.log
          clear zr zf
          go_wp2
          refine bodyPost_ret (v := .tuple #[.agg #[.slice a1 n1 c1, .int .i64 ops, .slice fa1 m1 fc1, .bool down, .int .i64 seq], .int .i64 (-1), .int .i64 1]) (by simp [results, Tryz.f30, go_sem, d0, d1, d2, d3, d4]) rfl ?_
          rw [← HGP.out, ← HR.out]
          obtain ⟨hnd, hql, hb, hf1⟩ := HND.out
          have s : ∀ (W : World) (i : Nat) (v : Value), Below w.heap.size w W → Below w.heap.size w (W.setCell ⟨H + 1, i, none⟩ v) := fun W i v hb => hb.setCell (p := ⟨H + 1, i, none⟩) (by have := HH.out; simp only; omega) v
          exact ⟨a1, n1, c1, fa1, m1, fc1, _, (by unfold WrA.D WrA.sq; rfl), ((((hnd.setN hf1).setN hf1).setN hf1).setN hf1).setN hf1, hql, s _ _ _ (s _ _ _ (s _ _ _ (s _ _ _ (s _ _ _ hb))))⟩
        have hse : (seq == 1000000) = false := by simp; omega
        cases down with
        | true =>
          have bX := b34
          have HR : Hid (WrA.mk ⟨ds, ops, true⟩ false (-1) 10 = R) := by show _ = _; rw [← hR, wrOut_down hk hd (by omega)]
          clear hR hd hk HRB HY b34
          have HND : Hid (NewDv w4 w.heap.size a1 n1 c1 fa1 m1 fc1 ds fs qs ∧ qs.length = n1 ∧ Below w.heap.size w w4 ∧ H + 1 ∉ fpDv a1 n1 c1 fa1 m1 fc1 qs) := ⟨(HN.out.1.keep bX).wider (by have := HH.out; omega), HN.out.2.1, HB2.out.trans (bX.mono HB2.out.size), fun h => by have := HN.out.1.from (H + 1) h; omega⟩
          obtain ⟨x0, x1, x2, x3, x4⟩ := (HN.out.2.2.1.keep bX).log
          have zr := HN.out.2.2.2.2.keep bX
          clear bX
          obtain ⟨r0, r1, r2, r3, r4⟩ := zr.log
          have g0 := zr.frozen 0
          have g1 := zr.frozen 1
          have g2 := zr.frozen 2
          have g3 := zr.frozen 3
          have g4 := zr.frozen 4
          have zf := ((((zr.set 0 (.slice a1 n1 c1)).set 1 (.int .i64 ops)).set 2 (.slice fa1 m1 fc1)).set 3 (.bool true)).set 4 (.int .i64 seq)
          obtain ⟨d0, d1, d2, d3, d4⟩ := zf.log
          clear zr zf
          go_wp2
          refine bodyPost_ret (v := .tuple #[.agg #[.slice a1 n1 c1, .int .i64 ops, .slice fa1 m1 fc1, .bool true, .int .i64 seq], .int .i64 (-1), .int .i64 10]) (by simp [results, Tryz.f30, go_sem, d0, d1, d2, d3, d4]) rfl ?_
          rw [← HGP.out, ← HR.out]
          obtain ⟨hnd, hql, hb, hf1⟩ := HND.out
          have s : ∀ (W : World) (i : Nat) (v : Value), Below w.heap.size w W → Below w.heap.size w (W.setCell ⟨H + 1, i, none⟩ v) := fun W i v hb => hb.setCell (p := ⟨H + 1, i, none⟩) (by have := HH.out; simp only; omega) v
          exact ⟨a1, n1, c1, fa1, m1, fc1, _, (by unfold WrA.D WrA.sq; rfl), ((((hnd.setN hf1).setN hf1).setN hf1).setN hf1).setN hf1, hql, s _ _ _ (s _ _ _ (s _ _ _ (s _ _ _ (s _ _ _ hb))))⟩
        | false =>
          have HB4 : Hid (Below w.heap.size w w4) := HB2.out.trans (b34.mono HB2.out.size)
          have HBd : Hid (Below w4.heap.size w4 w4.drew) := (Below.refl _ w4).drew
          have hpr := putRecI_yes ⟨kind, seq, body⟩ ab cbb w4.drew ⟨(HRB.out _ (HB4.out.trans (HBd.out.mono HB4.out.size))).1, hby⟩ hk
          unfold recC at hpr
          dsimp only at hpr
          obtain ⟨Z, hZe⟩ : ∃ Z, summedOf (recEnc ⟨kind, seq, body⟩) = Z := ⟨_, rfl⟩
          obtain ⟨nb, hnbe⟩ : ∃ x, (recEnc ⟨kind, seq, body⟩).length + 4 = x := ⟨_, rfl⟩
          have hz : Z.length = nb := by rw [← hZe, summedOf_len, hnbe]
          have hn4 : nb ≤ 400 := by
            have := recPut_len ⟨kind, seq, body⟩
            unfold recPut at this
            rw [if_pos hk, hZe, hz] at this
            exact this
          rw [hZe, hnbe, hbl] at hpr
          rw [wrOut_go hk hd (by omega), hln, hZe] at hR
          have hC : ∀ (U : World) (gb cb : Nat), Below w4.heap.size w4 U → Own U gb nb cb Z → Calls Tryz.prog 76 #[.agg #[.slice a1 n1 c1, .int .i64 ops, .slice fa1 m1 fc1, .bool false, .int .i64 seq], .slice (some ⟨gb, 0, none⟩) nb cb, .int .i64 spare] U (LwA U (H + 1 + 1) (R.D fs) (R.sq seq) R.adr R.code) := fun U gb cb hU ho => by
            have hcb : nb ≤ cb := by
              rcases ho.2 with ⟨h1, h2⟩ | ⟨g', c', cur, h1, _, _, h2, _⟩
              · simp at h1
              · simp only [Value.slice.injEq] at h1; omega
            have hBU := HB4.out.trans (hU.mono HB4.out.size)
            have hsU : H + 1 + 1 ≤ U.heap.size := by have h1 := (HN.out.2.2.1.keep (b34.trans (hU.mono b34.size))).lt; omega
            have h := loopI fs Z spare (H + 1 + 1) ⟨ds, ops, false⟩ a1 n1 c1 fa1 m1 fc1 qs seq gb nb cb U (HN.out.1.keep (b34.trans (hU.mono b34.size))) HN.out.2.1 ⟨hd, rfl⟩ hfm ⟨by omega, by omega⟩ hz hn4 hcb ho.rd (HRB.out U hBU).2 hsU
            rw [hR] at h
            exact h
          obtain ⟨⟨rds, rops, rdn⟩, rmore, radr, rcode⟩ := R
          unfold WrA.D at hC
          dsimp only at hC
          obtain ⟨sqr, hsqr⟩ : ∃ x, WrA.sq ⟨⟨rds, rops, rdn⟩, rmore, radr, rcode⟩ seq = x := ⟨_, rfl⟩
          rw [hsqr] at hC
          have HSQ : Hid _ := hsqr
          have HC : Hid _ := hC
          have HX4 : Hid (Blk w4 X 55 #[.slice a1 n1 c1, .int .i64 ops, .slice fa1 m1 fc1, .bool false, .int .i64 seq]) := HN.out.2.2.1.keep b34
          have HY4 : Hid (Blk w4 Y 61 #[.int .i64 kind, .int .i64 seq, .slice ab lb cbb]) := HY.out.keep b34
          have HR4 : Hid (Blk w4 (H + 1) 55 #[.slice none 0 0, .int .i64 0, .slice none 0 0, .bool false, .int .i64 0]) := HN.out.2.2.2.2.keep b34
          have hs6 : Hid (∀ W : World, Blk W X 55 #[.slice a1 n1 c1, .int .i64 ops, .slice fa1 m1 fc1, .bool false, .int .i64 seq] → Blk W Y 61 #[.int .i64 kind, .int .i64 seq, .slice ab lb cbb] → W.cell? ⟨X, 0, none⟩ = some (.slice a1 n1 c1) ∧ W.cell? ⟨X, 1, none⟩ = some (.int .i64 ops) ∧ W.cell? ⟨X, 2, none⟩ = some (.slice fa1 m1 fc1) ∧ W.cell? ⟨X, 3, none⟩ = some (.bool false) ∧ W.cell? ⟨X, 4, none⟩ = some (.int .i64 seq) ∧ W.cell? ⟨Y, 0, none⟩ = some (.int .i64 kind) ∧ W.cell? ⟨Y, 1, none⟩ = some (.int .i64 seq) ∧ W.cell? ⟨Y, 2, none⟩ = some (.slice ab lb cbb)) := fun W h1 h2 => ⟨h1.cell 0, h1.cell 1, h1.cell 2, h1.cell 3, h1.cell 4, h2.cell 0, h2.cell 1, h2.cell 2⟩
          obtain ⟨s0, s1, s2, s3, s4, s5, s6, s7⟩ := hs6.out w4.drew (HX4.out.keep HBd.out) (HY4.out.keep HBd.out)
          clear hR hd hk HRB HY b34 hC hsqr hZe hnbe hz hn4
          go_upto_region 6 with fail
          refine wp_region_noPanic ?_
          refine wp_region_last (fun W : World => W.cell? ⟨X, 0, none⟩ = some (.slice a1 n1 c1) ∧ W.cell? ⟨X, 1, none⟩ = some (.int .i64 ops) ∧ W.cell? ⟨X, 2, none⟩ = some (.slice fa1 m1 fc1) ∧ W.cell? ⟨X, 3, none⟩ = some (.bool false) ∧ W.cell? ⟨X, 4, none⟩ = some (.int .i64 seq) ∧ W.cell? ⟨Y, 0, none⟩ = some (.int .i64 kind) ∧ W.cell? ⟨Y, 1, none⟩ = some (.int .i64 seq) ∧ W.cell? ⟨Y, 2, none⟩ = some (.slice ab lb cbb)) 10 (by kernel_rfl) (by kernel_rfl) (by go_keep) 10 (by kernel_rfl) (fun hS => ?_)
          refine wpAnyH_take (i := 0) (v := ?gv7) rfl (by kernel_rfl) (by kernel_rfl) (by kernel_rfl) (fun _ _ _ h => h) (Or.inl ⟨by kernel_rfl, ?gy7⟩) (by assumption) ?gr7
          case gy7 => (intro w' hSw; (try dsimp only at hSw); go_simp; (try with_reducible rfl))
          try simp only [Act.put, List.setIfInBounds_toArray, List.set_cons_zero, List.set_cons_succ, List.getElem_toArray, List.getElem_cons_zero]
          refine wpAnyH_take (i := 1) (v := ?gv8) rfl (by kernel_rfl) (by kernel_rfl) (by kernel_rfl) (fun _ _ _ h => h) (Or.inl ⟨by kernel_rfl, ?gy8⟩) (by assumption) ?gr8
          case gy8 => (intro w' hSw; (try dsimp only at hSw); go_simp; (try with_reducible rfl))
          try simp only [Act.put, List.setIfInBounds_toArray, List.set_cons_zero, List.set_cons_succ, List.getElem_toArray, List.getElem_cons_succ, List.getElem_cons_zero]
          refine wpAnyH_take (i := 3) (v := ?gv9) rfl (by kernel_rfl) (by kernel_rfl) (by kernel_rfl) (fun _ _ _ h => h) (Or.inl ⟨by kernel_rfl, ?gy9⟩) (by assumption) ?gr9
          case gy9 => (intro w' hSw; (try dsimp only at hSw); go_simp; (try with_reducible rfl))
          try simp only [Act.put, List.setIfInBounds_toArray, List.set_cons_zero, List.set_cons_succ, List.getElem_toArray, List.getElem_cons_succ, List.getElem_cons_zero]
          refine wpAnyH_ready (rs := [2]) (by kernel_rfl) (by simp) ?_
          refine AllReadyH.cons rfl (fun K hK => ?_) AllReadyH.nil
          go_simp
          (with_reducible refine hpr.mono ?_)
          rintro e w5 ⟨gb, cb, rfl, hgb, ho, b5⟩
          have HP : Hid (Below w4.heap.size w4 w5 ∧ Own w5 gb nb cb Z) := ⟨HBd.out.trans (b5.mono HBd.out.size), ho⟩
          clear hpr hgb ho b5
          dsimp only
          clear hS
          try dsimp only
          refine Shut.out hK _ _ (hs6.out w5 (HX4.out.keep HP.out.1) (HY4.out.keep HP.out.1)) (fun hS => ?_)
          try simp only [Act.put, List.setIfInBounds_toArray, List.set_cons_zero, List.set_cons_succ, List.getElem_toArray, List.getElem_cons_succ, List.getElem_cons_zero]
          refine wpAnyH_ready (rs := [4]) (by kernel_rfl) (by simp) ?_
          refine AllReadyH.cons rfl (fun K hK => ?_) AllReadyH.nil
          go_simp
          (with_reducible refine (HC.out w5 gb cb HP.out.1 HP.out.2).mono ?_)
          rintro e w6 ⟨a9, n9, c9, fa9, m9, fc9, qs9, rfl, hN9, hl9, b9⟩
          have B46 : Below w4.heap.size w4 w6 := HP.out.1.trans (b9.mono HP.out.1.size)
          have HND : Hid (NewDv w6 w.heap.size a9 n9 c9 fa9 m9 fc9 rds fs qs9 ∧ qs9.length = n9 ∧ Below w.heap.size w w6 ∧ H + 1 ∉ fpDv a9 n9 c9 fa9 m9 fc9 qs9) := ⟨hN9.wider (by have := HH.out; omega), hl9, HB4.out.trans (B46.mono HB4.out.size), fun h => by have := hN9.from (H + 1) h; omega⟩
          have HZ6 : Hid (Blk w6 X 55 #[.slice a1 n1 c1, .int .i64 ops, .slice fa1 m1 fc1, .bool false, .int .i64 seq] ∧ Blk w6 Y 61 #[.int .i64 kind, .int .i64 seq, .slice ab lb cbb] ∧ Blk w6 (H + 1) 55 #[.slice none 0 0, .int .i64 0, .slice none 0 0, .bool false, .int .i64 0]) := ⟨HX4.out.keep B46, HY4.out.keep B46, HR4.out.keep B46⟩
          clear hN9 hl9 b9 B46
          dsimp only
          clear hS
          try dsimp only
          refine Shut.out hK _ _ (hs6.out w6 HZ6.out.1 HZ6.out.2.1) (fun hS => ?_)
          try simp only [Act.put, List.setIfInBounds_toArray, List.set_cons_zero, List.set_cons_succ, List.getElem_toArray, List.getElem_cons_succ, List.getElem_cons_zero]
          refine wpAnyH_take (i := 5) (v := ?gv10) rfl (by kernel_rfl) (by kernel_rfl) (by kernel_rfl) (fun _ _ _ h => h) (Or.inl ⟨by kernel_rfl, ?gy10⟩) (by assumption) ?gr10
          case gy10 => (intro w' hSw; (try dsimp only at hSw); go_simp; (try with_reducible rfl))
          try simp only [Act.put, List.setIfInBounds_toArray, List.set_cons_zero, List.set_cons_succ, List.getElem_toArray, List.getElem_cons_succ, List.getElem_cons_zero]
          refine wpAnyH_take (i := 6) (v := ?gv11) rfl (by kernel_rfl) (by kernel_rfl) (by kernel_rfl) (fun _ _ _ h => h) (Or.inl ⟨by kernel_rfl, ?gy11⟩) (by assumption) ?gr11
          case gy11 => (intro w' hSw; (try dsimp only at hSw); go_simp; (try with_reducible rfl))
          try simp only [Act.put, List.setIfInBounds_toArray, List.set_cons_zero, List.set_cons_succ, List.getElem_toArray, List.getElem_cons_succ, List.getElem_cons_zero]
          refine wpAnyH_take (i := 7) (v := ?gv12) rfl (by kernel_rfl) (by kernel_rfl) (by kernel_rfl) (fun _ _ _ h => h) (Or.inl ⟨by kernel_rfl, ?gy12⟩) (by assumption) ?gr12
          case gy12 => (intro w' hSw; (try dsimp only at hSw); go_simp; (try with_reducible rfl))
          try simp only [Act.put, List.setIfInBounds_toArray, List.set_cons_zero, List.set_cons_succ, List.getElem_toArray, List.getElem_cons_succ, List.getElem_cons_zero]
          refine wpAnyH_ready (rs := [8]) (by kernel_rfl) (by simp) ?_
          refine AllReadyH.cons rfl (fun K hK => ?_) AllReadyH.nil
          obtain ⟨r0, r1, r2, r3, r4⟩ := HZ6.out.2.2.log
          have g0 := HZ6.out.2.2.frozen 0
          have g1 := HZ6.out.2.2.frozen 1
          have g2 := HZ6.out.2.2.frozen 2
          have g3 := HZ6.out.2.2.frozen 3
          have g4 := HZ6.out.2.2.frozen 4
          have zf := ((((HZ6.out.2.2.set 0 (.slice a9 n9 c9)).set 1 (.int .i64 rops)).set 2 (.slice fa9 m9 fc9)).set 3 (.bool rdn)).set 4 (.int .i64 sqr)
          obtain ⟨d0, d1, d2, d3, d4⟩ := zf.log
          clear zf
          go_simp
          clear hS
          try dsimp only
          refine Shut.out hK _ _ (hs6.out _ ((((((((((HZ6.out.1).other (B' := H + 1) (by omega) 0 (.slice a9 n9 c9))).other (B' := H + 1) (by omega) 1 (.int .i64 rops))).other (B' := H + 1) (by omega) 2 (.slice fa9 m9 fc9))).other (B' := H + 1) (by omega) 3 (.bool rdn))).other (B' := H + 1) (by omega) 4 (.int .i64 sqr)) ((((((((((HZ6.out.2.1).other (B' := H + 1) (by omega) 0 (.slice a9 n9 c9))).other (B' := H + 1) (by omega) 1 (.int .i64 rops))).other (B' := H + 1) (by omega) 2 (.slice fa9 m9 fc9))).other (B' := H + 1) (by omega) 3 (.bool rdn))).other (B' := H + 1) (by omega) 4 (.int .i64 sqr))) (fun hS => ?_)
          try simp only [Act.put, List.setIfInBounds_toArray, List.set_cons_zero, List.set_cons_succ, List.getElem_toArray, List.getElem_cons_succ, List.getElem_cons_zero]
          refine wpAnyH_take (i := 9) (v := ?gv13) rfl (by kernel_rfl) (by kernel_rfl) (by kernel_rfl) (fun _ _ _ h => h) (Or.inl ⟨by kernel_rfl, ?gy13⟩) (by assumption) ?gr13
          case gy13 => (intro w' hSw; (try dsimp only at hSw); go_simp; (try with_reducible rfl))
          try simp only [Act.put, List.setIfInBounds_toArray, List.set_cons_zero, List.set_cons_succ, List.getElem_toArray, List.getElem_cons_succ, List.getElem_cons_zero]
          refine wpAnyH_done (by kernel_rfl) ?_ _
          refine wpOp_last rfl (fun K hK => ?_)
          clear hS
          go_simp
          refine Shut.out hK _ _ (NoPanic.normal ?_)
          go_wp2
          refine bodyPost_ret (v := .tuple #[.agg #[.slice a9 n9 c9, .int .i64 rops, .slice fa9 m9 fc9, .bool rdn, .int .i64 sqr], .int .i64 radr, .int .i64 rcode]) (by simp [results, Tryz.f30, go_sem, d0, d1, d2, d3, d4]) rfl ?_
          rw [← HGP.out]
          obtain ⟨hnd, hql, hb, hf1⟩ := HND.out
          have s : ∀ (W : World) (i : Nat) (v : Value), Below w.heap.size w W → Below w.heap.size w (W.setCell ⟨H + 1, i, none⟩ v) := fun W i v hb => hb.setCell (p := ⟨H + 1, i, none⟩) (by have := HH.out; simp only; omega) v
          exact ⟨a9, n9, c9, fa9, m9, fc9, _, (by rw [← HSQ.out]; rfl), ((((hnd.setN hf1).setN hf1).setN hf1).setN hf1).setN hf1, hql, s _ _ _ (s _ _ _ (s _ _ _ (s _ _ _ (s _ _ _ hb))))⟩
end

section
open Go.RowKit
def iE : El Int := ⟨1, by omega, fun z => [.int .i64 z], fun _ => rfl⟩
theorem iE_snoc (xs : List Int) (z : Int) : iE.xv (xs ++ [z]) = iE.xv xs ++ [.int .i64 z] := by rw [El.xv_append]; rfl
theorem one_new (w : World) (v : Value) (t : TypeId) : ∀ j u, [v][j]? = some u → (w.alloc (.cells #[v] t)).cell? ((⟨w.heap.size, 0, none⟩ : Addr).add j) = some u := by
  intro j u h
  have hj : j = 0 := by
    have := (List.getElem?_eq_some_iff.1 h).1
    simp at this
    exact this
  subst hj
  have h1 := (Blk.new w t #[v]).cell 0
  simp at h
  subst h
  exact h1
/-- While the log is filled: what lies in memory. -/
structure XJ (w W : World) (X gb mb cb : Nat) (ys : List Int) (v : Value) (xs : List Int) (ds : List BkD) (op seq : Int) (va : Option Addr) (vn vc : Nat) (fa : Option Addr) (fc : Nat) (qs : List BkR) : Prop where
  bel : Below w.heap.size w W
  own : W.ownsRow (X + 1) 3 1 v xs.length (iE.xv xs)
  vf : ∀ g, v.ownBlock = some g → g ∉ fpBs (.slice va vn vc) qs
  bs : NewBs W (X + 1) (.slice va vn vc) ds qs
  ql : qs.length = vn
  x : Blk W X 55 #[.slice va vn vc, .int .i64 op, .slice fa 0 fc, .bool false, .int .i64 seq]
  ob : Own W gb mb cb ys
  hgb : gb < X
  hw : w.heap.size ≤ X
theorem XJ.fr {w W : World} {X gb mb cb : Nat} {ys : List Int} {v : Value} {xs : List Int} {ds : List BkD} {op seq : Int} {va : Option Addr} {vn vc : Nat} {fa : Option Addr} {fc : Nat} {qs : List BkR} (_ : XJ w W X gb mb cb ys v xs ds op seq va vn vc fa fc qs) : FR W fa 0 [] := ⟨rfl, by omega, .inl rfl⟩
theorem XJ.keep {W' : World} {w W : World} {X gb mb cb : Nat} {ys : List Int} {v : Value} {xs : List Int} {ds : List BkD} {op seq : Int} {va : Option Addr} {vn vc : Nat} {fa : Option Addr} {fc : Nat} {qs : List BkR} (h : XJ w W X gb mb cb ys v xs ds op seq va vn vc fa fc qs) (hb : Below W.heap.size W W') : XJ w W' X gb mb cb ys v xs ds op seq va vn vc fa fc qs :=
  ⟨h.bel.trans (hb.mono h.bel.size), row_kept h.own (r := none) ⟨hb.os, hb.tape, hb.output, hb.size, fun k hk _ => hb.block k hk⟩ (fun g _ => by simp), h.vf, h.bs.keep hb, h.ql, h.x.keep hb, h.ob.keep hb h.ob.lt, h.hgb, h.hw⟩
/-- A log was written, and stored in the box. -/
theorem XJ.wrote {W1 : World} {ds' : List BkD} {op' seq' : Int} {aR : Option Addr} {nR cR : Nat} {fR : Option Addr} {gR : Nat} {qR : List BkR} {w W : World} {X gb mb cb : Nat} {ys : List Int} {v : Value} {xs : List Int} {ds : List BkD} {op seq : Int} {va : Option Addr} {vn vc : Nat} {fa : Option Addr} {fc : Nat} {qs : List BkR} (h : XJ w W X gb mb cb ys v xs ds op seq va vn vc fa fc qs) (hb : Below W.heap.size W W1) (hn : NewDv W1 W.heap.size aR nR cR fR 0 gR ds' [] qR) (hl : qR.length = nR) :
    XJ w (((((W1.setCell ⟨X, 0, none⟩ (.slice aR nR cR)).setCell ⟨X, 1, none⟩ (.int .i64 op')).setCell ⟨X, 2, none⟩ (.slice fR 0 gR)).setCell ⟨X, 3, none⟩ (.bool false)).setCell ⟨X, 4, none⟩ (.int .i64 seq')) X gb mb cb ys v xs ds' op' seq' aR nR cR fR gR qR := by
  have hk := h.keep hb
  have hX := h.x.lt
  have hgb := h.hgb
  have hw := h.hw
  have hv : ∀ g, v.ownBlock = some g → X + 1 ≤ g ∧ g < W.heap.size := fun g hg => by
    obtain ⟨h1, cur, h2⟩ := row_at h.own hg
    exact ⟨h1, (Array.getElem?_eq_some_iff.1 h2).1⟩
  have on : ∀ (W : World) (i : Nat) (u : Value), Own W gb mb cb ys → Own (W.setCell ⟨X, i, none⟩ u) gb mb cb ys := fun W i u h => Own.kept h (gr_setC W X i u) (by omega)
  have rn : ∀ (W : World) (i : Nat) (u : Value), W.ownsRow (X + 1) 3 1 v xs.length (iE.xv xs) → (W.setCell ⟨X, i, none⟩ u).ownsRow (X + 1) 3 1 v xs.length (iE.xv xs) := fun W i u h => row_kept h (gr_setC W X i u) (fun g hg e => by have := (hv g hg).1; simp at e; omega)
  have zz := ((((hk.x.set 0 (.slice aR nR cR)).set 1 (.int .i64 op')).set 2 (.slice fR 0 gR)).set 3 (.bool false)).set 4 (.int .i64 seq')
  simp at zz
  exact ⟨((((hk.bel.setCell (p := ⟨X, 0, none⟩) hw _).setCell (p := ⟨X, 1, none⟩) hw _).setCell (p := ⟨X, 2, none⟩) hw _).setCell (p := ⟨X, 3, none⟩) hw _).setCell (p := ⟨X, 4, none⟩) hw _,
    rn _ _ _ (rn _ _ _ (rn _ _ _ (rn _ _ _ (rn _ _ _ hk.own)))), fun g hg hf => by have := (hv g hg).2; have := hn.bs.new g hf; omega,
    (((((hn.bs.set_below hX).set_below hX).set_below hX).set_below hX).set_below hX).wider (by omega), hl, zz, on _ _ _ (on _ _ _ (on _ _ _ (on _ _ _ (on _ _ _ hk.ob)))), hgb, hw⟩
/-- One address more. -/
theorem XJ.app {W' : World} {g c : Nat} {z : Int} {w W : World} {X gb mb cb : Nat} {ys : List Int} {v : Value} {xs : List Int} {ds : List BkD} {op seq : Int} {va : Option Addr} {vn vc : Nat} {fa : Option Addr} {fc : Nat} {qs : List BkR} (h : XJ w W X gb mb cb ys v xs ds op seq va vn vc fa fc qs) (ho : W'.ownsRow (X + 1) 3 1 (.slice (some ⟨g, 0, none⟩) (xs.length + 1) c) (xs.length + 1) (iE.xv xs ++ [.int .i64 z])) (hg : W.grownBy W' v.ownBlock) (ha : v.ownBlock = some g ∨ g = W.heap.size) :
    XJ w W' X gb mb cb ys (.slice (some ⟨g, 0, none⟩) (xs.length + 1) c) (xs ++ [z]) ds op seq va vn vc fa fc qs := by
  have hX := h.x.lt
  have hgb := h.hgb
  have hw := h.hw
  have hv : ∀ g, v.ownBlock = some g → X + 1 ≤ g ∧ g < W.heap.size := fun g hg => by
    obtain ⟨h1, cur, h2⟩ := row_at h.own hg
    exact ⟨h1, (Array.getElem?_eq_some_iff.1 h2).1⟩
  have kb : ∀ k, k < W.heap.size → (∀ g, v.ownBlock = some g → k ≠ g) → W'.heap[k]? = W.heap[k]? := fun k hk hkn => hg.block k hk (fun e => by first | exact hkn k e rfl | exact hkn k e.symm rfl)
  refine ⟨⟨hg.os.trans h.bel.os, hg.tape.trans h.bel.tape, hg.output.trans h.bel.output, Nat.le_trans h.bel.size hg.size, fun k hk => (kb k (by omega) (fun g hv2 => by have := hv g hv2; omega)).trans (h.bel.block k hk)⟩, by rw [iE_snoc, List.length_append]; exact ho, ?_, ⟨h.bs.D, h.bs.own.block (fun j hj => kb j (h.bs.own.lt j hj) (fun g hv2 e => h.vf g hv2 (e ▸ hj))), h.bs.new, h.bs.nd⟩, h.ql, ?_, ?_, hgb, hw⟩
  · intro k hk hf
    have hk2 : g = k := by simpa [Value.ownBlock] using hk
    subst hk2
    rcases ha with ha | rfl
    · exact h.vf g ha hf
    · have := h.bs.own.lt _ hf; omega
  · exact (kb X hX (fun g hv2 => by have := hv g hv2; omega)).trans h.x
  · exact row_kept h.ob hg (fun k hk e => by
      have hk2 : gb = k := by simpa [Value.ownBlock] using hk
      subst hk2
      have := hv gb e
      omega)
theorem below_u {w w1 w2 : World} (h : Below w.heap.size w w1) (h2 : Below w1.heap.size w1 w2) : Below w.heap.size w w2 := h.trans (h2.mono h.size)
/-- A record of kind 1 was read, and lies in its box. -/
def RcX (wr : World) (s : Int) (ys : List Int) (p o : Value) (wx : World) : Prop := ∃ (R : Nat) (ga : Option Addr) (gn gc : Nat), p = .pointer (some ⟨R, 0, none⟩) ∧ o = .bool true ∧ Blk wx R 61 #[.int .i64 1, .int .i64 s, .slice ga gn gc] ∧ ys.length = gn ∧ Rd wx ga ys ∧ Below wr.heap.size wr wx
theorem rd_form {w : World} {ga : Option Addr} {n gc : Nat} {ys : List Int} (h : RowB w (.slice ga n gc) n ys) : Rd w ga ys := by
  obtain ⟨a, c, e, hr⟩ := RowB.form h
  simp only [Value.slice.injEq] at e
  rw [e.1]
  exact hr
theorem rcx_a {wr w7 : World} {s : Int} {ys : List Int} {ga : Option Addr} {gc : Nat} (hb : Below wr.heap.size wr w7) (hrow : RowB w7 (.slice ga ys.length gc) ys.length ys) :
    RcX wr s ys (.pointer (some ⟨w7.heap.size, 0, none⟩)) (.bool true) (w7.alloc (.cells #[.int .i64 1, .int .i64 s, .slice ga ys.length gc] 61)) :=
  ⟨w7.heap.size, ga, _, gc, rfl, rfl, Blk.new w7 _ _, rfl, (rd_form hrow).keep ((Below.refl _ _).alloc (Nat.le_refl _) _), hb.alloc hb.size _⟩
theorem rcx_b {wr w7 : World} {s : Int} {ys : List Int} {ga : Option Addr} {gc H : Nat} {u0 u1 u2 : Value} (hH : wr.heap.size ≤ H) (hb : Below wr.heap.size wr w7) (hz : Blk w7 H 61 #[u0, u1, u2]) (hrow : RowB w7 (.slice ga ys.length gc) ys.length ys) (hge : ∀ g, (Value.slice ga ys.length gc).ownBlock = some g → H + 1 ≤ g) :
    RcX wr s ys (.pointer (some ⟨H, 0, none⟩)) (.bool true) (((w7.setCell ⟨H, 0, none⟩ (.int .i64 1)).setCell ⟨H, 1, none⟩ (.int .i64 s)).setCell ⟨H, 2, none⟩ (.slice ga ys.length gc)) :=
  ⟨H, ga, _, gc, rfl, rfl, set3_blk hz _ _ _, rfl, rd_form (((hrow.set_ne H 0 (fun g hg => by have := hge g hg; omega)).set_ne H 1 (fun g hg => by have := hge g hg; omega)).set_ne H 2 (fun g hg => by have := hge g hg; omega)), ((hb.setCell (p := ⟨H, 0, none⟩) hH _).setCell (p := ⟨H, 1, none⟩) hH _).setCell (p := ⟨H, 2, none⟩) hH _⟩
set_option maxRecDepth 100000 in
set_option maxHeartbeats 8000000 in
theorem walkFilled (a0 : Option Addr) (len0 cap0 : Nat) (zs : List Int) (w : World) (hn : zs.length = len0) (hr : Rd w a0 zs) (hb : Byt zs) (hg : EtCell w) :
    Calls Tryz.prog 7 #[.slice a0 len0 cap0] w fun e w' => e = .returned (.bool true) ∧ Below w.heap.size w w' := by
  by_cases hbig : 1048576 < len0
  · have hd : decide ((1048576 : Int) < (len0 : Int)) = true := by simp; omega
    go_enter Tryz.func7, Tryz.ntmps7
    go_wp2_with fail
    refine (big_any a0 len0 cap0 w).mono ?_
    rintro e w1 ⟨rfl, hw⟩
    obtain rfl := hw.symm
    rw [hd]
    go_wp2
    go_ret
    exact ⟨rfl, Below.refl _ _⟩
  have hd : decide ((1048576 : Int) < (len0 : Int)) = false := by simp; omega
  have hcL := drawLog_any a0 len0 cap0 zs w hn (by omega) hr hb
  have HG : Hid (EtCell w) := hg
  clear hn hr hb hg
  go_enter Tryz.func7, Tryz.ntmps7
  go_wp2_with fail
  refine (big_any a0 len0 cap0 w).mono ?_
  rintro e w1 ⟨rfl, hw⟩
  obtain rfl := hw.symm
  rw [hd]
  clear hd hbig
  go_wp2_with fail
  refine hcL.mono ?_
  rintro e w1 ⟨⟨ds, op, fs0, dn⟩, seq, va, vn, vc, fa, m, fc, qs, gb, mb, cb, ys, rfl, hnd, hql, hok, hbt, hsq, hmb, hob, hyb, hgb, _, b1⟩
  dsimp only at hnd hok hbt hsq
  have hm : m ≤ 1048576 := by
    have h4 := (devB_parts.1 hok).2.2
    unfold faultsB at h4
    simp at h4
    have := OwnE.len hnd.fs
    omega
  have hf1 : FR w1 fa m fs0 := OwnFa.fr hnd.fs hm
  have hc1 : CR w1 va vn qs := hnd.cr hql (devB_tot hok)
  have hD : qs.map BkR.D = ds := hnd.bs.D
  have b2 : Below w1.heap.size w1 (w1.alloc (.cells #[.slice va vn vc, .int .i64 op, .slice fa m fc, .bool dn, .int .i64 seq] 55)) := (Below.refl _ _).alloc (Nat.le_refl _) _
  have z2 := Blk.new w1 55 #[.slice va vn vc, .int .i64 op, .slice fa m fc, .bool dn, .int .i64 seq]
  have hP := powerUpI va vn vc qs op fa m fc fs0 dn _ (hc1.keep b2) (hf1.keep b2)
  rw [hD] at hP
  have o2 := hob.keep b2 hob.lt
  have B2 := b1.trans (b2.mono b1.size)
  obtain ⟨q0, q1, q2, q3, q4⟩ := z2.log
  have hgx : gb < w1.heap.size := hob.lt
  have HQ : Hid (devB ds op fs0 = true ∧ BytC ds ∧ SeqO 20 ds op seq ∧ Byt ys) := ⟨hok, hbt, hsq, hyb⟩
  clear hcL hnd hql hok hbt hsq hyb hm hf1 hc1 hD hob b1 b2
  go_wp2_with fail
  obtain ⟨W2, hW2⟩ : ∃ W, w1.alloc (.cells #[.slice va vn vc, .int .i64 op, .slice fa m fc, .bool dn, .int .i64 seq] 55) = W := ⟨_, rfl⟩
  obtain ⟨X, hX⟩ : ∃ X, w1.heap.size = X := ⟨_, rfl⟩
  rw [hW2] at z2 hP o2 B2
  rw [hX] at z2 hgx
  try rw [hW2]
  try rw [hX]
  clear hW2 hX q0 q1 q2 q3 q4
  refine hP.mono ?_
  rintro e w3 ⟨a3, n3, c3, fa3, m3, fc3, qs3, rfl, hnd3, hql3, b3⟩
  dsimp only at hnd3 ⊢
  have z3 := z2.keep b3
  have o3 := o2.keep b3 o2.lt
  have B3 := B2.trans (b3.mono B2.size)
  have hXl := z2.lt
  have hc3 : CR w3 a3 n3 qs3 := hnd3.cr hql3 (devB_tot HQ.out.1)
  have hD3 : qs3.map BkR.D = ds := hnd3.bs.D
  have hcX := (hnd3.set_below (j := X) (i := 0) (u := .slice a3 n3 c3) hXl)
  have hcX := (hcX.set_below (j := X) (i := 1) (u := .int .i64 op) hXl)
  have hcX := (hcX.set_below (j := X) (i := 2) (u := .slice fa3 m3 fc3) hXl)
  have hcX := (hcX.set_below (j := X) (i := 3) (u := .bool false) hXl)
  have zz := (((z3.set 0 (.slice a3 n3 c3)).set 1 (.int .i64 op)).set 2 (.slice fa3 m3 fc3)).set 3 (.bool false)
  simp at zz
  obtain ⟨q0, q1, q2, q3, q4⟩ := z3.log
  have g0 := z3.frozen 0
  have g1 := z3.frozen 1
  have g2 := z3.frozen 2
  have g3 := z3.frozen 3
  have on : ∀ (W : World) (i : Nat) (v : Value), Own W gb mb cb ys → Own (W.setCell ⟨X, i, none⟩ v) gb mb cb ys := fun W i v h => Own.kept h (gr_setC W X i v) (by omega)
  have o4 := on _ 3 (.bool false) (on _ 2 (.slice fa3 m3 fc3) (on _ 1 (.int .i64 op) (on _ 0 (.slice a3 n3 c3) o3)))
  have hXw : w.heap.size ≤ X := by omega
  have B4 := (((B3.setCell (p := ⟨X, 0, none⟩) hXw (.slice a3 n3 c3)).setCell (p := ⟨X, 1, none⟩) hXw (.int .i64 op)).setCell (p := ⟨X, 2, none⟩) hXw (.slice fa3 m3 fc3)).setCell (p := ⟨X, 3, none⟩) hXw (.bool false)
  clear hnd3 z2 o2 B2 b3 z3 o3 B3 hc3 hP
  go_upto_region 5 with fail
  obtain ⟨W4, hW4⟩ : ∃ W, (((w3.setCell ⟨X, 0, none⟩ (.slice a3 n3 c3)).setCell ⟨X, 1, none⟩ (.int .i64 op)).setCell ⟨X, 2, none⟩ (.slice fa3 m3 fc3)).setCell ⟨X, 3, none⟩ (.bool false) = W := ⟨_, rfl⟩
  rw [hW4] at hcX o4 B4 zz
  try rw [hW4]
  clear hW4 q0 q1 q2 q3 q4 g0 g1 g2 g3
  have hXW : X < W4.heap.size := zz.lt
  have hg2 := (zz.alloc (.cells #[] 51)).frozen 2
  have hq2 := (zz.alloc (.cells #[] 51)).cell 2
  simp at hq2
  have x5 : XJ w (((W4.alloc (.cells #[] 51)).setCell ⟨X, 2, none⟩ (.slice (some ⟨W4.heap.size, 0, none⟩) 0 0)).alloc (.cells #[] 3)) X gb mb cb ys (.slice (some ⟨W4.heap.size + 1, 0, none⟩) 0 0) [] ds op seq a3 n3 c3 (some ⟨W4.heap.size, 0, none⟩) 0 qs3 := by
    have bA : Below W4.heap.size W4 (W4.alloc (.cells #[] 51)) := (Below.refl _ _).alloc (Nat.le_refl _) _
    have h1 : Below ((W4.alloc (.cells #[] 51)).setCell ⟨X, 2, none⟩ (.slice (some ⟨W4.heap.size, 0, none⟩) 0 0)).heap.size ((W4.alloc (.cells #[] 51)).setCell ⟨X, 2, none⟩ (.slice (some ⟨W4.heap.size, 0, none⟩) 0 0)) (((W4.alloc (.cells #[] 51)).setCell ⟨X, 2, none⟩ (.slice (some ⟨W4.heap.size, 0, none⟩) 0 0)).alloc (.cells #[] 3)) := (Below.refl _ _).alloc (Nat.le_refl _) _
    have h2 := (B4.trans (bA.mono B4.size)).setCell (p := ⟨X, 2, none⟩) hXw (.slice (some ⟨W4.heap.size, 0, none⟩) 0 0)
    have h3 := (zz.keep bA).set 2 (.slice (some ⟨W4.heap.size, 0, none⟩) 0 0)
    simp at h3
    have h4 := on _ 2 (.slice (some ⟨W4.heap.size, 0, none⟩) 0 0) (o4.keep bA o4.lt)
    have h5 := (((hcX.keep bA).set_below (j := X) (i := 2) (u := (.slice (some ⟨W4.heap.size, 0, none⟩) 0 0)) hXl).bs.keep h1)
    have h6 := empty_row ((W4.alloc (.cells #[] 51)).setCell ⟨X, 2, none⟩ (.slice (some ⟨W4.heap.size, 0, none⟩) 0 0)) (X + 1) 3 1 (by simp; omega)
    simp only [World.size_alloc, size_setC] at h6
    refine ⟨h2.trans (h1.mono h2.size), h6, fun g hg hf => ?_, h5.wider (by omega), hql3, h3.keep h1, h4.keep h1 h4.lt, hgx, hXw⟩
    have hg2 : W4.heap.size + 1 = g := by simpa [Value.ownBlock] using hg
    have := hcX.bs.own.lt g hf
    omega
  have HFI : Hid (FilI 0 ds op seq ys []) := FilI.zero HQ.out.1 HQ.out.2.2.1 HQ.out.2.1
  have HYB : Hid (Byt ys) := HQ.out.2.2.2
  have HMB : Hid (mb ≤ 9) := hmb
  clear hcX o4 B4 zz on HQ hXW hXl
  obtain ⟨ie, hie, ze0, ze1, ze2⟩ := info_parts (P := Tryz.prog) (e := 3) (z := .int .i64 0) (size := 1) (bytes := 8) (by kernel_rfl)
  have HX0 : Hid _ := x5
  clear x5 hcX hmb hgb hgx hql3 hD3 hXw
  go_wp2
  clear hg2 hq2
  go_loopw [5, 6, 7] (fun o c i wr => ∃ (t j : Nat) (cd : Int) (v : Value) (xs : List Int) (ds : List BkD) (op seq : Int) (va : Option Addr) (vn vc : Nat) (fa : Option Addr) (fc : Nat) (qs : List BkR), o = v ∧ c = .int .i64 cd ∧ i = .int .i64 j ∧ ((cd = 0 ∧ j = t) ∨ (cd = 9 ∧ j = t + 1 ∧ openD ds 1 < 0)) ∧ j ≤ 300 ∧ Hid (FilI t ds op seq ys xs) ∧ Hid (XJ w wr X gb mb cb ys v xs ds op seq va vn vc fa fc qs)) (fun _ _ i _ => 300 - (intOf i).toNat)
  case atStart => exact ⟨0, 0, 0, _, [], _, _, _, _, _, _, _, _, _, rfl, rfl, rfl, .inl ⟨rfl, rfl⟩, by omega, HFI, HX0⟩
  case round =>
    obtain ⟨t, j, cd, v, xs, ds, op, seq, va, vn, vc, fa, fc, qs, hov, rfl, rfl, hcd, hj, hfi, hxj⟩ := hrel
    have hov2 := hov.symm
    subst hov2
    clear HFI HX0
    have ht := hfi.out.lt
    by_cases hgo : j < 300 ∧ cd = 0
    · obtain ⟨hj3, rfl⟩ := hgo
      have hji : (j : Int) < 300 := by omega
      have hjt : j = t := by rcases hcd with h | h <;> omega
      obtain ⟨hneg, hpos⟩ := fill_out hfi.out.dv hfi.out.sq (by have := hfi.out.s1; omega) (by have := hfi.out.o1; omega) HYB.out (by rw [hxj.out.ob.len2]; exact HMB.out)
      have hD := hxj.out.bs.D
      have hwr := writeI va vn vc qs op fa 0 fc [] false seq 1 ys (some ⟨gb, 0, none⟩) mb cb 1 wr (hxj.out.bs.cr hxj.out.ql (devB_tot hfi.out.dv)) hxj.out.fr hxj.out.ob.len2 (by have := HMB.out; omega) hxj.out.ob.rd HYB.out (EtCell.keep HG.out hxj.out.bel)
      rw [hD] at hwr
      obtain ⟨q0, q1, q2, q3, q4⟩ := hxj.out.x.log
      have hw1 : IntKind.i64.wrap ((j : Int) + 1) = ((j + 1 : Nat) : Int) := by rw [IntKind.wrap_i64]; omega
      go_wp2_with fail
      refine hwr.mono ?_
      rintro e w6 ⟨aR, nR, cR, fR, mR, gR, qR, rfl, hnR, hlR, b6⟩
      by_cases ho : openD ds 1 < 0
      · rw [hneg ho] at hnR ⊢
        unfold WrA.D WrA.sq at *
        simp only [Bool.false_eq_true, if_false] at hnR ⊢
        (try dsimp only at hnR)
        try dsimp only
        have hm0 : mR = 0 := by have := OwnE.len hnR.fs; simpa using this.symm
        subst hm0
        have b7 : Below w6.heap.size w6 (w6.alloc (.cells #[.slice aR nR cR, .int .i64 op, .slice fR 0 gR, .bool false, .int .i64 seq] 55)) := (Below.refl _ _).alloc (Nat.le_refl _) _
        have nR7 := hnR.keep b7
        have B7 := b6.trans (b7.mono b6.size)
        have zX := (hxj.out.x.keep b6).keep b7
        have zB := Blk.new w6 55 #[.slice aR nR cR, .int .i64 op, .slice fR 0 gR, .bool false, .int .i64 seq]
        clear hnR b6 b7 q0 q1 q2 q3 q4 hwr
        go_upto_region 12 with fail
        obtain ⟨W7, hW7⟩ : ∃ W, w6.alloc (.cells #[.slice aR nR cR, .int .i64 op, .slice fR 0 gR, .bool false, .int .i64 seq] 55) = W := ⟨_, rfl⟩
        obtain ⟨Bx, hBx⟩ : ∃ W, w6.heap.size = W := ⟨_, rfl⟩
        rw [hW7] at nR7 B7 zX zB
        rw [hBx] at zB
        try rw [hW7]
        try rw [hBx]
        clear hW7 hBx
        have xw := hxj.out.wrote (op' := op) (seq' := seq) B7 nR7 hlR
        obtain ⟨r0, r1, r2, r3, r4⟩ := zB.log
        have g0 := zX.frozen 0
        have g1 := zX.frozen 1
        have g2 := zX.frozen 2
        have g3 := zX.frozen 3
        have g4 := zX.frozen 4
        obtain ⟨s0, s1, s2, s3, s4⟩ := zX.log
        have HXW : Hid _ := xw
        clear xw zX zB nR7 B7
        go_upto_region 13 with fail
        obtain ⟨W8, hW8⟩ : ∃ W, ((((W7.setCell ⟨X, 0, none⟩ (.slice aR nR cR)).setCell ⟨X, 1, none⟩ (.int .i64 op)).setCell ⟨X, 2, none⟩ (.slice fR 0 gR)).setCell ⟨X, 3, none⟩ (.bool false)).setCell ⟨X, 4, none⟩ (.int .i64 seq) = W := ⟨_, rfl⟩
        rw [hW8] at HXW
        try rw [hW8]
        clear hW8 r0 r1 r2 r3 r4 g0 g1 g2 g3 g4 s0 s1 s2 s3 s4
        go_wp2
        go_roundw
        case rel => exact ⟨t, j + 1, 9, _, xs, ds, op, seq, _, _, _, _, _, _, rfl, rfl, (by congr 1; omega), .inr ⟨rfl, by omega, ho⟩, by omega, hfi, HXW.out⟩
        case measure => simp [intOf]; omega
      · obtain ⟨k, b, hk, hn8, hR, hdv, hsq⟩ := hpos (by omega)
        have hfi2 := hfi.out.put HYB.out hk hn8 hdv hsq
        rw [hR] at hnR ⊢
        unfold WrA.D WrA.sq at *
        simp only [if_true] at hnR ⊢
        (try dsimp only at hnR)
        try dsimp only
        obtain ⟨ds', hds'⟩ : ∃ d, progAt ds k (summedOf (recEnc ⟨1, seq, ys⟩)) = d := ⟨_, rfl⟩
        rw [hds'] at hnR hfi2
        obtain ⟨ad, had⟩ : ∃ d, ((8 * k + nextP b.ps : Nat) : Int) = d := ⟨_, rfl⟩
        rw [had] at hfi2 ⊢
        have HF2 : Hid _ := hfi2
        have hm0 : mR = 0 := by have := OwnE.len hnR.fs; simpa using this.symm
        subst hm0
        have b7 : Below w6.heap.size w6 (w6.alloc (.cells #[.slice aR nR cR, .int .i64 (op + 1), .slice fR 0 gR, .bool false, .int .i64 (seq + 1)] 55)) := (Below.refl _ _).alloc (Nat.le_refl _) _
        have nR7 := hnR.keep b7
        have B7 := b6.trans (b7.mono b6.size)
        have zX := (hxj.out.x.keep b6).keep b7
        have zB := Blk.new w6 55 #[.slice aR nR cR, .int .i64 (op + 1), .slice fR 0 gR, .bool false, .int .i64 (seq + 1)]
        clear hnR b6 b7 q0 q1 q2 q3 q4 hwr hfi2
        go_upto_region 12 with fail
        obtain ⟨W7, hW7⟩ : ∃ W, w6.alloc (.cells #[.slice aR nR cR, .int .i64 (op + 1), .slice fR 0 gR, .bool false, .int .i64 (seq + 1)] 55) = W := ⟨_, rfl⟩
        obtain ⟨Bx, hBx⟩ : ∃ W, w6.heap.size = W := ⟨_, rfl⟩
        rw [hW7] at nR7 B7 zX zB
        rw [hBx] at zB
        try rw [hW7]
        try rw [hBx]
        clear hW7 hBx
        have xw := hxj.out.wrote (op' := (op + 1)) (seq' := (seq + 1)) B7 nR7 hlR
        obtain ⟨r0, r1, r2, r3, r4⟩ := zB.log
        have g0 := zX.frozen 0
        have g1 := zX.frozen 1
        have g2 := zX.frozen 2
        have g3 := zX.frozen 3
        have g4 := zX.frozen 4
        obtain ⟨s0, s1, s2, s3, s4⟩ := zX.log
        have HXW : Hid _ := xw
        clear xw zX zB nR7 B7
        go_upto_region 13 with fail
        obtain ⟨W8, hW8⟩ : ∃ W, ((((W7.setCell ⟨X, 0, none⟩ (.slice aR nR cR)).setCell ⟨X, 1, none⟩ (.int .i64 (op + 1))).setCell ⟨X, 2, none⟩ (.slice fR 0 gR)).setCell ⟨X, 3, none⟩ (.bool false)).setCell ⟨X, 4, none⟩ (.int .i64 (seq + 1)) = W := ⟨_, rfl⟩
        rw [hW8] at HXW
        try rw [hW8]
        clear hW8 r0 r1 r2 r3 r4 g0 g1 g2 g3 g4 s0 s1 s2 s3 s4
        have b9 : Below W8.heap.size W8 (W8.alloc (.cells #[.int .i64 ad] 3)) := (Below.refl _ _).alloc (Nat.le_refl _) _
        have x9 := HXW.out.keep b9
        have hrow := x9.own
        have hXl := x9.x.lt
        have hxn : xs.length ≤ 192 := by rw [hfi.out.l]; exact ht
        have HX9 : Hid _ := x9
        clear b9 x9
        go_wp2_with (at_builtin; refine wpList_append_lies (W8.alloc (.cells #[.int .i64 ad] 3)) rfl (.tmp 48) (.tmp 50) 67 rfl (X + 1) 3 ie _ 1 8 Tryz.underlying67 hie ze0 ze1 ze2 rfl (by omega) v xs.length (iE.xv xs) rfl hrow ⟨W8.heap.size, 0, none⟩ 1 1 [.int .i64 ad] rfl rfl (one_new W8 _ _) (by intro u hu; simp at hu; subst hu; rfl) (by omega) (by unfold maxLen; omega) (by omega) (by omega) (W8.heap.size + 1) (by simp) ?_; intro g5 c5 u5 ho5 hg5 hat5 hlt5; have HX6 : Hid _ := HX9.out.app ho5 hg5 (by simpa using hat5); clear hrow ho5 hg5 hat5 hlt5)
        go_wp2
        go_roundw
        case rel => exact ⟨t + 1, j + 1, 0, _, xs ++ [ad], ds', op + 1, seq + 1, _, _, _, _, _, _, rfl, rfl, (by congr 1; omega), .inl ⟨rfl, by omega⟩, by omega, HF2, HX6.out⟩
        case measure => simp [intOf]; omega
    · have h9 : cd = 9 ∧ j = t + 1 ∧ openD ds 1 < 0 := by
        rcases hcd with h | h
        · exact absurd ⟨by omega, h.1⟩ hgo
        · exact h
      obtain ⟨rfl, hjt, ho⟩ := h9
      obtain ⟨av, ac, rfl⟩ : ∃ a c, v = .slice a xs.length c := by
        rcases hxj.out.own.2 with ⟨rfl, h0⟩ | ⟨g, cap, cur, rfl, _⟩
        · exact ⟨none, 0, by rw [h0]⟩
        · exact ⟨_, cap, rfl⟩
      have hji : (j : Int) < 300 := by omega
      have HO : Hid (openD ds 1 = -1) := by have := openD_ge ds 1; show openD ds 1 = -1; omega
      clear hcd hgo ho hjt
      go_upto_region 16 with fail
      clear hji
      go_wp2
      go_loopw [11] (fun i W => ∃ k : Nat, i = .int .i64 k ∧ k ≤ xs.length ∧ Hid (XJ w W X gb mb cb ys (.slice av xs.length ac) xs ds op seq va vn vc fa fc qs)) (fun i _ => xs.length - (intOf i).toNat)
      case atStart => exact ⟨0, rfl, Nat.zero_le _, hxj⟩
      case round =>
        obtain ⟨k, rfl, hk, hxk⟩ := hrel
        clear hxj
        by_cases hkl : k < xs.length
        · have hki : (k : Int) < (xs.length : Int) := by omega
          obtain ⟨z, hz⟩ : ∃ z, xs[k]? = some z := ⟨_, List.getElem?_eq_getElem hkl⟩
          obtain ⟨hzr, hzo, s, hzs⟩ := hfi.out.at HYB.out (by rw [hxk.out.ob.len2]; exact HMB.out) (List.mem_of_getElem? hz)
          have hE : OwnE iE 3 wr (.slice av xs.length ac) xs.length xs := row_down hxk.out.own (Nat.zero_le _)
          obtain ⟨g, rfl⟩ : ∃ g, av = some ⟨g, 0, none⟩ := by
            rcases hE.cases with ⟨_, h0, _⟩ | ⟨g, c, h0, _⟩
            · omega
            · simp only [Value.slice.injEq] at h0; exact ⟨g, h0.1⟩
          have hD := hxk.out.bs.D
          have HRD : Hid (∀ W : World, Below wr.heap.size wr W → Calls Tryz.prog 32 #[.agg #[.slice va vn vc, .int .i64 op, .slice fa 0 fc, .bool false, .int .i64 seq], .int .i64 z, .int .i64 1] W (RcA W ⟨1, s, ys⟩ true)) := fun W hW => by
            have := readAtI va vn vc qs op fa 0 fc false seq z 1 W ((hxk.out.bs.cr hxk.out.ql (devB_tot hfi.out.dv)).keep hW) (by rw [hD]; exact hfi.out.bt) (by omega)
            rw [hD, hzs, hzo] at this
            exact this
          have xd := hxk.out.keep (Below.refl wr.heap.size wr).drew
          have hEd : OwnE iE 3 wr.drew (.slice (some ⟨g, 0, none⟩) xs.length ac) xs.length xs := row_down xd.own (Nat.zero_le _)
          obtain ⟨q0, q1, q2, q3, q4⟩ := xd.x.log
          have qk := hEd.cell k 0 z hz (by decide)
          rw [show k * iE.k + 0 = k by show k * 1 + 0 = k; omega] at qk
          have qk2 : wr.drew.cell? ⟨g, k, none⟩ = some (.int .i64 z) := qk
          clear xd hE hEd qk hD
          have hD1 := (Below.refl wr.heap.size wr).drew
          have hD2 : Below wr.heap.size wr ((wr.alloc (.cells #[.int .i64 0, .int .i64 0, .slice none 0 0] 61)).drew) := ((Below.refl wr.heap.size wr).alloc (Nat.le_refl _) _).drew
          have xe := hxk.out.keep hD2
          have hEe : OwnE iE 3 ((wr.alloc (.cells #[.int .i64 0, .int .i64 0, .slice none 0 0] 61)).drew) (.slice (some ⟨g, 0, none⟩) xs.length ac) xs.length xs := row_down xe.own (Nat.zero_le _)
          obtain ⟨p0, p1, p2, p3, p4⟩ := xe.x.log
          have pk := hEe.cell k 0 z hz (by decide)
          rw [show k * iE.k + 0 = k by show k * 1 + 0 = k; omega] at pk
          have pk2 : ((wr.alloc (.cells #[.int .i64 0, .int .i64 0, .slice none 0 0] 61)).drew).cell? ⟨g, k, none⟩ = some (.int .i64 z) := pk
          clear xe hEe pk
          go_upto_region 19 with fail
          go_cut [12, 13] (fun p o wx => RcX wr s ys p o wx)
          case first =>
            go_region_with (
              (go_at_call 32; (first
                | ((with_reducible refine (HRD.out wr.drew hD1).mono ?_); rintro e w7 ⟨⟨ga, gc, he, hrow, hge⟩, b7⟩; unfold recC at he; dsimp only at he hrow hge; subst he; have B7 := hD1.trans (b7.mono hD1.size); have hRd := (RowB.form hrow))
                | ((with_reducible refine (HRD.out _ hD2).mono ?_); rintro e w7 ⟨⟨ga, gc, he, hrow, hge⟩, b7⟩; unfold recC at he; dsimp only at he hrow hge; subst he; have B7 := hD2.trans (b7.mono hD2.size); have hRd := (RowB.form hrow); have zr := ((Blk.new wr 61 #[.int .i64 0, .int .i64 0, .slice none 0 0]).keep (Below.refl _ _).drew).keep b7; have f0 := zr.frozen 0; have f1 := zr.frozen 1; have f2 := zr.frozen 2; have z0 := zr.cell 0; have z1 := zr.cell 1; have z2 := zr.cell 2; (simp at z0 z1 z2)))))
            all_goals (
              go_wp2_with fail
              go_meet
              first
                | exact rcx_a B7 hrow
                | exact rcx_b (Nat.le_refl _) B7 zr hrow (fun g hg => by have := hge g hg; simp at this; omega))
          case rest =>
            clear HRD hD1 hD2 q0 q1 q2 q3 q4 p0 p1 p2 p3 p4 qk2 pk2
            obtain ⟨R, ga, gn, gc, rfl, rfl, zR, hgn, hRd, bx⟩ := hcut
            have xj := hxk.out.keep bx
            have xd := xj.keep (Below.refl wc.heap.size wc).drew
            have HSB : Hid (∀ W : World, Below wc.heap.size wc W → Calls Tryz.prog 16 #[.slice ga gn gc, .slice (some ⟨gb, 0, none⟩) mb cb] W fun e w' => e = .returned (.bool true) ∧ Below W.heap.size W w') := fun W hW => by
              have hm := xj.ob.len2
              have := sameLb_any ga (some ⟨gb, 0, none⟩) gn mb gc cb ys ys W hgn hm (by have := HMB.out; omega) (by have := HMB.out; omega) (hRd.keep hW) ((xj.ob.keep hW xj.ob.lt).rd)
              refine this.mono ?_
              rintro e w' ⟨rfl, d, rfl⟩
              exact ⟨by simp, below_drewN (Below.refl _ W) d⟩
            have zd := zR.keep (Below.refl wc.heap.size wc).drew
            have hEd : OwnE iE 3 wc.drew (.slice (some ⟨g, 0, none⟩) xs.length ac) xs.length xs := row_down xd.own (Nat.zero_le _)
            have r2 := zd.cell 2
            simp at r2
            have hx192 : xs.length ≤ 192 := by rw [hfi.out.l]; exact ht
            have hwk1 : IntKind.i64.wrap ((k : Int) + 1) = ((k + 1 : Nat) : Int) := by rw [IntKind.wrap_i64]; omega
            have HJ : Hid (∀ W : World, Below wc.heap.size wc W → XJ w W X gb mb cb ys (.slice (some ⟨g, 0, none⟩) xs.length ac) xs ds op seq va vn vc fa fc qs) := fun W hW => xj.keep hW
            cases k with
            | zero =>
              have HX : Hid (∀ W : World, Below wc.heap.size wc W → (fun W : World => W.cell? ⟨R, 2, none⟩ = some (.slice ga gn gc)) W) := fun W hW => by
                have := (zR.keep hW).cell 2
                simp at this
                exact this
              have r0 := HX.out wc (Below.refl _ _)
              dsimp only at r0
              clear xj xd zd hEd r2 zR hRd bx hxk
              go_upto_region 20 with fail
              refine wp_region_noPanic ?_
              refine wp_region_held_drew (S := fun W : World => W.cell? ⟨R, 2, none⟩ = some (.slice ga gn gc)) (by kernel_rfl) (by go_keep) (fun hS => ?_)
              refine wpAnyH_take (i := 0) (v := ?v1) rfl (by kernel_rfl) (by kernel_rfl) (by kernel_rfl) (fun _ _ _ h => h) (Or.inl ⟨by kernel_rfl, ?y1⟩) (by assumption) ?r1
              case y1 => (intro w' hSw; (try dsimp only at hSw); go_simp; (try with_reducible rfl))
              try simp only [Act.put, List.setIfInBounds_toArray, List.set_cons_zero, List.set_cons_succ, List.getElem_toArray, List.getElem_cons_zero]
              refine wpAnyH_take (i := 1) (v := ?v2) rfl (by kernel_rfl) (by kernel_rfl) (by kernel_rfl) (fun _ _ _ h => h) (Or.inl ⟨by kernel_rfl, ?y2⟩) (by assumption) ?r2
              case y2 => (intro w' hSw; (try dsimp only at hSw); go_simp; (try with_reducible rfl))
              try simp only [Act.put, List.setIfInBounds_toArray, List.set_cons_zero, List.set_cons_succ, List.getElem_toArray, List.getElem_cons_succ, List.getElem_cons_zero]
              refine wpAnyH_take (i := 2) (v := ?v3) rfl (by kernel_rfl) (by kernel_rfl) (by kernel_rfl) (fun _ _ _ h => h) (Or.inl ⟨by kernel_rfl, ?y3⟩) (by assumption) ?r3
              case y3 => (intro w' hSw; (try dsimp only at hSw); go_simp; (try with_reducible rfl))
              try simp only [Act.put, List.setIfInBounds_toArray, List.set_cons_zero, List.set_cons_succ, List.getElem_toArray, List.getElem_cons_succ, List.getElem_cons_zero]
              refine wpAnyH_take (i := 3) (v := ?v4) rfl (by kernel_rfl) (by kernel_rfl) (by kernel_rfl) (fun _ _ _ h => h) (Or.inl ⟨by kernel_rfl, ?y4⟩) (by assumption) ?r4
              case y4 => (intro w' hSw; (try dsimp only at hSw); go_simp; (try with_reducible rfl))
              try simp only [Act.put, List.setIfInBounds_toArray, List.set_cons_zero, List.set_cons_succ, List.getElem_toArray, List.getElem_cons_succ, List.getElem_cons_zero]
              refine wpAnyH_take (i := 4) (v := ?v5) rfl (by kernel_rfl) (by kernel_rfl) (by kernel_rfl) (fun _ _ _ h => h) (Or.inl ⟨by kernel_rfl, ?y5⟩) (by assumption) ?r5
              case y5 => (intro w' hSw; (try dsimp only at hSw); go_simp; (try with_reducible rfl))
              try simp only [Act.put, List.setIfInBounds_toArray, List.set_cons_zero, List.set_cons_succ, List.getElem_toArray, List.getElem_cons_succ, List.getElem_cons_zero]
              refine wpAnyH_take (i := 5) (v := ?v6) rfl (by kernel_rfl) (by kernel_rfl) (by kernel_rfl) (fun _ _ _ h => h) (Or.inl ⟨by kernel_rfl, ?y6⟩) (by assumption) ?r6
              case y6 => (intro w' hSw; (try dsimp only at hSw); go_simp; (try with_reducible rfl))
              try simp only [Act.put, List.setIfInBounds_toArray, List.set_cons_zero, List.set_cons_succ, List.getElem_toArray, List.getElem_cons_succ, List.getElem_cons_zero]
              refine wpAnyH_ready (rs := [6]) (by kernel_rfl) (by simp) ?_
              refine AllReadyH.cons rfl (fun K hK => ?_) AllReadyH.nil
              go_simp
              go_at_call 16
              (with_reducible refine (HSB.out wc.drew (Below.refl _ wc).drew).mono ?_)
              rintro e v1 ⟨rfl, cv1⟩
              have Dv1 := below_u (Below.refl _ wc).drew cv1
              clear hS
              dsimp only
              refine Shut.out hK _ _ (HX.out v1 Dv1) (fun hS => ?_)
              try simp only [Act.put, List.setIfInBounds_toArray, List.set_cons_zero, List.set_cons_succ, List.getElem_toArray, List.getElem_cons_succ, List.getElem_cons_zero]
              refine wpAnyH_take (i := 7) (v := ?v7) rfl (by kernel_rfl) (by kernel_rfl) (by kernel_rfl) (fun _ _ _ h => h) (Or.inl ⟨by kernel_rfl, ?y7⟩) (by assumption) ?r7
              case y7 => (intro w' hSw; (try dsimp only at hSw); go_simp; (try with_reducible rfl))
              try simp only [Act.put, List.setIfInBounds_toArray, List.set_cons_zero, List.set_cons_succ, List.getElem_toArray, List.getElem_cons_succ, List.getElem_cons_zero]
              refine wpAnyH_take (i := 8) (v := ?v8) rfl (by kernel_rfl) (by kernel_rfl) (by kernel_rfl) (fun _ _ _ h => h) (Or.inl ⟨by kernel_rfl, ?y8⟩) (by assumption) ?r8
              case y8 => (intro w' hSw; (try dsimp only at hSw); go_simp; (try with_reducible rfl))
              try simp only [Act.put, List.setIfInBounds_toArray, List.set_cons_zero, List.set_cons_succ, List.getElem_toArray, List.getElem_cons_succ, List.getElem_cons_zero]
              refine wpAnyH_take (i := 9) (v := ?v9) rfl (by kernel_rfl) (by kernel_rfl) (by kernel_rfl) (fun _ _ _ h => h) (Or.inl ⟨by kernel_rfl, ?y9⟩) (by assumption) ?r9
              case y9 => (intro w' hSw; (try dsimp only at hSw); go_simp; (try with_reducible rfl))
              try simp only [Act.put, List.setIfInBounds_toArray, List.set_cons_zero, List.set_cons_succ, List.getElem_toArray, List.getElem_cons_succ, List.getElem_cons_zero]
              refine wpAnyH_take (i := 10) (v := ?v10) rfl (by kernel_rfl) (by kernel_rfl) (by kernel_rfl) (fun _ _ _ h => h) (Or.inl ⟨by kernel_rfl, ?y10⟩) (by assumption) ?r10
              case y10 => (intro w' hSw; (try dsimp only at hSw); go_simp; (try with_reducible rfl))
              try simp only [Act.put, List.setIfInBounds_toArray, List.set_cons_zero, List.set_cons_succ, List.getElem_toArray, List.getElem_cons_succ, List.getElem_cons_zero]
              refine wpAnyH_take (i := 11) (v := ?v11) rfl (by kernel_rfl) (by kernel_rfl) (by kernel_rfl) (fun _ _ _ h => h) (Or.inl ⟨by kernel_rfl, ?y11⟩) (by assumption) ?r11
              case y11 => (intro w' hSw; (try dsimp only at hSw); go_simp; (try with_reducible rfl))
              try simp only [Act.put, List.setIfInBounds_toArray, List.set_cons_zero, List.set_cons_succ, List.getElem_toArray, List.getElem_cons_succ, List.getElem_cons_zero]
              refine wpAnyH_take (i := 12) (v := ?v12) rfl (by kernel_rfl) (by kernel_rfl) (by kernel_rfl) (fun _ _ _ h => h) (Or.inl ⟨by kernel_rfl, ?y12⟩) (by assumption) ?r12
              case y12 => (intro w' hSw; (try dsimp only at hSw); go_simp; (try with_reducible rfl))
              try simp only [Act.put, List.setIfInBounds_toArray, List.set_cons_zero, List.set_cons_succ, List.getElem_toArray, List.getElem_cons_succ, List.getElem_cons_zero]
              refine wpAnyH_take (i := 13) (v := undef) rfl (by kernel_rfl) (by kernel_rfl) (by kernel_rfl) (fun _ _ _ h => h) (Or.inr ⟨by kernel_rfl, rfl⟩) (by assumption) ?_
              try simp only [Act.put, List.setIfInBounds_toArray, List.set_cons_zero, List.set_cons_succ, List.getElem_toArray, List.getElem_cons_succ, List.getElem_cons_zero]
              refine wpAnyH_take (i := 14) (v := undef) rfl (by kernel_rfl) (by kernel_rfl) (by kernel_rfl) (fun _ _ _ h => h) (Or.inr ⟨by kernel_rfl, rfl⟩) (by assumption) ?_
              try simp only [Act.put, List.setIfInBounds_toArray, List.set_cons_zero, List.set_cons_succ, List.getElem_toArray, List.getElem_cons_succ, List.getElem_cons_zero]
              refine wpAnyH_take (i := 15) (v := undef) rfl (by kernel_rfl) (by kernel_rfl) (by kernel_rfl) (fun _ _ _ h => h) (Or.inr ⟨by kernel_rfl, rfl⟩) (by assumption) ?_
              try simp only [Act.put, List.setIfInBounds_toArray, List.set_cons_zero, List.set_cons_succ, List.getElem_toArray, List.getElem_cons_succ, List.getElem_cons_zero]
              refine wpAnyH_take (i := 16) (v := undef) rfl (by kernel_rfl) (by kernel_rfl) (by kernel_rfl) (fun _ _ _ h => h) (Or.inr ⟨by kernel_rfl, rfl⟩) (by assumption) ?_
              try simp only [Act.put, List.setIfInBounds_toArray, List.set_cons_zero, List.set_cons_succ, List.getElem_toArray, List.getElem_cons_succ, List.getElem_cons_zero]
              refine wpAnyH_take (i := 17) (v := undef) rfl (by kernel_rfl) (by kernel_rfl) (by kernel_rfl) (fun _ _ _ h => h) (Or.inr ⟨by kernel_rfl, rfl⟩) (by assumption) ?_
              try simp only [Act.put, List.setIfInBounds_toArray, List.set_cons_zero, List.set_cons_succ, List.getElem_toArray, List.getElem_cons_succ, List.getElem_cons_zero]
              refine wpAnyH_take (i := 18) (v := undef) rfl (by kernel_rfl) (by kernel_rfl) (by kernel_rfl) (fun _ _ _ h => h) (Or.inr ⟨by kernel_rfl, rfl⟩) (by assumption) ?_
              try simp only [Act.put, List.setIfInBounds_toArray, List.set_cons_zero, List.set_cons_succ, List.getElem_toArray, List.getElem_cons_succ, List.getElem_cons_zero]
              refine wpAnyH_take (i := 19) (v := undef) rfl (by kernel_rfl) (by kernel_rfl) (by kernel_rfl) (fun _ _ _ h => h) (Or.inr ⟨by kernel_rfl, rfl⟩) (by assumption) ?_
              try simp only [Act.put, List.setIfInBounds_toArray, List.set_cons_zero, List.set_cons_succ, List.getElem_toArray, List.getElem_cons_succ, List.getElem_cons_zero]
              refine wpAnyH_take (i := 20) (v := undef) rfl (by kernel_rfl) (by kernel_rfl) (by kernel_rfl) (fun _ _ _ h => h) (Or.inr ⟨by kernel_rfl, rfl⟩) (by assumption) ?_
              try simp only [Act.put, List.setIfInBounds_toArray, List.set_cons_zero, List.set_cons_succ, List.getElem_toArray, List.getElem_cons_succ, List.getElem_cons_zero]
              refine wpAnyH_take (i := 21) (v := undef) rfl (by kernel_rfl) (by kernel_rfl) (by kernel_rfl) (fun _ _ _ h => h) (Or.inr ⟨by kernel_rfl, rfl⟩) (by assumption) ?_
              try simp only [Act.put, List.setIfInBounds_toArray, List.set_cons_zero, List.set_cons_succ, List.getElem_toArray, List.getElem_cons_succ, List.getElem_cons_zero]
              refine wpAnyH_take (i := 22) (v := undef) rfl (by kernel_rfl) (by kernel_rfl) (by kernel_rfl) (fun _ _ _ h => h) (Or.inr ⟨by kernel_rfl, rfl⟩) (by assumption) ?_
              try simp only [Act.put, List.setIfInBounds_toArray, List.set_cons_zero, List.set_cons_succ, List.getElem_toArray, List.getElem_cons_succ, List.getElem_cons_zero]
              refine wpAnyH_take (i := 23) (v := ?v13) rfl (by kernel_rfl) (by kernel_rfl) (by kernel_rfl) (fun _ _ _ h => h) (Or.inl ⟨by kernel_rfl, ?y13⟩) (by assumption) ?r13
              case y13 => (intro w' hSw; (try dsimp only at hSw); go_simp; (try with_reducible rfl))
              try simp only [Act.put, List.setIfInBounds_toArray, List.set_cons_zero, List.set_cons_succ, List.getElem_toArray, List.getElem_cons_succ, List.getElem_cons_zero]
              refine wpAnyH_take (i := 24) (v := ?v14) rfl (by kernel_rfl) (by kernel_rfl) (by kernel_rfl) (fun _ _ _ h => h) (Or.inl ⟨by kernel_rfl, ?y14⟩) (by assumption) ?r14
              case y14 => (intro w' hSw; (try dsimp only at hSw); go_simp; (try with_reducible rfl))
              try simp only [Act.put, List.setIfInBounds_toArray, List.set_cons_zero, List.set_cons_succ, List.getElem_toArray, List.getElem_cons_succ, List.getElem_cons_zero]
              refine wpAnyH_done (by kernel_rfl) (NoPanic.normal ?_) _
              go_wp2
              go_roundw
              case rel => exact ⟨1, rfl, by omega, HJ.out _ Dv1⟩
              case measure => simp [intOf]; omega
            | succ k =>
              obtain ⟨z', hz'⟩ : ∃ z', xs[k]? = some z' := ⟨_, List.getElem?_eq_getElem (by omega)⟩
              have hne := hfi.out.df k z' z hz' hz
              have hzb : (z' == z) = false := by simpa using hne
              have hwk : IntKind.i64.wrap (((k + 1 : Nat) : Int) - 1) = (k : Int) := by rw [IntKind.wrap_i64]; omega
              have hwk2 : IntKind.i64.wrap (k : Int) = (k : Int) := by rw [IntKind.wrap_i64]; omega
              have hk00 : (0 : Int) ≤ (k : Int) := by omega
              have hkk : (0 : Int) ≤ (k : Int) + 1 ∧ (k : Int) + 1 < (xs.length : Int) := by omega
              have hkk0 : (0 : Int) ≤ (k : Int) ∧ (k : Int) < (xs.length : Int) := by omega
              have hk0 : (0 : Int) < ((k + 1 : Nat) : Int) := by omega
              have hk1 : (k : Int) < (xs.length : Int) := by omega
              have HX : Hid (∀ W : World, Below wc.heap.size wc W → (fun W : World => W.cell? ⟨R, 2, none⟩ = some (.slice ga gn gc) ∧ W.cell? ⟨g, k, none⟩ = some (.int .i64 z') ∧ W.cell? ⟨g, k + 1, none⟩ = some (.int .i64 z)) W) := fun W hW => by
                have h1 := (zR.keep hW).cell 2
                simp at h1
                have hE : OwnE iE 3 W (.slice (some ⟨g, 0, none⟩) xs.length ac) xs.length xs := row_down (xj.keep hW).own (Nat.zero_le _)
                have h2 := hE.cell k 0 z' hz' (by decide)
                have h3 := hE.cell (k + 1) 0 z hz (by decide)
                rw [show k * iE.k + 0 = k by show k * 1 + 0 = k; omega] at h2
                rw [show (k + 1) * iE.k + 0 = k + 1 by show (k + 1) * 1 + 0 = k + 1; omega] at h3
                exact ⟨h1, h2, h3⟩
              obtain ⟨r0, r1, r3⟩ := HX.out wc (Below.refl _ _)
              clear xj xd zd hEd r2 zR hRd bx hxk hz hz' hne
              go_upto_region 20 with fail
              refine wp_region_noPanic ?_
              refine wp_region_held_drew (S := fun W : World => W.cell? ⟨R, 2, none⟩ = some (.slice ga gn gc) ∧ W.cell? ⟨g, k, none⟩ = some (.int .i64 z') ∧ W.cell? ⟨g, k + 1, none⟩ = some (.int .i64 z)) (by kernel_rfl) (by go_keep) (fun hS => ?_)
              refine wpAnyH_take (i := 0) (v := ?v15) rfl (by kernel_rfl) (by kernel_rfl) (by kernel_rfl) (fun _ _ _ h => h) (Or.inl ⟨by kernel_rfl, ?y15⟩) (by assumption) ?r15
              case y15 => (intro w' hSw; (try dsimp only at hSw); go_simp; (try with_reducible rfl))
              try simp only [Act.put, List.setIfInBounds_toArray, List.set_cons_zero, List.set_cons_succ, List.getElem_toArray, List.getElem_cons_zero]
              refine wpAnyH_take (i := 1) (v := ?v16) rfl (by kernel_rfl) (by kernel_rfl) (by kernel_rfl) (fun _ _ _ h => h) (Or.inl ⟨by kernel_rfl, ?y16⟩) (by assumption) ?r16
              case y16 => (intro w' hSw; (try dsimp only at hSw); go_simp; (try with_reducible rfl))
              try simp only [Act.put, List.setIfInBounds_toArray, List.set_cons_zero, List.set_cons_succ, List.getElem_toArray, List.getElem_cons_succ, List.getElem_cons_zero]
              refine wpAnyH_take (i := 2) (v := ?v17) rfl (by kernel_rfl) (by kernel_rfl) (by kernel_rfl) (fun _ _ _ h => h) (Or.inl ⟨by kernel_rfl, ?y17⟩) (by assumption) ?r17
              case y17 => (intro w' hSw; (try dsimp only at hSw); go_simp; (try with_reducible rfl))
              try simp only [Act.put, List.setIfInBounds_toArray, List.set_cons_zero, List.set_cons_succ, List.getElem_toArray, List.getElem_cons_succ, List.getElem_cons_zero]
              refine wpAnyH_take (i := 3) (v := ?v18) rfl (by kernel_rfl) (by kernel_rfl) (by kernel_rfl) (fun _ _ _ h => h) (Or.inl ⟨by kernel_rfl, ?y18⟩) (by assumption) ?r18
              case y18 => (intro w' hSw; (try dsimp only at hSw); go_simp; (try with_reducible rfl))
              try simp only [Act.put, List.setIfInBounds_toArray, List.set_cons_zero, List.set_cons_succ, List.getElem_toArray, List.getElem_cons_succ, List.getElem_cons_zero]
              refine wpAnyH_take (i := 4) (v := ?v19) rfl (by kernel_rfl) (by kernel_rfl) (by kernel_rfl) (fun _ _ _ h => h) (Or.inl ⟨by kernel_rfl, ?y19⟩) (by assumption) ?r19
              case y19 => (intro w' hSw; (try dsimp only at hSw); go_simp; (try with_reducible rfl))
              try simp only [Act.put, List.setIfInBounds_toArray, List.set_cons_zero, List.set_cons_succ, List.getElem_toArray, List.getElem_cons_succ, List.getElem_cons_zero]
              refine wpAnyH_take (i := 5) (v := ?v20) rfl (by kernel_rfl) (by kernel_rfl) (by kernel_rfl) (fun _ _ _ h => h) (Or.inl ⟨by kernel_rfl, ?y20⟩) (by assumption) ?r20
              case y20 => (intro w' hSw; (try dsimp only at hSw); go_simp; (try with_reducible rfl))
              try simp only [Act.put, List.setIfInBounds_toArray, List.set_cons_zero, List.set_cons_succ, List.getElem_toArray, List.getElem_cons_succ, List.getElem_cons_zero]
              refine wpAnyH_ready (rs := [6]) (by kernel_rfl) (by simp) ?_
              refine AllReadyH.cons rfl (fun K hK => ?_) AllReadyH.nil
              go_simp
              go_at_call 16
              (with_reducible refine (HSB.out wc.drew (Below.refl _ wc).drew).mono ?_)
              rintro e v1 ⟨rfl, cv1⟩
              have Dv1 := below_u (Below.refl _ wc).drew cv1
              clear hS
              dsimp only
              refine Shut.out hK _ _ (HX.out v1 Dv1) (fun hS => ?_)
              try simp only [Act.put, List.setIfInBounds_toArray, List.set_cons_zero, List.set_cons_succ, List.getElem_toArray, List.getElem_cons_succ, List.getElem_cons_zero]
              refine wpAnyH_take (i := 7) (v := ?v21) rfl (by kernel_rfl) (by kernel_rfl) (by kernel_rfl) (fun _ _ _ h => h) (Or.inl ⟨by kernel_rfl, ?y21⟩) (by assumption) ?r21
              case y21 => (intro w' hSw; (try dsimp only at hSw); go_simp; (try with_reducible rfl))
              try simp only [Act.put, List.setIfInBounds_toArray, List.set_cons_zero, List.set_cons_succ, List.getElem_toArray, List.getElem_cons_succ, List.getElem_cons_zero]
              refine wpAnyH_take (i := 8) (v := ?v22) rfl (by kernel_rfl) (by kernel_rfl) (by kernel_rfl) (fun _ _ _ h => h) (Or.inl ⟨by kernel_rfl, ?y22⟩) (by assumption) ?r22
              case y22 => (intro w' hSw; (try dsimp only at hSw); go_simp; (try with_reducible rfl))
              try simp only [Act.put, List.setIfInBounds_toArray, List.set_cons_zero, List.set_cons_succ, List.getElem_toArray, List.getElem_cons_succ, List.getElem_cons_zero]
              refine wpAnyH_take (i := 9) (v := ?v23) rfl (by kernel_rfl) (by kernel_rfl) (by kernel_rfl) (fun _ _ _ h => h) (Or.inl ⟨by kernel_rfl, ?y23⟩) (by assumption) ?r23
              case y23 => (intro w' hSw; (try dsimp only at hSw); go_simp; (try with_reducible rfl))
              try simp only [Act.put, List.setIfInBounds_toArray, List.set_cons_zero, List.set_cons_succ, List.getElem_toArray, List.getElem_cons_succ, List.getElem_cons_zero]
              refine wpAnyH_take (i := 10) (v := ?v24) rfl (by kernel_rfl) (by kernel_rfl) (by kernel_rfl) (fun _ _ _ h => h) (Or.inl ⟨by kernel_rfl, ?y24⟩) (by assumption) ?r24
              case y24 => (intro w' hSw; (try dsimp only at hSw); go_simp; (try with_reducible rfl))
              try simp only [Act.put, List.setIfInBounds_toArray, List.set_cons_zero, List.set_cons_succ, List.getElem_toArray, List.getElem_cons_succ, List.getElem_cons_zero]
              refine wpAnyH_take (i := 11) (v := ?v25) rfl (by kernel_rfl) (by kernel_rfl) (by kernel_rfl) (fun _ _ _ h => h) (Or.inl ⟨by kernel_rfl, ?y25⟩) (by assumption) ?r25
              case y25 => (intro w' hSw; (try dsimp only at hSw); go_simp; (try with_reducible rfl))
              try simp only [Act.put, List.setIfInBounds_toArray, List.set_cons_zero, List.set_cons_succ, List.getElem_toArray, List.getElem_cons_succ, List.getElem_cons_zero]
              refine wpAnyH_take (i := 12) (v := ?v26) rfl (by kernel_rfl) (by kernel_rfl) (by kernel_rfl) (fun _ _ _ h => h) (Or.inl ⟨by kernel_rfl, ?y26⟩) (by assumption) ?r26
              case y26 => (intro w' hSw; (try dsimp only at hSw); go_simp; (try with_reducible rfl))
              try simp only [Act.put, List.setIfInBounds_toArray, List.set_cons_zero, List.set_cons_succ, List.getElem_toArray, List.getElem_cons_succ, List.getElem_cons_zero]
              refine wpAnyH_take (i := 13) (v := ?v27) rfl (by kernel_rfl) (by kernel_rfl) (by kernel_rfl) (fun _ _ _ h => h) (Or.inl ⟨by kernel_rfl, ?y27⟩) (by assumption) ?r27
              case y27 => (intro w' hSw; (try dsimp only at hSw); go_simp; (try with_reducible rfl))
              try simp only [Act.put, List.setIfInBounds_toArray, List.set_cons_zero, List.set_cons_succ, List.getElem_toArray, List.getElem_cons_succ, List.getElem_cons_zero]
              refine wpAnyH_take (i := 14) (v := ?v28) rfl (by kernel_rfl) (by kernel_rfl) (by kernel_rfl) (fun _ _ _ h => h) (Or.inl ⟨by kernel_rfl, ?y28⟩) (by assumption) ?r28
              case y28 => (intro w' hSw; (try dsimp only at hSw); go_simp; (try with_reducible rfl))
              try simp only [Act.put, List.setIfInBounds_toArray, List.set_cons_zero, List.set_cons_succ, List.getElem_toArray, List.getElem_cons_succ, List.getElem_cons_zero]
              refine wpAnyH_take (i := 15) (v := ?v29) rfl (by kernel_rfl) (by kernel_rfl) (by kernel_rfl) (fun _ _ _ h => h) (Or.inl ⟨by kernel_rfl, ?y29⟩) (by assumption) ?r29
              case y29 => (intro w' hSw; (try dsimp only at hSw); go_simp; (try with_reducible rfl))
              try simp only [Act.put, List.setIfInBounds_toArray, List.set_cons_zero, List.set_cons_succ, List.getElem_toArray, List.getElem_cons_succ, List.getElem_cons_zero]
              refine wpAnyH_take (i := 16) (v := ?v30) rfl (by kernel_rfl) (by kernel_rfl) (by kernel_rfl) (fun _ _ _ h => h) (Or.inl ⟨by kernel_rfl, ?y30⟩) (by assumption) ?r30
              case y30 => (intro w' hSw; (try dsimp only at hSw); go_simp; (try with_reducible rfl))
              try simp only [Act.put, List.setIfInBounds_toArray, List.set_cons_zero, List.set_cons_succ, List.getElem_toArray, List.getElem_cons_succ, List.getElem_cons_zero]
              refine wpAnyH_take (i := 17) (v := ?v31) rfl (by kernel_rfl) (by kernel_rfl) (by kernel_rfl) (fun _ _ _ h => h) (Or.inl ⟨by kernel_rfl, ?y31⟩) (by assumption) ?r31
              case y31 => (intro w' hSw; (try dsimp only at hSw); go_simp; (try with_reducible rfl))
              try simp only [Act.put, List.setIfInBounds_toArray, List.set_cons_zero, List.set_cons_succ, List.getElem_toArray, List.getElem_cons_succ, List.getElem_cons_zero]
              refine wpAnyH_take (i := 18) (v := ?v32) rfl (by kernel_rfl) (by kernel_rfl) (by kernel_rfl) (fun _ _ _ h => h) (Or.inl ⟨by kernel_rfl, ?y32⟩) (by assumption) ?r32
              case y32 => (intro w' hSw; (try dsimp only at hSw); go_simp; (try with_reducible rfl))
              try simp only [Act.put, List.setIfInBounds_toArray, List.set_cons_zero, List.set_cons_succ, List.getElem_toArray, List.getElem_cons_succ, List.getElem_cons_zero]
              refine wpAnyH_take (i := 19) (v := ?v33) rfl (by kernel_rfl) (by kernel_rfl) (by kernel_rfl) (fun _ _ _ h => h) (Or.inl ⟨by kernel_rfl, ?y33⟩) (by assumption) ?r33
              case y33 => (intro w' hSw; (try dsimp only at hSw); go_simp; (try with_reducible rfl))
              try simp only [Act.put, List.setIfInBounds_toArray, List.set_cons_zero, List.set_cons_succ, List.getElem_toArray, List.getElem_cons_succ, List.getElem_cons_zero]
              refine wpAnyH_take (i := 20) (v := ?v34) rfl (by kernel_rfl) (by kernel_rfl) (by kernel_rfl) (fun _ _ _ h => h) (Or.inl ⟨by kernel_rfl, ?y34⟩) (by assumption) ?r34
              case y34 => (intro w' hSw; (try dsimp only at hSw); go_simp; (try with_reducible rfl))
              try simp only [Act.put, List.setIfInBounds_toArray, List.set_cons_zero, List.set_cons_succ, List.getElem_toArray, List.getElem_cons_succ, List.getElem_cons_zero]
              refine wpAnyH_take (i := 21) (v := ?v35) rfl (by kernel_rfl) (by kernel_rfl) (by kernel_rfl) (fun _ _ _ h => h) (Or.inl ⟨by kernel_rfl, ?y35⟩) (by assumption) ?r35
              case y35 => (intro w' hSw; (try dsimp only at hSw); go_simp; (try with_reducible rfl))
              try simp only [Act.put, List.setIfInBounds_toArray, List.set_cons_zero, List.set_cons_succ, List.getElem_toArray, List.getElem_cons_succ, List.getElem_cons_zero]
              refine wpAnyH_take (i := 22) (v := ?v36) rfl (by kernel_rfl) (by kernel_rfl) (by kernel_rfl) (fun _ _ _ h => h) (Or.inl ⟨by kernel_rfl, ?y36⟩) (by assumption) ?r36
              case y36 => (intro w' hSw; (try dsimp only at hSw); go_simp; (try with_reducible rfl))
              try simp only [Act.put, List.setIfInBounds_toArray, List.set_cons_zero, List.set_cons_succ, List.getElem_toArray, List.getElem_cons_succ, List.getElem_cons_zero]
              refine wpAnyH_take (i := 23) (v := ?v37) rfl (by kernel_rfl) (by kernel_rfl) (by kernel_rfl) (fun _ _ _ h => h) (Or.inl ⟨by kernel_rfl, ?y37⟩) (by assumption) ?r37
              case y37 => (intro w' hSw; (try dsimp only at hSw); go_simp; (try with_reducible rfl))
              try simp only [Act.put, List.setIfInBounds_toArray, List.set_cons_zero, List.set_cons_succ, List.getElem_toArray, List.getElem_cons_succ, List.getElem_cons_zero]
              refine wpAnyH_take (i := 24) (v := ?v38) rfl (by kernel_rfl) (by kernel_rfl) (by kernel_rfl) (fun _ _ _ h => h) (Or.inl ⟨by kernel_rfl, ?y38⟩) (by assumption) ?r38
              case y38 => (intro w' hSw; (try dsimp only at hSw); go_simp; (try with_reducible rfl))
              try simp only [Act.put, List.setIfInBounds_toArray, List.set_cons_zero, List.set_cons_succ, List.getElem_toArray, List.getElem_cons_succ, List.getElem_cons_zero]
              refine wpAnyH_done (by kernel_rfl) (NoPanic.normal ?_) _
              go_wp2
              go_roundw
              case rel => exact ⟨k + 1 + 1, by congr 1, by omega, HJ.out _ Dv1⟩
              case measure => simp [intOf]; omega
        · have hki : ¬ (k : Int) < (xs.length : Int) := by omega
          have hD := hxk.out.bs.D
          have hcr := hxk.out.bs.cr hxk.out.ql (devB_tot hfi.out.dv)
          have hfr := freeI va vn vc qs op fa 0 fc false seq wr hcr
          have CO := fun (W : World) (h : CR W va vn qs) => openI va vn vc qs op fa 0 fc false seq 1 W h
          rw [hD] at hfr CO
          rw [HO.out] at CO
          obtain ⟨N, hN⟩ : ∃ N, freeD ds = N := ⟨_, rfl⟩
          have hN1 : (N : Int) ≤ 1 := by
            rcases open_none HO.out with h | h
            · rw [hN] at h; exact h
            · rw [hN] at h; omega
          rw [hN] at hfr
          obtain ⟨q0, q1, q2, q3, q4⟩ := hxk.out.x.log
          have HBL : Hid _ := hxk.out.bel
          have HXK : Hid (Blk wr X 55 #[.slice va vn vc, .int .i64 op, .slice fa 0 fc, .bool false, .int .i64 seq]) := hxk.out.x
          clear hxk hN hD
          go_wp2_with fail
          refine hfr.mono ?_
          rintro e w8 ⟨rfl, b8⟩
          have B8 := HBL.out.trans (b8.mono HBL.out.size)
          have z8 := HXK.out.keep b8
          have c8 := hcr.keep b8
          clear q0 q1 q2 q3 q4 hfr hcr
          obtain ⟨q0, q1, q2, q3, q4⟩ := z8.log
          go_wp2_with fail
          refine (CO w8 c8).mono ?_
          rintro e w9 ⟨rfl, b9⟩
          have B9 := B8.trans (b9.mono B8.size)
          go_wp2
          go_ret
          exact ⟨by simp, B9⟩
end

section
open Go.RowKit
def ByteRow (w : World) (a : Option Addr) (len cap : Nat) (zs : List Int) : Prop :=
  (a = none ∧ len = 0 ∧ cap = 0 ∧ zs = []) ∨ ∃ x, a = some x ∧ len ≤ cap ∧ cap ≤ maxLen ∧ zs.length = cap ∧ (∀ i, i < zs.length → w.cell? (x.add i) = some (.int .u8 (zs.getD i 0))) ∧ ∀ n ∈ zs, (Lit.int .u8 n).wf = true
theorem walkFnFilled (a0 : Option Addr) (len0 cap0 : Nat) (z0 : List Int) (w : World) (hbr : ByteRow w a0 len0 cap0 z0) (hg : EtCell w) :
    Calls Tryz.prog 7 #[.slice a0 len0 cap0] w fun e w' => e = .returned (.bool true) ∧ Below w.heap.size w w' := by
  obtain ⟨zs, hn, hr, hb⟩ := rd_of_row hbr
  exact walkFilled a0 len0 cap0 zs w hn hr hb hg
end
end Go.Proofs.YtoeeblmnogeonaaGreatDoor

