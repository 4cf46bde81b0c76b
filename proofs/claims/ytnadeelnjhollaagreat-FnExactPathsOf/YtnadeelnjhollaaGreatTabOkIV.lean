/-
  What the program's TabOk answers.
-/
import Derived.Test.YtnadeelnjhollaaGreatInoOkIV
import Derived.Deep.CutBlock
namespace Go.Proofs.YtnadeelnjhollaaGreat
open Go.RowKit Go.Maps
/-- An inode that may stand in a table. -/
def goodR (nx : Int) (r : InoR) : Bool := inoOk r.D && decide (r.D.ino < nx)
/-- What the program's TabOk answers. -/
def tabI (nx : Int) (rs : List InoR) : Bool :=
  decide (rs.length ≤ 30) && (decide (2 ≤ nx) && (decide (nx ≤ 1000) && (rs.all (goodR nx) && ((match firstAt (inos rs) 1 with | none => false | some p => decide ((rs.getD p inoZ).D.kind = 2)) && ascN (inos rs)))))
theorem firstAt_lt {rs : List InoR} {x : Int} {p : Nat} (h : firstAt (inos rs) x = some p) : p < rs.length := by
  unfold firstAt at h
  have := (List.findIdx?_eq_some_iff_getElem.1 h).1
  rw [inos_length] at this
  exact this
set_option maxRecDepth 100000 in
set_option maxHeartbeats 4000000 in
theorem tabOkI (a : Option Addr) (n cap : Nat) (nx : Int) (rs : List InoR) (w : World) (hn : rs.length = n) (hs : n ≤ 4000000) (hwf : ∀ r ∈ rs, (Lit.int .i64 r.D.ino).wf = true) (hsm : ∀ r ∈ rs, InoSmall r.D) (hr : RdI w a rs) :
    Calls Tryz.prog 38 #[.agg #[.slice a n cap, .int .i64 nx]] w fun e w' => e = .returned (.bool (tabI nx rs)) ∧ Below w.heap.size w w' := by
  have B0 : Below w.heap.size w (w.alloc (.cells #[.slice a n cap, .int .i64 nx] 30)) := (Below.refl _ w).alloc (Nat.le_refl _) _
  have hR : tabI nx rs = (decide (n ≤ 30) && (decide (2 ≤ nx) && (decide (nx ≤ 1000) && (rs.all (goodR nx) && ((match firstAt (inos rs) 1 with | none => false | some p => decide ((rs.getD p inoZ).D.kind = 2)) && ascN (inos rs)))))) := by unfold tabI; rw [hn]
  generalize tabI nx rs = R at hR ⊢
  have HB : Hid _ := B0
  by_cases h1 : n ≤ 30
  · by_cases h2 : 2 ≤ nx
    · by_cases h3 : nx ≤ 1000
      · rw [decide_eq_true h1, decide_eq_true h2, decide_eq_true h3, Bool.true_and, Bool.true_and, Bool.true_and] at hR
        have g1 : ¬ (30 : Int) < (n : Int) := by omega
        have g2 : ¬ nx < 2 := by omega
        have g3 : ¬ (1000 : Int) < nx := by omega
        have z0 := Blk.new w 30 #[.slice a n cap, .int .i64 nx]
        have hr0 := hr.keep B0
        have HR0 : Hid _ := hr0
        have cB := fun (W : World) (hW : Below (w.alloc (.cells #[.slice a n cap, .int .i64 nx] 30)).heap.size (w.alloc (.cells #[.slice a n cap, .int .i64 nx] 30)) W) => byNumber_any a n cap nx rs W hn hs hwf (RdI.keep hr0 hW)
        have cA := fun (W : World) (hW : Below (w.alloc (.cells #[.slice a n cap, .int .i64 nx] 30)).heap.size (w.alloc (.cells #[.slice a n cap, .int .i64 nx] 30)) W) => ascT_any a n cap rs W hn hs (RdI.keep hr0 hW)
        have hcell := fun (W : World) (hW : Below (w.alloc (.cells #[.slice a n cap, .int .i64 nx] 30)).heap.size (w.alloc (.cells #[.slice a n cap, .int .i64 nx] 30)) W) => RdI.keep hr0 hW
        have CB : Hid _ := cB
        have CA : Hid _ := cA
        have HCL : Hid _ := hcell
        have HS : Hid _ := hsm
        have hn' : Hid (rs.length = n) := hn
        have HR : Hid _ := hR
        clear hr hr0 cB cA hcell hsm hwf hn hR
        go_enter Tryz.func38, Tryz.ntmps38
        go_wp2
        obtain ⟨W0, hW0⟩ : ∃ W, w.alloc (.cells #[.slice a n cap, .int .i64 nx] 30) = W := ⟨_, rfl⟩
        rw [hW0] at B0 z0 CB CA HCL HR0 ⊢
        clear HB hW0
        have hws := B0.size
        go_loopw [24] (fun i wr => ∃ k : Nat, k ≤ n ∧ i = .int .i64 k ∧ Hid (∀ r ∈ rs.take k, goodR nx r = true) ∧ Below W0.heap.size W0 wr) (fun i _ => n - (intOf i).toNat)
        case atStart => exact ⟨0, Nat.zero_le _, rfl, fun r hr => by simp at hr, Below.refl _ _⟩
        case round =>
          obtain ⟨k, hk, rfl, hall, hB⟩ := hrel
          have hbz := hB.size
          by_cases hkn : k < n
          · have hki : (k : Int) < (n : Int) := by omega
            obtain ⟨r, hrk⟩ : ∃ r, rs[k]? = some r := ⟨_, List.getElem?_eq_getElem (by rw [hn'.out]; exact hkn)⟩
            obtain ⟨b, off, rfl, hlt, hc⟩ := (HCL.out wr hB).lt (by intro h; have := hn'.out; rw [h] at this; simp at this; omega)
            obtain ⟨x6, xr⟩ := hc k r hrk
            obtain ⟨x0, x1, x2, x3, x4, x5⟩ := x6
            have hmem := List.mem_of_getElem? hrk
            have hsr := HS.out r hmem
            have hbA : Below wr.heap.size wr (wr.alloc (.cells #[.int .i64 r.D.ino, .int .i64 r.D.kind, .int .i64 r.D.links, .slice r.a1 r.D.data.length r.c1, .slice r.a2 r.D.ents.length r.c2, .slice r.a3 r.D.attrs.length r.c3] 46)) := (Below.refl _ wr).alloc (Nat.le_refl _) _
            have hcI := inoOkI r.D r.a1 r.a2 r.a3 r.c1 r.c2 r.c3 (wr.alloc (.cells #[.int .i64 r.D.ino, .int .i64 r.D.kind, .int .i64 r.D.links, .slice r.a1 r.D.data.length r.c1, .slice r.a2 r.D.ents.length r.c2, .slice r.a3 r.D.attrs.length r.c3] 46)) hsr (InoR.rd.keep xr hbA)
            have bx := Blk.new wr 46 #[.int .i64 r.D.ino, .int .i64 r.D.kind, .int .i64 r.D.links, .slice r.a1 r.D.data.length r.c1, .slice r.a2 r.D.ents.length r.c2, .slice r.a3 r.D.attrs.length r.c3]
            have zk := (z0.keep hB).keep hbA
            have hnext : Hid (goodR nx r = true → ∀ q ∈ rs.take (k + 1), goodR nx q = true) := by
              intro h q hq
              rw [List.take_add_one, hrk] at hq
              simp only [Option.toList_some, List.mem_append, List.mem_singleton] at hq
              rcases hq with hq | rfl
              · exact hall.out q hq
              · exact h
            have hbad : Hid (goodR nx r = false → false = R) := by
              intro h
              rw [HR.out, show rs.all (goodR nx) = false from List.all_eq_false.2 ⟨r, hmem, by rw [h]; simp⟩]
              simp
            have hgr : goodR nx r = (inoOk r.D && decide (r.D.ino < nx)) := rfl
            unfold inoV at hcI
            generalize goodR nx r = gd at hgr hnext hbad
            generalize inoOk r.D = ok at hcI hgr
            generalize r.D.ino = i1 at x0 hbA hcI bx zk hgr
            generalize r.D.kind = i2 at x1 hbA hcI bx zk
            generalize r.D.links = i3 at x2 hbA hcI bx zk
            generalize r.D.data.length = n1 at x3 hbA hcI bx zk
            generalize r.D.ents.length = n2 at x4 hbA hcI bx zk
            generalize r.D.attrs.length = n3 at x5 hbA hcI bx zk
            have HG : Hid _ := hgr
            have HBK : Hid _ := And.intro bx (And.intro zk hbA)
            clear hc hrk hmem hsr xr hgr hall bx zk hbA
            cases ok with
            | false =>
              go_wp2_with fail
              (with_reducible refine hcI.mono ?_)
              rintro e w1 ⟨rfl, b1⟩
              have B1 := hB.trans ((HBK.out.2.2.trans (b1.mono HBK.out.2.2.size)).mono hbz)
              clear x0 x1 x2 x3 x4 x5 hcI
              go_wp2
              go_ret
              exact ⟨ret_bool (hbad.out (by rw [HG.out]; rfl)), B0.trans (B1.mono hws)⟩
            | true =>
              go_wp2_with fail
              (with_reducible refine hcI.mono ?_)
              rintro e w1 ⟨rfl, b1⟩
              have B1 := hB.trans ((HBK.out.2.2.trans (b1.mono HBK.out.2.2.size)).mono hbz)
              have d0 := (HBK.out.1.keep b1).cell 0
              have d1 := (HBK.out.2.1.keep b1).cell 1
              simp at d0 d1
              clear x0 x1 x2 x3 x4 x5 hcI b1
              by_cases hle : i1 < nx
              · have hle2 : ¬ nx ≤ i1 := by omega
                have hnx : Hid _ := hnext.out (by rw [HG.out, decide_eq_true hle]; rfl)
                go_wp2
                go_roundw
                case rel => exact ⟨k + 1, by omega, by go_num, hnx, B1⟩
                case measure => simp [intOf]; omega
              · have hle2 : nx ≤ i1 := by omega
                go_wp2
                go_ret
                exact ⟨ret_bool (hbad.out (by rw [HG.out, decide_eq_false (show ¬ i1 < nx by omega)]; rfl)), B0.trans (B1.mono hws)⟩
          · have hki : ¬ (k : Int) < (n : Int) := by omega
            have hallT : rs.all (goodR nx) = true := by
              have := hall.out
              rw [List.take_of_length_le (by rw [hn'.out]; omega)] at this
              exact List.all_eq_true.2 this
            have HR2 : Hid (R = ((match firstAt (inos rs) 1 with | none => false | some p => decide ((rs.getD p inoZ).D.kind = 2)) && ascN (inos rs))) := by show _ = _; rw [HR.out, hallT, Bool.true_and]
            obtain ⟨t0, t1⟩ : wr.cell? ⟨w.heap.size, 0, none⟩ = some (.slice a n cap) ∧ wr.cell? ⟨w.heap.size, 1, none⟩ = some (.int .i64 nx) := ⟨(z0.keep hB).cell 0, (z0.keep hB).cell 1⟩
            have hcB := CB.out wr hB
            clear hall hallT HR
            go_wp2_with fail
            (with_reducible refine hcB.mono ?_)
            rintro e w1 ⟨cnt, D, rfl, hcnt, hM, hown, b1⟩
            have B1 := hB.trans (b1.mono hbz)
            have hM1 := hM.2 1
            have HM : Hid _ := hM1
            have hkey : keyOf Tryz.prog 3 (.int .i64 1) = some (.int .i64 1) := keyOf_int_mk Tryz.underlying3 (by decide)
            have u0 := (z0.keep B1).cell 0
            simp at u0
            have hcA := CA.out w1 B1
            clear hM hM1 t0 t1 hcB b1
            cases hfa : firstAt (inos rs) 1 with
            | none =>
              have hhas : Maps.has D (.int .i64 1) = false := by rw [HM.out.1, hfa]; rfl
              have hRf : Hid (false = R) := by show _ = _; rw [HR2.out, hfa]; rfl
              go_wp2_with (first
                | (at_lookup; refine wpList_lookup_own_ok_int _ rfl _ _ 56 rfl 3 3 .i64 Tryz.keyInt Tryz.underlying56 Tryz.underlying3 (Tryz.zeroInt _) (wr.heap.size + 1) cnt D rfl hown _ _ rfl hkey ?_; intro c hat hwc; rw [hhas])
                | go_in)
              go_ret
              exact ⟨ret_bool hRf.out, B0.trans (B1.mono hws)⟩
            | some p =>
              have hhas : Maps.has D (.int .i64 1) = true := by rw [HM.out.1, hfa]; rfl
              have hp := firstAt_lt hfa
              rw [hn'.out] at hp
              have hpi : (p : Int) < (n : Int) := by omega
              have hat0 := HM.out.2 p hfa
              obtain ⟨r, hrp⟩ : ∃ r, rs[p]? = some r := ⟨_, List.getElem?_eq_getElem (by rw [hn'.out]; exact hp)⟩
              obtain ⟨b, off, rfl, hlt, hc⟩ := (HCL.out w1 B1).lt (by intro h; have := hn'.out; rw [h] at this; simp at this; omega)
              have x1 := (hc p r hrp).1.c1
              have hRk : Hid (R = (decide (r.D.kind = 2) && ascN (inos rs))) := by show _ = _; rw [HR2.out, hfa]; simp [List.getD_eq_getElem?_getD, hrp]
              generalize r.D.kind = kd at x1 hRk
              generalize ascN (inos rs) = asc at hcA hRk
              clear hc hrp
              have hpp : (0 : Int) ≤ (p : Int) := by omega
              by_cases hkd : kd = 2
              · have hkb : (kd == 2) = true := by simp [hkd]
                have hRa : Hid (asc = R) := by show _ = _; rw [hRk.out, decide_eq_true hkd, Bool.true_and]
                subst hkd
                go_wp2_with (first
                  | (at_lookup; refine wpList_lookup_own_ok_int _ rfl _ _ 56 rfl 3 3 .i64 Tryz.keyInt Tryz.underlying56 Tryz.underlying3 (Tryz.zeroInt _) (wr.heap.size + 1) cnt D rfl hown _ _ rfl hkey ?_; intro c hat hwc; rw [hhas]; rw [hat0] at hat; simp at hat; subst hat)
                  | fail)
                (with_reducible refine hcA.mono ?_)
                rintro e w2 ⟨rfl, b2⟩
                go_wp2
                go_ret
                exact ⟨ret_bool hRa.out, B0.trans ((B1.trans (b2.mono B1.size)).mono hws)⟩
              · have hkb : (kd == 2) = false := by simp [hkd]
                have hRf : Hid (false = R) := by show _ = _; rw [hRk.out, decide_eq_false hkd, Bool.false_and]
                go_wp2_with (first
                  | (at_lookup; refine wpList_lookup_own_ok_int _ rfl _ _ 56 rfl 3 3 .i64 Tryz.keyInt Tryz.underlying56 Tryz.underlying3 (Tryz.zeroInt _) (wr.heap.size + 1) cnt D rfl hown _ _ rfl hkey ?_; intro c hat hwc; rw [hhas]; rw [hat0] at hat; simp at hat; subst hat)
                  | go_in)
                go_ret
                exact ⟨ret_bool hRf.out, B0.trans (B1.mono hws)⟩
      · rw [decide_eq_true h1, decide_eq_true h2, decide_eq_false h3, Bool.true_and, Bool.true_and, Bool.false_and] at hR
        have g1 : ¬ (30 : Int) < (n : Int) := by omega
        have g2 : ¬ nx < 2 := by omega
        have g3 : (1000 : Int) < nx := by omega
        have HR : Hid _ := hR
        clear hR hr hsm hwf
        go_enter Tryz.func38, Tryz.ntmps38
        go_wp2
        go_ret
        exact ⟨ret_bool HR.out.symm, HB.out⟩
    · rw [decide_eq_true h1, decide_eq_false h2, Bool.true_and, Bool.false_and] at hR
      have g1 : ¬ (30 : Int) < (n : Int) := by omega
      have g2 : nx < 2 := by omega
      have HR : Hid _ := hR
      clear hR hr hsm hwf
      go_enter Tryz.func38, Tryz.ntmps38
      go_wp2
      go_ret
      exact ⟨ret_bool HR.out.symm, HB.out⟩
  · rw [decide_eq_false h1, Bool.false_and] at hR
    have g1 : (30 : Int) < (n : Int) := by omega
    have HR : Hid _ := hR
    clear hR hr hsm hwf
    go_enter Tryz.func38, Tryz.ntmps38
    go_wp2
    go_ret
    exact ⟨ret_bool HR.out.symm, HB.out⟩
end Go.Proofs.YtnadeelnjhollaaGreat
