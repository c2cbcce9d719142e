/- OrbitsByRests: both sides. -/
import Derived.Test.YtnlehkjfidpdlaaSvD
import Derived.Test.YtnlehkjfidpdlaaBoxM
import Derived.Test.YtnlehkjfidpdlaaHas
import Derived.Test.YtnlehkjfidpdlaaApi
namespace Go.Proofs.Ytnlehkjfidpdlaa
open Go.RowKit Go.WideShapes Go.ChangeShapes
set_option linter.unusedVariables false

theorem ret_vbO {u : Value} {a b : Bool} (h : a = b) : Ending.returned (.tuple #[u, .bool a]) = .returned (.tuple #[u, .bool b]) := by rw [h]
theorem apart_symm {a b : Option Nat} (h : a = none ∨ a ≠ b) : b = none ∨ b ≠ a := by
  rcases h with h | h
  · subst h
    cases b with
    | none => exact .inl rfl
    | some x => exact .inr (by simp)
  · exact .inr (fun e => h e.symm)
/-- the first numbers, the one that is counted, and zeros behind it -/
def obV (o : List Int) (m : Nat) (z : Int) : List Int := o ++ z :: List.replicate (m - o.length - 1) 0
theorem obV_length {o : List Int} {m : Nat} (z : Int) (h : o.length < m) : (obV o m z).length = m := by
  simp [obV]; omega
theorem obV_at (o : List Int) (m : Nat) (z : Int) : (obV o m z).getD o.length 0 = z := by
  unfold obV; rw [List.getD_eq_getElem?_getD, List.getElem?_append_right (Nat.le_refl _)]; simp
theorem obV_low {o : List Int} (m : Nat) (z : Int) {j : Nat} (h : j < o.length) : (obV o m z).getD j 0 = o.getD j 0 := by
  unfold obV; rw [List.getD_eq_getElem?_getD, List.getElem?_append_left h, ← List.getD_eq_getElem?_getD]
theorem obV_set (o : List Int) (m : Nat) (z y : Int) : (obV o m z).set o.length y = obV o m y := by
  unfold obV; rw [List.set_append_right _ _ (Nat.le_refl _)]; simp
theorem obV_zero {o : List Int} {m : Nat} (h : o.length < m) : o ++ List.replicate (m - o.length) 0 = obV o m 0 := by
  unfold obV; rw [show m - o.length = (m - o.length - 1) + 1 by omega, List.replicate_succ]; rfl
theorem obV_next (o : List Int) (m : Nat) (z : Int) : obV o m z = (o ++ [z]) ++ List.replicate (m - (o ++ [z]).length) 0 := by
  unfold obV; rw [List.append_assoc]; simp [Nat.sub_sub]
theorem dvN_pos {n : Nat} (h : 1 ≤ n) : 1 ≤ (dvN n).length := by
  have h1 : (1 : Nat) ∈ dvN n := by
    unfold dvN dvT upT
    rw [List.mem_filter]
    exact ⟨List.mem_map.2 ⟨0, List.mem_range.2 (by omega), rfl⟩, by simp [Nat.mod_one]⟩
  exact List.length_pos_of_mem h1
set_option maxRecDepth 100000 in
set_option maxHeartbeats 3200000 in
theorem implOrbitsByRests_any (v : Value) (rs : List Int) (w : World) (hv : Ints w v rs) (hl : rs.length ≤ 1048576) :
    Calls Try.prog 25 #[v] w fun (r : Ending) w' => ∃ u, r = Ending.returned (.tuple #[u, .bool (okOB rs)]) ∧ OwnI 3 w' w.heap.size u (ansOB rs) ∧ (ansOB rs).length ≤ 1048576 ∧ Below w.heap.size w w' := by
  have HL0 := hid (ansOB_length rs)
  have HI1 := hid (fun W (hW : Ints W v rs) => areRests_any v rs W hW hl)
  have HV := hid hv
  obtain ⟨A, c, rfl, hA⟩ := hv
  have HA := hid hA
  clear hA
  cases hr : restB rs
  · have HO := hid (okOB_no1 hr)
    have HN := hid (ansOB_no HO.out)
    rw [hr] at HI1
    clear hr
    go_enter Try.func25, Try.ntmps25
    go_wp2_with fail
    refine (HI1.out _ HV.out).mono ?_
    rintro e w1 ⟨rfl, hb⟩
    have HB := hid hb
    clear hb
    go_wp2
    go_ret2
    exact ⟨_, ret_vbO HO.out.symm, by rw [HN.out]; exact OwnI.nil _ _ _, HL0.out, HB.out⟩
  obtain ⟨h1, h2, h3⟩ := restB_all hr
  have HOn := hid (fun h => okOB_no2 (rs := rs) h)
  have HAn := hid (fun h => ansOB_no (rs := rs) h)
  have HOy := hid (fun o h => okOB_yes (rs := rs) (o := o) hr h)
  have HAy := hid (fun o h => ansOB_yes (rs := rs) (o := o) hr h)
  have HCl := hid (fun g (ks : List Nat) o ho j => obC_le hr (g := g) (ks := ks) (o := o) ho j)
  have HOl := hid (fun (ks : List Nat) i o h j => obL_le hr (ks := ks) (i := i) (o := o) h j)
  have HC0 : Hid (∀ g ks o, obC rs g ks o 0 = rs.getD (g % rs.length) 0) := hid (fun g ks o => rfl)
  have HEnd : Hid (obL rs (dvN rs.length) (dvN rs.length).length = obR rs) := hid rfl
  have HNone := hid (fun i (h : obL rs (dvN rs.length) i = none) (hi : i ≤ (dvN rs.length).length) => obL_none h _ hi)
  have hne : rs ≠ [] := by intro h; rw [h] at h1; simp at h1
  obtain ⟨b, o, rfl, hbl, hc⟩ := HA.out hne
  have HC := hid (fun W (hW : Below w.heap.size w W) j (hj : j < rs.length) => (hW.cell (p := ⟨b, o + j, none⟩) hbl).trans (hc j hj))
  have hMm : ∀ k, k ∈ dvN rs.length → 1 ≤ k ∧ k ≤ rs.length := fun k hk => by have := dvT_mem hk; omega
  have hLl : (dvN rs.length).length ≤ 60 := Nat.le_trans (dvT_length _ _) (by omega)
  have hL1 := dvN_pos h1
  rw [hr] at HI1
  obtain ⟨n, hn⟩ : ∃ n, rs.length = n := ⟨_, rfl⟩
  rw [hn] at HC0 HEnd HC hMm hLl hL1 h1 h2 HNone ⊢
  rw [hn] at HV
  rw [hn] at HI1
  obtain ⟨L, hL⟩ : ∃ L, dvN n = L := ⟨_, rfl⟩
  have HL := hid hL
  rw [hL] at HEnd hMm hLl HNone hL1
  have HMm := hid hMm
  obtain ⟨m, hm⟩ : ∃ m, L.length = m := ⟨_, rfl⟩
  have HMe := hid hm
  rw [hm] at hLl HEnd HNone hL1
  have HM0 : Hid (madeCells #[Value.int IntKind.i64 0] m = Vals (([] : List Int) ++ List.replicate (m - ([] : List Int).length) 0)) := hid (by rw [Vals_made]; simp)
  have hmk := run_make_row' (P := Try.prog) 22 3 (.int .i64 0) 8 Try.underlying22 Try.info3 rfl .i64 .i64 m (by omega) (by omega)
  have Hmk := hid hmk
  clear hr hn h3 hbl hc hne HA hMm hL hm hmk
  go_enter Try.func25, Try.ntmps25
  go_wp2_with fail
  refine (HI1.out _ HV.out).mono ?_
  rintro e w1 ⟨rfl, hb⟩
  have HB := hid hb
  clear hb
  go_wp2_with fail
  refine (divisorsOf_any n _ (by omega)).mono ?_
  rintro e w2 ⟨u, rfl, ho, hb⟩
  rw [HL.out] at ho
  have hsh := ho.shape3
  obtain ⟨A2, un, c2, rfl⟩ := hsh
  have hcap := ho.capH
  have hun : un = m := by obtain ⟨_, _, h, _⟩ := ho.shape; injection h with _ h _; rw [h, intsN_length, HMe.out]
  subst hun
  obtain ⟨A3, c3, he3, hA3⟩ := ho.ints
  have he4 : A2 = A3 := by injection he3
  clear he3
  subst he4
  rw [intsN_length, HMe.out] at hcap
  obtain ⟨b2, o2, rfl, hbl2, hc2⟩ := hA3 (by intro h; have := congrArg List.length h; rw [intsN_length, List.length_nil, HMe.out] at this; omega)
  have HC2 := hid (fun W (hW : Below w2.heap.size w2 W) j (hj : j < un) => show W.cell? ⟨b2, o2 + j, none⟩ = some (.int .i64 ((L.getD j 0 : Nat) : Int)) from (hW.cell (p := ⟨b2, o2 + j, none⟩) hbl2).trans (by rw [hc2 j (by rw [intsN_length, HMe.out]; exact hj), intsN_get (by rw [HMe.out]; exact hj)]))
  have HB2 := hid (below_to HB.out hb)
  have hmk := Hmk.out
  clear ho hb hA3 hc2 hbl2
  go_wp2
  clear hmk
  rw [HM0.out]
  have HK0 := hid (Blk.newAt w2 3 (Vals (([] : List Int) ++ List.replicate (un - ([] : List Int).length) 0)) w2.heap.size rfl)
  have HB0 := hid (below_alloc (Below.refl _ w2) (.cells (Vals (([] : List Int) ++ List.replicate (un - ([] : List Int).length) 0)) 3))
  have hwg : w.heap.size ≤ w2.heap.size := HB2.out.size
  obtain ⟨W0, hW0⟩ : ∃ W0, w2.alloc (.cells (Vals (([] : List Int) ++ List.replicate (un - ([] : List Int).length) 0)) 3) = W0 := ⟨_, rfl⟩
  obtain ⟨G, hG⟩ : ∃ G, w2.heap.size = G := ⟨_, rfl⟩
  rw [hW0] at HK0 HB0 ⊢
  rw [hG] at HK0 HB0 HC2 hwg ⊢
  have HG := hid hG
  clear hW0 hG
  have HCw := hid (fun W (hW : Below G W0 W) => (HB2.out.trans ((HB0.out.trans hW).mono hwg)))
  go_loopw [23] (fun i wr => ∃ (i' : Nat) (os : List Int), i' ≤ un ∧ i = .int .i64 (i' : Int) ∧ os.length = i' ∧ Hid (obL rs L i' = some os) ∧ Blk wr G 3 (Vals (os ++ List.replicate (un - os.length) 0)) ∧ Below G W0 wr) (fun i _ => un - (intOf i).toNat)
  case atStart => exact ⟨0, [], Nat.zero_le _, rfl, rfl, hid rfl, HK0.out, Below.refl _ _⟩
  case round =>
    obtain ⟨i, os, hi, rfl, hos, HS, hB, hb⟩ := hrel
    have HK := hid hB
    have Hb := hid hb
    have HOs := hid hos
    clear hB hb hos
    by_cases hlt : i < un
    · have hcg := HC2.out _ (HB0.out.trans Hb.out) i hlt
      have hgm := HMm.out (L.getD i 0) (by rw [List.getD_eq_getElem?_getD, List.getElem?_eq_getElem (show i < L.length by rw [HMe.out]; exact hlt)]; exact List.getElem_mem _)
      have HNeg := hid (fun (h : obC rs (L.getD i 0) L os i < 0) => obL_neg HS.out h)
      have HPos := hid (fun (h : ¬ obC rs (L.getD i 0) L os i < 0) => obL_pos HS.out h)
      have HOlo := hid (HOl.out L i os HS.out)
      obtain ⟨g, hg⟩ : ∃ g, L.getD i 0 = g := ⟨_, rfl⟩
      rw [hg] at hcg hgm HNeg HPos
      have HCg := hid (HCl.out g L os HOlo.out)
      have hrl : g % n < n := Nat.mod_lt _ (by omega)
      have hcr := HC.out _ (HCw.out _ Hb.out) _ hrl
      have HZ0 := hid (HC0.out g L os)
      have hm1 := tmod_natC g n
      have hm2 : ((g : Int) % (n : Int)) = ((g % n : Nat) : Int) := by simp
      obtain ⟨r, hr⟩ : ∃ r, g % n = r := ⟨_, rfl⟩
      rw [hr] at hrl hcr hm1 hm2 HZ0
      obtain ⟨z0, hz0⟩ : ∃ z0, rs.getD r 0 = z0 := ⟨_, rfl⟩
      rw [hz0] at hcr HZ0
      have hz3 : ¬ (n : Int) = 0 := by omega
      have hz4 : ((n : Int) == 0) = false := by rw [beq_eq_false_iff_ne]; omega
      have hz5 : (0 : Int) < (n : Int) := by omega
      have hrI : (r : Int) < (n : Int) := by omega
      have hKe : os ++ List.replicate (un - os.length) 0 = obV os un 0 := obV_zero (by rw [HOs.out]; exact hlt)
      rw [hKe] at HK
      have hlen : (obV os un 0).length = un := obV_length _ (by rw [HOs.out]; exact hlt)
      have hx : wr.cell? ⟨G, i, none⟩ = some (.int .i64 ((obV os un 0).getD i 0)) := by rw [HK.out.cell, Vals_get (by rw [hlen]; exact hlt)]
      have hfz := HK.out.frozen i
      obtain ⟨x0, hx0⟩ : ∃ x0, (obV os un 0).getD i 0 = x0 := ⟨_, rfl⟩
      rw [hx0] at hx
      have hicapI : (i : Int) ≤ (c2 : Int) := by omega
      have hicap : i ≤ c2 := by omega
      have HK1 : Hid (Blk (wr.setCell ⟨G, i, none⟩ (.int .i64 z0)) G 3 (Vals (obV os un z0))) := hid (by
        have h := HK.out.set_ i (.int .i64 z0)
        rw [Vals_set] at h
        have e : (obV os un 0).set i z0 = obV os un z0 := by have := obV_set os un 0 z0; rw [HOs.out] at this; exact this
        rw [e] at h; exact h)
      have Hb1 := hid (Hb.out.setCell (p := ⟨G, i, none⟩) (Nat.le_refl _) (.int .i64 z0))
      clear hg hr hz0 hKe hlen hx0
      obtain ⟨W1, hW1⟩ : ∃ x, x = wr := ⟨wr, rfl⟩
      rw [← hW1] at HK1 Hb1 hx hfz hcr hcg Hb HK ⊢
      clear hW1
      go_wp2
      clear hm1 hm2 hz3 hz4 hx hfz hcr hcg hicapI hicap
      obtain ⟨W2, hW2⟩ : ∃ x, x = W1.setCell ⟨G, i, none⟩ (.int .i64 z0) := ⟨_, rfl⟩
      rw [← hW2] at HK1 Hb1 ⊢
      clear hW2
      go_loopw [41] (fun j wi => ∃ (j' : Nat) (z : Int), j' ≤ i ∧ j = .int .i64 (j' : Int) ∧ Hid (obC rs g L os j' = z) ∧ Blk wi G 3 (Vals (obV os un z)) ∧ Below G W0 wi) (fun j _ => i - (intOf j).toNat)
      case atStart => exact ⟨0, z0, Nat.zero_le _, rfl, HZ0, HK1.out, Hb1.out⟩
      case round =>
        obtain ⟨j, z, hj, rfl, HZ, hB, hb⟩ := hrel
        have HK2 := hid hB
        have Hb2 := hid hb
        clear hB hb
        have hzb := HCg.out j
        rw [HZ.out] at hzb
        by_cases hltj : j < i
        · have hch := HC2.out _ (HB0.out.trans Hb2.out) j (by omega)
          have hhm := HMm.out (L.getD j 0) (by rw [List.getD_eq_getElem?_getD, List.getElem?_eq_getElem (show j < L.length by rw [HMe.out]; omega)]; exact List.getElem_mem _)
          have HY := hid (fun h => obC_yes (rs := rs) (g := g) (ks := L) (o := os) (j := j) h)
          have HN := hid (fun h => obC_no (rs := rs) (g := g) (ks := L) (o := os) (j := j) h)
          rw [HZ.out] at HY HN
          obtain ⟨h, hh⟩ : ∃ h, L.getD j 0 = h := ⟨_, rfl⟩
          rw [hh] at hch hhm HY HN
          have hyb := HOlo.out j
          have hlo : (obV os un z).getD j 0 = os.getD j 0 := obV_low un z (by rw [HOs.out]; exact hltj)
          obtain ⟨y, hy⟩ : ∃ y, os.getD j 0 = y := ⟨_, rfl⟩
          rw [hy] at hyb hlo HY
          have hlen : (obV os un z).length = un := obV_length _ (by rw [HOs.out]; exact hlt)
          have hxi : wr.cell? ⟨G, i, none⟩ = some (.int .i64 z) := by
            have e : (obV os un z).getD i 0 = z := by have := obV_at os un z; rw [HOs.out] at this; exact this
            rw [HK2.out.cell, Vals_get (by rw [hlen]; exact hlt), e]
          have hxj : wr.cell? ⟨G, j, none⟩ = some (.int .i64 y) := by rw [HK2.out.cell, Vals_get (by rw [hlen]; omega), hlo]
          have hfz := HK2.out.frozen i
          have hm1 := tmod_natC g h
          have hm2 : ((g : Int) % (h : Int)) = ((g % h : Nat) : Int) := by simp
          have hz3 : ¬ (h : Int) = 0 := by omega
          have hz4 : ((h : Int) == 0) = false := by rw [beq_eq_false_iff_ne]; omega
          have hz5 : (0 : Int) < (h : Int) := by omega
          have hltn : i < un := hlt
          have hjn : j < un := by omega
          have hM : Hid (i - (j + 1) < i - j) := hid (by omega)
          have hj1 : j + 1 ≤ i := hltj
          obtain ⟨s, hs⟩ : ∃ s, g % h = s := ⟨_, rfl⟩
          rw [hs] at hm1 hm2 HY HN
          clear hh hy hlo hlen hs
          by_cases h0 : s = 0
          · have HS2 := hid (HY.out h0)
            have hw1 : IntKind.i64.wrap (z - y) = z - y := IntWalk.i64_in _ (by omega)
            have HK3 : Hid (Blk (wr.setCell ⟨G, i, none⟩ (.int .i64 (z - y))) G 3 (Vals (obV os un (z - y)))) := hid (by
              have h := HK2.out.set_ i (.int .i64 (z - y))
              rw [Vals_set] at h
              have e : (obV os un z).set i (z - y) = obV os un (z - y) := by have := obV_set os un z (z - y); rw [HOs.out] at this; exact this
              rw [e] at h; exact h)
            have Hb3 := hid (Hb2.out.setCell (p := ⟨G, i, none⟩) (Nat.le_refl _) (.int .i64 (z - y)))
            subst h0
            obtain ⟨z2, hz2⟩ : ∃ z2, z - y = z2 := ⟨_, rfl⟩
            rw [hz2] at hw1 HK3 Hb3 HS2
            have hsub : z - y = z2 := hz2
            clear hz2 hzb hyb
            go_wp2
            go_region
            clear hw1 hm1 hm2 hz3 hz4 hxi hxj hsub hch hfz
            go_wp2
            go_roundw
            case rel => exact ⟨j + 1, z2, hj1, by go_num, HS2, by exact HK3.out, below_drewN Hb3.out _⟩
            case measure => simp [intOf]; first | exact hM.out | (have h := hM.out; omega)
          · have HS2 := hid (HN.out h0)
            have hr3 : ((s : Int) == 0) = false := by rw [beq_eq_false_iff_ne]; omega
            clear hzb hyb
            go_wp2
            clear hm1 hm2 hz3 hz4 hr3 hxi hxj hch hfz
            go_roundw
            case rel => exact ⟨j + 1, z, hj1, by go_num, HS2, HK2.out, Hb2.out⟩
            case measure => simp [intOf]; first | exact hM.out | (have h := hM.out; omega)
        · have hji := hid (show j = i by omega)
          rw [hji.out] at HZ
          rw [HZ.out] at HNeg HPos
          have hlen : (obV os un z).length = un := obV_length _ (by rw [HOs.out]; exact hlt)
          have hxi : wr.cell? ⟨G, i, none⟩ = some (.int .i64 z) := by
            have e : (obV os un z).getD i 0 = z := by have := obV_at os un z; rw [HOs.out] at this; exact this
            rw [HK2.out.cell, Vals_get (by rw [hlen]; exact hlt), e]
          clear hlen hzb
          by_cases hz : z < 0
          · have HO := hid (HOn.out (HEnd.out ▸ HNone.out _ (HNeg.out hz) (by omega)))
            have HNl := hid (HAn.out HO.out)
            go_wp2
            go_ret2
            exact ⟨_, ret_vbO HO.out.symm, by rw [HNl.out]; exact OwnI.nil _ _ _, HL0.out, HCw.out _ Hb2.out⟩
          · have HS2 := hid (HPos.out (by omega))
            have hi1 : i + 1 ≤ un := hlt
            go_wp2
            clear hxi
            go_roundw
            case rel => exact ⟨i + 1, os ++ [z], hi1, by go_num, by rw [List.length_append, HOs.out]; rfl, HS2, by rw [← obV_next]; exact HK2.out, Hb2.out⟩
            case measure => simp [intOf]; omega
    · have hie := hid (show i = un by omega)
      rw [hie.out, HEnd.out] at HS
      have HO := hid (HOy.out os HS.out)
      have HAe := hid (HAy.out os HS.out)
      have hz0 : un - os.length = 0 := by rw [HOs.out]; omega
      rw [hz0, List.replicate_zero, List.append_nil] at HK
      have HOw := hid (HK.out.own (xs := os) (B := w.heap.size) hwg (by rw [HOs.out]; omega))
      have HOe := HOs.out
      rw [hie.out] at HOe
      rw [HOe] at HOw
      clear hz0 HOe
      go_wp2
      go_ret2
      exact ⟨_, ret_vbO HO.out.symm, (by rw [HAe.out]; exact HOw.out), HL0.out, HCw.out _ Hb.out⟩
set_option maxRecDepth 100000 in
set_option maxHeartbeats 3200000 in
theorem specOrbitsByRests_any (v : Value) (rs : List Int) (w : World) (hv : Ints w v rs) (hl : rs.length ≤ 1048576) :
    Calls Try.prog 24 #[v] w fun (r : Ending) w' => ∃ u, r = Ending.returned (.tuple #[u, .bool (okOB rs)]) ∧ OwnI 3 w' w.heap.size u (ansOB rs) ∧ (ansOB rs).length ≤ 1048576 ∧ Below w.heap.size w w' := by
  have HL0 := hid (ansOB_length rs)
  have HI1 := hid (fun W (hW : Ints W v rs) => svRests_any v rs W hW hl)
  have HV := hid hv
  obtain ⟨A, c, rfl, hA⟩ := hv
  have HA := hid hA
  clear hA
  cases hr : restB rs
  · have HO := hid (okOB_no1 hr)
    have HN := hid (ansOB_no HO.out)
    rw [hr] at HI1
    clear hr
    go_enter Try.func24, Try.ntmps24
    go_wp2_with fail
    refine (HI1.out _ HV.out).mono ?_
    rintro e w1 ⟨rfl, rfl⟩
    go_wp2
    go_ret2
    exact ⟨_, ret_vbO HO.out.symm, by rw [HN.out]; exact OwnI.nil _ _ _, HL0.out, Below.refl _ _⟩
  obtain ⟨h1, h2, h3⟩ := restB_all hr
  have HOn := hid (fun h => okOB_no2 (rs := rs) h)
  have HAn := hid (fun h => ansOB_no (rs := rs) h)
  have HOy := hid (fun o h => okOB_yes (rs := rs) (o := o) hr h)
  have HAy := hid (fun o h => ansOB_yes (rs := rs) (o := o) hr h)
  have HCl := hid (fun g (ks : List Nat) o ho j => obC_le hr (g := g) (ks := ks) (o := o) ho j)
  have HOl := hid (fun (ks : List Nat) i o h j => obL_le hr (ks := ks) (i := i) (o := o) h j)
  have HOg := hid (fun (ks : List Nat) i o h => obL_length (rs := rs) (ks := ks) (i := i) (o := o) h)
  have HC0 : Hid (∀ g ks o, obC rs g ks o 0 = rs.getD (g % rs.length) 0) := hid (fun g ks o => rfl)
  have HEnd : Hid (obT rs rs.length = obR rs) := hid rfl
  have HUn : Hid (∀ j, obT rs j = obL rs (dvT rs.length j) (dvT rs.length j).length) := hid (fun j => rfl)
  have HNone := hid (fun i (h : obT rs i = none) (hi : i ≤ rs.length) => obT_none h _ hi)
  have HNo := hid (fun j h => obT_no (rs := rs) (j := j) h)
  have HNeg := hid (fun j o h ho k => obT_neg (rs := rs) (j := j) (o := o) h ho k)
  have HPos := hid (fun j o h ho k => obT_pos (rs := rs) (j := j) (o := o) h ho k)
  have hne : rs ≠ [] := by intro h; rw [h] at h1; simp at h1
  obtain ⟨b, o, rfl, hbl, hc⟩ := HA.out hne
  have HC := hid (fun W (hW : Below w.heap.size w W) j (hj : j < rs.length) => (hW.cell (p := ⟨b, o + j, none⟩) hbl).trans (hc j hj))
  rw [hr] at HI1
  obtain ⟨n, hn⟩ : ∃ n, rs.length = n := ⟨_, rfl⟩
  rw [hn] at HC0 HEnd HC h1 h2 HNone HNo HNeg HPos HUn ⊢
  rw [hn] at HV
  rw [hn] at HI1
  have HDl := hid (dvT_length n)
  have HDy := hid (fun j h => dvT_yes (n := n) (j := j) h)
  have HDn := hid (fun j h => dvT_no (n := n) (j := j) h)
  have HDm := hid (fun j i (hi : i < (dvT n j).length) => dvT_mem (dvT_get hi))
  clear hr hn h3 hbl hc hne HA
  go_enter Try.func24, Try.ntmps24
  go_wp2_with fail
  refine (HI1.out _ HV.out).mono ?_
  rintro e w1 ⟨rfl, rfl⟩
  go_wp2
  go_loopw [5, 6, 7] (fun dv out i wr => ∃ (j k : Nat) (os : List Int), k = j + 1 ∧ k ≤ n + 1 ∧ i = .int .i64 (k : Int) ∧ OwnI 3 wr w.heap.size dv (intsN (dvT n j)) ∧ OwnI 3 wr w.heap.size out os ∧ (out.ownBlock = none ∨ out.ownBlock ≠ dv.ownBlock) ∧ Hid (obT rs j = some os) ∧ Below w.heap.size w wr) (fun _ _ i _ => n + 1 - (intOf i).toNat)
  case atStart => exact ⟨0, 1, [], rfl, by omega, rfl, OwnI.nil _ _ _, OwnI.nil _ _ _, .inl rfl, hid rfl, Below.refl _ _⟩
  case round =>
    obtain ⟨j, k, os, hkj, hk, rfl, hdv, hout, hap, HS, hb⟩ := hrel
    have HDv := hid hdv
    have HOu := hid hout
    have HAp := hid hap
    have HB := hid hb
    have HKj := hid hkj
    obtain ⟨dA, dn, dc, rfl⟩ := hdv.shape3
    obtain ⟨oA, on, oc, rfl⟩ := hout.shape3
    have hdn : dn = (dvT n j).length := by obtain ⟨_, _, h, _⟩ := hdv.shape; injection h with _ h _; rw [h, intsN_length]
    have HOsl := hid (HOg.out _ _ _ (by rw [← HUn.out]; exact HS.out))
    have HOlo := hid (HOl.out _ _ _ (by rw [← HUn.out]; exact HS.out))
    have hon : on = os.length := by obtain ⟨_, _, h, _⟩ := hout.shape; injection h
    rw [HOsl.out, ← hdn] at hon
    have hon2 := hon.symm
    clear hon
    subst hon2
    have HDi := hid hdv.ints
    have HOi := hid hout.ints
    clear hdv hout hap hb
    by_cases hlt : k ≤ n
    · have hm1 := tmod_natC n k
      have hm2 : ((n : Int) % (k : Int)) = ((n % k : Nat) : Int) := by simp
      have hz3 : ¬ (k : Int) = 0 := by omega
      have hz4 : ((k : Int) == 0) = false := by rw [beq_eq_false_iff_ne]; omega
      have hz5 : (0 : Int) < (k : Int) := by omega
      have HM : Hid (n + 1 - (k + 1) < n + 1 - k) := hid (by omega)
      have HK2 : Hid (k + 1 ≤ n + 1) := hid (by omega)
      have hkI : (k : Int) ≤ (n : Int) := by omega
      by_cases h0 : n % k = 0
      · have HTn := hid (HNeg.out j os (by rw [← hkj]; exact h0) HS.out)
        have HTp := hid (HPos.out j os (by rw [← hkj]; exact h0) HS.out)
        have HDs := hid (HDy.out j (by rw [← hkj]; exact h0))
        rw [← hkj, ← hdn] at HTn HTp
        rw [← hkj] at HDs
        have hdn60 : dn ≤ 60 := by have := HDl.out j; omega
        have HDj := hid (HDm.out j)
        rw [← hdn] at HDj
        have HCg := hid (HCl.out k (dvT n j) os HOlo.out)
        have HZ0 := hid (HC0.out k (dvT n j) os)
        rw [h0] at hm1 hm2
        have hrl : k % n < n := Nat.mod_lt _ (by omega)
        have hcr := HC.out _ HB.out _ hrl
        have hm3 := tmod_natC k n
        have hm4 : ((k : Int) % (n : Int)) = ((k % n : Nat) : Int) := by simp
        obtain ⟨r, hr⟩ : ∃ r, k % n = r := ⟨_, rfl⟩
        rw [hr] at hrl hcr hm3 hm4 HZ0
        obtain ⟨z0, hz0⟩ : ∃ z0, rs.getD r 0 = z0 := ⟨_, rfl⟩
        rw [hz0] at hcr HZ0
        have hn3 : ¬ (n : Int) = 0 := by omega
        have hn4 : ((n : Int) == 0) = false := by rw [beq_eq_false_iff_ne]; omega
        have hn5 : (0 : Int) < (n : Int) := by omega
        have hrI : (r : Int) < (n : Int) := by omega
        have HDe : Hid ((intsN (dvT n j)).length = dn) := hid (by rw [intsN_length, hdn])
        have HGe := hid (fun i (hi : i < (dvT n j).length) => intsN_get hi)
        rw [← hdn] at HGe
        have HOe : Hid (os.length = dn) := hid (by rw [HOsl.out, hdn])
        obtain ⟨ds, hds⟩ : ∃ ds, dvT n j = ds := ⟨_, rfl⟩
        have HDd := hid hds
        rw [hds] at HTn HTp HDs HDj HCg HZ0 HDe HGe HDv HDi
        clear hr hz0 h0 hkj hds hdn
        obtain ⟨W1, hW1⟩ : ∃ x, x = wr := ⟨wr, rfl⟩
        rw [← hW1] at HDv HOu HB hcr HDi HOi ⊢
        clear hW1
        go_wp2
        clear hm1 hm2 hm3 hm4 hz3 hz4 hn3 hn4 hcr
        go_loop [8, 33] (fun q i => ∃ (t : Nat) (z : Int), t ≤ dn ∧ q = .int .i64 z ∧ i = .int .i64 (t : Int) ∧ Hid (obC rs k ds os t = z)) (fun _ i => dn - (intOf i).toNat)
        case atStart => exact ⟨0, z0, Nat.zero_le _, rfl, rfl, HZ0⟩
        case round =>
          obtain ⟨t, z, ht, rfl, rfl, HZ⟩ := hrel
          have hzb := HCg.out t
          rw [HZ.out] at hzb
          by_cases hlt2 : t < dn
          · obtain ⟨A4, c4, he4, hA4⟩ := HDi.out
            obtain ⟨b4, o4, hA4e, hbl4, hc4⟩ := hA4 (by intro h; have := congrArg List.length h; rw [HDe.out, List.length_nil] at this; omega)
            have e4 : dA = A4 := by injection he4
            clear he4 hA4
            rw [hA4e] at e4
            subst e4
            obtain ⟨A5, c5, he5, hA5⟩ := HOi.out
            obtain ⟨b5, o5, hA5e, hbl5, hc5⟩ := hA5 (by intro h; have := congrArg List.length h; rw [HOe.out, List.length_nil] at this; omega)
            have e5 : oA = A5 := by injection he5
            clear he5 hA5
            rw [hA5e] at e5
            subst e5
            clear hA4e hA5e
            have hch := hc4 t (by rw [HDe.out]; exact hlt2)
            rw [HGe.out t hlt2] at hch
            have hco := hc5 t (by rw [HOe.out]; exact hlt2)
            have hhm := HDj.out t hlt2
            have HY := hid (fun h => obC_yes (rs := rs) (g := k) (ks := ds) (o := os) (j := t) h)
            have HN := hid (fun h => obC_no (rs := rs) (g := k) (ks := ds) (o := os) (j := t) h)
            rw [HZ.out] at HY HN
            obtain ⟨h, hh⟩ : ∃ h, ds.getD t 0 = h := ⟨_, rfl⟩
            rw [hh] at hch hhm HY HN
            have hyb := HOlo.out t
            obtain ⟨y, hy⟩ : ∃ y, os.getD t 0 = y := ⟨_, rfl⟩
            rw [hy] at hyb hco HY
            have hm1 := tmod_natC k h
            have hm2 : ((k : Int) % (h : Int)) = ((k % h : Nat) : Int) := by simp
            have hz3 : ¬ (h : Int) = 0 := by omega
            have hz4 : ((h : Int) == 0) = false := by rw [beq_eq_false_iff_ne]; omega
            have hz5 : (0 : Int) < (h : Int) := by omega
            have hM : Hid (dn - (t + 1) < dn - t) := hid (by omega)
            have ht1 : t + 1 ≤ dn := hlt2
            obtain ⟨s, hs⟩ : ∃ s, k % h = s := ⟨_, rfl⟩
            rw [hs] at hm1 hm2 HY HN
            clear hh hy hs hc4 hc5
            by_cases h0 : s = 0
            · have HS2 := hid (HY.out h0)
              have hw1 : IntKind.i64.wrap (z - y) = z - y := IntWalk.i64_in _ (by omega)
              subst h0
              obtain ⟨z2, hz2⟩ : ∃ z2, z - y = z2 := ⟨_, rfl⟩
              rw [hz2] at hw1 HS2
              have hsub : z - y = z2 := hz2
              clear hz2 hzb hyb
              go_wp2
              clear hw1 hm1 hm2 hz3 hz4 hsub hch hco
              go_round
              case rel => exact ⟨t + 1, z2, ht1, by go_num, by go_num, HS2⟩
              case measure => simp [intOf]; first | exact hM.out | (have h := hM.out; omega)
            · have HS2 := hid (HN.out h0)
              have hr3 : ((s : Int) == 0) = false := by rw [beq_eq_false_iff_ne]; omega
              clear hzb hyb
              go_wp2
              clear hm1 hm2 hz3 hz4 hr3 hch hco
              go_round
              case rel => exact ⟨t + 1, z, ht1, rfl, by go_num, HS2⟩
              case measure => simp [intOf]; first | exact hM.out | (have h := hM.out; omega)
          · have hte := hid (show t = dn by omega)
            rw [hte.out] at HZ
            rw [HZ.out] at HTn HTp
            clear hzb
            by_cases hz : z < 0
            · have HO := hid (HOn.out (HEnd.out ▸ HNone.out _ (HTn.out hz) hlt))
              have HNl := hid (HAn.out HO.out)
              go_wp2
              go_ret2
              exact ⟨_, ret_vbO HO.out.symm, by rw [HNl.out]; exact OwnI.nil _ _ _, HL0.out, HB.out⟩
            · have HS2 := hid (HTp.out (by omega))
              have hz5 : w.heap.size ≤ W1.heap.size := HB.out.size
              have hl1 : (intsN ds).length < 1048576 := by rw [HDe.out]; omega
              have hl2 : os.length < 1048576 := by rw [HOe.out]; omega
              go_wp2_with (first
                | (at_builtin; refine wpList_append_int2 rfl _ _ 22 3 rfl Try.underlying22 Try.info3 w.heap.size _ (intsN ds) (k : Int) rfl HDv.out rfl rfl hl1 hz5 ?_; intro v6 w6 hs6 hb6 hk6; have hk7 := hk6 _ _ HOu.out HAp.out; have HO6 := hid hk7.1; have HA6 := hid hk7.2; have HB6 := hid hb6; rw [← intsN_snoc, ← HDs.out] at hs6; obtain ⟨vA, vn, vc, rfl⟩ := hs6.shape3; have HD6 := hid hs6; have hz6 : w.heap.size ≤ w6.heap.size := (HB.out.trans hb6).size; clear hs6 hb6 hk6 hk7)
                | (at_builtin; refine wpList_append_int2 rfl _ _ 22 3 rfl Try.underlying22 Try.info3 w.heap.size _ os z rfl HO6.out rfl rfl hl2 hz6 ?_; intro v7 w7 hs7 hb7 hk8; have hk9 := hk8 _ _ HD6.out (apart_symm HA6.out); have HD7 := hid hk9.1; have HA7 := hid (apart_symm hk9.2); have HB7 := hid hb7; obtain ⟨xA, xn, xc, rfl⟩ := hs7.shape3; have HO7 := hid hs7; clear hs7 hb7 hk8 hk9))
              go_roundw
              case rel => exact ⟨k, k + 1, os ++ [z], rfl, HK2.out, by go_num, HD7.out, HO7.out, HA7.out, HS2, (HB.out.trans HB6.out).trans HB7.out⟩
              case measure => simp [intOf]; first | exact HM.out | (have h := HM.out; omega)
      · have HTn := hid (HNo.out j (by rw [← hkj]; exact h0))
        have HDs := hid (HDn.out j (by rw [← hkj]; exact h0))
        rw [← hkj] at HTn HDs
        obtain ⟨r, hr⟩ : ∃ r, n % k = r := ⟨_, rfl⟩
        rw [hr] at hm1 hm2 h0
        have hr3 : (0 : Int) < (r : Int) := by omega
        clear hr h0 hkj hdn
        go_wp2
        clear hm1 hm2 hz3 hz4 hr3
        go_roundw
        case rel => exact ⟨k, k + 1, os, rfl, HK2.out, by go_num, by rw [HDs.out]; exact HDv.out, HOu.out, HAp.out, hid (by rw [HTn.out, HS.out]), HB.out⟩
        case measure => simp [intOf]; first | exact HM.out | (have h := HM.out; omega)
    · have hje := hid (show j = n by omega)
      rw [hje.out, HEnd.out] at HS
      have HO := hid (HOy.out os HS.out)
      have HAe := hid (HAy.out os HS.out)
      have hkI : ¬ (k : Int) ≤ (n : Int) := by omega
      clear hkj hk hlt hdn
      go_wp2
      go_ret2
      exact ⟨_, ret_vbO HO.out.symm, (by rw [HAe.out]; exact HOu.out), HL0.out, HB.out⟩
end Go.Proofs.Ytnlehkjfidpdlaa
