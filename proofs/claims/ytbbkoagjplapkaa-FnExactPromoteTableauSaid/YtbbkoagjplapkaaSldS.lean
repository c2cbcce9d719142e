/- Tableaux promoted in the model. -/
import Derived.Test.YtbbkoagjplapkaaSld
import Derived.Test.YtbbkoagjplapkaaLiIs
import Derived.Test.YtbbkoagjplapkaaAddRow
import Derived.Test.YtbbkoagjplapkaaTabL
namespace Go.Proofs.Ytbbkoagjplapkaa
open Go.RowKit Go.WideShapes Go.ChangeShapes
set_option linter.unusedVariables false

set_option maxRecDepth 100000 in
set_option maxHeartbeats 1600000 in
theorem shCopy_any (v : Value) (ls : List (List Int)) (w : World) (hv : IntsSS w v ls) (ht : tabB ls = true) :
    Calls Try.prog 62 #[v] w fun (r : Ending) w' => ∃ q, r = Ending.returned q ∧ OwnSS 3 27 w' w.heap.size w'.heap.size q (gridL ls.length (wid ls) (cel ls)) ∧ Below w.heap.size w w' := by
  have hL := (tabB_all ht).1
  have a1 := hL.a1
  have a2 := hL.a2
  have hn10 := hL.n
  have b2 := hL.b2
  have HEta := hid (gridL_eta (fun r hr => hL.row r hr))
  have HRow := hid (fun r hr => hL.row r hr)
  have HFull : Hid (rowsF ls.length (fun r => ls.getD r []) = ls) := hid (by
    have h := gridL_eta (fun r hr => hL.row r hr)
    rw [← h]
    conv => lhs; rw [gridL_length]
    refine rowsF_congr fun r hr => ?_
    rw [gridL_getD hr])
  obtain ⟨b, o, c, rfl, hbl, hrow⟩ := hv.row0 (by omega)
  have HRw := hid hrow
  clear hv ht hL hrow
  go_enter Try.func62, Try.ntmps62
  go_wp2
  go_loopw [3, 8] (fun out i wr => ∃ r : Nat, r ≤ ls.length ∧ i = .int .i64 r ∧ OwnSS 3 27 wr w.heap.size wr.heap.size out (rowsF r fun r => ls.getD r []) ∧ Below w.heap.size w wr) (fun _ i _ => ls.length - (intOf i).toNat)
  case atStart => exact ⟨0, Nat.zero_le _, rfl, OwnSS.nil _ _ _ _ _, Below.refl _ _⟩
  case round =>
    obtain ⟨r, hr, rfl, ho, hb⟩ := hrel
    have HO := hid ho
    have Hb := hid hb
    obtain ⟨oA, oc, rfl, -⟩ := ho.rows
    rw [rowsF_length] at HO ⊢
    have hz := hb.size
    clear ho hb
    by_cases hlt : r < ls.length
    · obtain ⟨u, hc, hi⟩ := HRw.out r hlt
      have hcell := (Hb.out.cell (p := ⟨b, o + r, none⟩) hbl).trans hc
      have HI := hid (hi.below Hb.out)
      have HRS := hid (rowsF_succ r (fun r => ls.getD r []))
      have hlr := HRow.out r hlt
      obtain ⟨uA, uc, rfl, -⟩ := hi
      have HLr := hid hlr
      rw [hlr] at hcell HI
      clear hc hlr
      go_wp2_with fail
      clear hcell
      refine (l1OwnL_any _ (ls.getD r []) wr HI.out (by rw [HLr.out]; omega)).mono ?_
      rintro e w2 ⟨q, rfl, ho2, hb2⟩
      have HO2 := hid (HO.out.below hb2)
      have HQ2 := hid (ho2.mono hz)
      have HQb := hid (fun k (hk : q.ownBlock = some k) => (ho2.blockLt k hk).1)
      have Hb2 := hid (below_to Hb.out hb2)
      have hz2 := hb2.size
      obtain ⟨qA, qn, qc, rfl⟩ := ho2.shape3
      clear ho2 hb2
      go_wp2_with (at_builtin; refine wpList_append_row rfl _ _ 22 27 3 rfl Try.underlying22 Try.info27 (by decide) w.heap.size wr.heap.size _ _ (rowsF r fun r => ls.getD r []) (ls.getD r []) rfl HO2.out HQ2.out HQb.out rfl rfl (by rw [rowsF_length]; omega) (by omega) hz2 ?_; intro u5 w5 ho5 hb5)
      go_roundw
      case rel => exact ⟨r + 1, by omega, by go_num, by rw [HRS.out]; exact ho5, Hb2.out.trans hb5⟩
      case measure => simp [intOf]; omega
    · have Hr := hid (show r = ls.length by omega)
      have hlt' : ¬ (r : Int) < (ls.length : Int) := by omega
      clear hlt
      go_wp2
      go_ret
      exact ⟨_, rfl, by have h := HO.out; rw [Hr.out, HFull.out] at h; rw [HEta.out, Hr.out]; exact h, Hb.out⟩
theorem OwnSS.rowNe {ti ts : TypeId} {w : World} {B E o m cv g n cg : Nat} {ls : List (List Int)} (h : OwnSS ti ts w B E (.slice (some ⟨o, 0, none⟩) m cv) ls) (hne : ti ≠ ts) {r : Nat} (hr : r < ls.length) (hc : w.cell? ⟨o, r, none⟩ = some (.slice (some ⟨g, 0, none⟩) n cg)) : g ≠ o := by
  obtain ⟨us, h1, h2, h3, h4, h5⟩ := h
  have hu : us[r]? = some us[r] := List.getElem?_eq_getElem (by omega)
  have hl : ls[r]? = some ls[r] := List.getElem?_eq_getElem hr
  obtain ⟨hi, -⟩ := h4 r _ _ hu hl
  rcases h2.2 with ⟨e, _⟩ | ⟨b, cap, cur, e, hB, hh, r1, r2, r3, r4⟩
  · cases e
  · injection e with e1 e2 e3
    injection e1 with e1
    injection e1 with e1 _ _
    subst e1; subst e2; subst e3
    have hc2 := h2.cellAt r (by omega)
    rw [hc, hu] at hc2
    injection hc2 with hc2
    rcases hi.2 with ⟨e', _⟩ | ⟨g', cap', cur', e', _, hh', _⟩
    · rw [← hc2] at e'; cases e'
    · rw [← hc2] at e'
      injection e' with e4 _ _
      injection e4 with e4
      injection e4 with e4 _ _
      subst e4
      rintro rfl
      rw [hh] at hh'
      injection hh' with hh'
      injection hh' with _ hh'
      exact hne hh'.symm
/-- some numbers less by 1: all of the rows before i, and those before j in the row i -/
def decF (G : Nat → Nat → Int) (i j r c : Nat) : Int := if r < i ∨ (r = i ∧ c < j) then G r c - 1 else G r c
theorem decF_upd (G : Nat → Nat → Int) (i j : Nat) : updF (decF G i j) i j (decF G i j i j - 1) = decF G i (j + 1) := by
  funext r c
  unfold updF decF
  by_cases h1 : r = i
  · subst h1
    by_cases h2 : c = j
    · subst h2
      rw [if_pos ⟨rfl, rfl⟩, if_neg (by omega), if_pos (by omega)]
    · rw [if_neg (fun h => h2 h.2)]
      by_cases h3 : c < j
      · rw [if_pos (by omega), if_pos (by omega)]
      · rw [if_neg (by omega), if_neg (by omega)]
  · rw [if_neg (fun h => h1 h.1)]
    by_cases h3 : r < i
    · rw [if_pos (by omega), if_pos (by omega)]
    · rw [if_neg (by omega), if_neg (by omega)]
theorem decF_row {a b : Nat} (G : Nat → Nat → Int) (i : Nat) : gridL a b (decF G i b) = gridL a b (decF G (i + 1) 0) := by
  refine gridL_congr fun r c hr hc => ?_
  unfold decF
  by_cases h : r < i
  · rw [if_pos (by omega), if_pos (by omega)]
  · by_cases h2 : r = i
    · rw [if_pos (by omega), if_pos (by omega)]
    · rw [if_neg (by omega), if_neg (by omega)]
theorem decF_zero (G : Nat → Nat → Int) : decF G 0 0 = G := by
  funext r c
  unfold decF
  rw [if_neg (by omega)]
theorem decF_all {a b : Nat} (G : Nat → Nat → Int) : gridL a b (decF G a 0) = gridL a b (fun i j => G i j - 1) := by
  refine gridL_congr fun r c hr hc => ?_
  unfold decF
  rw [if_pos (by omega)]
theorem decF_at (G : Nat → Nat → Int) (i j : Nat) : decF G i j i j = G i j := by
  unfold decF; rw [if_neg (by omega)]
set_option maxRecDepth 100000 in
set_option maxHeartbeats 6400000 in
theorem specPromoteTableau_any (v : Value) (ls : List (List Int)) (w : World) (hv : IntsSS w v ls) (hs : SSmall ls) :
    Calls Try.prog 32 #[v] w fun (r : Ending) w' => ∃ q, r = Ending.returned (.tuple #[q, .bool (tabB ls)]) ∧ OwnSS 3 27 w' w.heap.size w'.heap.size q (ansPT ls) ∧ SSmall (ansPT ls) ∧ Below w.heap.size w w' := by
  have HP := hid (shGood_any v ls w hv hs)
  have HV := hid hv
  have HL := hid (ansPT_small ls)
  clear hv hs
  go_enter Try.func32, Try.ntmps32
  go_wp2_with fail
  refine HP.out.mono ?_
  rintro e w' ⟨rfl, rfl⟩
  cases hq : tabB ls
  · have HQ := hid hq
    clear hq
    go_wp2
    go_ret2
    exact ⟨_, ret_vbT HQ.out.symm, by rw [ansPT_no HQ.out]; exact OwnSS.nil _ _ _ _ _, HL.out, Below.refl _ _⟩
  · have HQ0 := hid hq
    have hL := (tabB_all hq).1
    have HGin := hid (GridR.of HV.out hL)
    have HAns : Hid (ansPT ls = proT ls.length (wid ls) (cel ls)) := hid (ansPT_yes hq)
    have HCp := hid (shCopy_any v ls w HV.out hq)
    have HRg := hid (fun i j (hi : i < ls.length) (hj : j < wid ls) => cel_rng hq hi hj)
    have a1 := hL.a1
    have a2 := hL.a2
    have b1 := hL.b1
    have b2 := hL.b2
    have hn10 := hL.n
    obtain ⟨F, hF⟩ : ∃ F, cel ls = F := ⟨_, rfl⟩
    obtain ⟨b, hb⟩ : ∃ b, wid ls = b := ⟨_, rfl⟩
    obtain ⟨a, ha⟩ : ∃ a, ls.length = a := ⟨_, rfl⟩
    rw [hF, hb, ha] at HGin HAns HCp HRg
    rw [hb] at b1 b2 hn10
    rw [ha] at a1 a2 hn10
    have HSl := hid (fun k hk => slN_ok (P := fun x => 0 ≤ x ∧ x < 10) (F := F) a1 b1 (fun i j hi hj => by have := HRg.out i j hi hj; omega) k hk)
    have HLs := hid (slN_last (F := F) a1 b1)
    obtain ⟨ab, ao, cv, rfl, hab, hrows⟩ := HGin.out
    obtain ⟨g0, o0, c0, hc0, -, -⟩ := hrows 0 (by omega)
    rw [Nat.add_zero] at hc0
    have HC0 := hid hc0
    have hai : (0 : Int) < (a : Int) := by omega
    have HProd : Hid ((a : Int) * (b : Int) = ((a * b : Nat) : Int)) := hid (by rw [← Int.natCast_mul])
    clear hq hL hF hb ha hrows hc0
    go_wp2_with fail
    refine HCp.out.mono ?_
    rintro e w1 ⟨q, rfl, ho, hb1⟩
    obtain ⟨o, qc, rfl, hol, hBo⟩ := ho.gform (by omega)
    have HO := hid ho
    have HB1 := hid hb1
    have hc0 := (hb1.cell (p := ⟨ab, ao, none⟩) hab).trans HC0.out
    clear ho hb1
    go_wp2
    go_quiet (fail)
    go_wp2
    clear hc0 hai
    obtain ⟨W0, hW0⟩ : ∃ W0 : World, W0 = w1.drewN nq := ⟨_, rfl⟩
    rw [← hW0]
    have HO0 : Hid (OwnSS 3 27 W0 w.heap.size w1.heap.size (.slice (some ⟨o, 0, none⟩) a qc) (gridL a b F)) := hid (by rw [hW0]; exact HO.out.below (Go.Joins.below_draws _ _ _))
    have HB0 : Hid (Below w.heap.size w W0) := hid (by rw [hW0]; exact below_drewN HB1.out _)
    have hzE : w1.heap.size ≤ W0.heap.size := by rw [hW0]; exact Nat.le_refl _
    clear hW0
    go_loopw [7, 8] (fun r c wr => ∃ k : Nat, k ≤ a + b - 2 ∧ r = .int .i64 ((slN a b F k).r : Nat) ∧ c = .int .i64 ((slN a b F k).c : Nat) ∧ OwnSS 3 27 wr w.heap.size w1.heap.size (.slice (some ⟨o, 0, none⟩) a qc) (gridL a b (slN a b F k).F) ∧ Below w.heap.size w wr ∧ w1.heap.size ≤ wr.heap.size) (fun r c _ => a + b - ((intOf r).toNat + (intOf c).toNat))
    case atStart => exact ⟨0, Nat.zero_le _, rfl, rfl, HO0.out, HB0.out, hzE⟩
    case round =>
      obtain ⟨k, hk, rfl, rfl, hg, hbl, hz⟩ := hrel
      have HG := hid hg
      have Hb := hid hbl
      have hok := HSl.out k hk
      have HNx := hid (slN_succ a b F k)
      have HEnd : Hid (k = a + b - 2 → (slN a b F k).r = a - 1 ∧ (slN a b F k).c = b - 1) := hid (fun h => by rw [h]; exact HLs.out)
      have HEq : Hid (k = a + b - 2 → (slN a b F (a + b - 2)).F = (slN a b F k).F) := hid (fun h => by rw [h])
      obtain ⟨s, hs⟩ : ∃ s, slN a b F k = s := ⟨_, rfl⟩
      rw [hs] at HG hok HNx HEnd HEq
      rw [hs]
      obtain ⟨G, r, c⟩ := s
      obtain ⟨hsum, hrl, hcl, hrng⟩ := hok
      simp only at hsum hrl hcl hrng HG HEnd HEq ⊢
      have HRng := hid hrng
      clear hg hbl hs hrng
      have v2 : (r : Int) < (a : Int) := by omega
      have v3 : (c : Int) < (b : Int) := by omega
      by_cases hlt : k < a + b - 2
      · obtain ⟨g1, k1, hx1, hB1, hl1, hy1, hf1, hst1⟩ := HG.out.gcell (by decide) (by omega) hrl
        have hz0 := hy1 c hcl
        have hft := hf1 c
        have HSt1 := hid hst1
        have HY1 := hid hy1
        obtain ⟨z0, hzz⟩ : ∃ z, G r c = z := ⟨_, rfl⟩
        rw [hzz] at hz0
        clear hzz hf1 hst1 hy1
        obtain ⟨r1, hr1⟩ : ∃ r1, r + 1 = r1 := ⟨_, rfl⟩
        obtain ⟨c1, hc1⟩ : ∃ c1, c + 1 = c1 := ⟨_, rfl⟩
        have hri : (r : Int) + 1 = (r1 : Int) := by omega
        have hci : (c : Int) + 1 = (c1 : Int) := by omega
        have w1' : IntKind.i64.wrap (r1 : Int) = (r1 : Int) := IntWalk.i64_in _ (by omega)
        have w2' : IntKind.i64.wrap (c1 : Int) = (c1 : Int) := IntWalk.i64_in _ (by omega)
        have w3' : IntKind.i64.wrap ((r : Int) + 1) = (r1 : Int) := by rw [hri]; exact w1'
        have w4' : IntKind.i64.wrap ((c : Int) + 1) = (c1 : Int) := by rw [hci]; exact w2'
        have HR1 := hid hr1
        have HC1 := hid hc1
        by_cases hra : r1 < a
        · have v5 : (r1 : Int) < (a : Int) := by omega
          obtain ⟨g2, k2, hx2, hB2, hl2, hy2, hf2, -⟩ := HG.out.gcell (by decide) (by omega) hra
          have hz2 := hy2 c hcl
          have HNy : Hid (slB a b G r c = true → slN a b F (k + 1) = ⟨updF G r c (G r1 c), r1, c⟩) := hid (fun h => by rw [HNx.out]; unfold slS; rw [if_pos h, HR1.out])
          have HStV := hid (HSt1.out c (G r1 c) hcl)
          have HDec : Hid (c1 = b ∨ G r1 c < G r c1 → slB a b G r c = true) := hid (fun h => by
            unfold slB
            rw [HR1.out, HC1.out, decide_eq_true hra, Bool.true_and, Bool.or_eq_true, decide_eq_true_eq, decide_eq_true_eq]
            exact h)
          have HDecN : Hid (¬ c1 = b → ¬ G r1 c < G r c1 → slB a b G r c = false) := hid (fun h h' => by
            unfold slB
            rw [HR1.out, HC1.out, decide_eq_false h, decide_eq_false h']; simp)
          obtain ⟨zv, hzv⟩ : ∃ z, G r1 c = z := ⟨_, rfl⟩
          rw [hzv] at hz2 HNy HStV HDec HDecN
          clear hy2 hf2 hzv
          by_cases hcb : c1 = b
          · have HN2 := hid (HNy.out (HDec.out (.inl hcb)))
            have hcbi : (c1 : Int) = (b : Int) := by omega
            have hcbq : ((c1 : Int) == (b : Int)) = true := by rw [beq_iff_eq]; exact hcbi
            have Hcb := hid hcb
            clear hcb hr1 hc1
            go_wp2
            go_quiet (fail)
            have HSt := HStV
            go_wp2
            go_region
            go_wp2
            go_roundw
            case rel => exact ⟨k + 1, by omega, by rw [HN2.out], by rw [HN2.out], by rw [HN2.out]; exact HSt.out.below (Go.Joins.below_draws _ _ _), below_drewN ((Hb.out.setCell (p := ⟨g1, c, none⟩) hB1 _)) _, by simpa [World.setCell] using hz⟩
            case measure => simp [intOf]; omega
          · have hcbi : ¬ (c1 : Int) = (b : Int) := by omega
            have hcbq : ((c1 : Int) == (b : Int)) = false := by rw [beq_eq_false_iff_ne]; exact hcbi
            have hz3 := HY1.out c1 (by omega)
            have HStH := hid (HSt1.out c (G r c1) hcl)
            have HNx3 : Hid (slB a b G r c = false → slN a b F (k + 1) = ⟨updF G r c (G r c1), r, c1⟩) := hid (fun h => by rw [HNx.out]; unfold slS; rw [if_neg (by rw [h]; decide), HC1.out])
            obtain ⟨zh, hzh⟩ : ∃ z, G r c1 = z := ⟨_, rfl⟩
            have v6 : (c1 : Int) < (b : Int) := by omega
            rw [hzh] at hz3 HStH HNx3 HDec HDecN
            clear hzh hr1 hc1
            by_cases hv1 : zv < zh
            · have HN2 := hid (HNy.out (HDec.out (.inr hv1)))
              have hvd : decide (zv < zh) = true := by simpa using hv1
              have HSt := HStV
              go_wp2
              go_quiet (fail)
              go_wp2
              go_region
              go_wp2
              go_roundw
              case rel => exact ⟨k + 1, by omega, by rw [HN2.out], by rw [HN2.out], by rw [HN2.out]; exact HSt.out.below (Go.Joins.below_draws _ _ _), below_drewN ((Hb.out.setCell (p := ⟨g1, c, none⟩) hB1 _)) _, by simpa [World.setCell] using hz⟩
              case measure => simp [intOf]; omega
            · have HN2 := hid (HNx3.out (HDecN.out hcb hv1))
              have hvd : decide (zv < zh) = false := by simpa using hv1
              have HSt := HStH
              go_wp2
              go_quiet (fail)
              go_wp2
              go_region
              go_wp2
              go_roundw
              case rel => exact ⟨k + 1, by omega, by rw [HN2.out], by rw [HN2.out], by rw [HN2.out]; exact HSt.out.below (Go.Joins.below_draws _ _ _), below_drewN ((Hb.out.setCell (p := ⟨g1, c, none⟩) hB1 _)) _, by simpa [World.setCell] using hz⟩
              case measure => simp [intOf]; omega
        · have v5 : ¬ (r1 : Int) < (a : Int) := by omega
          have v5d : decide ((r1 : Int) < (a : Int)) = false := by simp; omega
          have hcb1 : c1 < b := by omega
          have hcbi : ¬ (c1 : Int) = (b : Int) := by omega
          have hcbq : ((c1 : Int) == (b : Int)) = false := by rw [beq_eq_false_iff_ne]; exact hcbi
          have hz3 := HY1.out c1 (by omega)
          have HStH := hid (HSt1.out c (G r c1) hcl)
          have HNx3 : Hid (slB a b G r c = false → slN a b F (k + 1) = ⟨updF G r c (G r c1), r, c1⟩) := hid (fun h => by rw [HNx.out]; unfold slS; rw [if_neg (by rw [h]; decide), HC1.out])
          obtain ⟨zh, hzh⟩ : ∃ z, G r c1 = z := ⟨_, rfl⟩
          have v6 : (c1 : Int) < (b : Int) := by omega
          have HN2 := hid (HNx3.out (by unfold slB; rw [HR1.out, decide_eq_false hra]; rfl))
          rw [hzh] at hz3 HStH HN2
          have HSt := HStH
          clear hzh hr1 hc1
          go_wp2
          go_quiet (fail)
          go_wp2
          go_region
          go_wp2
          go_roundw
          case rel => exact ⟨k + 1, by omega, by rw [HN2.out], by rw [HN2.out], by rw [HN2.out]; exact HSt.out.below (Go.Joins.below_draws _ _ _), below_drewN ((Hb.out.setCell (p := ⟨g1, c, none⟩) hB1 _)) _, by simpa [World.setCell] using hz⟩
          case measure => simp [intOf]; omega
      · have hk2 : k = a + b - 2 := by omega
        obtain ⟨hr9, hc9⟩ := HEnd.out hk2
        have HF9 := hid (HEq.out hk2)
        have hc1' : ¬ (r : Int) + 1 < (a : Int) := by omega
        have hc2' : ¬ (c : Int) + 1 < (b : Int) := by omega
        have HR9 := hid hr9
        have HC9 := hid hc9
        obtain ⟨W2, rfl⟩ : ∃ x, x = wr := ⟨wr, rfl⟩
        clear hk2 hlt hr9 hc9
        go_wp2
        clear hc1' hc2'
        go_loopw [96] (fun i wi => ∃ i' : Nat, i' ≤ a ∧ i = .int .i64 i' ∧ OwnSS 3 27 wi w.heap.size w1.heap.size (.slice (some ⟨o, 0, none⟩) a qc) (gridL a b (decF G i' 0)) ∧ Below w.heap.size w wi ∧ w1.heap.size ≤ wi.heap.size) (fun i _ => a - (intOf i).toNat)
        case atStart => exact ⟨0, Nat.zero_le _, rfl, by rw [decF_zero]; exact HG.out, Hb.out, hz⟩
        case round =>
          obtain ⟨i, hi, rfl, hg, hbl, hz2⟩ := hrel
          have HGi := hid hg
          have Hbi := hid hbl
          obtain ⟨W3, rfl⟩ : ∃ x, x = wr := ⟨wr, rfl⟩
          clear hg hbl
          by_cases hia : i < a
          · obtain ⟨g1, k1, hx1, hB1, hl1, -, -, -⟩ := HGi.out.gcell (by decide) (by omega) hia
            have HX1 := hid hx1
            go_wp2
            clear hx1
            go_loopw [102] (fun j wj => ∃ j' : Nat, j' ≤ b ∧ j = .int .i64 j' ∧ OwnSS 3 27 wj w.heap.size w1.heap.size (.slice (some ⟨o, 0, none⟩) a qc) (gridL a b (decF G i j')) ∧ Below w.heap.size w wj ∧ w1.heap.size ≤ wj.heap.size ∧ wj.cell? ⟨o, i, none⟩ = some (.slice (some ⟨g1, 0, none⟩) b k1)) (fun j _ => b - (intOf j).toNat)
            case atStart => exact ⟨0, Nat.zero_le _, rfl, HGi.out, Hbi.out, hz2, HX1.out⟩
            case round =>
              obtain ⟨j, hj, rfl, hg, hbl, hz3, hxj⟩ := hrel
              obtain ⟨wj, rfl⟩ : ∃ x, x = wr := ⟨wr, rfl⟩
              have HGj := hid hg
              have Hbj := hid hbl
              have HXj := hid hxj
              by_cases hjb : j < b
              · obtain ⟨g2, k2, hx2, hB2, hl2, hy2, hf2, hst2⟩ := HGj.out.gcell (by decide) (by omega) hia
                rw [hxj] at hx2
                injection hx2 with hx2
                injection hx2 with hx2 hx3 hx4
                injection hx2 with hx2
                injection hx2 with hx2 hx5 hx6
                subst hx2
                have hcell := hy2 j hjb
                have hft := hf2 j
                have hrg := HRng.out i j hia hjb
                rw [decF_at] at hcell
                have HSt := hid (hst2 j (decF G i j i j - 1) hjb)
                rw [decF_upd, decF_at] at HSt
                obtain ⟨z, hzz⟩ : ∃ z, G i j = z := ⟨_, rfl⟩
                rw [hzz] at hcell hrg HSt
                have hro : g1 ≠ o := HGj.out.rowNe (by decide) (by rw [gridL_length]; exact hia) HXj.out
                clear hy2 hf2 hst2 hzz hxj hx3 hx4 hg hbl
                go_wp2
                go_roundw
                case rel => exact ⟨j + 1, by omega, by go_num, HSt.out, Hbj.out.setCell (p := ⟨g1, j, none⟩) hB2 _, by simpa [World.setCell] using hz3, (World.cell?_of_block (a := ⟨o, i, none⟩) (Below.heap_setCell wj ⟨g1, j, none⟩ _ o (fun e => hro e.symm))).trans HXj.out⟩
                case measure => simp [intOf]; omega
              · have Hjb := hid (show j = b by omega)
                have hjb' : ¬ (j : Int) < (b : Int) := by omega
                clear hjb hxj hg hbl
                go_wp2
                go_roundw
                case rel => exact ⟨i + 1, by omega, by go_num, by have h := HGj.out; rw [Hjb.out, decF_row] at h; exact h, Hbj.out, hz3⟩
                case measure => simp [intOf]; omega
          · have Hia := hid (show i = a by omega)
            have hia' : ¬ (i : Int) < (a : Int) := by omega
            have HGf : Hid (OwnSS 3 27 W3 w.heap.size w1.heap.size (.slice (some ⟨o, 0, none⟩) a qc) (gridL a b (fun i j => G i j - 1))) := hid (by have h := HGi.out; rw [Hia.out, decF_all] at h; exact h)
            obtain ⟨g2, k2, hx2, hB2, hl2, hy2, hf2, hst2⟩ := HGf.out.gcell (by decide) (by omega) hrl
            have hcell := hy2 c hcl
            have hft := hf2 c
            obtain ⟨n, hn⟩ : ∃ n, a * b = n := ⟨_, rfl⟩
            have hpr := HProd.out
            rw [hn] at hpr hn10
            have HSt := hid (hst2 c ((n : Int) - 1) hcl)
            have HAns2 : Hid (ansPT ls = gridL a b (updF (fun i j => G i j - 1) r c ((n : Int) - 1))) := hid (by rw [HAns.out, ← hn]; unfold proT; rw [HF9.out, ← HR9.out, ← HC9.out])
            obtain ⟨z, hzz⟩ : ∃ z, G r c - 1 = z := ⟨_, rfl⟩
            rw [hzz] at hcell
            clear hia hy2 hf2 hst2 hzz hn
            go_wp2
            go_ret2
            exact ⟨_, ret_vbT HQ0.out.symm, by rw [HAns2.out]; exact HSt.out.mono (by simpa [World.setCell] using hz2), HL.out, Hbi.out.setCell (p := ⟨g2, c, none⟩) hB2 _⟩
end Go.Proofs.Ytbbkoagjplapkaa
