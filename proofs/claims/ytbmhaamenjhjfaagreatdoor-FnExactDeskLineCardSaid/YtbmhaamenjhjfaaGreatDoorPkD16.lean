/- AllOrb Even -/
import Derived.Deep.DeepCutAuto
import Derived.Test.YtbmhaamenjhjfaaGreatDoorPkD15
namespace Go.Proofs.YtbmhaamenjhjfaaGreatDoor
open Go.RowKit Go.WideShapes Go.ChangeShapes
open Go.Maps (Keyed keyOf_int_mk int_keyed)
set_option linter.unusedVariables false
theorem exists_least {S : Nat → Bool} {s : Nat} (hs : S s = true) : ∃ m, S m = true ∧ ∀ t, S t = true → m ≤ t := by
  induction s using Nat.strongRecOn with
  | _ s ih =>
    by_cases h : ∃ t, t < s ∧ S t = true
    · obtain ⟨t, h1, h2⟩ := h
      exact ih t h1 h2
    · refine ⟨s, hs, fun t ht => ?_⟩
      rcases Nat.lt_or_ge t s with h1 | h1
      · exact absurd ⟨t, h1, ht⟩ h
      · exact h1
theorem startsN_stay {f : Nat → Nat} {N : Nat} {ids : List Int} {j : Nat} (d : Nat) (hs : ∀ i, j ≤ i → i < j + d → seenB f N (startsN f N ids j) (ids.getD i 0).toNat = true) : startsN f N ids (j + d) = startsN f N ids j := by
  induction d with
  | zero => rfl
  | succ d ih =>
    have h1 := ih (fun i h2 h3 => hs i h2 (by omega))
    have h2 := hs (j + d) (by omega) (by omega)
    rw [← Nat.add_assoc, startsN_yes (by rw [h1]; exact h2), h1]
theorem starts_next {f : Nat → Nat} {D : Nat → Bool} {N : Nat} (h : Mov f D N) {ids : List Int} (hD : ∀ j, j < ids.length → ∃ s : Nat, ids.getD j 0 = (s : Int) ∧ D s = true) (hall : ∀ t, D t = true → ∃ j, j < ids.length ∧ ids.getD j 0 = (t : Int))
    (hinc : ∀ i j, i < j → j < ids.length → ids.getD i 0 < ids.getD j 0) {j m : Nat} (hj : j ≤ ids.length) (hm : D m = true) (hs : seenB f N (startsN f N ids j) m = false) (hl : ∀ t, D t = true → seenB f N (startsN f N ids j) t = false → m ≤ t) :
    ∃ j', j < j' ∧ j' ≤ ids.length ∧ startsN f N ids j' = startsN f N ids j ++ [m] := by
  obtain ⟨i, hi, hti⟩ := hall m hm
  have hD' : ∀ j, j < ids.length → D (ids.getD j 0).toNat = true := fun k hk => by obtain ⟨s, h1, h2⟩ := hD k hk; rw [h1]; exact h2
  have hji : j ≤ i := by
    rcases Nat.lt_or_ge i j with h1 | h1
    · have := startsN_seen h hD' hj h1
      rw [hti, Int.toNat_natCast, hs] at this; cases this
    · exact h1
  have hst : startsN f N ids i = startsN f N ids j := by
    have := startsN_stay (f := f) (N := N) (ids := ids) (j := j) (i - j) (fun k h1 h2 => by
      have hk : k < i := by omega
      obtain ⟨t, h3, h4⟩ := hD k (by omega)
      rw [h3, Int.toNat_natCast]
      cases hq : seenB f N (startsN f N ids j) t
      · have h5 := hl t h4 hq
        have h6 := hinc k i hk hi
        rw [h3, hti] at h6
        omega
      · rfl)
    rw [show j + (i - j) = i by omega] at this
    exact this
  refine ⟨i + 1, by omega, by omega, ?_⟩
  rw [startsN_no (by rw [hst, hti, Int.toNat_natCast]; exact hs), hst, hti, Int.toNat_natCast]
theorem starts_done {f : Nat → Nat} {D : Nat → Bool} {N : Nat} {ids : List Int} (hD : ∀ j, j < ids.length → ∃ s : Nat, ids.getD j 0 = (s : Int) ∧ D s = true) {j : Nat} (hj : j ≤ ids.length) (hl : ∀ t, D t = true → seenB f N (startsN f N ids j) t = true) :
    startsN f N ids ids.length = startsN f N ids j := by
  have := startsN_stay (f := f) (N := N) (ids := ids) (j := j) (ids.length - j) (fun k h1 h2 => by
    obtain ⟨t, h3, h4⟩ := hD k (by omega)
    rw [h3, Int.toNat_natCast]; exact hl t h4)
  rw [show j + (ids.length - j) = ids.length by omega] at this
  exact this
theorem setsL_inc (g : Nat → Bool) (N i j : Nat) (hij : i < j) (hj : j < (setsL g N).length) : (setsL g N).getD i 0 < (setsL g N).getD j 0 := by
  have hp : (setsL g N).Pairwise (· < ·) := by
    unfold setsL
    rw [List.pairwise_map]
    refine ((List.pairwise_lt_range (n := N)).filter g).imp ?_
    intro a b h; omega
  have h1 := List.pairwise_iff_getElem.1 hp i j (by omega) hj hij
  simpa [List.getD, hj, show i < (setsL g N).length by omega] using h1
theorem setsL_mem {g : Nat → Bool} {N t : Nat} (h1 : t < N) (h2 : g t = true) : ∃ j, j < (setsL g N).length ∧ (setsL g N).getD j 0 = (t : Int) := by
  have hm : (t : Int) ∈ setsL g N := by
    unfold setsL
    exact List.mem_map.2 ⟨t, List.mem_filter.2 ⟨List.mem_range.2 h1, h2⟩, rfl⟩
  obtain ⟨j, hj, he⟩ := List.mem_iff_getElem.1 hm
  exact ⟨j, hj, by simp [List.getD, hj, he]⟩
theorem orbL_contains (f : Nat → Nat) (N s t : Nat) : (orbL f N s).contains (t : Int) = (orbN f N s).contains t := by
  rw [Bool.eq_iff_iff, List.contains_iff_mem, List.contains_iff_mem]
  unfold orbL orbTL orbN
  rw [List.mem_map]
  constructor
  · rintro ⟨x, hx, he⟩
    have : x = t := by omega
    subst this; exact hx
  · intro h; exact ⟨t, h, rfl⟩
def ansAO (xs : List Int) : List (List Int) := if good xs then allXs xs else []
theorem ansAO_no {xs : List Int} (h : good xs = false) : ansAO xs = [] := by simp [ansAO, h]
theorem ansAO_yes {xs : List Int} (h : good xs = true) : ansAO xs = allXs xs := by simp [ansAO, h]
theorem offL_le {ls : List (List Int)} {m : Nat} (h : ∀ j, j < ls.length → (ls.getD j []).length ≤ m) (k : Nat) (hk : k ≤ ls.length) : offL ls k ≤ m * k := by
  induction k with
  | zero => simp [offL]
  | succ k ih =>
    have h1 := ih (by omega)
    have h2 := h k (by omega)
    unfold offL
    rw [Nat.mul_succ]; omega
theorem ansAO_small (xs : List Int) : SSmall (ansAO xs) := by
  cases h : good xs
  · rw [ansAO_no h]; exact ⟨by simp, by simp, by simp [offL]⟩
  · rw [ansAO_yes h]
    have h1 := allXs_length h
    have h2 : ∀ j, j < (allXs xs).length → ((allXs xs).getD j []).length ≤ 1024 := by
      intro j hj
      obtain ⟨s, hs, he⟩ := allXs_row h hj
      rw [he]; exact (orbXs_length h hs).2
    refine ⟨by omega, fun j hj => by have := h2 j hj; omega, ?_⟩
    have h3 := offL_le h2 _ (Nat.le_refl _)
    have h4 : 1024 * (allXs xs).length ≤ 1024 * 1024 := Nat.mul_le_mul_left _ h1
    omega
set_option maxRecDepth 100000 in
set_option maxHeartbeats 3200000 in
theorem implAllOrbits_any (v : Value) (xs : List Int) (w : World) (hv : Ints w v xs) (hl : xs.length ≤ 1048576) :
    Calls Tryz.prog 182 #[.agg #[v]] w fun (r : Ending) w' => ∃ q, r = Ending.returned (.tuple #[q, .bool (good xs)]) ∧ OwnSS 3 22 w' w.heap.size w'.heap.size q (ansAO xs) ∧ SSmall (ansAO xs) ∧ Below w.heap.size w w' := by
  have HV := hid hv
  have HL := hid (ansAO_small xs)
  have hmm := @run_makeMap Tryz.prog
  clear hv
  go_enter Tryz.func182, Tryz.ntmps182
  have HB := hid (below_alloc (Below.refl _ w) (.cells #[v] 28))
  have A0 := hid (At.newAt w v 28 w.heap.size (by simp))
  go_wp2_with fail
  refine (implIdealsOf_any _ xs _ (HV.out.below HB.out) hl).mono ?_
  rintro e w' ⟨q, rfl, ho, hlen, hb⟩
  replace HB := hid (below_to HB.out hb)
  replace A0 := hid (A0.out.below hb)
  clear hb
  cases hq : good xs
  · have HQ := hid hq
    clear hq
    have ebox0 := A0.out.1
    go_wp2
    go_ret2
    exact ⟨_, ret_vb' HQ.out.symm, by rw [ansAO_no HQ.out]; exact OwnSS.nil _ _ _ _ _, HL.out, HB.out⟩
  · have HG := hid hq
    have HM := hid (rowMov hq)
    have hl10 := (good_length hq).2
    have hN2 := two_pow_le xs.length hl10
    obtain ⟨N, hN⟩ : ∃ N, 2 ^ xs.length = N := ⟨_, rfl⟩
    rw [hN] at HM hN2
    obtain ⟨I, hI⟩ : ∃ I, setsL (holdsIdeal xs) N = I := ⟨_, rfl⟩
    have HAns : Hid (ansAO xs = orbsOf (rowmo xs) N (startsN (rowmo xs) N I I.length)) := hid (by
      rw [ansAO_yes hq]
      unfold allXs starts idsXs; rw [hN, hI])
    have HD : Hid (∀ j, j < I.length → ∃ s : Nat, I.getD j 0 = (s : Int) ∧ idB xs s = true) := hid (by
      intro j hj
      rw [← hI] at hj ⊢
      obtain ⟨s, h1, h2, h3⟩ := setsL_bound hj
      exact ⟨s, h1, idB_iff.2 ⟨by rw [hN]; exact h2, h3⟩⟩)
    have HAll : Hid (∀ t, idB xs t = true → ∃ j, j < I.length ∧ I.getD j 0 = (t : Int)) := hid (by
      intro t ht
      rw [← hI]
      obtain ⟨h1, h2⟩ := idB_iff.1 ht
      exact setsL_mem (by rw [← hN]; exact h1) h2)
    have HInc : Hid (∀ i j, i < j → j < I.length → I.getD i 0 < I.getD j 0) := hid (by
      intro i j h1 h2
      rw [← hI] at h2 ⊢
      exact setsL_inc _ _ i j h1 h2)
    have hIN : I.length ≤ N := by rw [← hI]; exact setsL_length _ _
    have ho1 := ho
    rw [idealsL_yes hq, hN, hI] at ho1
    have HI := hid ho1.ints
    have HN := hid hN
    clear ho hlen hq hI ho1 hN
    obtain ⟨iA, ic, rfl, hA⟩ := HI.out
    have HA := hid hA
    obtain ⟨mb, hmb⟩ : ∃ mb, w'.heap.size = mb := ⟨_, rfl⟩
    have HM1 : Hid (MSet (w'.alloc (.map #[] 0)) mb 0 (fun _ => false)) := hid (by rw [← hmb]; exact MSet.made w')
    have HB1 := hid (below_alloc HB.out (.map #[] 0))
    have HBx := hid (A0.out.alloc (.map #[] 0))
    have hwm : w.heap.size < mb := by have := A0.out.2; omega
    have hmz : mb < (w'.alloc (.map #[] 0)).heap.size := by simp; omega
    have hic : Hid (I ≠ [] → ∃ b o, iA = some ⟨b, o, none⟩ ∧ b < mb ∧ ∀ j, j < I.length → (w'.alloc (.map #[] 0)).cell? ⟨b, o + j, none⟩ = some (.int .i64 (I.getD j 0))) := hid (by
      intro hne
      obtain ⟨b, o, h1, h2, h3⟩ := HA.out hne
      exact ⟨b, o, h1, by omega, fun j hj => (((Below.refl _ _).alloc (Nat.le_refl _) _).cell (p := ⟨b, o + j, none⟩) h2).trans (h3 j hj)⟩)
    clear hA HA HI HB A0
    go_wp2
    obtain ⟨W1, hW1⟩ : ∃ W1, w'.alloc (.map #[] 0) = W1 := ⟨_, rfl⟩
    rw [hW1] at HM1 HB1 HBx hmz hic ⊢
    clear hmm hW1 hmb
    go_loopw [21] (fun i wr => ∃ j : Nat, j ≤ I.length ∧ i = .int .i64 j ∧ MSet wr mb j (fun t => (I.take j).contains (t : Int)) ∧ W1.grownBy wr (some mb)) (fun i _ => I.length - (intOf i).toNat)
    case atStart => exact ⟨0, Nat.zero_le _, rfl, HM1.out.congr (fun s => by simp), World.grownBy.refl _ _⟩
    case round =>
      obtain ⟨j, hj, rfl, hm, hg⟩ := hrel
      by_cases hlt : j < I.length
      · obtain ⟨b, o, rfl, hbl, hc⟩ := hic.out (by intro h; simp [h] at hlt)
        obtain ⟨s, hs, hD⟩ := HD.out j hlt
        have hc1 := hc j hlt
        rw [hs] at hc1
        have hcell : wr.cell? ⟨b, o + j, none⟩ = some (.int .i64 (s : Nat)) := hg.cell (a := ⟨b, o + j, none⟩) hc1 (by simp only [ne_eq, Option.some.injEq]; omega)
        have hs10 : s < N := by rw [← HN.out]; exact (idB_iff.1 hD).1
        have HTk := hid (take_contains hlt hs)
        obtain ⟨D, hown, hDD⟩ := hm
        have HDD := hid hDD
        have HG1 := hid hg
        have hjm : j < maxLen := by unfold maxLen; omega
        clear hc hc1 hs hDD hg hD
        go_wp2_with (first
          | (at_mapUpdate; refine wpList_mapUpdate_own _ rfl _ _ _ 230 rfl 3 4 lawInt Tryz.underlying230 _ mb j _ rfl hown hjm _ _ _ rfl rfl (keyOf_int_mk Tryz.underlying3 (WalkArith.wf_i64 (by omega))) _ [] (plainElem_bool Tryz.underlying4 _) ?_; intro w1 hown1 hgrow1; go_frame)
          | go_in)
        go_roundw
        case rel => exact ⟨j + 1, by omega, by go_num, ⟨_, hown1, fun x => by
          rw [has_put hown.isMap HDD.out]
          constructor
          · rintro ⟨t, ht, hS⟩
            refine ⟨t, ht, ?_⟩
            show ((I.take (j + 1)).contains (t : Int)) = true
            rw [HTk.out]; exact hS
          · rintro ⟨t, ht, hS⟩
            refine ⟨t, ht, ?_⟩
            have hS : ((I.take (j + 1)).contains (t : Int)) = true := hS
            rw [HTk.out] at hS; exact hS⟩, grown_trans HG1.out hgrow1⟩
        case measure => simp [intOf]; omega
      · obtain rfl : j = I.length := by omega
        have HMS := hid (hm.congr (S' := fun t => idB xs t && !seenB (rowmo xs) N (startsN (rowmo xs) N I 0) t) (fun t => by
          rw [List.take_length, show seenB (rowmo xs) N (startsN (rowmo xs) N I 0) t = false from rfl, Bool.not_false, Bool.and_true, Bool.eq_iff_iff, List.contains_iff_mem]
          constructor
          · intro h
            obtain ⟨k, hk, he⟩ := List.mem_iff_getElem.1 h
            obtain ⟨s, h1, h2⟩ := HD.out k hk
            have : (s : Int) = (t : Int) := by rw [← h1, ← he]; simp [List.getD, hk]
            have : s = t := by omega
            subst this; exact h2
          · intro h
            obtain ⟨k, hk, he⟩ := HAll.out t h
            rw [← he]
            have : I.getD k 0 = I[k] := by simp [List.getD, hk]
            rw [this]; exact List.getElem_mem hk))
        have HB2 := hid (below_grown HB1.out hg (fun k hk => by simp only [Option.some.injEq] at hk; omega))
        have HBx2 := hid (HBx.out.grown hg (by simp only [ne_eq, Option.some.injEq]; omega))
        clear hm hg hic
        go_wp2
        go_loopw [9] (fun q wi => ∃ (j : Nat) (oA : Option Addr) (oc : Nat), j ≤ I.length ∧ q = .slice oA (startsN (rowmo xs) N I j).length oc ∧ MSet wi mb I.length (fun t => idB xs t && !seenB (rowmo xs) N (startsN (rowmo xs) N I j) t) ∧ OwnSS 3 22 wi (mb + 1) wi.heap.size (.slice oA (startsN (rowmo xs) N I j).length oc) (orbsOf (rowmo xs) N (startsN (rowmo xs) N I j)) ∧ Below w.heap.size w wi ∧ At wi w.heap.size v) (fun q _ => 1025 - lenV q)
        case atStart => exact ⟨0, none, 0, Nat.zero_le _, rfl, HMS.out, OwnSS.nil _ _ _ _ _, HB2.out, HBx2.out⟩
        case round =>
          obtain ⟨j, oA, oc, hj, rfl, hm, hq, hb, ha⟩ := hrel
          have HQ := hid hq
          have HB3 := hid hb
          have HA3 := hid ha
          have HMS3 := hid hm
          have hlj := startsN_length (rowmo xs) N I j
          obtain ⟨st, hst⟩ : ∃ st, startsN (rowmo xs) N I j = st := ⟨_, rfl⟩
          have HSt := hid hst
          rw [hst] at hm HQ HMS3 hlj
          rw [hst]
          obtain ⟨n, hn⟩ : ∃ n, st.length = n := ⟨_, rfl⟩
          have HNl := hid hn
          rw [hn] at HQ hlj
          rw [hn]
          obtain ⟨D, hown, hDD⟩ := hm
          have hmw : mb < wr.heap.size := hown.lt
          clear hq hb ha hst hn
          by_cases hsz : 0 < Maps.size D
          · obtain ⟨x, hx⟩ := size_pos hown hsz
            obtain ⟨s, -, hS⟩ := (hDD x).1 hx
            obtain ⟨m, hm1, hm2⟩ := exists_least (S := fun t => idB xs t && !seenB (rowmo xs) N st t) hS
            have hmI : idB xs m = true ∧ seenB (rowmo xs) N st m = false := by
              have : (idB xs m && !seenB (rowmo xs) N st m) = true := hm1
              simpa using this
            have hm10 : m < 1024 := by have := (idB_iff.1 hmI.1).1; rw [HN.out] at this; omega
            have hnx := starts_next HM.out HD.out HAll.out HInc.out hj hmI.1 (by rw [HSt.out]; exact hmI.2) (fun t h1 h2 => hm2 t (by rw [HSt.out] at h2; simp [h1, h2]))
            obtain ⟨j', hj1, hj2, hj3⟩ := hnx
            have HNx : Hid (startsN (rowmo xs) N I j' = st ++ [m]) := hid (by rw [hj3, HSt.out])
            have HMI := hid hmI.1
            have HM1' := hid hm1
            have HM2' := hid hm2
            have HOL := hid (orbXs_length HG.out hmI.1)
            have HOA := hid (orbXs_at HG.out hmI.1)
            have hnl : n + 1 ≤ 1024 := by
              have := startsN_length (rowmo xs) N I j'
              rw [HNx.out, List.length_append, HNl.out] at this
              simp at this; omega
            have hszI : (0 : Int) < (Maps.size D : Int) := by omega
            clear hx hDD hS hm1 hm2 hmI hj3
            have hbx := HA3.out.1
            go_upto_region 12 with (first
              | (at_len; refine wpList_len_own _ rfl _ 230 rfl 3 4 Tryz.underlying230 _ mb _ D rfl hown ?_)
              | fail)
            go_cut [10] (fun s10 wx => ∃ (uA : Option Addr) (un uc : Nat), s10 = .slice uA un uc ∧ OwnI 3 wx wr.heap.size (.slice uA un uc) (orbXs xs m) ∧ Below wr.heap.size wr wx)
            case first =>
              go_region_with (first | (go_at_call 213; refine (least_any mb I.length m (fun t => idB xs t && !seenB (rowmo xs) N st t) _ HMS3.out.drew HM1'.out HM2'.out hm10).mono ?_; rintro e w3 ⟨rfl, hb3⟩; have H3 := hid (below_to (Below.refl _ wr).drew hb3); have hbx3 := (HA3.out.drew.below hb3).1; clear hb3) | (go_at_call 176; refine (orbitRow_any _ xs m _ ((HV.out.below HB3.out).below H3.out) HG.out HMI.out).mono ?_; rintro e w4 ⟨u, rfl, ho4, hb4⟩; have H4 := hid (below_to H3.out hb4); have HO4 := hid (ho4.mono H3.out.size); obtain ⟨uA, un, uc, rfl⟩ := ho4.shape3; clear hb4 ho4))
              all_goals (go_wp2_with fail; go_meet; exact ⟨uA, un, uc, rfl, HO4.out, H4.out⟩)
            case rest =>
              obtain ⟨uA, un, uc, rfl, hu, hb5⟩ := hcut
              clear hbx hszI
              have HQ5 := hid (HQ.out.below hb5)
              have HB5 := hid (below_to HB3.out hb5)
              have HA5 := hid (HA3.out.below hb5)
              have HMS5 := hid (HMS3.out.below hb5)
              have HU5 := hid hu
              have HUB := hid hu.blockLt
              have hz5 : wr.heap.size ≤ wc.heap.size := hb5.size
              have HOl2 := hid (show (orbXs xs m).length ≤ 1048576 by have := HOL.out; omega)
              clear hu hb5
              go_wp2_with fail
              refine (remove_any mb I.length (fun t => idB xs t && !seenB (rowmo xs) N st t) _ (orbXs xs m) _ HMS5.out HU5.out.ints HOl2.out HOA.out).mono ?_
              rintro e w6 ⟨rfl, hms6, hg6⟩
              have ht6 : TurnedIn mb (mb + 1) wc w6 := TurnedIn.of_grown hg6 (fun k hk => by simp only [Option.some.injEq] at hk; omega)
              have HQ6 := hid (HQ5.out.turned ht6 (.inr (Nat.le_refl _)))
              have HB6 := hid (below_turned HB5.out ht6 (Nat.le_of_lt hwm))
              have HA6 := hid (HA5.out.turned ht6 (.inl hwm))
              have HU6 := hid (OwnI.mono (HU5.out.turned ht6 HUB.out (.inr (by omega))) (B' := mb + 1) (by omega))
              have hz6 : wc.heap.size ≤ w6.heap.size := ht6.size
              have HMS6 := hid (hms6.congr (S' := fun t => idB xs t && !seenB (rowmo xs) N (startsN (rowmo xs) N I j') t) (fun t => by
                rw [HNx.out, seenB_snoc]
                have e1 : (orbXs xs m).contains (t : Int) = (orbN (rowmo xs) N m).contains t := by unfold orbXs; rw [HN.out]; exact orbL_contains _ _ _ _
                rw [e1]
                cases idB xs t <;> cases seenB (rowmo xs) N st t <;> cases (orbN (rowmo xs) N m).contains t <;> rfl))
              have hlen48 : (orbsOf (rowmo xs) N st).length < 1048576 := by rw [orbsOf_length, HNl.out]; omega
              have HEq : Hid (orbsOf (rowmo xs) N (startsN (rowmo xs) N I j') = orbsOf (rowmo xs) N st ++ [orbXs xs m]) := hid (by rw [HNx.out, orbsOf_snoc]; unfold orbXs; rw [HN.out])
              have HLj : Hid ((startsN (rowmo xs) N I j').length = n + 1) := hid (by rw [HNx.out, List.length_append, HNl.out]; rfl)
              clear hms6 hg6 ht6
              go_wp2_with (at_builtin; refine wpList_append_row rfl _ _ 163 22 3 rfl Tryz.underlying163 Tryz.info22 (by decide) (mb + 1) wr.heap.size _ _ _ _ rfl HQ6.out HU6.out (fun k hk => (HUB.out k hk).1) rfl rfl hlen48 (by omega) (by omega) ?_; rintro q2 w8 ho8 hb8; obtain ⟨qA, qn, qc, rfl⟩ := ho8.shape3)
              have hqn : qn = n + 1 := by
                obtain ⟨A', c', hsh, -⟩ := ho8.rows
                injection hsh with _ e2 _
                rw [e2, List.length_append, orbsOf_length, HNl.out]; rfl
              subst hqn
              go_roundw
              case rel => exact ⟨j', qA, qc, hj2, (by rw [HLj.out]), HMS6.out.belowB hb8 (Nat.lt_succ_self _), (by rw [HLj.out, HEq.out]; exact ho8), below_to2 HB6.out hb8 (by omega), HA6.out.belowB hb8 (by omega)⟩
              case measure => simp [lenV]; omega
          · have HDone : Hid (startsN (rowmo xs) N I I.length = st) := hid (by
              rw [← HSt.out]
              refine starts_done HD.out hj (fun t ht => ?_)
              rw [HSt.out]
              cases hq : seenB (rowmo xs) N st t
              · exact absurd (pos_of_has hown.isMap ((hDD t).2 ⟨t, rfl, by show (idB xs t && !seenB (rowmo xs) N st t) = true; rw [ht, hq]; rfl⟩)) hsz
              · rfl)
            have hszI : ¬ (0 : Int) < (Maps.size D : Int) := by omega
            clear hDD hsz
            go_wp2_with (first
              | (at_len; refine wpList_len_own _ rfl _ 230 rfl 3 4 Tryz.underlying230 _ mb _ D rfl hown ?_)
              | fail)
            go_ret2
            exact ⟨_, ret_vb' HG.out.symm, (by rw [HAns.out, HDone.out]; exact HQ.out.monoB (by omega)), HL.out, HB3.out⟩
end Go.Proofs.YtbmhaamenjhjfaaGreatDoor
namespace Go.Proofs.YtbmhaamenjhjfaaGreatDoor
open Go.RowKit Go.WideShapes Go.ChangeShapes
set_option linter.unusedVariables false
def evenAt (g : Nat → Nat) (ls : List (List Int)) (j : Nat) : Bool := decide (sumLN g (ls.getD j []) * (ls.getD 0 []).length = sumLN g (ls.getD 0 []) * (ls.getD j []).length)
def evenL (g : Nat → Nat) (ls : List (List Int)) : Bool := (List.range ls.length).all (evenAt g ls)
theorem evenL_no {g : Nat → Nat} {ls : List (List Int)} {j : Nat} (hj : j < ls.length) (h : evenAt g ls j = false) : evenL g ls = false := by
  cases hc : evenL g ls
  · rfl
  · rw [List.all_eq_true.1 hc j (List.mem_range.2 hj)] at h; cases h
theorem evenL_yes {g : Nat → Nat} {ls : List (List Int)} (h : ∀ j, j < ls.length → evenAt g ls j = true) : evenL g ls = true :=
  List.all_eq_true.2 fun j hj => h j (List.mem_range.1 hj)
structure Rows10 (ls : List (List Int)) : Prop where
  pos : 0 < ls.length
  le : ls.length ≤ 1024
  row : ∀ j, j < ls.length → (ls.getD j []).length ≤ 1024
  at_ : ∀ j, j < ls.length → ∀ i, i < (ls.getD j []).length → ∃ s : Nat, (ls.getD j []).getD i 0 = (s : Int) ∧ s < 1024
theorem allXs_rows {xs : List Int} (hg : good xs = true) : Rows10 (allXs xs) where
  pos := by
    rcases Nat.eq_zero_or_pos (allXs xs).length with h | h
    · exfalso
      unfold allXs at h
      rw [orbsOf_length] at h
      have h0 := (idsXs_length hg).1
      have h1 := startsN_seen (rowMov hg) (idsXs_D xs) (Nat.le_refl _) (show 0 < (idsXs xs).length by omega)
      have h2 : startsN (rowmo xs) (2 ^ xs.length) (idsXs xs) (idsXs xs).length = [] := List.eq_nil_of_length_eq_zero h
      rw [h2] at h1
      cases h1
    · exact h
  le := allXs_length hg
  row := fun j hj => by obtain ⟨s, h1, h2⟩ := allXs_row hg hj; rw [h2]; exact (orbXs_length hg h1).2
  at_ := fun j hj i hi => by obtain ⟨s, h1, h2⟩ := allXs_row hg hj; rw [h2] at hi ⊢; exact orbXs_at hg h1 i hi
theorem prod_le {a b : Nat} (ha : a ≤ 10240) (hb : b ≤ 1024) : a * b ≤ 10485760 := Nat.le_trans (Nat.mul_le_mul ha hb) (by omega)
set_option maxHeartbeats 1600000 in
theorem haveOneMeanSize_any (u : Value) (ls : List (List Int)) (g : Nat → Nat) (w : World) (hu : IntsSS w u ls) (hr : Rows10 ls) (h10 : ∀ s, g s ≤ 10)
    (hF : ∀ (s : Nat) (W : World), s < 1024 → Below w.heap.size w W → Calls Tryz.prog 175 #[.int .i64 s] W fun r W' => r = .returned (.int .i64 (g s : Nat)) ∧ Below W.heap.size W W') :
    Calls Tryz.prog 183 #[u, .func (.func 175) #[] #[]] w fun r w' => r = .returned (.bool (evenL g ls)) ∧ Below w.heap.size w w' := by
  have HF := hid hF
  have HR := hid hr
  have H10 := hid h10
  obtain ⟨A, c, rfl, hA⟩ := hu
  have HA := hid hA
  obtain ⟨b, o, u0, rfl, hbl, hc0, hi0⟩ := hA 0 hr.pos
  have hp := hr.pos
  have hle := hr.le
  have HI0 := hid hi0
  have h00 := hr.row 0 hr.pos
  have hs0 := sumTo_le h10 (ls.getD 0 []) (ls.getD 0 []).length
  obtain ⟨uA, uc, rfl, -⟩ := hi0
  have HEv : Hid (∀ j, evenAt g ls j = decide (sumLN g (ls.getD j []) * (ls.getD 0 []).length = sumTo g (ls.getD 0 []) (ls.getD 0 []).length * (ls.getD j []).length)) := hid (fun j => rfl)
  have HSum0 := hid (sumOverSize_any (.slice uA (ls.getD 0 []).length uc) (ls.getD 0 []) g (· < 1024) w HI0.out h00 (hr.at_ 0 hr.pos) h10 hF)
  obtain ⟨n0, hn0⟩ : ∃ n, (ls.getD 0 []).length = n := ⟨_, rfl⟩
  obtain ⟨S0, hS0⟩ : ∃ S, sumTo g (ls.getD 0 []) (ls.getD 0 []).length = S := ⟨_, rfl⟩
  rw [hS0] at HEv HSum0 hs0
  rw [hn0] at HEv HSum0 hs0 h00 hc0
  have hcell0 : w.cell? ⟨b, o, none⟩ = some (.slice uA n0 uc) := by simpa using hc0
  have hp2 : (0 : Int) < (ls.length : Int) := by omega
  clear hA hF hr h10 hn0 hS0 HI0 hc0
  go_enter Tryz.func183, Tryz.ntmps183
  go_wp2_with fail
  clear hcell0
  refine HSum0.out.mono ?_
  rintro e w1 ⟨rfl, hb1⟩
  have HB := hid hb1
  clear hb1
  go_wp2
  go_loopw [17] (fun i wr => ∃ j : Nat, j ≤ ls.length ∧ i = .int .i64 j ∧ Hid (∀ k, k < j → evenAt g ls k = true) ∧ Below w.heap.size w wr) (fun i _ => ls.length - (intOf i).toNat)
  case atStart => exact ⟨0, Nat.zero_le _, rfl, hid (fun k hk => absurd hk (Nat.not_lt_zero _)), HB.out⟩
  case round =>
    obtain ⟨j, hj, rfl, HE, hb⟩ := hrel
    have HB1 := hid hb
    by_cases hlt : j < ls.length
    · obtain ⟨b', o', uj, hsh, hbl', hcj, hij⟩ := HA.out j hlt
      obtain ⟨rfl, rfl⟩ : b = b' ∧ o = o' := by cases hsh; exact ⟨rfl, rfl⟩
      have hcell := (hb.cell (p := ⟨b, o + j, none⟩) hbl).trans hcj
      have HIj := hid (hij.below hb)
      obtain ⟨jA, jc, rfl, -⟩ := hij
      have hrj := HR.out.row j hlt
      have hsj := sumTo_le H10.out (ls.getD j []) (ls.getD j []).length
      have HEj := hid (HEv.out j)
      have HSum := hid (sumOverSize_any (.slice jA (ls.getD j []).length jc) (ls.getD j []) g (· < 1024) wr HIj.out hrj (HR.out.at_ j hlt) H10.out (fun s W hs hW => HF.out s W hs (below_to hb hW)))
      have HEj2 : Hid (evenAt g ls j = decide (sumTo g (ls.getD j []) (ls.getD j []).length * n0 = S0 * (ls.getD j []).length)) := HEj
      obtain ⟨nj, hnj⟩ : ∃ n, (ls.getD j []).length = n := ⟨_, rfl⟩
      obtain ⟨Sj, hSj⟩ : ∃ S, sumTo g (ls.getD j []) (ls.getD j []).length = S := ⟨_, rfl⟩
      rw [hSj] at HEj2 HSum hsj
      rw [hnj] at HEj2 HSum hsj hrj hcell
      have hq1 := prod_le (a := Sj) (b := n0) (by omega) h00
      have hq2 := prod_le (a := S0) (b := nj) (by omega) hrj
      obtain ⟨p1, hp1⟩ : ∃ p, Sj * n0 = p := ⟨_, rfl⟩
      obtain ⟨p2, hp2'⟩ : ∃ p, S0 * nj = p := ⟨_, rfl⟩
      have hm1 : ((Sj : Int) * (n0 : Int)) = (p1 : Int) := by rw [← hp1]; simp
      have hm2 : ((S0 : Int) * (nj : Int)) = (p2 : Int) := by rw [← hp2']; simp
      rw [hp1] at HEj2 hq1
      rw [hp2'] at HEj2 hq2
      have HM1 := hid hm1
      have HM2 := hid hm2
      clear hb hcj hnj hSj hp1 hp2' hsh HEj hm1 hm2
      by_cases hpp : p1 = p2
      · have HT : Hid (evenAt g ls j = true) := hid (by rw [HEj2.out]; simp [hpp])
        subst hpp
        go_wp2_with fail
        clear hcell
        refine HSum.out.mono ?_
        rintro e' w3 ⟨rfl, hb3⟩
        have HB3 := hid (below_to HB1.out hb3)
        clear hb3
        have hm1 := HM1.out
        have hm2 := HM2.out
        go_wp2
        clear hm1 hm2
        go_roundw
        case rel => exact ⟨j + 1, by omega, by go_num, hid (fun k hk => by
          by_cases h : k = j
          · subst h; exact HT.out
          · exact HE.out k (by omega)), HB3.out⟩
        case measure => simp [intOf]; omega
      · have HT := hid (evenL_no hlt (show evenAt g ls j = false by rw [HEj2.out]; simp [hpp]))
        have hne : ¬ (p1 : Int) = (p2 : Int) := by omega
        clear hpp
        go_wp2_with fail
        clear hcell
        refine HSum.out.mono ?_
        rintro e' w3 ⟨rfl, hb3⟩
        have HB3 := hid (below_to HB1.out hb3)
        clear hb3
        have hm1 := HM1.out
        have hm2 := HM2.out
        go_wp2
        go_ret
        exact ⟨ret_bool HT.out.symm, HB3.out⟩
    · obtain rfl : j = ls.length := by omega
      have HT := hid (evenL_yes HE.out)
      clear hb
      go_wp2
      go_ret
      exact ⟨ret_bool HT.out.symm, HB1.out⟩
set_option maxHeartbeats 1600000 in
theorem obEvenF_any (v : Value) (xs : List Int) (w : World) (hv : Ints w v xs) (hg : good xs = true) :
    Calls Tryz.prog 93 #[.agg #[v], .bool false] w fun r w' => r = .returned (.bool (evenL (pc) (allXs xs))) ∧ Below w.heap.size w w' := by
  have HV := hid hv
  have HG := hid hg
  have HR := hid (allXs_rows hg)
  clear hv hg
  go_enter Tryz.func93, Tryz.ntmps93
  have HB := hid (below_alloc (Below.refl _ w) (.cells #[v] 28))
  have A0 := hid (At.newAt w v 28 w.heap.size (by simp))
  go_wp2_with fail
  refine (obAll_any _ xs _ (HV.out.below HB.out) HG.out).mono ?_
  rintro e w' ⟨q, rfl, ho, hb⟩
  replace HB := hid (below_to HB.out hb)
  replace A0 := hid (A0.out.below hb)
  clear hb
  have HI := hid ho.ints
  obtain ⟨ls, hls⟩ : ∃ ls, allXs xs = ls := ⟨_, rfl⟩
  have HEnd : Hid (evenL (pc) (allXs xs) = evenL (pc) ls) := hid (by rw [hls])
  rw [hls] at HI HR
  obtain ⟨A, c, rfl, hA⟩ := HI.out
  have HA := hid hA
  obtain ⟨b, o, u0, rfl, hbl, hc0, hi0⟩ := hA 0 HR.out.pos
  have hp := HR.out.pos
  have hle := HR.out.le
  have HI0 := hid hi0
  have h00 := HR.out.row 0 HR.out.pos
  have hs0 := sumTo_le pc_le (ls.getD 0 []) (ls.getD 0 []).length
  obtain ⟨uA, uc, rfl, -⟩ := hi0
  have HEv : Hid (∀ j, evenAt (pc) ls j = decide (sumLN (pc) (ls.getD j []) * (ls.getD 0 []).length = sumTo (pc) (ls.getD 0 []) (ls.getD 0 []).length * (ls.getD j []).length)) := hid (fun j => rfl)
  have HSum0 := hid (fun W hW => obSumF_any v (.slice uA (ls.getD 0 []).length uc) xs (ls.getD 0 []) W (HV.out.below (below_to HB.out hW)) HG.out (HI0.out.below hW) h00 (HR.out.at_ 0 HR.out.pos))
  obtain ⟨n0, hn0⟩ : ∃ n, (ls.getD 0 []).length = n := ⟨_, rfl⟩
  obtain ⟨S0, hS0⟩ : ∃ S, sumTo (pc) (ls.getD 0 []) (ls.getD 0 []).length = S := ⟨_, rfl⟩
  rw [hS0] at HEv HSum0 hs0
  rw [hn0] at HEv HSum0 hs0 h00 hc0
  have hcell0 : w'.cell? ⟨b, o, none⟩ = some (.slice uA n0 uc) := by simpa using hc0
  have HC0 := hid hcell0
  have hp2 : (0 : Int) < (ls.length : Int) := by omega
  have hbx := A0.out.1
  clear hA hn0 hS0 HI0 hc0 HI ho hls
  go_upto_region 2 with fail
  go_cut [6] (fun s6 wx => s6 = .int .i64 ((S0 : Nat) : Int) ∧ Below w'.heap.size w' wx)
  case first =>
    go_region_with (first | (go_at_call 145; refine (HSum0.out _ (Below.refl _ _).drew).mono ?_; rintro e' w2 ⟨rfl, hb2⟩; have H2 := hid (below_to (Below.refl _ w').drew hb2); clear hb2))
    all_goals (go_wp2_with fail; go_meet; exact ⟨rfl, H2.out⟩)
  case rest =>
    obtain ⟨rfl, hbc⟩ := hcut
    clear hbx hcell0
    have HBC := hid hbc
    have HA0 := hid (A0.out.below hbc)
    clear hbc
    go_wp2
    go_loopw [19] (fun i wr => ∃ j : Nat, j ≤ ls.length ∧ i = .int .i64 j ∧ Hid (∀ k, k < j → evenAt (pc) ls k = true) ∧ Below w'.heap.size w' wr) (fun i _ => ls.length - (intOf i).toNat)
    case atStart => exact ⟨0, Nat.zero_le _, rfl, hid (fun k hk => absurd hk (Nat.not_lt_zero _)), HBC.out⟩
    case round =>
      obtain ⟨j, hj, rfl, HE, hb⟩ := hrel
      have HB1 := hid hb
      by_cases hlt : j < ls.length
      · obtain ⟨b', o', uj, hsh, hbl', hcj, hij⟩ := HA.out j hlt
        obtain ⟨rfl, rfl⟩ : b = b' ∧ o = o' := by cases hsh; exact ⟨rfl, rfl⟩
        have hcell := (hb.cell (p := ⟨b, o + j, none⟩) hbl).trans hcj
        have hcell0 := (hb.cell (p := ⟨b, o, none⟩) hbl).trans HC0.out
        have hbx := (A0.out.below hb).1
        have HIj := hid hij
        obtain ⟨jA, jc, rfl, -⟩ := hij
        have hrj := HR.out.row j hlt
        have hsj := sumTo_le pc_le (ls.getD j []) (ls.getD j []).length
        have HEj2 : Hid (evenAt (pc) ls j = decide (sumTo (pc) (ls.getD j []) (ls.getD j []).length * n0 = S0 * (ls.getD j []).length)) := hid (HEv.out j)
        have HSum := hid (fun W hW => obSumF_any v (.slice jA (ls.getD j []).length jc) xs (ls.getD j []) W (HV.out.below (below_to HB.out hW)) HG.out (HIj.out.below hW) hrj (HR.out.at_ j hlt))
        obtain ⟨nj, hnj⟩ : ∃ n, (ls.getD j []).length = n := ⟨_, rfl⟩
        obtain ⟨Sj, hSj⟩ : ∃ S, sumTo (pc) (ls.getD j []) (ls.getD j []).length = S := ⟨_, rfl⟩
        rw [hSj] at HEj2 HSum hsj
        rw [hnj] at HEj2 HSum hsj hrj hcell
        have hq1 := prod_le (a := Sj) (b := n0) (by omega) h00
        have hq2 := prod_le (a := S0) (b := nj) (by omega) hrj
        obtain ⟨p1, hp1⟩ : ∃ p, Sj * n0 = p := ⟨_, rfl⟩
        obtain ⟨p2, hp2'⟩ : ∃ p, S0 * nj = p := ⟨_, rfl⟩
        have hm1 : ((Sj : Int) * (n0 : Int)) = (p1 : Int) := by rw [← hp1]; simp
        have hm2 : ((S0 : Int) * (nj : Int)) = (p2 : Int) := by rw [← hp2']; simp
        rw [hp1] at HEj2 hq1
        rw [hp2'] at HEj2 hq2
        have HM1 := hid hm1
        have HM2 := hid hm2
        have hw1 : IntKind.i64.wrap (p1 : Int) = (p1 : Int) := IntWalk.i64_in _ (by omega)
        have hw2 : IntKind.i64.wrap (p2 : Int) = (p2 : Int) := IntWalk.i64_in _ (by omega)
        have HW1 := hid hw1
        have HW2 := hid hw2
        have HNE : Hid (p1 ≠ p2 → ¬ (p1 : Int) = (p2 : Int)) := hid (fun h => by omega)
        clear hb hcj hnj hSj hp1 hp2' hsh hm1 hm2 hw1 hw2
        go_upto_region 6 with fail
        go_cut [36] (fun s36 wx => s36 = .bool (!decide (p1 = p2)) ∧ Below wr.heap.size wr wx)
        case first =>
          have hm1 := HM1.out
          have hm2 := HM2.out
          have hw1 := HW1.out
          have hw2 := HW2.out
          by_cases hpp : p1 = p2
          · subst hpp
            go_region_with (first | (go_at_call 145; refine (HSum.out _ HB1.out.drew).mono ?_; rintro e' w3 ⟨rfl, hb3⟩; have H3 := hid (below_to (Below.refl _ wr).drew hb3); have hbx3 := ((A0.out.below HB1.out).drew.below hb3).1; have hc03 := ((below_to HB1.out H3.out).cell (p := ⟨b, o, none⟩) hbl).trans HC0.out; clear hb3))
            all_goals (go_wp2_with fail; go_meet; exact ⟨by simp, H3.out⟩)
          · have hne := HNE.out hpp
            go_region_with (first | (go_at_call 145; refine (HSum.out _ HB1.out.drew).mono ?_; rintro e' w3 ⟨rfl, hb3⟩; have H3 := hid (below_to (Below.refl _ wr).drew hb3); have hbx3 := ((A0.out.below HB1.out).drew.below hb3).1; have hc03 := ((below_to HB1.out H3.out).cell (p := ⟨b, o, none⟩) hbl).trans HC0.out; clear hb3))
            all_goals (go_wp2_with fail; go_meet; exact ⟨by simp [hpp, hne], H3.out⟩)
        case rest =>
          obtain ⟨rfl, hbc⟩ := hcut
          have HB3 := hid (below_to HB1.out hbc)
          clear hcell hcell0 hbx hbc
          by_cases hpp : p1 = p2
          · have HT : Hid (evenAt (pc) ls j = true) := hid (by rw [HEj2.out]; simp [hpp])
            have hdc : (!decide (p1 = p2)) = false := by simp [hpp]
            rw [hdc]
            clear hdc hpp
            go_wp2
            go_roundw
            case rel => exact ⟨j + 1, by omega, by go_num, hid (fun k hk => by
              by_cases h : k = j
              · subst h; exact HT.out
              · exact HE.out k (by omega)), HB3.out⟩
            case measure => simp [intOf]; omega
          · have HT := hid (evenL_no hlt (show evenAt (pc) ls j = false by rw [HEj2.out]; simp [hpp]))
            have hdc : (!decide (p1 = p2)) = true := by simp [hpp]
            rw [hdc]
            clear hdc hpp
            go_wp2
            go_ret
            exact ⟨ret_bool (HEnd.out.trans HT.out).symm, below_to HB.out HB3.out⟩
      · obtain rfl : j = ls.length := by omega
        have HT := hid (evenL_yes HE.out)
        clear hb
        go_wp2
        go_ret
        exact ⟨ret_bool (HEnd.out.trans HT.out).symm, below_to HB.out HB1.out⟩
theorem ret_bb3 {a b c d : Bool} (h : a = c) (k : b = d) : Ending.returned (.tuple #[.bool a, .bool b]) = .returned (.tuple #[.bool c, .bool d]) := by rw [h, k]
def ansSizeIsEven (xs : List Int) : Bool := good xs && evenL (pc) (allXs xs)
theorem ansSizeIsEven_no {xs : List Int} (h : good xs = false) : ansSizeIsEven xs = false := by simp [ansSizeIsEven, h]
theorem ansSizeIsEven_yes {xs : List Int} (h : good xs = true) : ansSizeIsEven xs = evenL (pc) (allXs xs) := by simp [ansSizeIsEven, h]
set_option maxHeartbeats 800000 in
theorem implSizeIsEven_any (v : Value) (xs : List Int) (w : World) (hv : Ints w v xs) (hl : xs.length ≤ 1048576) :
    Calls Tryz.prog 125 #[.agg #[v]] w fun r w' => r = .returned (.tuple #[.bool (ansSizeIsEven xs), .bool (good xs)]) ∧ Below w.heap.size w w' := by
  have HV := hid hv
  clear hv
  go_enter Tryz.func125, Tryz.ntmps125
  have HB := hid (below_alloc (Below.refl _ w) (.cells #[v] 28))
  have A0 := hid (At.newAt w v 28 w.heap.size (by simp))
  go_wp2_with fail
  refine (implAllOrbits_any _ xs _ (HV.out.below HB.out) hl).mono ?_
  rintro e w' ⟨q, rfl, ho, hss, hb⟩
  replace HB := hid (below_to HB.out hb)
  replace A0 := hid (A0.out.below hb)
  clear hb
  have HI := hid ho.ints
  clear ho hss
  cases hq : good xs
  · have HO := hid (ansSizeIsEven_no hq)
    have HQ := hid hq
    clear hq
    have ebox0 := A0.out.1
    go_wp2
    go_ret2
    exact ⟨ret_bb3 HO.out.symm HQ.out.symm, HB.out⟩
  · have HO := hid (ansSizeIsEven_yes hq)
    have HQ := hid hq
    have HR := hid (allXs_rows hq)
    have hl10 := (good_length hq).2
    rw [ansAO_yes hq] at HI
    clear hq
    have ebox0 := A0.out.1
    go_wp2_with fail
    clear ebox0
    refine (haveOneMeanSize_any _ (allXs xs) (pc) _ HI.out HR.out pc_le (fun s W hs hb => (sizeOf_any s W hs).mono fun _ _ ⟨h1, h2⟩ => ⟨h1, h2 ▸ Below.refl _ _⟩)).mono ?_
    rintro e w' ⟨rfl, hb⟩
    replace HB := hid (below_to HB.out hb)
    replace A0 := hid (A0.out.below hb)
    replace HI := hid (HI.out.below hb)
    clear hb
    have ebox0 := A0.out.1
    go_wp2
    go_ret2
    exact ⟨ret_bb3 HO.out.symm HQ.out.symm, HB.out⟩
end Go.Proofs.YtbmhaamenjhjfaaGreatDoor
