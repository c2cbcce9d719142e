/- LabelsOfIdeals, both sides. -/
import Derived.Test.YteaeeinfjhhhoaaLabI
namespace Go.Proofs.Yteaeeinfjhhhoaa
open Go.RowKit Go.WideShapes Go.ChangeShapes
set_option linter.unusedVariables false

/-- the set before the k-th one -/
def lastN (ss : List Int) (k : Nat) : Nat := if k = 0 then 0 else (ss.getD (k - 1) 0).toNat
def stepB (xs ss : List Int) (k : Nat) : Bool := okIdeal xs (ss.getD k 0) && (sub (lastN ss k) (ss.getD k 0).toNat == 0)
/-- are the sets ideals, each part of the next one, and at most twelve? -/
def liB (xs ss : List Int) : Bool := okBd xs ss.length && (List.range ss.length).all (stepB xs ss)
/-- how many of the first k sets do not have e -/
def outsN (ss : List Int) (e : Nat) : Nat → Nat
  | 0 => 0
  | k + 1 => if (ss.getD k 0).toNat.testBit e then outsN ss e k else outsN ss e k + 1
theorem outsN_le (ss : List Int) (e k : Nat) : outsN ss e k ≤ k := by
  induction k with
  | zero => exact Nat.le_refl _
  | succ k ih => rw [outsN]; split <;> omega
def ansLI (xs ss : List Int) : List Int := if liB xs ss then mkL xs.length (fun e => outsN ss e ss.length) else []
theorem liB_no1 {xs ss : List Int} (h : okBd xs ss.length = false) : liB xs ss = false := by simp [liB, h]
theorem liB_no2 {xs ss : List Int} {k : Nat} (hk : k < ss.length) (h : stepB xs ss k = false) : liB xs ss = false := by
  cases hc : liB xs ss
  · rfl
  · simp only [liB, Bool.and_eq_true] at hc
    have := List.all_eq_true.1 hc.2 k (List.mem_range.2 hk)
    rw [h] at this; cases this
theorem liB_yes {xs ss : List Int} (h : okBd xs ss.length = true) (hk : ∀ k, k < ss.length → stepB xs ss k = true) : liB xs ss = true := by
  simp only [liB, Bool.and_eq_true]
  exact ⟨h, List.all_eq_true.2 fun k hk' => hk k (List.mem_range.1 hk')⟩
theorem stepB_no1 {xs ss : List Int} {k : Nat} (h : okIdeal xs (ss.getD k 0) = false) : stepB xs ss k = false := by unfold stepB; rw [h]; rfl
theorem stepB_yes {xs ss : List Int} {k : Nat} (h : okIdeal xs (ss.getD k 0) = true) (h2 : sub (lastN ss k) (ss.getD k 0).toNat = 0) : stepB xs ss k = true := by unfold stepB; rw [h, h2]; rfl
theorem stepB_no2 {xs ss : List Int} {k : Nat} (h2 : sub (lastN ss k) (ss.getD k 0).toNat ≠ 0) : stepB xs ss k = false := by unfold stepB; rw [beq_eq_false_iff_ne.2 h2, Bool.and_false]
theorem ansLI_no {xs ss : List Int} (h : liB xs ss = false) : ansLI xs ss = [] := by simp [ansLI, h]
theorem ansLI_yes {xs ss : List Int} (h : liB xs ss = true) : ansLI xs ss = mkL xs.length (fun e => outsN ss e ss.length) := by simp [ansLI, h]
theorem ansLI_length (xs ss : List Int) : (ansLI xs ss).length ≤ 1048576 := by
  cases h : liB xs ss
  · rw [ansLI_no h]; simp
  · rw [ansLI_yes h, mkL_length]
    simp only [liB, Bool.and_eq_true] at h
    have := good_length (okBd_all h.1).1
    omega
theorem sub_zero_part (s : Nat) : sub 0 s = 0 := by simp [sub]
theorem isPart_any (s t : Nat) (w : World) (hs : s < 1024) (ht : t < 1024) : Calls Try.prog 43 #[.int .i64 s, .int .i64 t] w fun r w' => r = .returned (.bool (sub s t == 0)) ∧ w = w' := by
  have hb := i64_andNot_nat s t (by omega) (by omega)
  go_enter Try.func43, Try.ntmps43
  go_wp2
  go_ret
  exact ⟨ret_bool (by rw [nat_beq0]), rfl⟩
/-- the labels while the k-th set is gone through -/
def gon (ss : List Int) (k t e : Nat) : Nat := if e < t then outsN ss e (k + 1) else outsN ss e k
theorem gon_zero (n : Nat) (ss : List Int) (k : Nat) : mkL n (gon ss k 0) = mkL n (fun e => outsN ss e k) := mkL_congr fun e _ => by unfold gon; rw [if_neg (Nat.not_lt_zero e)]
theorem gon_full (n : Nat) (ss : List Int) (k : Nat) : mkL n (gon ss k n) = mkL n (fun e => outsN ss e (k + 1)) := mkL_congr fun e he => by unfold gon; rw [if_pos he]
theorem gon_yes {n : Nat} {ss : List Int} {k t : Nat} (h : (ss.getD k 0).toNat.testBit t = true) : mkL n (gon ss k (t + 1)) = mkL n (gon ss k t) := mkL_congr fun e _ => by
  unfold gon
  by_cases e1 : e = t
  · subst e1; rw [if_pos (by omega), if_neg (by omega), outsN, if_pos h]
  · by_cases e2 : e < t
    · rw [if_pos (by omega), if_pos e2]
    · rw [if_neg (by omega), if_neg e2]
theorem gon_no {n : Nat} {ss : List Int} {k t : Nat} (ht : t < n) (h : (ss.getD k 0).toNat.testBit t = false) : mkL n (gon ss k (t + 1)) = (mkL n (gon ss k t)).set t ((outsN ss t k + 1 : Nat) : Int) :=
  mkL_upd _ ht fun e _ => by
    unfold gon
    by_cases e1 : e = t
    · subst e1; rw [if_pos (by omega), if_pos rfl, outsN, if_neg (by rw [h]; simp)]
    · rw [if_neg e1]
      by_cases e2 : e < t
      · rw [if_pos (by omega), if_pos e2]
      · rw [if_neg (by omega), if_neg e2]
set_option maxHeartbeats 1600000 in
theorem implLabelsOfIdeals_any (v : Value) (xs : List Int) (u : Value) (ss : List Int) (w : World) (hv : Ints w v xs) (hl : xs.length ≤ 1048576) (hu : Ints w u ss) (hm : ss.length ≤ 1048576) :
    Calls Try.prog 25 #[.agg #[v], u] w fun (r : Ending) w' => ∃ q, r = Ending.returned (.tuple #[q, .bool (liB xs ss)]) ∧ OwnI 3 w' w.heap.size q (ansLI xs ss) ∧ (ansLI xs ss).length ≤ 1048576 ∧ Below w.heap.size w w' := by
  have HV := hid hv
  have HU := hid hu
  have HL := hid (ansLI_length xs ss)
  clear hv
  cases hq : okBd xs ss.length
  · have HQ := hid hq
    have HO := hid (liB_no1 hq)
    have HN := hid (ansLI_no HO.out)
    obtain ⟨B, d, rfl, hB⟩ := hu
    clear hq hB
    go_enter Try.func25, Try.ntmps25
    have HB := hid (below_alloc (Below.refl _ w) (.cells #[v] 28))
    have A0 := hid (At.newAt w v 28 w.heap.size (by simp))
    go_wp2_with fail
    refine (hasBound_any _ xs ss.length _ (HV.out.below HB.out) hl).mono ?_
    rw [HQ.out]
    rintro e w' ⟨rfl, hb⟩
    replace HB := hid (below_to HB.out hb)
    replace A0 := hid (A0.out.below hb)
    clear hb
    have ebox0 := A0.out.1
    go_wp2
    go_ret2
    exact ⟨_, ret_vbL HO.out.symm, by rw [HN.out]; exact OwnI.nil _ _ _, HL.out, HB.out⟩
  obtain ⟨hg, h1, h2⟩ := okBd_all hq
  have HQ := hid hq
  have hx10 := (good_length hg).2
  have HG := hid hg
  obtain ⟨B, d, rfl, hB⟩ := hu
  have HC := hid hB
  obtain ⟨n, hn⟩ : ∃ n, xs.length = n := ⟨_, rfl⟩
  have HNn := hid hn
  obtain ⟨A, c, rfl, -⟩ := HV.out
  have HBd := hid (fun W hW => hasBound_any (.slice A xs.length c) xs ss.length W hW hl)
  have HId := hid (fun s W hW => hasIdeal_any (.slice A xs.length c) xs s W hW hl)
  rw [hn] at HV HBd HId hx10 hl
  have hmk := run_make_row' (P := Try.prog) 22 3 (.int .i64 0) 8 Try.underlying22 Try.info3 rfl .i64 .i64 n (by omega) (by omega)
  have Hmk := hid hmk
  rw [hn]
  clear hB hg hq hmk hn h1
  obtain ⟨V, hV⟩ : ∃ V, Value.slice A n c = V := ⟨_, rfl⟩
  have HVv := hid hV
  rw [hV] at HV HBd HId ⊢
  go_enter Try.func25, Try.ntmps25
  have HB := hid (below_alloc (Below.refl _ w) (.cells #[V] 28))
  have A0 := hid (At.newAt w V 28 w.heap.size (by simp))
  clear hV
  go_wp2_with fail
  refine (HBd.out _ (HV.out.below HB.out)).mono ?_
  rw [HQ.out]
  rintro e w' ⟨rfl, hb⟩
  replace HB := hid (below_to HB.out hb)
  replace A0 := hid (A0.out.below hb)
  clear hb
  have hmk := Hmk.out
  have hbx := A0.out.1
  rw [← HVv.out] at hbx
  go_wp2
  clear hmk hbx
  rw [Vals_made]
  obtain ⟨g, hgz⟩ : ∃ g, w'.heap.size = g := ⟨_, rfl⟩
  have hwg : w.heap.size < g := by rw [← hgz]; exact A0.out.2
  have HStart : Hid (Blk (w'.alloc (.cells (Vals (List.replicate n 0)) 3)) g 3 (Vals (mkL n fun e => outsN ss e 0))) := hid (by
    rw [show (mkL n fun e => outsN ss e 0) = List.replicate n 0 from mkL_zero n]
    exact Blk.newAt _ _ _ _ hgz.symm)
  have HB0 := hid (below_alloc HB.out (.cells (Vals (List.replicate n 0)) 3))
  have HA0 := hid (A0.out.alloc (.cells (Vals (List.replicate n 0)) 3))
  rw [hgz]
  clear hgz
  go_loopw [7, 22] (fun q i wr => ∃ k s : Nat, k ≤ ss.length ∧ i = .int .i64 k ∧ q = .int .i64 s ∧ Hid (lastN ss k = s) ∧ s < 1024 ∧ Hid (∀ j, j < k → stepB xs ss j = true) ∧ At wr w.heap.size V ∧ Blk wr g 3 (Vals (mkL n fun e => outsN ss e k)) ∧ Below w.heap.size w wr) (fun _ i _ => ss.length - (intOf i).toNat)
  case atStart => exact ⟨0, 0, Nat.zero_le _, rfl, rfl, hid rfl, by omega, hid (fun j hj => absurd hj (Nat.not_lt_zero _)), HA0.out, HStart.out, HB0.out⟩
  case round =>
    obtain ⟨k, s, hk, rfl, rfl, HS, hs, HK, ha, hblk, hb⟩ := hrel
    have HA1 := hid ha
    have HK1 := hid hblk
    have HB1 := hid hb
    clear ha hblk hb
    by_cases hlt : k < ss.length
    · obtain ⟨b, o, rfl, hbl, hc⟩ := HC.out (by intro h; simp [h] at hlt)
      have hcell := (HB1.out.cell (p := ⟨b, o + k, none⟩) hbl).trans (hc k hlt)
      obtain ⟨y, hy⟩ : ∃ y, ss.getD k 0 = y := ⟨_, rfl⟩
      rw [hy] at hcell
      have HY := hid hy
      have hbx := HA1.out.1
      have HI := hid (HId.out y wr (HV.out.below HB1.out))
      clear hc hy
      cases hi : okIdeal xs y
      · have HO := hid (liB_no2 hlt (stepB_no1 (xs := xs) (by rw [HY.out]; exact hi)))
        rw [hi] at HI
        clear hi
        have HN := hid (ansLI_no HO.out)
        go_wp2_with fail
        refine HI.out.mono ?_
        rintro e w2 ⟨rfl, hb2⟩
        have HB2 := hid (below_to HB1.out hb2)
        clear hb2 hcell
        go_wp2
        go_ret2
        exact ⟨_, ret_vbL HO.out.symm, by rw [HN.out]; exact OwnI.nil _ _ _, HL.out, HB2.out⟩
      · obtain ⟨z, rfl, -, hz, -⟩ := okIdeal_all hi
        have hz10 : z < 1024 := by have := two_pow_le xs.length (by rw [HNn.out]; exact hx10); omega
        have HIy := hid hi
        rw [hi] at HI
        clear hi hz
        cases hp : (sub s z == 0)
        · have HO := hid (liB_no2 hlt (stepB_no2 (xs := xs) (by rw [HY.out, HS.out, Int.toNat_natCast]; simpa using hp)))
          have HN := hid (ansLI_no HO.out)
          have HP := hid hp
          clear hp
          go_wp2_with fail
          refine HI.out.mono ?_
          rintro e w2 ⟨rfl, hb2⟩
          have HB2 := hid (below_to HB1.out hb2)
          clear hb2 hcell
          go_wp2_with (go_at_call 43; refine (isPart_any s z _ hs hz10).mono ?_; rw [HP.out]; rintro e w' ⟨rfl, rfl⟩)
          go_ret2
          exact ⟨_, ret_vbL HO.out.symm, by rw [HN.out]; exact OwnI.nil _ _ _, HL.out, HB2.out⟩
        · have HSt := hid (stepB_yes (xs := xs) (ss := ss) (k := k) (by rw [HY.out]; exact HIy.out) (by rw [HY.out, HS.out, Int.toNat_natCast]; simpa using hp))
          have HP := hid hp
          clear hp
          go_wp2_with fail
          refine HI.out.mono ?_
          rintro e w2 ⟨rfl, hb2⟩
          have HB2 := hid (below_to HB1.out hb2)
          have HA2 := hid (HA1.out.below hb2)
          have HK2 := hid (HK1.out.below hb2 HK1.out.lt)
          clear hb2 hcell hbx
          go_wp2_with (go_at_call 43; refine (isPart_any s z _ hs hz10).mono ?_; rw [HP.out]; rintro e w' ⟨rfl, rfl⟩)
          obtain ⟨W2, rfl⟩ : ∃ x, x = w2 := ⟨w2, rfl⟩
          go_loopw [38] (fun i wi => ∃ t : Nat, t ≤ n ∧ i = .int .i64 t ∧ At wi w.heap.size V ∧ Blk wi g 3 (Vals (mkL n (gon ss k t))) ∧ Below w.heap.size w wi) (fun i _ => n - (intOf i).toNat)
          case atStart => exact ⟨0, Nat.zero_le _, rfl, HA2.out, by rw [gon_zero]; exact HK2.out, HB2.out⟩
          case round =>
            obtain ⟨t, ht, rfl, ha, hblk, hb⟩ := hrel
            have HA3 := hid ha
            have HK3 := hid hblk
            have HB3 := hid hb
            clear ha hblk hb
            by_cases htn : t < n
            · cases hbit : z.testBit t
              · have Hbit := hid hbit
                have HSn := hid (gon_no (n := n) (ss := ss) (k := k) htn (by rw [HY.out, Int.toNat_natCast]; exact hbit))
                have hcg : wr.cell? ⟨g, t, none⟩ = some (.int .i64 (outsN ss t k : Nat)) := by
                  rw [HK3.out.cell, Vals_get (by rw [mkL_length]; exact htn), mkL_getD htn]
                  unfold gon; rw [if_neg (Nat.lt_irrefl t)]
                have hfz := HK3.out.frozen t
                have hle := outsN_le ss t k
                obtain ⟨r, hr⟩ : ∃ r, outsN ss t k = r := ⟨_, rfl⟩
                rw [hr] at hcg HSn hle
                have hrw : IntKind.i64.wrap ((r : Int) + 1) = ((r + 1 : Nat) : Int) := by rw [IntWalk.i64_in _ (by omega)]; omega
                clear hbit hr
                go_wp2_with (go_at_call 44; refine (hasElement_any z t (by omega) (by omega) _).mono ?_; rw [Hbit.out]; rintro e w' ⟨rfl, rfl⟩)
                clear hrw
                go_roundw
                case rel => exact ⟨t + 1, by omega, by go_num, HA3.out.far (p := ⟨g, t, none⟩) (Nat.ne_of_lt hwg) _, (by rw [HSn.out, ← Vals_set]; exact HK3.out.set_ t (.int .i64 ((r + 1 : Nat) : Int))), HB3.out.setCell (p := ⟨g, t, none⟩) (Nat.le_of_lt hwg) _⟩
                case measure => simp [intOf]; omega
              · have Hbit := hid hbit
                have HSn := hid (gon_yes (n := n) (ss := ss) (k := k) (t := t) (by rw [HY.out, Int.toNat_natCast]; exact hbit))
                clear hbit
                go_wp2_with (go_at_call 44; refine (hasElement_any z t (by omega) (by omega) _).mono ?_; rw [Hbit.out]; rintro e w' ⟨rfl, rfl⟩)
                go_roundw
                case rel => exact ⟨t + 1, by omega, by go_num, HA3.out, (by rw [HSn.out]; exact HK3.out), HB3.out⟩
                case measure => simp [intOf]; omega
            · obtain rfl : t = n := by omega
              go_wp2
              go_roundw
              case rel => exact ⟨k + 1, z, by omega, by go_num, rfl, hid (by unfold lastN; rw [if_neg (by omega), Nat.add_sub_cancel, HY.out, Int.toNat_natCast]), hz10, hid (fun j hj => by
                by_cases h : j = k
                · subst h; exact HSt.out
                · exact HK.out j (by omega)), HA3.out, (by have h := HK3.out; rw [gon_full] at h; exact h), HB3.out⟩
              case measure => simp [intOf]; omega
    · have hkl : k = ss.length := by omega
      subst hkl
      have HO := hid (liB_yes HQ.out HK.out)
      have HE := hid (ansLI_yes HO.out)
      have HOw := hid (HK1.out.own (xs := mkL n fun e => outsN ss e ss.length) (B := w.heap.size) (Nat.le_of_lt hwg) (by rw [mkL_length]; omega))
      go_wp2
      go_ret2
      exact ⟨_, ret_vbL HO.out.symm, (by have h := HOw.out; rw [mkL_length] at h; rw [HE.out, HNn.out]; exact h), HL.out, HB1.out⟩
set_option maxHeartbeats 1600000 in
theorem specLabelsOfIdeals_any (v : Value) (xs : List Int) (u : Value) (ss : List Int) (w : World) (hv : Ints w v xs) (hl : xs.length ≤ 1048576) (hu : Ints w u ss) (hm : ss.length ≤ 1048576) :
    Calls Try.prog 24 #[.agg #[v], u] w fun (r : Ending) w' => ∃ q, r = Ending.returned (.tuple #[q, .bool (liB xs ss)]) ∧ OwnI 3 w' w.heap.size q (ansLI xs ss) ∧ (ansLI xs ss).length ≤ 1048576 ∧ Below w.heap.size w w' := by
  have HV := hid hv
  have HU := hid hu
  have HL := hid (ansLI_length xs ss)
  clear hv
  cases hg0 : good xs
  · have HG0 := hid hg0
    have HO := hid (liB_no1 (okBd_no1 (m := ss.length) hg0))
    have HN := hid (ansLI_no HO.out)
    obtain ⟨B, d, rfl, hB⟩ := hu
    clear hg0 hB
    go_enter Try.func24, Try.ntmps24
    have HB := hid (below_alloc (Below.refl _ w) (.cells #[v] 28))
    have A0 := hid (At.newAt w v 28 w.heap.size (by simp))
    go_wp2_with fail
    refine (poGood_any _ xs _ (HV.out.below HB.out) hl).mono ?_
    rw [HG0.out]
    rintro e w' ⟨rfl, hb⟩
    replace HB := hid (below_to HB.out hb)
    replace A0 := hid (A0.out.below hb)
    clear hb
    have ebox0 := A0.out.1
    go_wp2
    go_ret2
    exact ⟨_, ret_vbL HO.out.symm, by rw [HN.out]; exact OwnI.nil _ _ _, HL.out, HB.out⟩
  cases hd : bdB ss.length
  · have HG0 := hid hg0
    have HO := hid (liB_no1 (okBd_no2 (xs := xs) hd))
    have HN := hid (ansLI_no HO.out)
    have h12 : ¬ (ss.length : Int) ≤ 12 := by intro h; rw [show bdB ss.length = true by simp [bdB]; omega] at hd; cases hd
    have h12' : (12 : Int) < (ss.length : Int) := by omega
    obtain ⟨B, d, rfl, hB⟩ := hu
    clear hg0 hB hd
    go_enter Try.func24, Try.ntmps24
    have HB := hid (below_alloc (Below.refl _ w) (.cells #[v] 28))
    have A0 := hid (At.newAt w v 28 w.heap.size (by simp))
    go_wp2_with fail
    refine (poGood_any _ xs _ (HV.out.below HB.out) hl).mono ?_
    rw [HG0.out]
    rintro e w' ⟨rfl, hb⟩
    replace HB := hid (below_to HB.out hb)
    replace A0 := hid (A0.out.below hb)
    clear hb
    have ebox0 := A0.out.1
    go_wp2
    go_ret2
    exact ⟨_, ret_vbL HO.out.symm, by rw [HN.out]; exact OwnI.nil _ _ _, HL.out, HB.out⟩
  have hq := okBd_yes hg0 hd
  clear hg0 hd
  obtain ⟨hg, h1, h2⟩ := okBd_all hq
  have HQ := hid hq
  have hx10 := (good_length hg).2
  have HG := hid hg
  obtain ⟨B, d, rfl, hB⟩ := hu
  have HC := hid hB
  obtain ⟨n, hn⟩ : ∃ n, xs.length = n := ⟨_, rfl⟩
  have HNn := hid hn
  obtain ⟨A, c, rfl, -⟩ := HV.out
  have HPg := hid (fun W hW => poGood_any (.slice A xs.length c) xs W hW hl)
  have HSm := hid (fun z => good_small hg z)
  have HPs := hid (fun s W hW => poSet_ok (.slice A xs.length c) xs s W hW hg)
  have HPi := hid (fun z W hW (hz : z < 1024) => poIdeal_any (.slice A xs.length c) xs z W hW hx10 hz (good_small hg z))
  rw [hg] at HPg
  have h12' : ¬ (12 : Int) < (ss.length : Int) := by omega
  rw [hn] at HV HPg HPs HPi hx10 hl
  have hmk := run_make_row' (P := Try.prog) 22 3 (.int .i64 0) 8 Try.underlying22 Try.info3 rfl .i64 .i64 n (by omega) (by omega)
  have Hmk := hid hmk
  rw [hn]
  clear hB hg hq hmk hn h1 h2
  obtain ⟨V, hV⟩ : ∃ V, Value.slice A n c = V := ⟨_, rfl⟩
  have HVv := hid hV
  rw [hV] at HV HPg HPs HPi ⊢
  go_enter Try.func24, Try.ntmps24
  have HB := hid (below_alloc (Below.refl _ w) (.cells #[V] 28))
  have A0 := hid (At.newAt w V 28 w.heap.size (by simp))
  clear hV
  go_wp2_with fail
  refine (HPg.out _ (HV.out.below HB.out)).mono ?_
  rintro e w' ⟨rfl, hb⟩
  replace HB := hid (below_to HB.out hb)
  replace A0 := hid (A0.out.below hb)
  clear hb
  have hmk := Hmk.out
  have hbx := A0.out.1
  rw [← HVv.out] at hbx
  go_wp2
  clear hmk hbx
  rw [Vals_made]
  obtain ⟨g, hgz⟩ : ∃ g, w'.heap.size = g := ⟨_, rfl⟩
  have hwg : w.heap.size < g := by rw [← hgz]; exact A0.out.2
  have HStart : Hid (Blk (w'.alloc (.cells (Vals (List.replicate n 0)) 3)) g 3 (Vals (mkL n fun e => outsN ss e 0))) := hid (by
    rw [show (mkL n fun e => outsN ss e 0) = List.replicate n 0 from mkL_zero n]
    exact Blk.newAt _ _ _ _ hgz.symm)
  have HB0 := hid (below_alloc HB.out (.cells (Vals (List.replicate n 0)) 3))
  have HA0 := hid (A0.out.alloc (.cells (Vals (List.replicate n 0)) 3))
  rw [hgz]
  clear hgz
  go_loopw [24] (fun i wr => ∃ k s : Nat, k ≤ ss.length ∧ i = .int .i64 k ∧ Hid (lastN ss k = s) ∧ s < 1024 ∧ Hid (∀ j, j < k → stepB xs ss j = true) ∧ At wr w.heap.size V ∧ Blk wr g 3 (Vals (mkL n fun e => outsN ss e k)) ∧ Below w.heap.size w wr) (fun i _ => ss.length - (intOf i).toNat)
  case atStart => exact ⟨0, 0, Nat.zero_le _, rfl, hid rfl, by omega, hid (fun j hj => absurd hj (Nat.not_lt_zero _)), HA0.out, HStart.out, HB0.out⟩
  case round =>
    obtain ⟨k, s, hk, rfl, HS, hs, HK, ha, hblk, hb⟩ := hrel
    have HA1 := hid ha
    have HK1 := hid hblk
    have HB1 := hid hb
    clear ha hblk hb
    by_cases hlt : k < ss.length
    · obtain ⟨b, o, rfl, hbl, hc⟩ := HC.out (by intro h; simp [h] at hlt)
      have hcell := (HB1.out.cell (p := ⟨b, o + k, none⟩) hbl).trans (hc k hlt)
      obtain ⟨y, hy⟩ : ∃ y, ss.getD k 0 = y := ⟨_, rfl⟩
      rw [hy] at hcell
      have HY := hid hy
      have hbx := HA1.out.1
      have HI := hid (HPs.out y wr (HV.out.below HB1.out))
      clear hy
      cases hi : okSet xs y
      · have HO := hid (liB_no2 hlt (stepB_no1 (xs := xs) (by rw [HY.out]; exact okIdeal_no hi)))
        rw [hi] at HI
        clear hi hc
        have HN := hid (ansLI_no HO.out)
        go_wp2_with fail
        refine HI.out.mono ?_
        rintro e w2 ⟨rfl, hb2⟩
        have HB2 := hid (below_to HB1.out hb2)
        clear hb2 hcell
        go_wp2
        go_ret2
        exact ⟨_, ret_vbL HO.out.symm, by rw [HN.out]; exact OwnI.nil _ _ _, HL.out, HB2.out⟩
      obtain ⟨hy0, hy1⟩ := okSet_lt hi
      obtain ⟨z, rfl⟩ := Int.eq_ofNat_of_zero_le hy0
      have hz10 : z < 1024 := by omega
      have HIs := hid hi
      rw [hi] at HI
      clear hi hy0 hy1
      cases hid' : holdsIdeal xs z
      · have HO := hid (liB_no2 hlt (stepB_no1 (xs := xs) (by rw [HY.out, okIdeal_nat HIs.out]; exact hid')))
        have HN := hid (ansLI_no HO.out)
        have HHd := hid hid'
        clear hid' hc
        go_wp2_with fail
        refine HI.out.mono ?_
        rintro e w2 ⟨rfl, hb2⟩
        have HB2 := hid (below_to HB1.out hb2)
        have HA2 := hid (HA1.out.below hb2)
        clear hb2 hcell hbx
        have hbx := HA2.out.1
        go_wp2_with fail
        refine (HPi.out z w2 (HV.out.below HB2.out) hz10).mono ?_
        rw [HHd.out]
        rintro e w3 ⟨rfl, hb3⟩
        have HB3 := hid (below_to HB2.out hb3)
        clear hb3 hbx
        go_wp2
        go_ret2
        exact ⟨_, ret_vbL HO.out.symm, by rw [HN.out]; exact OwnI.nil _ _ _, HL.out, HB3.out⟩
      have HIy := hid (show okIdeal xs (z : Int) = true by rw [okIdeal_nat HIs.out]; exact hid')
      have HHd := hid hid'
      clear hid'
      -- the set before
      have HPrev : Hid (0 < k → ∃ p : Nat, p = s ∧ ∀ W, Below w.heap.size w W → W.cell? ⟨b, o + (k - 1), none⟩ = some (.int .i64 (p : Nat))) := hid (fun hk0 => by
        have h := (HK.out (k - 1) (by omega))
        have hi2 : okIdeal xs (ss.getD (k - 1) 0) = true := by
          cases hcc : okIdeal xs (ss.getD (k - 1) 0)
          · rw [stepB_no1 hcc] at h; cases h
          · rfl
        obtain ⟨p, hp, -⟩ := okIdeal_all hi2
        refine ⟨p, ?_, fun W hW => ?_⟩
        · have := HS.out; unfold lastN at this; rw [if_neg (by omega), hp, Int.toNat_natCast] at this; exact this
        · rw [(hW.cell (p := ⟨b, o + (k - 1), none⟩) hbl), hc (k - 1) (by omega), hp])
      clear hc
      have hand := i64_andNot_nat s z (by omega) (by omega)
      cases hp : (sub s z == 0)
      · have HO := hid (liB_no2 hlt (stepB_no2 (xs := xs) (by rw [HY.out, HS.out, Int.toNat_natCast]; simpa using hp)))
        have HN := hid (ansLI_no HO.out)
        have hk0 : 0 < k := by
          rcases Nat.eq_zero_or_pos k with h | h
          · subst h
            have : s = 0 := HS.out.symm
            subst this
            rw [sub_zero_part] at hp; cases hp
          · exact h
        have hsn : ((sub s z : Nat) : Int) != 0 := by rw [bne_iff_ne]; have := beq_eq_false_iff_ne.1 hp; omega
        obtain ⟨k1, rfl⟩ : ∃ k1, k = k1 + 1 := ⟨k - 1, by omega⟩
        obtain ⟨p, rfl, hpc⟩ := HPrev.out hk0
        rw [Nat.add_sub_cancel] at hpc
        have HPc := hid hpc
        have hkw : IntKind.i64.wrap ((k1 : Int) + 1 - 1) = (k1 : Int) := by rw [IntWalk.i64_in _ (by omega)]; omega
        clear hp hpc
        go_wp2_with fail
        refine HI.out.mono ?_
        rintro e w2 ⟨rfl, hb2⟩
        have HB2 := hid (below_to HB1.out hb2)
        have HA2 := hid (HA1.out.below hb2)
        clear hb2 hcell hbx
        have hbx := HA2.out.1
        go_wp2_with fail
        refine (HPi.out z w2 (HV.out.below HB2.out) hz10).mono ?_
        rw [HHd.out]
        rintro e w3 ⟨rfl, hb3⟩
        have HB3 := hid (below_to HB2.out hb3)
        have hcp := HPc.out w3 HB3.out
        clear hb3 hbx
        go_wp2
        go_ret2
        exact ⟨_, ret_vbL HO.out.symm, by rw [HN.out]; exact OwnI.nil _ _ _, HL.out, HB3.out⟩
      have HSt := hid (stepB_yes (xs := xs) (ss := ss) (k := k) (by rw [HY.out]; exact HIy.out) (by rw [HY.out, HS.out, Int.toNat_natCast]; simpa using hp))
      have hsn : (((sub s z : Nat) : Int) != 0) = false := by rw [bne_eq_false_iff_eq]; have := (beq_iff_eq.1 hp); omega
      clear hp
      have HTail : ∀ w2 : World, At w2 w.heap.size V → Blk w2 g 3 (Vals (mkL n fun e => outsN ss e k)) → Below w.heap.size w w2 → True := fun _ _ _ _ => trivial
      clear HTail
      rcases Nat.eq_zero_or_pos k with hk0 | hk0
      · subst hk0
        rw [Nat.add_zero] at hcell
        clear HPrev
        go_wp2_with fail
        refine HI.out.mono ?_
        rintro e w1 ⟨rfl, hb2⟩
        have HB1' := hid (below_to HB1.out hb2)
        have HA1' := hid (HA1.out.below hb2)
        have HK1' := hid (HK1.out.below hb2 HK1.out.lt)
        clear hb2 hcell hbx
        have hbx := HA1'.out.1
        go_wp2_with fail
        refine (HPi.out z w1 (HV.out.below HB1'.out) hz10).mono ?_
        rw [HHd.out]
        rintro e w2 ⟨rfl, hb3⟩
        have HB2 := hid (below_to HB1'.out hb3)
        have HA2 := hid (HA1'.out.below hb3)
        have HK2 := hid (HK1'.out.below hb3 HK1'.out.lt)
        clear hb3 hbx hand hsn
        go_wp2
        obtain ⟨W2, rfl⟩ : ∃ x, x = w2 := ⟨w2, rfl⟩
        go_loopw [55] (fun i wi => ∃ t : Nat, t ≤ n ∧ i = .int .i64 t ∧ At wi w.heap.size V ∧ Blk wi g 3 (Vals (mkL n (gon ss 0 t))) ∧ Below w.heap.size w wi) (fun i _ => n - (intOf i).toNat)
        case atStart => exact ⟨0, Nat.zero_le _, rfl, HA2.out, by rw [gon_zero]; exact HK2.out, HB2.out⟩
        case round =>
          obtain ⟨t, ht, rfl, ha, hblk, hb⟩ := hrel
          have HA3 := hid ha
          have HK3 := hid hblk
          have HB3 := hid hb
          clear ha hblk hb
          by_cases htn : t < n
          · cases hbit : z.testBit t
            · have Hbit := hid hbit
              have HSn := hid (gon_no (n := n) (ss := ss) (k := 0) htn (by rw [HY.out, Int.toNat_natCast]; exact hbit))
              have hcg : wr.cell? ⟨g, t, none⟩ = some (.int .i64 (outsN ss t 0 : Nat)) := by
                rw [HK3.out.cell, Vals_get (by rw [mkL_length]; exact htn), mkL_getD htn]
                unfold gon; rw [if_neg (Nat.lt_irrefl t)]
              have hfz := HK3.out.frozen t
              have hle := outsN_le ss t 0
              obtain ⟨r, hr⟩ : ∃ r, outsN ss t 0 = r := ⟨_, rfl⟩
              rw [hr] at hcg HSn hle
              have hrw : IntKind.i64.wrap ((r : Int) + 1) = ((r + 1 : Nat) : Int) := by rw [IntWalk.i64_in _ (by omega)]; omega
              clear hbit hr
              go_wp2_with (go_at_call 41; refine (poIn_any z t (by omega) _).mono ?_; rw [Hbit.out]; rintro e w' ⟨rfl, rfl⟩)
              clear hrw
              go_roundw
              case rel => exact ⟨t + 1, by omega, by go_num, HA3.out.far (p := ⟨g, t, none⟩) (Nat.ne_of_lt hwg) _, (by rw [HSn.out, ← Vals_set]; exact HK3.out.set_ t (.int .i64 ((r + 1 : Nat) : Int))), HB3.out.setCell (p := ⟨g, t, none⟩) (Nat.le_of_lt hwg) _⟩
              case measure => simp [intOf]; omega
            · have Hbit := hid hbit
              have HSn := hid (gon_yes (n := n) (ss := ss) (k := 0) (t := t) (by rw [HY.out, Int.toNat_natCast]; exact hbit))
              clear hbit
              go_wp2_with (go_at_call 41; refine (poIn_any z t (by omega) _).mono ?_; rw [Hbit.out]; rintro e w' ⟨rfl, rfl⟩)
              go_roundw
              case rel => exact ⟨t + 1, by omega, by go_num, HA3.out, (by rw [HSn.out]; exact HK3.out), HB3.out⟩
              case measure => simp [intOf]; omega
          · obtain rfl : t = n := by omega
            go_wp2
            go_roundw
            case rel => exact ⟨0 + 1, z, by omega, by go_num, hid (by unfold lastN; rw [if_neg (by omega), Nat.add_sub_cancel, HY.out, Int.toNat_natCast]), hz10, hid (fun j hj => by
              by_cases h : j = 0
              · subst h; exact HSt.out
              · exact HK.out j (by omega)), HA3.out, (by have h := HK3.out; rw [gon_full] at h; exact h), HB3.out⟩
            case measure => simp [intOf]; omega
      · obtain ⟨k1, rfl⟩ : ∃ k1, k = k1 + 1 := ⟨k - 1, by omega⟩
        obtain ⟨p, rfl, hpc⟩ := HPrev.out hk0
        rw [Nat.add_sub_cancel] at hpc
        have HPc := hid hpc
        have hkw : IntKind.i64.wrap ((k1 : Int) + 1 - 1) = (k1 : Int) := by rw [IntWalk.i64_in _ (by omega)]; omega
        clear hpc HPrev
        go_wp2_with fail
        refine HI.out.mono ?_
        rintro e w1 ⟨rfl, hb2⟩
        have HB1' := hid (below_to HB1.out hb2)
        have HA1' := hid (HA1.out.below hb2)
        have HK1' := hid (HK1.out.below hb2 HK1.out.lt)
        clear hb2 hcell hbx
        have hbx := HA1'.out.1
        go_wp2_with fail
        refine (HPi.out z w1 (HV.out.below HB1'.out) hz10).mono ?_
        rw [HHd.out]
        rintro e w2 ⟨rfl, hb3⟩
        have HB2 := hid (below_to HB1'.out hb3)
        have HA2 := hid (HA1'.out.below hb3)
        have HK2 := hid (HK1'.out.below hb3 HK1'.out.lt)
        have hcp := HPc.out w2 HB2.out
        clear hb3 hbx
        go_wp2
        clear hand hsn hkw hcp
        obtain ⟨W2, rfl⟩ : ∃ x, x = w2 := ⟨w2, rfl⟩
        go_loopw [55] (fun i wi => ∃ t : Nat, t ≤ n ∧ i = .int .i64 t ∧ At wi w.heap.size V ∧ Blk wi g 3 (Vals (mkL n (gon ss (k1 + 1) t))) ∧ Below w.heap.size w wi) (fun i _ => n - (intOf i).toNat)
        case atStart => exact ⟨0, Nat.zero_le _, rfl, HA2.out, by rw [gon_zero]; exact HK2.out, HB2.out⟩
        case round =>
          obtain ⟨t, ht, rfl, ha, hblk, hb⟩ := hrel
          have HA3 := hid ha
          have HK3 := hid hblk
          have HB3 := hid hb
          clear ha hblk hb
          by_cases htn : t < n
          · cases hbit : z.testBit t
            · have Hbit := hid hbit
              have HSn := hid (gon_no (n := n) (ss := ss) (k := k1 + 1) htn (by rw [HY.out, Int.toNat_natCast]; exact hbit))
              have hcg : wr.cell? ⟨g, t, none⟩ = some (.int .i64 (outsN ss t (k1 + 1) : Nat)) := by
                rw [HK3.out.cell, Vals_get (by rw [mkL_length]; exact htn), mkL_getD htn]
                unfold gon; rw [if_neg (Nat.lt_irrefl t)]
              have hfz := HK3.out.frozen t
              have hle := outsN_le ss t (k1 + 1)
              obtain ⟨r, hr⟩ : ∃ r, outsN ss t (k1 + 1) = r := ⟨_, rfl⟩
              rw [hr] at hcg HSn hle
              have hrw : IntKind.i64.wrap ((r : Int) + 1) = ((r + 1 : Nat) : Int) := by rw [IntWalk.i64_in _ (by omega)]; omega
              clear hbit hr
              go_wp2_with (go_at_call 41; refine (poIn_any z t (by omega) _).mono ?_; rw [Hbit.out]; rintro e w' ⟨rfl, rfl⟩)
              clear hrw
              go_roundw
              case rel => exact ⟨t + 1, by omega, by go_num, HA3.out.far (p := ⟨g, t, none⟩) (Nat.ne_of_lt hwg) _, (by rw [HSn.out, ← Vals_set]; exact HK3.out.set_ t (.int .i64 ((r + 1 : Nat) : Int))), HB3.out.setCell (p := ⟨g, t, none⟩) (Nat.le_of_lt hwg) _⟩
              case measure => simp [intOf]; omega
            · have Hbit := hid hbit
              have HSn := hid (gon_yes (n := n) (ss := ss) (k := k1 + 1) (t := t) (by rw [HY.out, Int.toNat_natCast]; exact hbit))
              clear hbit
              go_wp2_with (go_at_call 41; refine (poIn_any z t (by omega) _).mono ?_; rw [Hbit.out]; rintro e w' ⟨rfl, rfl⟩)
              go_roundw
              case rel => exact ⟨t + 1, by omega, by go_num, HA3.out, (by rw [HSn.out]; exact HK3.out), HB3.out⟩
              case measure => simp [intOf]; omega
          · obtain rfl : t = n := by omega
            go_wp2
            go_roundw
            case rel => exact ⟨k1 + 1 + 1, z, by omega, by go_num, hid (by unfold lastN; rw [if_neg (by omega), Nat.add_sub_cancel, HY.out, Int.toNat_natCast]), hz10, hid (fun j hj => by
              by_cases h : j = k1 + 1
              · subst h; exact HSt.out
              · exact HK.out j (by omega)), HA3.out, (by have h := HK3.out; rw [gon_full] at h; exact h), HB3.out⟩
            case measure => simp [intOf]; omega
    · have hkl : k = ss.length := by omega
      subst hkl
      have HO := hid (liB_yes HQ.out HK.out)
      have HE := hid (ansLI_yes HO.out)
      have HOw := hid (HK1.out.own (xs := mkL n fun e => outsN ss e ss.length) (B := w.heap.size) (Nat.le_of_lt hwg) (by rw [mkL_length]; omega))
      go_wp2
      go_ret2
      exact ⟨_, ret_vbL HO.out.symm, (by have h := HOw.out; rw [mkL_length] at h; rw [HE.out, HNn.out]; exact h), HL.out, HB1.out⟩
end Go.Proofs.Yteaeeinfjhhhoaa
