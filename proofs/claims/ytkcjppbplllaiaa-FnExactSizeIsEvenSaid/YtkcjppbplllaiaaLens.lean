/- OrbitLengths, OrderOfRow, FixedIdeals: contracts. -/
import Derived.Test.YtkcjppbplllaiaaObAll
import Derived.Test.YtkcjppbplllaiaaCycE
namespace Go.Proofs.Ytkcjppbplllaiaa
open Go.RowKit Go.WideShapes Go.ChangeShapes
set_option linter.unusedVariables false

def lensT (ls : List (List Int)) (k : Nat) : List Int := (ls.take k).map fun l => ((l.length : Nat) : Int)
theorem lensT_succ (ls : List (List Int)) {k : Nat} (hk : k < ls.length) : lensT ls (k + 1) = lensT ls k ++ [(((ls.getD k []).length : Nat) : Int)] := by
  unfold lensT
  rw [List.take_succ_eq_append_getElem hk, List.map_append]
  simp [List.getD, hk]
theorem lensT_length (ls : List (List Int)) {k : Nat} (hk : k ≤ ls.length) : (lensT ls k).length = k := by simp [lensT]; omega
def lensXs (xs : List Int) : List Int := lensT (allXs xs) (allXs xs).length
theorem lensXs_starts (xs : List Int) : lensXs xs = (starts (rowmo xs) (2 ^ xs.length) (idsXs xs)).map fun s => ((per (rowmo xs) (2 ^ xs.length) s : Nat) : Int) := by
  unfold lensXs lensT allXs orbsOf
  rw [List.take_length, List.map_map]
  exact List.map_congr_left fun s _ => by simp [orbL_length]
theorem lensXs_cyc {xs : List Int} (hg : good xs = true) : cyclesL (rowmo xs) (2 ^ xs.length) (setsL (holdsIdeal xs) (2 ^ xs.length)) = lensXs xs := by
  rw [lensXs_starts]
  exact cyclesL_starts (rowMov hg) (idsXs_D xs)
theorem allXs_length {xs : List Int} (hg : good xs = true) : (allXs xs).length ≤ 1024 := by
  unfold allXs
  rw [orbsOf_length]
  have := startsN_length (rowmo xs) (2 ^ xs.length) (idsXs xs) (idsXs xs).length
  have := (idsXs_length hg).2
  unfold starts
  omega
theorem allXs_row {xs : List Int} (hg : good xs = true) {j : Nat} (hj : j < (allXs xs).length) : ∃ s : Nat, idB xs s = true ∧ (allXs xs).getD j [] = orbXs xs s := by
  unfold allXs orbsOf at hj ⊢
  rw [List.length_map] at hj
  refine ⟨(starts (rowmo xs) (2 ^ xs.length) (idsXs xs))[j], startsN_D (idsXs_D xs) (Nat.le_refl _) (List.getElem_mem hj), ?_⟩
  simp [List.getD, hj, orbXs]
theorem lensXs_length {xs : List Int} (hg : good xs = true) : (lensXs xs).length ≤ 1024 := by
  unfold lensXs
  rw [lensT_length _ (Nat.le_refl _)]
  exact allXs_length hg
theorem lensXs_pos {xs : List Int} (hg : good xs = true) : ∀ x ∈ lensXs xs, 1 ≤ x ∧ x ≤ 1024 := by
  intro x hx
  rw [← lensXs_cyc hg] at hx
  have h3 := pow10 (good_length hg).2
  obtain ⟨N, hN⟩ : ∃ N, 2 ^ xs.length = N := ⟨_, rfl⟩
  rw [hN] at hx h3
  have h1 := cycSt_pos (rowmo xs) N (setsL (holdsIdeal xs) N) _ x hx
  omega
set_option maxHeartbeats 800000 in
theorem obLengths_any (v : Value) (xs : List Int) (w : World) (hv : Ints w v xs) (hg : good xs = true) :
    Calls Try.prog 60 #[.agg #[v]] w fun (r : Ending) w' => ∃ q, r = Ending.returned q ∧ OwnI 3 w' w.heap.size q (lensXs xs) ∧ Below w.heap.size w w' := by
  have HV := hid hv
  have HG := hid hg
  have HLn := hid (allXs_length hg)
  clear hv hg
  go_enter Try.func60, Try.ntmps60
  have HB := hid (below_alloc (Below.refl _ w) (.cells #[v] 28))
  have A0 := hid (At.newAt w v 28 w.heap.size (by simp))
  go_wp2_with fail
  refine (obAll_any _ xs _ (HV.out.below HB.out) HG.out).mono ?_
  rintro e w' ⟨q, rfl, ho, hb⟩
  replace HB := hid (below_to HB.out hb)
  replace A0 := hid (A0.out.below hb)
  clear hb
  have hz := HB.out.size
  have HI := hid ho.ints
  have HEnd : Hid (lensXs xs = lensT (allXs xs) (allXs xs).length) := hid rfl
  obtain ⟨ls, hls⟩ : ∃ ls, allXs xs = ls := ⟨_, rfl⟩
  rw [hls] at HI HLn HEnd
  obtain ⟨A, c, rfl, hA⟩ := HI.out
  have HA := hid hA
  have hl1 := HLn.out
  clear ho HI hA hls
  go_wp2
  go_loopw [3, 9] (fun q i wr => ∃ (k : Nat), k ≤ ls.length ∧ i = .int .i64 k ∧ OwnI 3 wr w'.heap.size q (lensT ls k) ∧ Below w'.heap.size w' wr) (fun _ i _ => ls.length - (intOf i).toNat)
  case atStart => exact ⟨0, Nat.zero_le _, rfl, OwnI.nil _ _ _, Below.refl _ _⟩
  case round =>
    obtain ⟨k, hk, rfl, ho, hb⟩ := hrel
    have HO := hid ho
    have HB1 := hid hb
    have hz1 := hb.size
    by_cases hlt : k < ls.length
    · obtain ⟨b, o, u, rfl, hbl, hc, hi⟩ := HA.out k hlt
      have hcell := (hb.cell (p := ⟨b, o + k, none⟩) hbl).trans hc
      obtain ⟨uA, uc, rfl, -⟩ := hi
      have HSn := hid (lensT_succ ls hlt)
      have hll := lensT_length ls hk
      obtain ⟨n, hn⟩ : ∃ n, (ls.getD k []).length = n := ⟨_, rfl⟩
      rw [hn] at hcell HSn
      have hl48 : (lensT ls k).length < 1048576 := by omega
      clear ho hb hc hn hll
      go_wp2_with (at_builtin; refine wpList_append_int rfl _ _ 22 3 rfl Try.underlying22 Try.info3 w'.heap.size _ _ n rfl HO.out rfl rfl hl48 hz1 ?_; rintro q2 w6 ho6 hb6)
      go_roundw
      case rel => exact ⟨k + 1, by omega, by go_num, (by rw [HSn.out]; exact ho6), HB1.out.trans hb6⟩
      case measure => simp [intOf]; omega
    · obtain rfl : k = ls.length := by omega
      clear ho hb
      go_wp2
      go_ret
      exact ⟨_, rfl, (by rw [HEnd.out]; exact HO.out.mono hz), below_to HB.out HB1.out⟩
def ansOL (xs : List Int) : List Int := if good xs then lensXs xs else []
theorem ansOL_no {xs : List Int} (h : good xs = false) : ansOL xs = [] := by simp [ansOL, h]
theorem ansOL_yes {xs : List Int} (h : good xs = true) : ansOL xs = lensXs xs := by simp [ansOL, h]
theorem ansOL_length (xs : List Int) : (ansOL xs).length ≤ 1048576 := by
  cases h : good xs
  · rw [ansOL_no h]; simp
  · rw [ansOL_yes h]; have := lensXs_length h; omega
theorem specOrbitLengths_any (v : Value) (xs : List Int) (w : World) (hv : Ints w v xs) (hl : xs.length ≤ 1048576) :
    Calls Try.prog 29 #[.agg #[v]] w fun (r : Ending) w' => ∃ q, r = Ending.returned (.tuple #[q, .bool (good xs)]) ∧ OwnI 3 w' w.heap.size q (ansOL xs) ∧ (ansOL xs).length ≤ 1048576 ∧ Below w.heap.size w w' := by
  have HV := hid hv
  have HL := hid (ansOL_length xs)
  clear hv
  go_enter Try.func29, Try.ntmps29
  have HB := hid (below_alloc (Below.refl _ w) (.cells #[v] 28))
  have A0 := hid (At.newAt w v 28 w.heap.size (by simp))
  go_wp2_with fail
  refine (poGood_any _ xs _ (HV.out.below HB.out) hl).mono ?_
  rintro e w' ⟨rfl, hb⟩
  replace HB := hid (below_to HB.out hb)
  replace A0 := hid (A0.out.below hb)
  clear hb
  cases hq : good xs
  · have HQ := hid hq
    clear hq
    have ebox0 := A0.out.1
    go_wp2
    go_ret2
    exact ⟨_, ret_vb' HQ.out.symm, by rw [ansOL_no HQ.out]; exact OwnI.nil _ _ _, HL.out, HB.out⟩
  · have HQ := hid hq
    have hz := HB.out.size
    clear hq
    have ebox0 := A0.out.1
    go_wp2_with fail
    clear ebox0
    refine (obLengths_any _ xs _ (HV.out.below HB.out) HQ.out).mono ?_
    rintro e w' ⟨q, rfl, ho, hb⟩
    replace HB := hid (below_to HB.out hb)
    replace A0 := hid (A0.out.below hb)
    clear hb
    have ebox0 := A0.out.1
    go_wp2
    go_ret2
    exact ⟨_, ret_vb' HQ.out.symm, by rw [ansOL_yes HQ.out]; exact ho.mono hz, HL.out, HB.out⟩
theorem implOrbitLengths_any (v : Value) (xs : List Int) (w : World) (hv : Ints w v xs) (hl : xs.length ≤ 1048576) :
    Calls Try.prog 30 #[.agg #[v]] w fun (r : Ending) w' => ∃ q, r = Ending.returned (.tuple #[q, .bool (good xs)]) ∧ OwnI 3 w' w.heap.size q (ansOL xs) ∧ (ansOL xs).length ≤ 1048576 ∧ Below w.heap.size w w' := by
  have HV := hid hv
  have HL := hid (ansOL_length xs)
  clear hv
  go_enter Try.func30, Try.ntmps30
  have HB := hid (below_alloc (Below.refl _ w) (.cells #[v] 28))
  have A0 := hid (At.newAt w v 28 w.heap.size (by simp))
  go_wp2_with fail
  refine (implIsPoset_any _ xs _ (HV.out.below HB.out) hl).mono ?_
  rintro e w' ⟨rfl, hb⟩
  replace HB := hid (below_to HB.out hb)
  replace A0 := hid (A0.out.below hb)
  clear hb
  cases hq : good xs
  · have HQ := hid hq
    clear hq
    have ebox0 := A0.out.1
    go_wp2
    go_ret2
    exact ⟨_, ret_vb' HQ.out.symm, by rw [ansOL_no HQ.out]; exact OwnI.nil _ _ _, HL.out, HB.out⟩
  · have HQ := hid hq
    have HE := hid (lensXs_cyc hq)
    have hz := HB.out.size
    clear hq
    have ebox0 := A0.out.1
    go_wp2_with fail
    clear ebox0
    refine (cyclesRow_any _ xs _ (HV.out.below HB.out) HQ.out).mono ?_
    rintro e w' ⟨q, rfl, ho, hb⟩
    replace HB := hid (below_to HB.out hb)
    replace A0 := hid (A0.out.below hb)
    clear hb
    have ebox0 := A0.out.1
    go_wp2
    go_ret2
    exact ⟨_, ret_vb' HQ.out.symm, by rw [ansOL_yes HQ.out, ← HE.out]; exact ho.mono hz, HL.out, HB.out⟩

/-! ### the order of rowmotion -/
def okOR (xs : List Int) : Bool := good xs && (lcmAll (lensXs xs)).isSome
def ansOR (xs : List Int) : Int := if okOR xs then (((lcmAll (lensXs xs)).getD 0 : Nat) : Int) else 0
theorem okOR_no1 {xs : List Int} (h : good xs = false) : okOR xs = false := by simp [okOR, h]
theorem okOR_no2 {xs : List Int} (h : lcmAll (lensXs xs) = none) : okOR xs = false := by simp [okOR, h]
theorem okOR_yes {xs : List Int} {m : Nat} (h : good xs = true) (k : lcmAll (lensXs xs) = some m) : okOR xs = true := by simp [okOR, h, k]
theorem ansOR_no {xs : List Int} (h : okOR xs = false) : ansOR xs = 0 := by simp [ansOR, h]
theorem ansOR_yes {xs : List Int} {m : Nat} (h : okOR xs = true) (k : lcmAll (lensXs xs) = some m) : ansOR xs = (m : Int) := by simp [ansOR, h, k]
set_option maxHeartbeats 800000 in
theorem implOrderOfRow_any (v : Value) (xs : List Int) (w : World) (hv : Ints w v xs) (hl : xs.length ≤ 1048576) :
    Calls Try.prog 32 #[.agg #[v]] w fun r w' => r = .returned (.tuple #[.int .i64 (ansOR xs), .bool (okOR xs)]) ∧ Below w.heap.size w w' := by
  have HV := hid hv
  clear hv
  go_enter Try.func32, Try.ntmps32
  have HB := hid (below_alloc (Below.refl _ w) (.cells #[v] 28))
  have A0 := hid (At.newAt w v 28 w.heap.size (by simp))
  go_wp2_with fail
  refine (implOrbitLengths_any _ xs _ (HV.out.below HB.out) hl).mono ?_
  rintro e w' ⟨q, rfl, ho, hlen, hb⟩
  replace HB := hid (below_to HB.out hb)
  replace A0 := hid (A0.out.below hb)
  clear hb
  cases hk : good xs
  · have HO := hid (okOR_no1 hk)
    clear hk ho hlen
    have ebox0 := A0.out.1
    go_wp2
    go_ret2
    exact ⟨ret_ib (ansOR_no HO.out).symm HO.out.symm, HB.out⟩
  · have HK := hid hk
    have HI := hid ho.ints
    rw [ansOL_yes hk] at HI hlen
    clear hk ho
    have HP := hid (lensXs_pos HK.out)
    obtain ⟨qA, qn, qc, hqs⟩ : ∃ A n c, q = .slice A n c := by obtain ⟨A, c, h, -⟩ := HI.out; exact ⟨A, _, c, h⟩
    subst hqs
    have ebox0 := A0.out.1
    go_wp2_with fail
    clear ebox0
    refine (commonMultiple_any _ (lensXs xs) _ HI.out hlen HP.out).mono ?_
    rintro e w' ⟨rfl, hb⟩
    replace HB := hid (below_to HB.out hb)
    replace A0 := hid (A0.out.below hb)
    clear hb
    cases hm : lcmAll (lensXs xs) with
    | none =>
      have HO := hid (okOR_no2 hm)
      have HM := hid hm
      clear hm
      have ebox0 := A0.out.1
      go_wp2
      go_ret2
      exact ⟨ret_ib (by rw [ansOR_no HO.out]; rfl) (by rw [HO.out]), HB.out⟩
    | some m =>
      have HO := hid (okOR_yes HK.out hm)
      have HM := hid hm
      clear hm
      have ebox0 := A0.out.1
      go_wp2
      go_ret2
      exact ⟨ret_ib (by rw [ansOR_yes HO.out HM.out]; rfl) (by rw [HO.out]), HB.out⟩
set_option maxHeartbeats 1600000 in
theorem specOrderOfRow_any (v : Value) (xs : List Int) (w : World) (hv : Ints w v xs) (hl : xs.length ≤ 1048576) :
    Calls Try.prog 31 #[.agg #[v]] w fun r w' => r = .returned (.tuple #[.int .i64 (ansOR xs), .bool (okOR xs)]) ∧ Below w.heap.size w w' := by
  have HV := hid hv
  clear hv
  go_enter Try.func31, Try.ntmps31
  have HB := hid (below_alloc (Below.refl _ w) (.cells #[v] 28))
  have A0 := hid (At.newAt w v 28 w.heap.size (by simp))
  go_wp2_with fail
  refine (poGood_any _ xs _ (HV.out.below HB.out) hl).mono ?_
  rintro e w' ⟨rfl, hb⟩
  replace HB := hid (below_to HB.out hb)
  replace A0 := hid (A0.out.below hb)
  clear hb
  cases hq : good xs
  · have HO := hid (okOR_no1 hq)
    clear hq
    have ebox0 := A0.out.1
    go_wp2
    go_ret2
    exact ⟨ret_ib (ansOR_no HO.out).symm HO.out.symm, HB.out⟩
  · have HQ := hid hq
    clear hq
    have ebox0 := A0.out.1
    go_wp2_with fail
    clear ebox0
    refine (obLengths_any _ xs _ (HV.out.below HB.out) HQ.out).mono ?_
    rintro e w' ⟨q, rfl, ho, hb⟩
    replace HB := hid (below_to HB.out hb)
    replace A0 := hid (A0.out.below hb)
    clear hb
    have HI2 : Hid (Ints w' q (lensXs xs)) := hid ho.ints
    have HP := hid (lensXs_pos HQ.out)
    have hlen := lensXs_length HQ.out
    clear ho
    obtain ⟨ls, hls⟩ : ∃ ls, lensXs xs = ls := ⟨_, rfl⟩
    rw [hls] at HI2 HP hlen
    have HLs := hid hls
    clear hls
    obtain ⟨A, c, rfl, hA⟩ := HI2.out
    have HA := hid hA
    clear hA
    go_wp2
    go_loopw [4, 13] (fun q i wr => ∃ k m : Nat, k ≤ ls.length ∧ i = .int .i64 k ∧ q = .int .i64 m ∧ Hid (lcmN ls k = some m) ∧ Below w.heap.size w wr ∧ Below w'.heap.size w' wr) (fun _ i _ => ls.length - (intOf i).toNat)
    case atStart => exact ⟨0, 1, Nat.zero_le _, rfl, rfl, hid rfl, HB.out, Below.refl _ _⟩
    case round =>
      obtain ⟨k, m, hk, rfl, rfl, HM, hb, hu⟩ := hrel
      have HB1 := hid hb
      have HU1 := hid hu
      by_cases hlt : k < ls.length
      · obtain ⟨b, o, rfl, hbl, hc⟩ := HA.out (by intro h; simp [h] at hlt)
        have hcell := (hu.cell (p := ⟨b, o + k, none⟩) hbl).trans (hc k hlt)
        clear hb hu
        have hx0 := HP.out (ls.getD k 0) (by simp [List.getD, hlt])
        obtain ⟨x, hx⟩ := Int.eq_ofNat_of_zero_le (show 0 ≤ ls.getD k 0 by omega)
        rw [hx] at hcell
        obtain ⟨f1, f2, f3, f4, f5, f6, f7, f8, f9⟩ := lcm_facts HP.out hlt HM.out hx
        have HSt := hid (lcm_step HM.out hx)
        obtain ⟨g, hg⟩ : ∃ g, Nat.gcd m x = g := ⟨_, rfl⟩
        have HGc := hid (fun W => tgGcd_any x m W f2 (by omega))
        rw [hg] at HSt f5 f6 f7 f8 f9 HGc
        obtain ⟨q, hq⟩ : ∃ q, m / g = q := ⟨_, rfl⟩
        obtain ⟨p, hpp⟩ : ∃ p, m / g * x = p := ⟨_, rfl⟩
        rw [hpp] at HSt f9
        have hdiv := tdiv_nat m g
        have hdiv2 : ((m : Int) / (g : Int)) = ((m / g : Nat) : Int) := by simp
        rw [hq] at hdiv hdiv2 hpp f8
        have hk1 : k + 1 ≤ ls.length := by omega
        have hg0 : ¬ (g : Int) = 0 := by omega
        have hg1 : ((g : Int) == 0) = false := by rw [beq_eq_false_iff_ne]; omega
        have hx1 : ¬ (x : Int) = 0 := by omega
        have hx2 : ((x : Int) == 0) = false := by rw [beq_eq_false_iff_ne]; omega
        have hxp : (0 : Int) < x := by omega
        have hgp : (0 : Int) < g := by omega
        obtain ⟨D, hD⟩ : ∃ D, 1000000000000000 / x = D := ⟨_, rfl⟩
        have hdq := tdiv_nat 1000000000000000 x
        have hdq2 : ((1000000000000000 : Int) / (x : Int)) = ((1000000000000000 / x : Nat) : Int) := by simp
        rw [hD] at hdq hdq2
        have hdq3 : (1000000000000000 : Int).tdiv (x : Int) = (D : Int) := hdq
        have hbd := div_bound (a := q) (M := 1000000000000000) (n := x) (by omega)
        rw [hD, hpp] at hbd
        have HMul := hid (show ((q : Int) * (x : Int)) = (p : Int) by rw [← hpp]; simp)
        have HQ3 : Hid (IntKind.i64.wrap (q : Int) = (q : Int)) := hid (IntWalk.i64_in _ (by omega))
        have HWq : Hid (wrap64 (q : Int) = (q : Int)) := hid (by unfold wrap64; omega)
        have hDle : D ≤ 1000000000000000 := by rw [← hD]; exact Nat.div_le_self _ _
        have HD3 : Hid (IntKind.i64.wrap (D : Int) = (D : Int)) := hid (IntWalk.i64_in _ (by omega))
        clear hDle
        have HP2 : Hid (wrap64 (p : Int) = (p : Int)) := hid (by unfold wrap64; omega)
        have HDiv := hid hdiv
        have HDiv2 := hid hdiv2
        have HDq := hid hdq3
        have HDq2 := hid hdq2
        clear hc hx0 hx hg hq hpp hD hdq f1 f2 f3 f4 f5 f6 f7 f8 hdiv hdiv2 hdq3 hdq2
        by_cases hbN : D < q
        · have HN := hid (HSt.out.trans (if_pos (hbd.1 hbN)))
          have HNo : Hid (lcmAll (lensXs xs) = none) := hid (by rw [HLs.out]; exact lcmN_none HN.out _ hk1)
          have HO := hid (okOR_no2 HNo.out)
          have hbI : (D : Int) < (q : Int) := by omega
          clear f9 HSt hbd
          have hdiv := HDiv.out
          have hdiv2 := HDiv2.out
          have hdq := HDq.out
          have hdq2 := HDq2.out
          go_wp2_with fail
          have hq3 := HQ3.out
          have hd3 := HD3.out
          go_quiet ((go_at_call 63; exact Calls.quiet_of_same ((HGc.out _).mono fun _ _ ⟨a, b⟩ => ⟨a, b.symm⟩)))
          clear hq3 hd3
          go_wp2
          go_ret2
          exact ⟨ret_ib (ansOR_no HO.out).symm HO.out.symm, below_drewN HB1.out _⟩
        · have HN := hid (HSt.out.trans (if_neg (fun h => hbN (hbd.2 h))))
          have hbI : ¬ (D : Int) < (q : Int) := by omega
          clear f9 HSt hbd
          have hdiv := HDiv.out
          have hdiv2 := HDiv2.out
          have hdq := HDq.out
          have hdq2 := HDq2.out
          go_wp2_with fail
          have hq3 := HQ3.out
          have hd3 := HD3.out
          go_quiet ((go_at_call 63; exact Calls.quiet_of_same ((HGc.out _).mono fun _ _ ⟨a, b⟩ => ⟨a, b.symm⟩)))
          clear hq3 hd3
          clear hdq hdq2
          have hmul := HMul.out
          have hp2 := HP2.out
          have hwq := HWq.out
          go_wp2_with fail
          refine (HGc.out _).mono ?_
          rintro e' w3 ⟨rfl, rfl⟩
          go_wp2
          clear hmul hp2 hdiv hdiv2 hwq
          go_roundw
          case rel => exact ⟨k + 1, p, hk1, by go_num, by rw [HP2.out], HN, below_drewN HB1.out _, below_drewN HU1.out _⟩
          case measure => simp [intOf]; omega
      · obtain rfl : k = ls.length := by omega
        have HAll : Hid (lcmAll (lensXs xs) = some m) := hid (by rw [HLs.out]; exact HM.out)
        have HO := hid (okOR_yes HQ.out HAll.out)
        go_wp2
        go_ret2
        exact ⟨ret_ib (ansOR_yes HO.out HAll.out).symm HO.out.symm, HB1.out⟩

/-! ### fixed ideals -/
def fixN (n : Nat) (ls : List Int) : Nat → Nat
  | 0 => 0
  | k + 1 => if n % (ls.getD k 0).toNat = 0 then fixN n ls k + (ls.getD k 0).toNat else fixN n ls k
theorem fixN_yes {n k x : Nat} {ls : List Int} (hx : ls.getD k 0 = (x : Int)) (h : n % x = 0) : fixN n ls (k + 1) = fixN n ls k + x := by
  simp only [fixN, hx, Int.toNat_natCast, h, if_true]
theorem fixN_no {n k x : Nat} {ls : List Int} (hx : ls.getD k 0 = (x : Int)) (h : ¬ n % x = 0) : fixN n ls (k + 1) = fixN n ls k := by
  simp only [fixN, hx, Int.toNat_natCast, h, if_false]
def okFI (xs : List Int) (k : Int) : Bool := good xs && (decide (0 ≤ k) && decide (k ≤ 1000))
def ansFI (xs : List Int) (k : Int) : Int := if okFI xs k then (fixN k.toNat (lensXs xs) (lensXs xs).length : Nat) else 0
theorem okFI_no1 {xs : List Int} {k : Int} (h : good xs = false) : okFI xs k = false := by simp [okFI, h]
theorem okFI_no2 {xs : List Int} {k : Int} (h : (decide (0 ≤ k) && decide (k ≤ 1000)) = false) : okFI xs k = false := by unfold okFI; rw [h, Bool.and_false]
theorem okFI_yes {xs : List Int} {k : Int} (h : good xs = true) (h2 : (decide (0 ≤ k) && decide (k ≤ 1000)) = true) : okFI xs k = true := by unfold okFI; rw [h, h2]; rfl
theorem ansFI_no {xs : List Int} {k : Int} (h : okFI xs k = false) : ansFI xs k = 0 := by simp [ansFI, h]
theorem ansFI_yes {xs : List Int} {n : Nat} (h : okFI xs n = true) : ansFI xs n = ((fixN n (lensXs xs) (lensXs xs).length : Nat) : Int) := by unfold ansFI; rw [if_pos h]; rfl
set_option maxHeartbeats 1600000 in
theorem specFixedIdeals_any (v : Value) (xs : List Int) (k : Int) (w : World) (hv : Ints w v xs) (hl : xs.length ≤ 1048576) (wf : (Lit.int .i64 k).wf = true) :
    Calls Try.prog 47 #[.agg #[v], .int .i64 k] w fun r w' => r = .returned (.tuple #[.int .i64 (ansFI xs k), .bool (okFI xs k)]) ∧ Below w.heap.size w w' := by
  have HV := hid hv
  clear hv wf
  go_enter Try.func47, Try.ntmps47
  have HB := hid (below_alloc (Below.refl _ w) (.cells #[v] 28))
  have A0 := hid (At.newAt w v 28 w.heap.size (by simp))
  go_wp2_with fail
  refine (poGood_any _ xs _ (HV.out.below HB.out) hl).mono ?_
  rintro e w' ⟨rfl, hb⟩
  replace HB := hid (below_to HB.out hb)
  replace A0 := hid (A0.out.below hb)
  clear hb
  cases hq : good xs
  · have HO := hid (okFI_no1 (k := k) hq)
    clear hq
    have ebox0 := A0.out.1
    go_wp2
    go_ret2
    exact ⟨ret_ib (ansFI_no HO.out).symm HO.out.symm, HB.out⟩
  · have HQ := hid hq
    clear hq
    cases hk : (decide (0 ≤ k) && decide (k ≤ 1000))
    · have HO := hid (okFI_no2 (xs := xs) hk)
      have HK := hid hk
      clear hk
      go_wp2_with (go_at_call 80; refine (l1In_any _ _ _ _).mono ?_; rw [HK.out]; rintro e w' ⟨rfl, rfl⟩)
      go_ret2
      exact ⟨ret_ib (ansFI_no HO.out).symm HO.out.symm, HB.out⟩
    · have HO := hid (okFI_yes HQ.out hk)
      have HK := hid hk
      have hk2 : 0 ≤ k ∧ k ≤ 1000 := by simpa using hk
      clear hk
      obtain ⟨n, rfl⟩ := Int.eq_ofNat_of_zero_le hk2.1
      have hbox := A0.out.1
      go_wp2_with (go_at_call 80; refine (l1In_any _ _ _ _).mono ?_; rw [HK.out]; rintro e w' ⟨rfl, rfl⟩)
      clear hbox
      refine (obLengths_any _ xs _ (HV.out.below HB.out) HQ.out).mono ?_
      rintro e w' ⟨q, rfl, ho, hb⟩
      replace HB := hid (below_to HB.out hb)
      have HI2 : Hid (Ints w' q (lensXs xs)) := hid ho.ints
      have HP := hid (lensXs_pos HQ.out)
      have hlen := lensXs_length HQ.out
      clear ho hb A0
      obtain ⟨ls, hls⟩ : ∃ ls, lensXs xs = ls := ⟨_, rfl⟩
      have HAns := hid (ansFI_yes HO.out)
      rw [hls] at HI2 HP hlen HAns
      obtain ⟨A, c, rfl, hA⟩ := HI2.out
      have HA := hid hA
      clear hA hls
      go_wp2
      go_loop [6, 20] (fun q i => ∃ j t : Nat, j ≤ ls.length ∧ i = .int .i64 j ∧ q = .int .i64 t ∧ Hid (fixN n ls j = t) ∧ t ≤ 1024 * j) (fun _ i => ls.length - (intOf i).toNat)
      case atStart => exact ⟨0, 0, Nat.zero_le _, rfl, rfl, hid rfl, Nat.zero_le _⟩
      case round =>
        obtain ⟨j, t, hj, rfl, rfl, HT, ht⟩ := hrel
        by_cases hlt : j < ls.length
        · obtain ⟨b, o, rfl, hbl, hc⟩ := HA.out (by intro h; simp [h] at hlt)
          have hcell := hc j hlt
          have hx0 := HP.out (ls.getD j 0) (by simp [List.getD, hlt])
          obtain ⟨x, hx⟩ := Int.eq_ofNat_of_zero_le (show 0 ≤ ls.getD j 0 by omega)
          rw [hx] at hcell hx0
          have HX := hid hx
          have hm1 := tmod_nat n x
          have hm2 : ((n : Int) % (x : Int)) = ((n % x : Nat) : Int) := by simp
          have hz1 : ¬ (x : Int) = 0 := by omega
          have hz2 : ((x : Int) == 0) = false := by rw [beq_eq_false_iff_ne]; omega
          have hz3 : (0 : Int) < x := by omega
          obtain ⟨r, hr⟩ : ∃ r, n % x = r := ⟨_, rfl⟩
          rw [hr] at hm1 hm2
          clear hc hx
          by_cases h0 : r = 0
          · have HSt := hid (fixN_yes HX.out (hr.trans h0))
            subst h0
            clear hr
            go_wp2
            clear hm1 hm2 hz1 hz2
            go_round
            case rel => exact ⟨j + 1, t + x, by omega, by go_num, by go_num, hid (by rw [HSt.out, HT.out]), by omega⟩
            case measure => simp [intOf]; omega
          · have HSt := hid (fixN_no HX.out (fun h => h0 (hr.symm.trans h)))
            have hr2 : ((r : Int) == 0) = false := by rw [beq_eq_false_iff_ne]; omega
            clear hr
            go_wp2
            clear hm1 hm2 hz1 hz2 hr2
            go_round
            case rel => exact ⟨j + 1, t, by omega, by go_num, rfl, hid (by rw [HSt.out, HT.out]), by omega⟩
            case measure => simp [intOf]; omega
        · obtain rfl : j = ls.length := by omega
          go_wp2
          go_ret2
          exact ⟨ret_ib (by rw [HAns.out, HT.out]) HO.out.symm, HB.out⟩

set_option maxHeartbeats 1600000 in
theorem implFixedIdeals_any (v : Value) (xs : List Int) (k : Int) (w : World) (hv : Ints w v xs) (hl : xs.length ≤ 1048576) (wf : (Lit.int .i64 k).wf = true) :
    Calls Try.prog 48 #[.agg #[v], .int .i64 k] w fun r w' => r = .returned (.tuple #[.int .i64 (ansFI xs k), .bool (okFI xs k)]) ∧ Below w.heap.size w w' := by
  have HV := hid hv
  clear hv wf
  go_enter Try.func48, Try.ntmps48
  have HB := hid (below_alloc (Below.refl _ w) (.cells #[v] 28))
  have A0 := hid (At.newAt w v 28 w.heap.size (by simp))
  go_wp2_with fail
  refine (implOrbitLengths_any _ xs _ (HV.out.below HB.out) hl).mono ?_
  rintro e w' ⟨q, rfl, ho, hlen0, hb⟩
  replace HB := hid (below_to HB.out hb)
  replace A0 := hid (A0.out.below hb)
  clear hb
  have HI0 := hid ho.ints
  clear ho hlen0
  cases hq : good xs
  · have HO := hid (okFI_no1 (k := k) hq)
    clear hq
    have ebox0 := A0.out.1
    go_wp2
    go_ret2
    exact ⟨ret_ib (ansFI_no HO.out).symm HO.out.symm, HB.out⟩
  · have HQ := hid hq
    clear hq
    by_cases hk : 0 ≤ k ∧ k ≤ 1000
    · have HO := hid (okFI_yes HQ.out (show (decide (0 ≤ k) && decide (k ≤ 1000)) = true by simp; omega))
      obtain ⟨hk1, hk2⟩ := hk
      obtain ⟨n, rfl⟩ := Int.eq_ofNat_of_zero_le hk1
      have HI2 : Hid (Ints w' q (lensXs xs)) := hid (by have := HI0.out; rw [ansOL_yes HQ.out] at this; exact this)
      have HP := hid (lensXs_pos HQ.out)
      have hlen := lensXs_length HQ.out
      clear HI0 A0
      obtain ⟨ls, hls⟩ : ∃ ls, lensXs xs = ls := ⟨_, rfl⟩
      have HAns := hid (ansFI_yes HO.out)
      rw [hls] at HI2 HP hlen HAns
      obtain ⟨A, c, rfl, hA⟩ := HI2.out
      have HA := hid hA
      clear hA hls
      go_wp2
      go_loop [8, 28] (fun q i => ∃ j t : Nat, j ≤ ls.length ∧ i = .int .i64 j ∧ q = .int .i64 t ∧ Hid (fixN n ls j = t) ∧ t ≤ 1024 * j) (fun _ i => ls.length - (intOf i).toNat)
      case atStart => exact ⟨0, 0, Nat.zero_le _, rfl, rfl, hid rfl, Nat.zero_le _⟩
      case round =>
        obtain ⟨j, t, hj, rfl, rfl, HT, ht⟩ := hrel
        by_cases hlt : j < ls.length
        · obtain ⟨b, o, rfl, hbl, hc⟩ := HA.out (by intro h; simp [h] at hlt)
          have hcell := hc j hlt
          have hx0 := HP.out (ls.getD j 0) (by simp [List.getD, hlt])
          obtain ⟨x, hx⟩ := Int.eq_ofNat_of_zero_le (show 0 ≤ ls.getD j 0 by omega)
          rw [hx] at hcell hx0
          have HX := hid hx
          have hm1 := tmod_nat n x
          have hm2 : ((n : Int) % (x : Int)) = ((n % x : Nat) : Int) := by simp
          have hz1 : ¬ (x : Int) = 0 := by omega
          have hz2 : ((x : Int) == 0) = false := by rw [beq_eq_false_iff_ne]; omega
          have hz3 : (0 : Int) < x := by omega
          obtain ⟨r, hr⟩ : ∃ r, n % x = r := ⟨_, rfl⟩
          rw [hr] at hm1 hm2
          clear hc hx
          by_cases h0 : r = 0
          · have HSt := hid (fixN_yes HX.out (hr.trans h0))
            subst h0
            clear hr
            go_wp2
            clear hm1 hm2 hz1 hz2
            go_round
            case rel => exact ⟨j + 1, t + x, by omega, by go_num, by go_num, hid (by rw [HSt.out, HT.out]), by omega⟩
            case measure => simp [intOf]; omega
          · have HSt := hid (fixN_no HX.out (fun h => h0 (hr.symm.trans h)))
            have hr2 : ((r : Int) == 0) = false := by rw [beq_eq_false_iff_ne]; omega
            clear hr
            go_wp2
            clear hm1 hm2 hz1 hz2 hr2
            go_round
            case rel => exact ⟨j + 1, t, by omega, by go_num, rfl, hid (by rw [HSt.out, HT.out]), by omega⟩
            case measure => simp [intOf]; omega
        · obtain rfl : j = ls.length := by omega
          go_wp2
          go_ret2
          exact ⟨ret_ib (by rw [HAns.out, HT.out]) HO.out.symm, HB.out⟩

    · have HO := hid (okFI_no2 (xs := xs) (show (decide (0 ≤ k) && decide (k ≤ 1000)) = false by rw [Bool.eq_false_iff]; simp; omega))
      by_cases hk0 : k < 0
      · clear hk
        have ebox0 := A0.out.1
        go_wp2
        go_ret2
        exact ⟨ret_ib (ansFI_no HO.out).symm HO.out.symm, HB.out⟩
      · have hk1 : 1000 < k := by omega
        clear hk
        have ebox0 := A0.out.1
        go_wp2
        go_ret2
        exact ⟨ret_ib (ansFI_no HO.out).symm HO.out.symm, HB.out⟩
end Go.Proofs.Ytkcjppbplllaiaa
