/- OrbitLengths, OrderOfRow, FixedIdeals: contracts. -/
import Derived.Test.YtnlehkjfidpdlabObAll
import Derived.Test.YtnlehkjfidpdlabCycE
namespace Go.Proofs.Ytnlehkjfidpdlab
open Go.RowKit Go.WideShapes Go.ChangeShapes
set_option linter.unusedVariables false

def lensT (ls : List (List Int)) (k : Nat) : List Int := (ls.take k).map fun l => ((l.length : Nat) : Int)
theorem lensT_succ (ls : List (List Int)) {k : Nat} (hk : k < ls.length) : lensT ls (k + 1) = lensT ls k ++ [(((ls.getD k []).length : Nat) : Int)] := by
  unfold lensT
  rw [List.take_succ_eq_append_getElem hk, List.map_append]
  simp [List.getD, hk]
theorem lensT_length (ls : List (List Int)) {k : Nat} (hk : k ≤ ls.length) : (lensT ls k).length = k := by simp [lensT]; omega
def lensXs (xs : List Int) : List Int := lensT (allXs xs) (allXs xs).length
theorem lensXs_starts (xs : List Int) : lensXs xs = (starts (rowmo xs) (2 ^ xs.length) (idsXs xs)).map fun s => ((per (rowmo xs) (2 ^ xs.length) s : Nat) : Int) := by
  unfold lensXs lensT allXs orbsOf
  rw [List.take_length, List.map_map]
  exact List.map_congr_left fun s _ => by simp [orbL_length]
theorem lensXs_cyc {xs : List Int} (hg : good xs = true) : cyclesL (rowmo xs) (2 ^ xs.length) (setsL (holdsIdeal xs) (2 ^ xs.length)) = lensXs xs := by
  rw [lensXs_starts]
  exact cyclesL_starts (rowMov hg) (idsXs_D xs)
theorem allXs_length {xs : List Int} (hg : good xs = true) : (allXs xs).length ≤ 1024 := by
  unfold allXs
  rw [orbsOf_length]
  have := startsN_length (rowmo xs) (2 ^ xs.length) (idsXs xs) (idsXs xs).length
  have := (idsXs_length hg).2
  unfold starts
  omega
theorem allXs_row {xs : List Int} (hg : good xs = true) {j : Nat} (hj : j < (allXs xs).length) : ∃ s : Nat, idB xs s = true ∧ (allXs xs).getD j [] = orbXs xs s := by
  unfold allXs orbsOf at hj ⊢
  rw [List.length_map] at hj
  refine ⟨(starts (rowmo xs) (2 ^ xs.length) (idsXs xs))[j], startsN_D (idsXs_D xs) (Nat.le_refl _) (List.getElem_mem hj), ?_⟩
  simp [List.getD, hj, orbXs]
theorem lensXs_length {xs : List Int} (hg : good xs = true) : (lensXs xs).length ≤ 1024 := by
  unfold lensXs
  rw [lensT_length _ (Nat.le_refl _)]
  exact allXs_length hg
theorem lensXs_pos {xs : List Int} (hg : good xs = true) : ∀ x ∈ lensXs xs, 1 ≤ x ∧ x ≤ 1024 := by
  intro x hx
  rw [← lensXs_cyc hg] at hx
  have h3 := pow10 (good_length hg).2
  obtain ⟨N, hN⟩ : ∃ N, 2 ^ xs.length = N := ⟨_, rfl⟩
  rw [hN] at hx h3
  have h1 := cycSt_pos (rowmo xs) N (setsL (holdsIdeal xs) N) _ x hx
  omega
def ansOL (xs : List Int) : List Int := if good xs then lensXs xs else []
theorem ansOL_no {xs : List Int} (h : good xs = false) : ansOL xs = [] := by simp [ansOL, h]
theorem ansOL_yes {xs : List Int} (h : good xs = true) : ansOL xs = lensXs xs := by simp [ansOL, h]
theorem ansOL_length (xs : List Int) : (ansOL xs).length ≤ 1048576 := by
  cases h : good xs
  · rw [ansOL_no h]; simp
  · rw [ansOL_yes h]; have := lensXs_length h; omega
theorem implOrbitLengths_any (v : Value) (xs : List Int) (w : World) (hv : Ints w v xs) (hl : xs.length ≤ 1048576) :
    Calls Try.prog 64 #[.agg #[v]] w fun (r : Ending) w' => ∃ q, r = Ending.returned (.tuple #[q, .bool (good xs)]) ∧ OwnI 3 w' w.heap.size q (ansOL xs) ∧ (ansOL xs).length ≤ 1048576 ∧ Below w.heap.size w w' := by
  have HV := hid hv
  have HL := hid (ansOL_length xs)
  clear hv
  go_enter Try.func64, Try.ntmps64
  have HB := hid (below_alloc (Below.refl _ w) (.cells #[v] 35))
  have A0 := hid (At.newAt w v 35 w.heap.size (by simp))
  go_wp2_with fail
  refine (implIsPoset_any _ xs _ (HV.out.below HB.out) hl).mono ?_
  rintro e w' ⟨rfl, hb⟩
  replace HB := hid (below_to HB.out hb)
  replace A0 := hid (A0.out.below hb)
  clear hb
  cases hq : good xs
  · have HQ := hid hq
    clear hq
    have ebox0 := A0.out.1
    go_wp2
    go_ret2
    exact ⟨_, ret_vb' HQ.out.symm, by rw [ansOL_no HQ.out]; exact OwnI.nil _ _ _, HL.out, HB.out⟩
  · have HQ := hid hq
    have HE := hid (lensXs_cyc hq)
    have hz := HB.out.size
    clear hq
    have ebox0 := A0.out.1
    go_wp2_with fail
    clear ebox0
    refine (cyclesRow_any _ xs _ (HV.out.below HB.out) HQ.out).mono ?_
    rintro e w' ⟨q, rfl, ho, hb⟩
    replace HB := hid (below_to HB.out hb)
    replace A0 := hid (A0.out.below hb)
    clear hb
    have ebox0 := A0.out.1
    go_wp2
    go_ret2
    exact ⟨_, ret_vb' HQ.out.symm, by rw [ansOL_yes HQ.out, ← HE.out]; exact ho.mono hz, HL.out, HB.out⟩

/-! ### the order of rowmotion -/
def okOR (xs : List Int) : Bool := good xs && (lcmAll (lensXs xs)).isSome
def ansOR (xs : List Int) : Int := if okOR xs then (((lcmAll (lensXs xs)).getD 0 : Nat) : Int) else 0
theorem okOR_no1 {xs : List Int} (h : good xs = false) : okOR xs = false := by simp [okOR, h]
theorem okOR_no2 {xs : List Int} (h : lcmAll (lensXs xs) = none) : okOR xs = false := by simp [okOR, h]
theorem okOR_yes {xs : List Int} {m : Nat} (h : good xs = true) (k : lcmAll (lensXs xs) = some m) : okOR xs = true := by simp [okOR, h, k]
theorem ansOR_no {xs : List Int} (h : okOR xs = false) : ansOR xs = 0 := by simp [ansOR, h]
theorem ansOR_yes {xs : List Int} {m : Nat} (h : okOR xs = true) (k : lcmAll (lensXs xs) = some m) : ansOR xs = (m : Int) := by simp [ansOR, h, k]
/-! ### fixed ideals -/
def fixN (n : Nat) (ls : List Int) : Nat → Nat
  | 0 => 0
  | k + 1 => if n % (ls.getD k 0).toNat = 0 then fixN n ls k + (ls.getD k 0).toNat else fixN n ls k
theorem fixN_yes {n k x : Nat} {ls : List Int} (hx : ls.getD k 0 = (x : Int)) (h : n % x = 0) : fixN n ls (k + 1) = fixN n ls k + x := by
  simp only [fixN, hx, Int.toNat_natCast, h, if_true]
theorem fixN_no {n k x : Nat} {ls : List Int} (hx : ls.getD k 0 = (x : Int)) (h : ¬ n % x = 0) : fixN n ls (k + 1) = fixN n ls k := by
  simp only [fixN, hx, Int.toNat_natCast, h, if_false]
def okFI (xs : List Int) (k : Int) : Bool := good xs && (decide (0 ≤ k) && decide (k ≤ 1000))
def ansFI (xs : List Int) (k : Int) : Int := if okFI xs k then (fixN k.toNat (lensXs xs) (lensXs xs).length : Nat) else 0
theorem okFI_no1 {xs : List Int} {k : Int} (h : good xs = false) : okFI xs k = false := by simp [okFI, h]
theorem okFI_no2 {xs : List Int} {k : Int} (h : (decide (0 ≤ k) && decide (k ≤ 1000)) = false) : okFI xs k = false := by unfold okFI; rw [h, Bool.and_false]
theorem okFI_yes {xs : List Int} {k : Int} (h : good xs = true) (h2 : (decide (0 ≤ k) && decide (k ≤ 1000)) = true) : okFI xs k = true := by unfold okFI; rw [h, h2]; rfl
theorem ansFI_no {xs : List Int} {k : Int} (h : okFI xs k = false) : ansFI xs k = 0 := by simp [ansFI, h]
theorem ansFI_yes {xs : List Int} {n : Nat} (h : okFI xs n = true) : ansFI xs n = ((fixN n (lensXs xs) (lensXs xs).length : Nat) : Int) := by unfold ansFI; rw [if_pos h]; rfl
set_option maxHeartbeats 1600000 in
theorem implFixedIdeals_any (v : Value) (xs : List Int) (k : Int) (w : World) (hv : Ints w v xs) (hl : xs.length ≤ 1048576) (wf : (Lit.int .i64 k).wf = true) :
    Calls Try.prog 32 #[.agg #[v], .int .i64 k] w fun r w' => r = .returned (.tuple #[.int .i64 (ansFI xs k), .bool (okFI xs k)]) ∧ Below w.heap.size w w' := by
  have HV := hid hv
  clear hv wf
  go_enter Try.func32, Try.ntmps32
  have HB := hid (below_alloc (Below.refl _ w) (.cells #[v] 35))
  have A0 := hid (At.newAt w v 35 w.heap.size (by simp))
  go_wp2_with fail
  refine (implOrbitLengths_any _ xs _ (HV.out.below HB.out) hl).mono ?_
  rintro e w' ⟨q, rfl, ho, hlen0, hb⟩
  replace HB := hid (below_to HB.out hb)
  replace A0 := hid (A0.out.below hb)
  clear hb
  have HI0 := hid ho.ints
  clear ho hlen0
  cases hq : good xs
  · have HO := hid (okFI_no1 (k := k) hq)
    clear hq
    have ebox0 := A0.out.1
    go_wp2
    go_ret2
    exact ⟨ret_ib (ansFI_no HO.out).symm HO.out.symm, HB.out⟩
  · have HQ := hid hq
    clear hq
    by_cases hk : 0 ≤ k ∧ k ≤ 1000
    · have HO := hid (okFI_yes HQ.out (show (decide (0 ≤ k) && decide (k ≤ 1000)) = true by simp; omega))
      obtain ⟨hk1, hk2⟩ := hk
      obtain ⟨n, rfl⟩ := Int.eq_ofNat_of_zero_le hk1
      have HI2 : Hid (Ints w' q (lensXs xs)) := hid (by have := HI0.out; rw [ansOL_yes HQ.out] at this; exact this)
      have HP := hid (lensXs_pos HQ.out)
      have hlen := lensXs_length HQ.out
      clear HI0 A0
      obtain ⟨ls, hls⟩ : ∃ ls, lensXs xs = ls := ⟨_, rfl⟩
      have HAns := hid (ansFI_yes HO.out)
      rw [hls] at HI2 HP hlen HAns
      obtain ⟨A, c, rfl, hA⟩ := HI2.out
      have HA := hid hA
      clear hA hls
      go_wp2
      go_loop [8, 28] (fun q i => ∃ j t : Nat, j ≤ ls.length ∧ i = .int .i64 j ∧ q = .int .i64 t ∧ Hid (fixN n ls j = t) ∧ t ≤ 1024 * j) (fun _ i => ls.length - (intOf i).toNat)
      case atStart => exact ⟨0, 0, Nat.zero_le _, rfl, rfl, hid rfl, Nat.zero_le _⟩
      case round =>
        obtain ⟨j, t, hj, rfl, rfl, HT, ht⟩ := hrel
        by_cases hlt : j < ls.length
        · obtain ⟨b, o, rfl, hbl, hc⟩ := HA.out (by intro h; simp [h] at hlt)
          have hcell := hc j hlt
          have hx0 := HP.out (ls.getD j 0) (by simp [List.getD, hlt])
          obtain ⟨x, hx⟩ := Int.eq_ofNat_of_zero_le (show 0 ≤ ls.getD j 0 by omega)
          rw [hx] at hcell hx0
          have HX := hid hx
          have hm1 := tmod_nat n x
          have hm2 : ((n : Int) % (x : Int)) = ((n % x : Nat) : Int) := by simp
          have hz1 : ¬ (x : Int) = 0 := by omega
          have hz2 : ((x : Int) == 0) = false := by rw [beq_eq_false_iff_ne]; omega
          have hz3 : (0 : Int) < x := by omega
          obtain ⟨r, hr⟩ : ∃ r, n % x = r := ⟨_, rfl⟩
          rw [hr] at hm1 hm2
          clear hc hx
          by_cases h0 : r = 0
          · have HSt := hid (fixN_yes HX.out (hr.trans h0))
            subst h0
            clear hr
            go_wp2
            clear hm1 hm2 hz1 hz2
            go_round
            case rel => exact ⟨j + 1, t + x, by omega, by go_num, by go_num, hid (by rw [HSt.out, HT.out]), by omega⟩
            case measure => simp [intOf]; omega
          · have HSt := hid (fixN_no HX.out (fun h => h0 (hr.symm.trans h)))
            have hr2 : ((r : Int) == 0) = false := by rw [beq_eq_false_iff_ne]; omega
            clear hr
            go_wp2
            clear hm1 hm2 hz1 hz2 hr2
            go_round
            case rel => exact ⟨j + 1, t, by omega, by go_num, rfl, hid (by rw [HSt.out, HT.out]), by omega⟩
            case measure => simp [intOf]; omega
        · obtain rfl : j = ls.length := by omega
          go_wp2
          go_ret2
          exact ⟨ret_ib (by rw [HAns.out, HT.out]) HO.out.symm, HB.out⟩

    · have HO := hid (okFI_no2 (xs := xs) (show (decide (0 ≤ k) && decide (k ≤ 1000)) = false by rw [Bool.eq_false_iff]; simp; omega))
      by_cases hk0 : k < 0
      · clear hk
        have ebox0 := A0.out.1
        go_wp2
        go_ret2
        exact ⟨ret_ib (ansFI_no HO.out).symm HO.out.symm, HB.out⟩
      · have hk1 : 1000 < k := by omega
        clear hk
        have ebox0 := A0.out.1
        go_wp2
        go_ret2
        exact ⟨ret_ib (ansFI_no HO.out).symm HO.out.symm, HB.out⟩
end Go.Proofs.Ytnlehkjfidpdlab
