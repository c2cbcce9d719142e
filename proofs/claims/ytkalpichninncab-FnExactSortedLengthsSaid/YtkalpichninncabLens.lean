/- OrbitLengths, OrderOfRow, FixedIdeals: contracts. -/
import Derived.Test.YtkalpichninncabObAll
import Derived.Test.YtkalpichninncabCycE
namespace Go.Proofs.Ytkalpichninncab
open Go.RowKit Go.WideShapes Go.ChangeShapes
set_option linter.unusedVariables false

def lensT (ls : List (List Int)) (k : Nat) : List Int := (ls.take k).map fun l => ((l.length : Nat) : Int)
theorem lensT_succ (ls : List (List Int)) {k : Nat} (hk : k < ls.length) : lensT ls (k + 1) = lensT ls k ++ [(((ls.getD k []).length : Nat) : Int)] := by
  unfold lensT
  rw [List.take_succ_eq_append_getElem hk, List.map_append]
  simp [List.getD, hk]
theorem lensT_length (ls : List (List Int)) {k : Nat} (hk : k ≤ ls.length) : (lensT ls k).length = k := by simp [lensT]; omega
def lensXs (xs : List Int) : List Int := lensT (allXs xs) (allXs xs).length
theorem lensXs_starts (xs : List Int) : lensXs xs = (starts (rowmo xs) (2 ^ xs.length) (idsXs xs)).map fun s => ((per (rowmo xs) (2 ^ xs.length) s : Nat) : Int) := by
  unfold lensXs lensT allXs orbsOf
  rw [List.take_length, List.map_map]
  exact List.map_congr_left fun s _ => by simp [orbL_length]
theorem lensXs_cyc {xs : List Int} (hg : good xs = true) : cyclesL (rowmo xs) (2 ^ xs.length) (setsL (holdsIdeal xs) (2 ^ xs.length)) = lensXs xs := by
  rw [lensXs_starts]
  exact cyclesL_starts (rowMov hg) (idsXs_D xs)
theorem allXs_length {xs : List Int} (hg : good xs = true) : (allXs xs).length ≤ 1024 := by
  unfold allXs
  rw [orbsOf_length]
  have := startsN_length (rowmo xs) (2 ^ xs.length) (idsXs xs) (idsXs xs).length
  have := (idsXs_length hg).2
  unfold starts
  omega
theorem allXs_row {xs : List Int} (hg : good xs = true) {j : Nat} (hj : j < (allXs xs).length) : ∃ s : Nat, idB xs s = true ∧ (allXs xs).getD j [] = orbXs xs s := by
  unfold allXs orbsOf at hj ⊢
  rw [List.length_map] at hj
  refine ⟨(starts (rowmo xs) (2 ^ xs.length) (idsXs xs))[j], startsN_D (idsXs_D xs) (Nat.le_refl _) (List.getElem_mem hj), ?_⟩
  simp [List.getD, hj, orbXs]
theorem lensXs_length {xs : List Int} (hg : good xs = true) : (lensXs xs).length ≤ 1024 := by
  unfold lensXs
  rw [lensT_length _ (Nat.le_refl _)]
  exact allXs_length hg
theorem lensXs_pos {xs : List Int} (hg : good xs = true) : ∀ x ∈ lensXs xs, 1 ≤ x ∧ x ≤ 1024 := by
  intro x hx
  rw [← lensXs_cyc hg] at hx
  have h3 := pow10 (good_length hg).2
  obtain ⟨N, hN⟩ : ∃ N, 2 ^ xs.length = N := ⟨_, rfl⟩
  rw [hN] at hx h3
  have h1 := cycSt_pos (rowmo xs) N (setsL (holdsIdeal xs) N) _ x hx
  omega
set_option maxHeartbeats 800000 in
theorem obLengths_any (v : Value) (xs : List Int) (w : World) (hv : Ints w v xs) (hg : good xs = true) :
    Calls Try.prog 54 #[.agg #[v]] w fun (r : Ending) w' => ∃ q, r = Ending.returned q ∧ OwnI 3 w' w.heap.size q (lensXs xs) ∧ Below w.heap.size w w' := by
  have HV := hid hv
  have HG := hid hg
  have HLn := hid (allXs_length hg)
  clear hv hg
  go_enter Try.func54, Try.ntmps54
  have HB := hid (below_alloc (Below.refl _ w) (.cells #[v] 28))
  have A0 := hid (At.newAt w v 28 w.heap.size (by simp))
  go_wp2_with fail
  refine (obAll_any _ xs _ (HV.out.below HB.out) HG.out).mono ?_
  rintro e w' ⟨q, rfl, ho, hb⟩
  replace HB := hid (below_to HB.out hb)
  replace A0 := hid (A0.out.below hb)
  clear hb
  have hz := HB.out.size
  have HI := hid ho.ints
  have HEnd : Hid (lensXs xs = lensT (allXs xs) (allXs xs).length) := hid rfl
  obtain ⟨ls, hls⟩ : ∃ ls, allXs xs = ls := ⟨_, rfl⟩
  rw [hls] at HI HLn HEnd
  obtain ⟨A, c, rfl, hA⟩ := HI.out
  have HA := hid hA
  have hl1 := HLn.out
  clear ho HI hA hls
  go_wp2
  go_loopw [3, 9] (fun q i wr => ∃ (k : Nat), k ≤ ls.length ∧ i = .int .i64 k ∧ OwnI 3 wr w'.heap.size q (lensT ls k) ∧ Below w'.heap.size w' wr) (fun _ i _ => ls.length - (intOf i).toNat)
  case atStart => exact ⟨0, Nat.zero_le _, rfl, OwnI.nil _ _ _, Below.refl _ _⟩
  case round =>
    obtain ⟨k, hk, rfl, ho, hb⟩ := hrel
    have HO := hid ho
    have HB1 := hid hb
    have hz1 := hb.size
    by_cases hlt : k < ls.length
    · obtain ⟨b, o, u, rfl, hbl, hc, hi⟩ := HA.out k hlt
      have hcell := (hb.cell (p := ⟨b, o + k, none⟩) hbl).trans hc
      obtain ⟨uA, uc, rfl, -⟩ := hi
      have HSn := hid (lensT_succ ls hlt)
      have hll := lensT_length ls hk
      obtain ⟨n, hn⟩ : ∃ n, (ls.getD k []).length = n := ⟨_, rfl⟩
      rw [hn] at hcell HSn
      have hl48 : (lensT ls k).length < 1048576 := by omega
      clear ho hb hc hn hll
      go_wp2_with (at_builtin; refine wpList_append_int rfl _ _ 22 3 rfl Try.underlying22 Try.info3 w'.heap.size _ _ n rfl HO.out rfl rfl hl48 hz1 ?_; rintro q2 w6 ho6 hb6)
      go_roundw
      case rel => exact ⟨k + 1, by omega, by go_num, (by rw [HSn.out]; exact ho6), HB1.out.trans hb6⟩
      case measure => simp [intOf]; omega
    · obtain rfl : k = ls.length := by omega
      clear ho hb
      go_wp2
      go_ret
      exact ⟨_, rfl, (by rw [HEnd.out]; exact HO.out.mono hz), below_to HB.out HB1.out⟩
def ansOL (xs : List Int) : List Int := if good xs then lensXs xs else []
theorem ansOL_no {xs : List Int} (h : good xs = false) : ansOL xs = [] := by simp [ansOL, h]
theorem ansOL_yes {xs : List Int} (h : good xs = true) : ansOL xs = lensXs xs := by simp [ansOL, h]
theorem ansOL_length (xs : List Int) : (ansOL xs).length ≤ 1048576 := by
  cases h : good xs
  · rw [ansOL_no h]; simp
  · rw [ansOL_yes h]; have := lensXs_length h; omega
theorem implOrbitLengths_any (v : Value) (xs : List Int) (w : World) (hv : Ints w v xs) (hl : xs.length ≤ 1048576) :
    Calls Try.prog 55 #[.agg #[v]] w fun (r : Ending) w' => ∃ q, r = Ending.returned (.tuple #[q, .bool (good xs)]) ∧ OwnI 3 w' w.heap.size q (ansOL xs) ∧ (ansOL xs).length ≤ 1048576 ∧ Below w.heap.size w w' := by
  have HV := hid hv
  have HL := hid (ansOL_length xs)
  clear hv
  go_enter Try.func55, Try.ntmps55
  have HB := hid (below_alloc (Below.refl _ w) (.cells #[v] 28))
  have A0 := hid (At.newAt w v 28 w.heap.size (by simp))
  go_wp2_with fail
  refine (implIsPoset_any _ xs _ (HV.out.below HB.out) hl).mono ?_
  rintro e w' ⟨rfl, hb⟩
  replace HB := hid (below_to HB.out hb)
  replace A0 := hid (A0.out.below hb)
  clear hb
  cases hq : good xs
  · have HQ := hid hq
    clear hq
    have ebox0 := A0.out.1
    go_wp2
    go_ret2
    exact ⟨_, ret_vb' HQ.out.symm, by rw [ansOL_no HQ.out]; exact OwnI.nil _ _ _, HL.out, HB.out⟩
  · have HQ := hid hq
    have HE := hid (lensXs_cyc hq)
    have hz := HB.out.size
    clear hq
    have ebox0 := A0.out.1
    go_wp2_with fail
    clear ebox0
    refine (cyclesRow_any _ xs _ (HV.out.below HB.out) HQ.out).mono ?_
    rintro e w' ⟨q, rfl, ho, hb⟩
    replace HB := hid (below_to HB.out hb)
    replace A0 := hid (A0.out.below hb)
    clear hb
    have ebox0 := A0.out.1
    go_wp2
    go_ret2
    exact ⟨_, ret_vb' HQ.out.symm, by rw [ansOL_yes HQ.out, ← HE.out]; exact ho.mono hz, HL.out, HB.out⟩

/-! ### the order of rowmotion -/
def okOR (xs : List Int) : Bool := good xs && (lcmAll (lensXs xs)).isSome
def ansOR (xs : List Int) : Int := if okOR xs then (((lcmAll (lensXs xs)).getD 0 : Nat) : Int) else 0
theorem okOR_no1 {xs : List Int} (h : good xs = false) : okOR xs = false := by simp [okOR, h]
theorem okOR_no2 {xs : List Int} (h : lcmAll (lensXs xs) = none) : okOR xs = false := by simp [okOR, h]
theorem okOR_yes {xs : List Int} {m : Nat} (h : good xs = true) (k : lcmAll (lensXs xs) = some m) : okOR xs = true := by simp [okOR, h, k]
theorem ansOR_no {xs : List Int} (h : okOR xs = false) : ansOR xs = 0 := by simp [ansOR, h]
theorem ansOR_yes {xs : List Int} {m : Nat} (h : okOR xs = true) (k : lcmAll (lensXs xs) = some m) : ansOR xs = (m : Int) := by simp [ansOR, h, k]
/-! ### fixed ideals -/
def fixN (n : Nat) (ls : List Int) : Nat → Nat
  | 0 => 0
  | k + 1 => if n % (ls.getD k 0).toNat = 0 then fixN n ls k + (ls.getD k 0).toNat else fixN n ls k
theorem fixN_yes {n k x : Nat} {ls : List Int} (hx : ls.getD k 0 = (x : Int)) (h : n % x = 0) : fixN n ls (k + 1) = fixN n ls k + x := by
  simp only [fixN, hx, Int.toNat_natCast, h, if_true]
theorem fixN_no {n k x : Nat} {ls : List Int} (hx : ls.getD k 0 = (x : Int)) (h : ¬ n % x = 0) : fixN n ls (k + 1) = fixN n ls k := by
  simp only [fixN, hx, Int.toNat_natCast, h, if_false]
def okFI (xs : List Int) (k : Int) : Bool := good xs && (decide (0 ≤ k) && decide (k ≤ 1000))
def ansFI (xs : List Int) (k : Int) : Int := if okFI xs k then (fixN k.toNat (lensXs xs) (lensXs xs).length : Nat) else 0
theorem okFI_no1 {xs : List Int} {k : Int} (h : good xs = false) : okFI xs k = false := by simp [okFI, h]
theorem okFI_no2 {xs : List Int} {k : Int} (h : (decide (0 ≤ k) && decide (k ≤ 1000)) = false) : okFI xs k = false := by unfold okFI; rw [h, Bool.and_false]
theorem okFI_yes {xs : List Int} {k : Int} (h : good xs = true) (h2 : (decide (0 ≤ k) && decide (k ≤ 1000)) = true) : okFI xs k = true := by unfold okFI; rw [h, h2]; rfl
theorem ansFI_no {xs : List Int} {k : Int} (h : okFI xs k = false) : ansFI xs k = 0 := by simp [ansFI, h]
theorem ansFI_yes {xs : List Int} {n : Nat} (h : okFI xs n = true) : ansFI xs n = ((fixN n (lensXs xs) (lensXs xs).length : Nat) : Int) := by unfold ansFI; rw [if_pos h]; rfl
end Go.Proofs.Ytkalpichninncab
