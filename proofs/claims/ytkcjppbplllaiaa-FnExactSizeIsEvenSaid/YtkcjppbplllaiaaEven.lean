/- SizeIsEven, AntichainIsEven: contracts. -/
import Derived.Test.YtkcjppbplllaiaaAllOrb
import Derived.Test.YtkcjppbplllaiaaOrbT
import Derived.Deep.DeepCutAuto
namespace Go.Proofs.Ytkcjppbplllaiaa
open Go.RowKit Go.WideShapes Go.ChangeShapes
set_option linter.unusedVariables false

def evenAt (g : Nat → Nat) (ls : List (List Int)) (j : Nat) : Bool := decide (sumL g (ls.getD j []) * (ls.getD 0 []).length = sumL g (ls.getD 0 []) * (ls.getD j []).length)
def evenL (g : Nat → Nat) (ls : List (List Int)) : Bool := (List.range ls.length).all (evenAt g ls)
theorem evenL_no {g : Nat → Nat} {ls : List (List Int)} {j : Nat} (hj : j < ls.length) (h : evenAt g ls j = false) : evenL g ls = false := by
  cases hc : evenL g ls
  · rfl
  · rw [List.all_eq_true.1 hc j (List.mem_range.2 hj)] at h; cases h
theorem evenL_yes {g : Nat → Nat} {ls : List (List Int)} (h : ∀ j, j < ls.length → evenAt g ls j = true) : evenL g ls = true :=
  List.all_eq_true.2 fun j hj => h j (List.mem_range.1 hj)
/-- rows that are read as sets -/
structure Rows10 (ls : List (List Int)) : Prop where
  pos : 0 < ls.length
  le : ls.length ≤ 1024
  row : ∀ j, j < ls.length → (ls.getD j []).length ≤ 1024
  at_ : ∀ j, j < ls.length → ∀ i, i < (ls.getD j []).length → ∃ s : Nat, (ls.getD j []).getD i 0 = (s : Int) ∧ s < 1024
theorem allXs_rows {xs : List Int} (hg : good xs = true) : Rows10 (allXs xs) where
  pos := by
    rcases Nat.eq_zero_or_pos (allXs xs).length with h | h
    · exfalso
      unfold allXs at h
      rw [orbsOf_length] at h
      have h0 := (idsXs_length hg).1
      have h1 := startsN_seen (rowMov hg) (idsXs_D xs) (Nat.le_refl _) (show 0 < (idsXs xs).length by omega)
      have h2 : startsN (rowmo xs) (2 ^ xs.length) (idsXs xs) (idsXs xs).length = [] := List.eq_nil_of_length_eq_zero h
      rw [h2] at h1
      cases h1
    · exact h
  le := allXs_length hg
  row := fun j hj => by obtain ⟨s, h1, h2⟩ := allXs_row hg hj; rw [h2]; exact (orbXs_length hg h1).2
  at_ := fun j hj i hi => by obtain ⟨s, h1, h2⟩ := allXs_row hg hj; rw [h2] at hi ⊢; exact orbXs_at hg h1 i hi
theorem prod_le {a b : Nat} (ha : a ≤ 10240) (hb : b ≤ 1024) : a * b ≤ 10485760 := Nat.le_trans (Nat.mul_le_mul ha hb) (by omega)

set_option maxHeartbeats 1600000 in
theorem haveOneMeanSize_any (u : Value) (ls : List (List Int)) (g : Nat → Nat) (w : World) (hu : IntsSS w u ls) (hr : Rows10 ls) (h10 : ∀ s, g s ≤ 10)
    (hF : ∀ (s : Nat) (W : World), s < 1024 → Below w.heap.size w W → Calls Try.prog 68 #[.int .i64 s] W fun r W' => r = .returned (.int .i64 (g s : Nat)) ∧ Below W.heap.size W W') :
    Calls Try.prog 77 #[u, .func (.func 68) #[] #[]] w fun r w' => r = .returned (.bool (evenL g ls)) ∧ Below w.heap.size w w' := by
  have HF := hid hF
  have HR := hid hr
  have H10 := hid h10
  obtain ⟨A, c, rfl, hA⟩ := hu
  have HA := hid hA
  obtain ⟨b, o, u0, rfl, hbl, hc0, hi0⟩ := hA 0 hr.pos
  have hp := hr.pos
  have hle := hr.le
  have HI0 := hid hi0
  have h00 := hr.row 0 hr.pos
  have hs0 := sumTo_le h10 (ls.getD 0 []) (ls.getD 0 []).length
  obtain ⟨uA, uc, rfl, -⟩ := hi0
  have HEv : Hid (∀ j, evenAt g ls j = decide (sumL g (ls.getD j []) * (ls.getD 0 []).length = sumTo g (ls.getD 0 []) (ls.getD 0 []).length * (ls.getD j []).length)) := hid (fun j => rfl)
  have HSum0 := hid (sumOverSize_any (.slice uA (ls.getD 0 []).length uc) (ls.getD 0 []) g (· < 1024) w HI0.out h00 (hr.at_ 0 hr.pos) h10 hF)
  obtain ⟨n0, hn0⟩ : ∃ n, (ls.getD 0 []).length = n := ⟨_, rfl⟩
  obtain ⟨S0, hS0⟩ : ∃ S, sumTo g (ls.getD 0 []) (ls.getD 0 []).length = S := ⟨_, rfl⟩
  rw [hS0] at HEv HSum0 hs0
  rw [hn0] at HEv HSum0 hs0 h00 hc0
  have hcell0 : w.cell? ⟨b, o, none⟩ = some (.slice uA n0 uc) := by simpa using hc0
  have hp2 : (0 : Int) < (ls.length : Int) := by omega
  clear hA hF hr h10 hn0 hS0 HI0 hc0
  go_enter Try.func77, Try.ntmps77
  go_wp2_with fail
  clear hcell0
  refine HSum0.out.mono ?_
  rintro e w1 ⟨rfl, hb1⟩
  have HB := hid hb1
  clear hb1
  go_wp2
  go_loopw [17] (fun i wr => ∃ j : Nat, j ≤ ls.length ∧ i = .int .i64 j ∧ Hid (∀ k, k < j → evenAt g ls k = true) ∧ Below w.heap.size w wr) (fun i _ => ls.length - (intOf i).toNat)
  case atStart => exact ⟨0, Nat.zero_le _, rfl, hid (fun k hk => absurd hk (Nat.not_lt_zero _)), HB.out⟩
  case round =>
    obtain ⟨j, hj, rfl, HE, hb⟩ := hrel
    have HB1 := hid hb
    by_cases hlt : j < ls.length
    · obtain ⟨b', o', uj, hsh, hbl', hcj, hij⟩ := HA.out j hlt
      obtain ⟨rfl, rfl⟩ : b = b' ∧ o = o' := by cases hsh; exact ⟨rfl, rfl⟩
      have hcell := (hb.cell (p := ⟨b, o + j, none⟩) hbl).trans hcj
      have HIj := hid (hij.below hb)
      obtain ⟨jA, jc, rfl, -⟩ := hij
      have hrj := HR.out.row j hlt
      have hsj := sumTo_le H10.out (ls.getD j []) (ls.getD j []).length
      have HEj := hid (HEv.out j)
      have HSum := hid (sumOverSize_any (.slice jA (ls.getD j []).length jc) (ls.getD j []) g (· < 1024) wr HIj.out hrj (HR.out.at_ j hlt) H10.out (fun s W hs hW => HF.out s W hs (below_to hb hW)))
      have HEj2 : Hid (evenAt g ls j = decide (sumTo g (ls.getD j []) (ls.getD j []).length * n0 = S0 * (ls.getD j []).length)) := HEj
      obtain ⟨nj, hnj⟩ : ∃ n, (ls.getD j []).length = n := ⟨_, rfl⟩
      obtain ⟨Sj, hSj⟩ : ∃ S, sumTo g (ls.getD j []) (ls.getD j []).length = S := ⟨_, rfl⟩
      rw [hSj] at HEj2 HSum hsj
      rw [hnj] at HEj2 HSum hsj hrj hcell
      have hq1 := prod_le (a := Sj) (b := n0) (by omega) h00
      have hq2 := prod_le (a := S0) (b := nj) (by omega) hrj
      obtain ⟨p1, hp1⟩ : ∃ p, Sj * n0 = p := ⟨_, rfl⟩
      obtain ⟨p2, hp2'⟩ : ∃ p, S0 * nj = p := ⟨_, rfl⟩
      have hm1 : ((Sj : Int) * (n0 : Int)) = (p1 : Int) := by rw [← hp1]; simp
      have hm2 : ((S0 : Int) * (nj : Int)) = (p2 : Int) := by rw [← hp2']; simp
      rw [hp1] at HEj2 hq1
      rw [hp2'] at HEj2 hq2
      have HM1 := hid hm1
      have HM2 := hid hm2
      clear hb hcj hnj hSj hp1 hp2' hsh HEj hm1 hm2
      by_cases hpp : p1 = p2
      · have HT : Hid (evenAt g ls j = true) := hid (by rw [HEj2.out]; simp [hpp])
        subst hpp
        go_wp2_with fail
        clear hcell
        refine HSum.out.mono ?_
        rintro e' w3 ⟨rfl, hb3⟩
        have HB3 := hid (below_to HB1.out hb3)
        clear hb3
        have hm1 := HM1.out
        have hm2 := HM2.out
        go_wp2
        clear hm1 hm2
        go_roundw
        case rel => exact ⟨j + 1, by omega, by go_num, hid (fun k hk => by
          by_cases h : k = j
          · subst h; exact HT.out
          · exact HE.out k (by omega)), HB3.out⟩
        case measure => simp [intOf]; omega
      · have HT := hid (evenL_no hlt (show evenAt g ls j = false by rw [HEj2.out]; simp [hpp]))
        have hne : ¬ (p1 : Int) = (p2 : Int) := by omega
        clear hpp
        go_wp2_with fail
        clear hcell
        refine HSum.out.mono ?_
        rintro e' w3 ⟨rfl, hb3⟩
        have HB3 := hid (below_to HB1.out hb3)
        clear hb3
        have hm1 := HM1.out
        have hm2 := HM2.out
        go_wp2
        go_ret
        exact ⟨ret_bool HT.out.symm, HB3.out⟩
    · obtain rfl : j = ls.length := by omega
      have HT := hid (evenL_yes HE.out)
      clear hb
      go_wp2
      go_ret
      exact ⟨ret_bool HT.out.symm, HB1.out⟩

set_option maxHeartbeats 1600000 in
theorem haveOneMeanTop_any (u : Value) (ls : List (List Int)) (v : Value) (g : Nat → Nat) (w : World) (hu : IntsSS w u ls) (hr : Rows10 ls) (h10 : ∀ s, g s ≤ 10)
    (hF : ∀ (s : Nat) (W : World), s < 1024 → Below w.heap.size w W → Calls Try.prog 71 #[.agg #[v], .int .i64 s] W fun r W' => r = .returned (.int .i64 (g s : Nat)) ∧ Below W.heap.size W W') :
    Calls Try.prog 77 #[u, .func (.func 71) #[.agg #[v]] #[]] w fun r w' => r = .returned (.bool (evenL g ls)) ∧ Below w.heap.size w w' := by
  have HF := hid hF
  have HR := hid hr
  have H10 := hid h10
  obtain ⟨A, c, rfl, hA⟩ := hu
  have HA := hid hA
  obtain ⟨b, o, u0, rfl, hbl, hc0, hi0⟩ := hA 0 hr.pos
  have hp := hr.pos
  have hle := hr.le
  have HI0 := hid hi0
  have h00 := hr.row 0 hr.pos
  have hs0 := sumTo_le h10 (ls.getD 0 []) (ls.getD 0 []).length
  obtain ⟨uA, uc, rfl, -⟩ := hi0
  have HEv : Hid (∀ j, evenAt g ls j = decide (sumL g (ls.getD j []) * (ls.getD 0 []).length = sumTo g (ls.getD 0 []) (ls.getD 0 []).length * (ls.getD j []).length)) := hid (fun j => rfl)
  have HSum0 := hid (sumOverTop_any (.slice uA (ls.getD 0 []).length uc) (ls.getD 0 []) v g (· < 1024) w HI0.out h00 (hr.at_ 0 hr.pos) h10 hF)
  obtain ⟨n0, hn0⟩ : ∃ n, (ls.getD 0 []).length = n := ⟨_, rfl⟩
  obtain ⟨S0, hS0⟩ : ∃ S, sumTo g (ls.getD 0 []) (ls.getD 0 []).length = S := ⟨_, rfl⟩
  rw [hS0] at HEv HSum0 hs0
  rw [hn0] at HEv HSum0 hs0 h00 hc0
  have hcell0 : w.cell? ⟨b, o, none⟩ = some (.slice uA n0 uc) := by simpa using hc0
  have hp2 : (0 : Int) < (ls.length : Int) := by omega
  clear hA hF hr h10 hn0 hS0 HI0 hc0
  go_enter Try.func77, Try.ntmps77
  go_wp2_with fail
  clear hcell0
  refine HSum0.out.mono ?_
  rintro e w1 ⟨rfl, hb1⟩
  have HB := hid hb1
  clear hb1
  go_wp2
  go_loopw [17] (fun i wr => ∃ j : Nat, j ≤ ls.length ∧ i = .int .i64 j ∧ Hid (∀ k, k < j → evenAt g ls k = true) ∧ Below w.heap.size w wr) (fun i _ => ls.length - (intOf i).toNat)
  case atStart => exact ⟨0, Nat.zero_le _, rfl, hid (fun k hk => absurd hk (Nat.not_lt_zero _)), HB.out⟩
  case round =>
    obtain ⟨j, hj, rfl, HE, hb⟩ := hrel
    have HB1 := hid hb
    by_cases hlt : j < ls.length
    · obtain ⟨b', o', uj, hsh, hbl', hcj, hij⟩ := HA.out j hlt
      obtain ⟨rfl, rfl⟩ : b = b' ∧ o = o' := by cases hsh; exact ⟨rfl, rfl⟩
      have hcell := (hb.cell (p := ⟨b, o + j, none⟩) hbl).trans hcj
      have HIj := hid (hij.below hb)
      obtain ⟨jA, jc, rfl, -⟩ := hij
      have hrj := HR.out.row j hlt
      have hsj := sumTo_le H10.out (ls.getD j []) (ls.getD j []).length
      have HEj := hid (HEv.out j)
      have HSum := hid (sumOverTop_any (.slice jA (ls.getD j []).length jc) (ls.getD j []) v g (· < 1024) wr HIj.out hrj (HR.out.at_ j hlt) H10.out (fun s W hs hW => HF.out s W hs (below_to hb hW)))
      have HEj2 : Hid (evenAt g ls j = decide (sumTo g (ls.getD j []) (ls.getD j []).length * n0 = S0 * (ls.getD j []).length)) := HEj
      obtain ⟨nj, hnj⟩ : ∃ n, (ls.getD j []).length = n := ⟨_, rfl⟩
      obtain ⟨Sj, hSj⟩ : ∃ S, sumTo g (ls.getD j []) (ls.getD j []).length = S := ⟨_, rfl⟩
      rw [hSj] at HEj2 HSum hsj
      rw [hnj] at HEj2 HSum hsj hrj hcell
      have hq1 := prod_le (a := Sj) (b := n0) (by omega) h00
      have hq2 := prod_le (a := S0) (b := nj) (by omega) hrj
      obtain ⟨p1, hp1⟩ : ∃ p, Sj * n0 = p := ⟨_, rfl⟩
      obtain ⟨p2, hp2'⟩ : ∃ p, S0 * nj = p := ⟨_, rfl⟩
      have hm1 : ((Sj : Int) * (n0 : Int)) = (p1 : Int) := by rw [← hp1]; simp
      have hm2 : ((S0 : Int) * (nj : Int)) = (p2 : Int) := by rw [← hp2']; simp
      rw [hp1] at HEj2 hq1
      rw [hp2'] at HEj2 hq2
      have HM1 := hid hm1
      have HM2 := hid hm2
      clear hb hcj hnj hSj hp1 hp2' hsh HEj hm1 hm2
      by_cases hpp : p1 = p2
      · have HT : Hid (evenAt g ls j = true) := hid (by rw [HEj2.out]; simp [hpp])
        subst hpp
        go_wp2_with fail
        clear hcell
        refine HSum.out.mono ?_
        rintro e' w3 ⟨rfl, hb3⟩
        have HB3 := hid (below_to HB1.out hb3)
        clear hb3
        have hm1 := HM1.out
        have hm2 := HM2.out
        go_wp2
        clear hm1 hm2
        go_roundw
        case rel => exact ⟨j + 1, by omega, by go_num, hid (fun k hk => by
          by_cases h : k = j
          · subst h; exact HT.out
          · exact HE.out k (by omega)), HB3.out⟩
        case measure => simp [intOf]; omega
      · have HT := hid (evenL_no hlt (show evenAt g ls j = false by rw [HEj2.out]; simp [hpp]))
        have hne : ¬ (p1 : Int) = (p2 : Int) := by omega
        clear hpp
        go_wp2_with fail
        clear hcell
        refine HSum.out.mono ?_
        rintro e' w3 ⟨rfl, hb3⟩
        have HB3 := hid (below_to HB1.out hb3)
        clear hb3
        have hm1 := HM1.out
        have hm2 := HM2.out
        go_wp2
        go_ret
        exact ⟨ret_bool HT.out.symm, HB3.out⟩
    · obtain rfl : j = ls.length := by omega
      have HT := hid (evenL_yes HE.out)
      clear hb
      go_wp2
      go_ret
      exact ⟨ret_bool HT.out.symm, HB1.out⟩

set_option maxHeartbeats 1600000 in
theorem obEvenF_any (v : Value) (xs : List Int) (w : World) (hv : Ints w v xs) (hg : good xs = true) :
    Calls Try.prog 76 #[.agg #[v], .bool false] w fun r w' => r = .returned (.bool (evenL (pc) (allXs xs))) ∧ Below w.heap.size w w' := by
  have HV := hid hv
  have HG := hid hg
  have HR := hid (allXs_rows hg)
  clear hv hg
  go_enter Try.func76, Try.ntmps76
  have HB := hid (below_alloc (Below.refl _ w) (.cells #[v] 28))
  have A0 := hid (At.newAt w v 28 w.heap.size (by simp))
  go_wp2_with fail
  refine (obAll_any _ xs _ (HV.out.below HB.out) HG.out).mono ?_
  rintro e w' ⟨q, rfl, ho, hb⟩
  replace HB := hid (below_to HB.out hb)
  replace A0 := hid (A0.out.below hb)
  clear hb
  have HI := hid ho.ints
  obtain ⟨ls, hls⟩ : ∃ ls, allXs xs = ls := ⟨_, rfl⟩
  have HEnd : Hid (evenL (pc) (allXs xs) = evenL (pc) ls) := hid (by rw [hls])
  rw [hls] at HI HR
  obtain ⟨A, c, rfl, hA⟩ := HI.out
  have HA := hid hA
  obtain ⟨b, o, u0, rfl, hbl, hc0, hi0⟩ := hA 0 HR.out.pos
  have hp := HR.out.pos
  have hle := HR.out.le
  have HI0 := hid hi0
  have h00 := HR.out.row 0 HR.out.pos
  have hs0 := sumTo_le pc_le (ls.getD 0 []) (ls.getD 0 []).length
  obtain ⟨uA, uc, rfl, -⟩ := hi0
  have HEv : Hid (∀ j, evenAt (pc) ls j = decide (sumL (pc) (ls.getD j []) * (ls.getD 0 []).length = sumTo (pc) (ls.getD 0 []) (ls.getD 0 []).length * (ls.getD j []).length)) := hid (fun j => rfl)
  have HSum0 := hid (fun W hW => obSumF_any v (.slice uA (ls.getD 0 []).length uc) xs (ls.getD 0 []) W (HV.out.below (below_to HB.out hW)) HG.out (HI0.out.below hW) h00 (HR.out.at_ 0 HR.out.pos))
  obtain ⟨n0, hn0⟩ : ∃ n, (ls.getD 0 []).length = n := ⟨_, rfl⟩
  obtain ⟨S0, hS0⟩ : ∃ S, sumTo (pc) (ls.getD 0 []) (ls.getD 0 []).length = S := ⟨_, rfl⟩
  rw [hS0] at HEv HSum0 hs0
  rw [hn0] at HEv HSum0 hs0 h00 hc0
  have hcell0 : w'.cell? ⟨b, o, none⟩ = some (.slice uA n0 uc) := by simpa using hc0
  have HC0 := hid hcell0
  have hp2 : (0 : Int) < (ls.length : Int) := by omega
  have hbx := A0.out.1
  clear hA hn0 hS0 HI0 hc0 HI ho hls
  go_upto_region 2 with fail
  go_cut [6] (fun s6 wx => s6 = .int .i64 ((S0 : Nat) : Int) ∧ Below w'.heap.size w' wx)
  case first =>
    go_region_with (first | (go_at_call 69; refine (HSum0.out _ (Below.refl _ _).drew).mono ?_; rintro e' w2 ⟨rfl, hb2⟩; have H2 := hid (below_to (Below.refl _ w').drew hb2); clear hb2))
    all_goals (go_wp2_with fail; go_meet; exact ⟨rfl, H2.out⟩)
  case rest =>
    obtain ⟨rfl, hbc⟩ := hcut
    clear hbx hcell0
    have HBC := hid hbc
    have HA0 := hid (A0.out.below hbc)
    clear hbc
    go_wp2
    go_loopw [19] (fun i wr => ∃ j : Nat, j ≤ ls.length ∧ i = .int .i64 j ∧ Hid (∀ k, k < j → evenAt (pc) ls k = true) ∧ Below w'.heap.size w' wr) (fun i _ => ls.length - (intOf i).toNat)
    case atStart => exact ⟨0, Nat.zero_le _, rfl, hid (fun k hk => absurd hk (Nat.not_lt_zero _)), HBC.out⟩
    case round =>
      obtain ⟨j, hj, rfl, HE, hb⟩ := hrel
      have HB1 := hid hb
      by_cases hlt : j < ls.length
      · obtain ⟨b', o', uj, hsh, hbl', hcj, hij⟩ := HA.out j hlt
        obtain ⟨rfl, rfl⟩ : b = b' ∧ o = o' := by cases hsh; exact ⟨rfl, rfl⟩
        have hcell := (hb.cell (p := ⟨b, o + j, none⟩) hbl).trans hcj
        have hcell0 := (hb.cell (p := ⟨b, o, none⟩) hbl).trans HC0.out
        have hbx := (A0.out.below hb).1
        have HIj := hid hij
        obtain ⟨jA, jc, rfl, -⟩ := hij
        have hrj := HR.out.row j hlt
        have hsj := sumTo_le pc_le (ls.getD j []) (ls.getD j []).length
        have HEj2 : Hid (evenAt (pc) ls j = decide (sumTo (pc) (ls.getD j []) (ls.getD j []).length * n0 = S0 * (ls.getD j []).length)) := hid (HEv.out j)
        have HSum := hid (fun W hW => obSumF_any v (.slice jA (ls.getD j []).length jc) xs (ls.getD j []) W (HV.out.below (below_to HB.out hW)) HG.out (HIj.out.below hW) hrj (HR.out.at_ j hlt))
        obtain ⟨nj, hnj⟩ : ∃ n, (ls.getD j []).length = n := ⟨_, rfl⟩
        obtain ⟨Sj, hSj⟩ : ∃ S, sumTo (pc) (ls.getD j []) (ls.getD j []).length = S := ⟨_, rfl⟩
        rw [hSj] at HEj2 HSum hsj
        rw [hnj] at HEj2 HSum hsj hrj hcell
        have hq1 := prod_le (a := Sj) (b := n0) (by omega) h00
        have hq2 := prod_le (a := S0) (b := nj) (by omega) hrj
        obtain ⟨p1, hp1⟩ : ∃ p, Sj * n0 = p := ⟨_, rfl⟩
        obtain ⟨p2, hp2'⟩ : ∃ p, S0 * nj = p := ⟨_, rfl⟩
        have hm1 : ((Sj : Int) * (n0 : Int)) = (p1 : Int) := by rw [← hp1]; simp
        have hm2 : ((S0 : Int) * (nj : Int)) = (p2 : Int) := by rw [← hp2']; simp
        rw [hp1] at HEj2 hq1
        rw [hp2'] at HEj2 hq2
        have HM1 := hid hm1
        have HM2 := hid hm2
        have hw1 : IntKind.i64.wrap (p1 : Int) = (p1 : Int) := IntWalk.i64_in _ (by omega)
        have hw2 : IntKind.i64.wrap (p2 : Int) = (p2 : Int) := IntWalk.i64_in _ (by omega)
        have HW1 := hid hw1
        have HW2 := hid hw2
        have HNE : Hid (p1 ≠ p2 → ¬ (p1 : Int) = (p2 : Int)) := hid (fun h => by omega)
        clear hb hcj hnj hSj hp1 hp2' hsh hm1 hm2 hw1 hw2
        go_upto_region 6 with fail
        go_cut [36] (fun s36 wx => s36 = .bool (!decide (p1 = p2)) ∧ Below wr.heap.size wr wx)
        case first =>
          have hm1 := HM1.out
          have hm2 := HM2.out
          have hw1 := HW1.out
          have hw2 := HW2.out
          by_cases hpp : p1 = p2
          · subst hpp
            go_region_with (first | (go_at_call 69; refine (HSum.out _ HB1.out.drew).mono ?_; rintro e' w3 ⟨rfl, hb3⟩; have H3 := hid (below_to (Below.refl _ wr).drew hb3); have hbx3 := ((A0.out.below HB1.out).drew.below hb3).1; have hc03 := ((below_to HB1.out H3.out).cell (p := ⟨b, o, none⟩) hbl).trans HC0.out; clear hb3))
            all_goals (go_wp2_with fail; go_meet; exact ⟨by simp, H3.out⟩)
          · have hne := HNE.out hpp
            go_region_with (first | (go_at_call 69; refine (HSum.out _ HB1.out.drew).mono ?_; rintro e' w3 ⟨rfl, hb3⟩; have H3 := hid (below_to (Below.refl _ wr).drew hb3); have hbx3 := ((A0.out.below HB1.out).drew.below hb3).1; have hc03 := ((below_to HB1.out H3.out).cell (p := ⟨b, o, none⟩) hbl).trans HC0.out; clear hb3))
            all_goals (go_wp2_with fail; go_meet; exact ⟨by simp [hpp, hne], H3.out⟩)
        case rest =>
          obtain ⟨rfl, hbc⟩ := hcut
          have HB3 := hid (below_to HB1.out hbc)
          clear hcell hcell0 hbx hbc
          by_cases hpp : p1 = p2
          · have HT : Hid (evenAt (pc) ls j = true) := hid (by rw [HEj2.out]; simp [hpp])
            have hdc : (!decide (p1 = p2)) = false := by simp [hpp]
            rw [hdc]
            clear hdc hpp
            go_wp2
            go_roundw
            case rel => exact ⟨j + 1, by omega, by go_num, hid (fun k hk => by
              by_cases h : k = j
              · subst h; exact HT.out
              · exact HE.out k (by omega)), HB3.out⟩
            case measure => simp [intOf]; omega
          · have HT := hid (evenL_no hlt (show evenAt (pc) ls j = false by rw [HEj2.out]; simp [hpp]))
            have hdc : (!decide (p1 = p2)) = true := by simp [hpp]
            rw [hdc]
            clear hdc hpp
            go_wp2
            go_ret
            exact ⟨ret_bool (HEnd.out.trans HT.out).symm, below_to HB.out HB3.out⟩
      · obtain rfl : j = ls.length := by omega
        have HT := hid (evenL_yes HE.out)
        clear hb
        go_wp2
        go_ret
        exact ⟨ret_bool (HEnd.out.trans HT.out).symm, below_to HB.out HB1.out⟩
theorem ret_bb3 {a b c d : Bool} (h : a = c) (k : b = d) : Ending.returned (.tuple #[.bool a, .bool b]) = .returned (.tuple #[.bool c, .bool d]) := by rw [h, k]
def ansSizeIsEven (xs : List Int) : Bool := good xs && evenL (pc) (allXs xs)
theorem ansSizeIsEven_no {xs : List Int} (h : good xs = false) : ansSizeIsEven xs = false := by simp [ansSizeIsEven, h]
theorem ansSizeIsEven_yes {xs : List Int} (h : good xs = true) : ansSizeIsEven xs = evenL (pc) (allXs xs) := by simp [ansSizeIsEven, h]
theorem specSizeIsEven_any (v : Value) (xs : List Int) (w : World) (hv : Ints w v xs) (hl : xs.length ≤ 1048576) :
    Calls Try.prog 41 #[.agg #[v]] w fun r w' => r = .returned (.tuple #[.bool (ansSizeIsEven xs), .bool (good xs)]) ∧ Below w.heap.size w w' := by
  have HV := hid hv
  clear hv
  go_enter Try.func41, Try.ntmps41
  have HB := hid (below_alloc (Below.refl _ w) (.cells #[v] 28))
  have A0 := hid (At.newAt w v 28 w.heap.size (by simp))
  go_wp2_with fail
  refine (poGood_any _ xs _ (HV.out.below HB.out) hl).mono ?_
  rintro e w' ⟨rfl, hb⟩
  replace HB := hid (below_to HB.out hb)
  replace A0 := hid (A0.out.below hb)
  clear hb
  cases hq : good xs
  · have HO := hid (ansSizeIsEven_no hq)
    have HQ := hid hq
    clear hq
    have ebox0 := A0.out.1
    go_wp2
    go_ret2
    exact ⟨ret_bb3 HO.out.symm HQ.out.symm, HB.out⟩
  · have HO := hid (ansSizeIsEven_yes hq)
    have HQ := hid hq
    clear hq
    have ebox0 := A0.out.1
    go_wp2_with fail
    clear ebox0
    refine (obEvenF_any _ xs _ (HV.out.below HB.out) HQ.out).mono ?_
    rintro e w' ⟨rfl, hb⟩
    replace HB := hid (below_to HB.out hb)
    replace A0 := hid (A0.out.below hb)
    clear hb
    have ebox0 := A0.out.1
    go_wp2
    go_ret2
    exact ⟨ret_bb3 HO.out.symm HQ.out.symm, HB.out⟩
set_option maxHeartbeats 800000 in
theorem implSizeIsEven_any (v : Value) (xs : List Int) (w : World) (hv : Ints w v xs) (hl : xs.length ≤ 1048576) :
    Calls Try.prog 42 #[.agg #[v]] w fun r w' => r = .returned (.tuple #[.bool (ansSizeIsEven xs), .bool (good xs)]) ∧ Below w.heap.size w w' := by
  have HV := hid hv
  clear hv
  go_enter Try.func42, Try.ntmps42
  have HB := hid (below_alloc (Below.refl _ w) (.cells #[v] 28))
  have A0 := hid (At.newAt w v 28 w.heap.size (by simp))
  go_wp2_with fail
  refine (implAllOrbits_any _ xs _ (HV.out.below HB.out) hl).mono ?_
  rintro e w' ⟨q, rfl, ho, hss, hb⟩
  replace HB := hid (below_to HB.out hb)
  replace A0 := hid (A0.out.below hb)
  clear hb
  have HI := hid ho.ints
  clear ho hss
  cases hq : good xs
  · have HO := hid (ansSizeIsEven_no hq)
    have HQ := hid hq
    clear hq
    have ebox0 := A0.out.1
    go_wp2
    go_ret2
    exact ⟨ret_bb3 HO.out.symm HQ.out.symm, HB.out⟩
  · have HO := hid (ansSizeIsEven_yes hq)
    have HQ := hid hq
    have HR := hid (allXs_rows hq)
    have hl10 := (good_length hq).2
    rw [ansAO_yes hq] at HI
    clear hq
    have ebox0 := A0.out.1
    go_wp2_with fail
    clear ebox0
    refine (haveOneMeanSize_any _ (allXs xs) (pc) _ HI.out HR.out pc_le (fun s W hs hb => (sizeOf_any s W hs).mono fun _ _ ⟨h1, h2⟩ => ⟨h1, h2 ▸ Below.refl _ _⟩)).mono ?_
    rintro e w' ⟨rfl, hb⟩
    replace HB := hid (below_to HB.out hb)
    replace A0 := hid (A0.out.below hb)
    replace HI := hid (HI.out.below hb)
    clear hb
    have ebox0 := A0.out.1
    go_wp2
    go_ret2
    exact ⟨ret_bb3 HO.out.symm HQ.out.symm, HB.out⟩

set_option maxHeartbeats 1600000 in
theorem obEvenT_any (v : Value) (xs : List Int) (w : World) (hv : Ints w v xs) (hg : good xs = true) :
    Calls Try.prog 76 #[.agg #[v], .bool true] w fun r w' => r = .returned (.bool (evenL (topPc xs) (allXs xs))) ∧ Below w.heap.size w w' := by
  have HV := hid hv
  have HG := hid hg
  have HR := hid (allXs_rows hg)
  clear hv hg
  go_enter Try.func76, Try.ntmps76
  have HB := hid (below_alloc (Below.refl _ w) (.cells #[v] 28))
  have A0 := hid (At.newAt w v 28 w.heap.size (by simp))
  go_wp2_with fail
  refine (obAll_any _ xs _ (HV.out.below HB.out) HG.out).mono ?_
  rintro e w' ⟨q, rfl, ho, hb⟩
  replace HB := hid (below_to HB.out hb)
  replace A0 := hid (A0.out.below hb)
  clear hb
  have HI := hid ho.ints
  obtain ⟨ls, hls⟩ : ∃ ls, allXs xs = ls := ⟨_, rfl⟩
  have HEnd : Hid (evenL (topPc xs) (allXs xs) = evenL (topPc xs) ls) := hid (by rw [hls])
  rw [hls] at HI HR
  obtain ⟨A, c, rfl, hA⟩ := HI.out
  have HA := hid hA
  obtain ⟨b, o, u0, rfl, hbl, hc0, hi0⟩ := hA 0 HR.out.pos
  have hp := HR.out.pos
  have hle := HR.out.le
  have HI0 := hid hi0
  have h00 := HR.out.row 0 HR.out.pos
  have hs0 := sumTo_le (topPc_le xs) (ls.getD 0 []) (ls.getD 0 []).length
  obtain ⟨uA, uc, rfl, -⟩ := hi0
  have HEv : Hid (∀ j, evenAt (topPc xs) ls j = decide (sumL (topPc xs) (ls.getD j []) * (ls.getD 0 []).length = sumTo (topPc xs) (ls.getD 0 []) (ls.getD 0 []).length * (ls.getD j []).length)) := hid (fun j => rfl)
  have HSum0 := hid (fun W hW => obSumT_any v (.slice uA (ls.getD 0 []).length uc) xs (ls.getD 0 []) W (HV.out.below (below_to HB.out hW)) HG.out (HI0.out.below hW) h00 (HR.out.at_ 0 HR.out.pos))
  obtain ⟨n0, hn0⟩ : ∃ n, (ls.getD 0 []).length = n := ⟨_, rfl⟩
  obtain ⟨S0, hS0⟩ : ∃ S, sumTo (topPc xs) (ls.getD 0 []) (ls.getD 0 []).length = S := ⟨_, rfl⟩
  rw [hS0] at HEv HSum0 hs0
  rw [hn0] at HEv HSum0 hs0 h00 hc0
  have hcell0 : w'.cell? ⟨b, o, none⟩ = some (.slice uA n0 uc) := by simpa using hc0
  have HC0 := hid hcell0
  have hp2 : (0 : Int) < (ls.length : Int) := by omega
  have hbx := A0.out.1
  clear hA hn0 hS0 HI0 hc0 HI ho hls
  go_upto_region 2 with fail
  go_cut [6] (fun s6 wx => s6 = .int .i64 ((S0 : Nat) : Int) ∧ Below w'.heap.size w' wx)
  case first =>
    go_region_with (first | (go_at_call 69; refine (HSum0.out _ (Below.refl _ _).drew).mono ?_; rintro e' w2 ⟨rfl, hb2⟩; have H2 := hid (below_to (Below.refl _ w').drew hb2); clear hb2))
    all_goals (go_wp2_with fail; go_meet; exact ⟨rfl, H2.out⟩)
  case rest =>
    obtain ⟨rfl, hbc⟩ := hcut
    clear hbx hcell0
    have HBC := hid hbc
    have HA0 := hid (A0.out.below hbc)
    clear hbc
    go_wp2
    go_loopw [19] (fun i wr => ∃ j : Nat, j ≤ ls.length ∧ i = .int .i64 j ∧ Hid (∀ k, k < j → evenAt (topPc xs) ls k = true) ∧ Below w'.heap.size w' wr) (fun i _ => ls.length - (intOf i).toNat)
    case atStart => exact ⟨0, Nat.zero_le _, rfl, hid (fun k hk => absurd hk (Nat.not_lt_zero _)), HBC.out⟩
    case round =>
      obtain ⟨j, hj, rfl, HE, hb⟩ := hrel
      have HB1 := hid hb
      by_cases hlt : j < ls.length
      · obtain ⟨b', o', uj, hsh, hbl', hcj, hij⟩ := HA.out j hlt
        obtain ⟨rfl, rfl⟩ : b = b' ∧ o = o' := by cases hsh; exact ⟨rfl, rfl⟩
        have hcell := (hb.cell (p := ⟨b, o + j, none⟩) hbl).trans hcj
        have hcell0 := (hb.cell (p := ⟨b, o, none⟩) hbl).trans HC0.out
        have hbx := (A0.out.below hb).1
        have HIj := hid hij
        obtain ⟨jA, jc, rfl, -⟩ := hij
        have hrj := HR.out.row j hlt
        have hsj := sumTo_le (topPc_le xs) (ls.getD j []) (ls.getD j []).length
        have HEj2 : Hid (evenAt (topPc xs) ls j = decide (sumTo (topPc xs) (ls.getD j []) (ls.getD j []).length * n0 = S0 * (ls.getD j []).length)) := hid (HEv.out j)
        have HSum := hid (fun W hW => obSumT_any v (.slice jA (ls.getD j []).length jc) xs (ls.getD j []) W (HV.out.below (below_to HB.out hW)) HG.out (HIj.out.below hW) hrj (HR.out.at_ j hlt))
        obtain ⟨nj, hnj⟩ : ∃ n, (ls.getD j []).length = n := ⟨_, rfl⟩
        obtain ⟨Sj, hSj⟩ : ∃ S, sumTo (topPc xs) (ls.getD j []) (ls.getD j []).length = S := ⟨_, rfl⟩
        rw [hSj] at HEj2 HSum hsj
        rw [hnj] at HEj2 HSum hsj hrj hcell
        have hq1 := prod_le (a := Sj) (b := n0) (by omega) h00
        have hq2 := prod_le (a := S0) (b := nj) (by omega) hrj
        obtain ⟨p1, hp1⟩ : ∃ p, Sj * n0 = p := ⟨_, rfl⟩
        obtain ⟨p2, hp2'⟩ : ∃ p, S0 * nj = p := ⟨_, rfl⟩
        have hm1 : ((Sj : Int) * (n0 : Int)) = (p1 : Int) := by rw [← hp1]; simp
        have hm2 : ((S0 : Int) * (nj : Int)) = (p2 : Int) := by rw [← hp2']; simp
        rw [hp1] at HEj2 hq1
        rw [hp2'] at HEj2 hq2
        have HM1 := hid hm1
        have HM2 := hid hm2
        have hw1 : IntKind.i64.wrap (p1 : Int) = (p1 : Int) := IntWalk.i64_in _ (by omega)
        have hw2 : IntKind.i64.wrap (p2 : Int) = (p2 : Int) := IntWalk.i64_in _ (by omega)
        have HW1 := hid hw1
        have HW2 := hid hw2
        have HNE : Hid (p1 ≠ p2 → ¬ (p1 : Int) = (p2 : Int)) := hid (fun h => by omega)
        clear hb hcj hnj hSj hp1 hp2' hsh hm1 hm2 hw1 hw2
        go_upto_region 6 with fail
        go_cut [36] (fun s36 wx => s36 = .bool (!decide (p1 = p2)) ∧ Below wr.heap.size wr wx)
        case first =>
          have hm1 := HM1.out
          have hm2 := HM2.out
          have hw1 := HW1.out
          have hw2 := HW2.out
          by_cases hpp : p1 = p2
          · subst hpp
            go_region_with (first | (go_at_call 69; refine (HSum.out _ HB1.out.drew).mono ?_; rintro e' w3 ⟨rfl, hb3⟩; have H3 := hid (below_to (Below.refl _ wr).drew hb3); have hbx3 := ((A0.out.below HB1.out).drew.below hb3).1; have hc03 := ((below_to HB1.out H3.out).cell (p := ⟨b, o, none⟩) hbl).trans HC0.out; clear hb3))
            all_goals (go_wp2_with fail; go_meet; exact ⟨by simp, H3.out⟩)
          · have hne := HNE.out hpp
            go_region_with (first | (go_at_call 69; refine (HSum.out _ HB1.out.drew).mono ?_; rintro e' w3 ⟨rfl, hb3⟩; have H3 := hid (below_to (Below.refl _ wr).drew hb3); have hbx3 := ((A0.out.below HB1.out).drew.below hb3).1; have hc03 := ((below_to HB1.out H3.out).cell (p := ⟨b, o, none⟩) hbl).trans HC0.out; clear hb3))
            all_goals (go_wp2_with fail; go_meet; exact ⟨by simp [hpp, hne], H3.out⟩)
        case rest =>
          obtain ⟨rfl, hbc⟩ := hcut
          have HB3 := hid (below_to HB1.out hbc)
          clear hcell hcell0 hbx hbc
          by_cases hpp : p1 = p2
          · have HT : Hid (evenAt (topPc xs) ls j = true) := hid (by rw [HEj2.out]; simp [hpp])
            have hdc : (!decide (p1 = p2)) = false := by simp [hpp]
            rw [hdc]
            clear hdc hpp
            go_wp2
            go_roundw
            case rel => exact ⟨j + 1, by omega, by go_num, hid (fun k hk => by
              by_cases h : k = j
              · subst h; exact HT.out
              · exact HE.out k (by omega)), HB3.out⟩
            case measure => simp [intOf]; omega
          · have HT := hid (evenL_no hlt (show evenAt (topPc xs) ls j = false by rw [HEj2.out]; simp [hpp]))
            have hdc : (!decide (p1 = p2)) = true := by simp [hpp]
            rw [hdc]
            clear hdc hpp
            go_wp2
            go_ret
            exact ⟨ret_bool (HEnd.out.trans HT.out).symm, below_to HB.out HB3.out⟩
      · obtain rfl : j = ls.length := by omega
        have HT := hid (evenL_yes HE.out)
        clear hb
        go_wp2
        go_ret
        exact ⟨ret_bool (HEnd.out.trans HT.out).symm, below_to HB.out HB1.out⟩
def ansAntichainIsEven (xs : List Int) : Bool := good xs && evenL (topPc xs) (allXs xs)
theorem ansAntichainIsEven_no {xs : List Int} (h : good xs = false) : ansAntichainIsEven xs = false := by simp [ansAntichainIsEven, h]
theorem ansAntichainIsEven_yes {xs : List Int} (h : good xs = true) : ansAntichainIsEven xs = evenL (topPc xs) (allXs xs) := by simp [ansAntichainIsEven, h]
theorem specAntichainIsEven_any (v : Value) (xs : List Int) (w : World) (hv : Ints w v xs) (hl : xs.length ≤ 1048576) :
    Calls Try.prog 43 #[.agg #[v]] w fun r w' => r = .returned (.tuple #[.bool (ansAntichainIsEven xs), .bool (good xs)]) ∧ Below w.heap.size w w' := by
  have HV := hid hv
  clear hv
  go_enter Try.func43, Try.ntmps43
  have HB := hid (below_alloc (Below.refl _ w) (.cells #[v] 28))
  have A0 := hid (At.newAt w v 28 w.heap.size (by simp))
  go_wp2_with fail
  refine (poGood_any _ xs _ (HV.out.below HB.out) hl).mono ?_
  rintro e w' ⟨rfl, hb⟩
  replace HB := hid (below_to HB.out hb)
  replace A0 := hid (A0.out.below hb)
  clear hb
  cases hq : good xs
  · have HO := hid (ansAntichainIsEven_no hq)
    have HQ := hid hq
    clear hq
    have ebox0 := A0.out.1
    go_wp2
    go_ret2
    exact ⟨ret_bb3 HO.out.symm HQ.out.symm, HB.out⟩
  · have HO := hid (ansAntichainIsEven_yes hq)
    have HQ := hid hq
    clear hq
    have ebox0 := A0.out.1
    go_wp2_with fail
    clear ebox0
    refine (obEvenT_any _ xs _ (HV.out.below HB.out) HQ.out).mono ?_
    rintro e w' ⟨rfl, hb⟩
    replace HB := hid (below_to HB.out hb)
    replace A0 := hid (A0.out.below hb)
    clear hb
    have ebox0 := A0.out.1
    go_wp2
    go_ret2
    exact ⟨ret_bb3 HO.out.symm HQ.out.symm, HB.out⟩
set_option maxHeartbeats 800000 in
theorem implAntichainIsEven_any (v : Value) (xs : List Int) (w : World) (hv : Ints w v xs) (hl : xs.length ≤ 1048576) :
    Calls Try.prog 44 #[.agg #[v]] w fun r w' => r = .returned (.tuple #[.bool (ansAntichainIsEven xs), .bool (good xs)]) ∧ Below w.heap.size w w' := by
  have HV := hid hv
  clear hv
  go_enter Try.func44, Try.ntmps44
  have HB := hid (below_alloc (Below.refl _ w) (.cells #[v] 28))
  have A0 := hid (At.newAt w v 28 w.heap.size (by simp))
  go_wp2_with fail
  refine (implAllOrbits_any _ xs _ (HV.out.below HB.out) hl).mono ?_
  rintro e w' ⟨q, rfl, ho, hss, hb⟩
  replace HB := hid (below_to HB.out hb)
  replace A0 := hid (A0.out.below hb)
  clear hb
  have HI := hid ho.ints
  clear ho hss
  cases hq : good xs
  · have HO := hid (ansAntichainIsEven_no hq)
    have HQ := hid hq
    clear hq
    have ebox0 := A0.out.1
    go_wp2
    go_ret2
    exact ⟨ret_bb3 HO.out.symm HQ.out.symm, HB.out⟩
  · have HO := hid (ansAntichainIsEven_yes hq)
    have HQ := hid hq
    have HR := hid (allXs_rows hq)
    have hl10 := (good_length hq).2
    rw [ansAO_yes hq] at HI
    clear hq
    have ebox0 := A0.out.1
    go_wp2_with fail
    clear ebox0
    refine (haveOneMeanTop_any _ (allXs xs) v (topPc xs) _ HI.out HR.out (topPc_le xs) (fun s W hs hb => topSize_any _ xs s W (HV.out.below (below_to HB.out hb)) hl10 hs (good_small HQ.out s))).mono ?_
    rintro e w' ⟨rfl, hb⟩
    replace HB := hid (below_to HB.out hb)
    replace A0 := hid (A0.out.below hb)
    replace HI := hid (HI.out.below hb)
    clear hb
    have ebox0 := A0.out.1
    go_wp2
    go_ret2
    exact ⟨ret_bb3 HO.out.symm HQ.out.symm, HB.out⟩
end Go.Proofs.Ytkcjppbplllaiaa
