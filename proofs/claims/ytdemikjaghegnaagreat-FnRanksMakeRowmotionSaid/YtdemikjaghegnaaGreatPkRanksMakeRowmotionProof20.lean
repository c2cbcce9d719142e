/- Texts OrbT, CycD, OrbE, Mean, CycR, ObAll, CycE, Lens, RvB, one behind the other. -/
import Derived.Test.YtdemikjaghegnaaGreatPkRanksMakeRowmotionProof06
import Derived.Test.YtdemikjaghegnaaGreatPkRanksMakeRowmotionProof07
import Derived.Test.YtdemikjaghegnaaGreatPkRanksMakeRowmotionProof12
import Derived.Test.YtdemikjaghegnaaGreatPkRanksMakeRowmotionProof15
import Derived.Test.YtdemikjaghegnaaGreatPkRanksMakeRowmotionProof17
import Derived.Test.YtdemikjaghegnaaGreatPkRanksMakeRowmotionProof19
/- OrbitSum, AntichainSum, ElementSum: contracts. -/
namespace Go.Proofs.YtdemikjaghegnaaGreat
open Go.RowKit Go.WideShapes Go.ChangeShapes
set_option linter.unusedVariables false

def ansOrbitSum (xs : List Int) (s : Int) : Int := (sumLN (pc) (ansOO xs s) : Nat)
theorem ansOrbitSum_no {xs : List Int} {s : Int} (h : okIdeal xs s = false) : ansOrbitSum xs s = 0 := by unfold ansOrbitSum; rw [ansOO_no h]; rfl
theorem ansOrbitSum_yes {xs : List Int} {z : Nat} (h : okIdeal xs z = true) : ansOrbitSum xs z = ((sumTo (pc) (orbXs xs z) (orbXs xs z).length : Nat) : Int) := by unfold ansOrbitSum; rw [ansOO_yes h]; rfl
def ansAntichainSum (xs : List Int) (s : Int) : Int := (sumLN (topPc xs) (ansOO xs s) : Nat)
theorem ansAntichainSum_no {xs : List Int} {s : Int} (h : okIdeal xs s = false) : ansAntichainSum xs s = 0 := by unfold ansAntichainSum; rw [ansOO_no h]; rfl
theorem ansAntichainSum_yes {xs : List Int} {z : Nat} (h : okIdeal xs z = true) : ansAntichainSum xs z = ((sumTo (topPc xs) (orbXs xs z) (orbXs xs z).length : Nat) : Int) := by unfold ansAntichainSum; rw [ansOO_yes h]; rfl
end Go.Proofs.YtdemikjaghegnaaGreat

/- ToggleCycles, OrderOfWord. -/
namespace Go.Proofs.YtdemikjaghegnaaGreat
open Go.RowKit Go.WideShapes Go.ChangeShapes
set_option linter.unusedVariables false

theorem ret_vb {u : Value} {a b : Bool} (h : a = b) : Ending.returned (.tuple #[u, .bool a]) = .returned (.tuple #[u, .bool b]) := by rw [h]
def okGW (xs ys : List Int) : Bool := good xs && okWord xs ys
def cycW (xs ys : List Int) : List Int := cyclesL (wordF xs ys) (2 ^ xs.length) (setsL (holdsIdeal xs) (2 ^ xs.length))
def tcL (xs ys : List Int) : List Int := if okGW xs ys then cycW xs ys else []
theorem okGW_no1 {xs ys : List Int} (h : good xs = false) : okGW xs ys = false := by simp [okGW, h]
theorem okGW_no2 {xs ys : List Int} (h : okWord xs ys = false) : okGW xs ys = false := by simp [okGW, h]
theorem okGW_yes {xs ys : List Int} (h : good xs = true) (k : okWord xs ys = true) : okGW xs ys = true := by simp [okGW, h, k]
theorem tcL_no {xs ys : List Int} (h : okGW xs ys = false) : tcL xs ys = [] := by simp [tcL, h]
theorem tcL_yes {xs ys : List Int} (h : okGW xs ys = true) : tcL xs ys = cycW xs ys := by simp [tcL, h]
theorem okGW_good {xs ys : List Int} (h : okGW xs ys = true) : good xs = true ∧ okWord xs ys = true := by simpa [okGW] using h
theorem cycW_length {xs ys : List Int} (h : good xs = true) : (cycW xs ys).length ≤ 1024 := by
  have h1 := (cycSt_length (wordF xs ys) (2 ^ xs.length) (setsL (holdsIdeal xs) (2 ^ xs.length)) (setsL (holdsIdeal xs) (2 ^ xs.length)).length).2
  have h2 := setsL_length (holdsIdeal xs) (2 ^ xs.length)
  have h3 := pow10 (good_length h).2
  unfold cycW cyclesL
  omega
theorem cycW_pos {xs ys : List Int} (h : good xs = true) : ∀ x ∈ cycW xs ys, 1 ≤ x ∧ x ≤ 1024 := by
  intro x hx
  have h3 := pow10 (good_length h).2
  unfold cycW at hx
  obtain ⟨N, hN⟩ : ∃ N, 2 ^ xs.length = N := ⟨_, rfl⟩
  rw [hN] at hx h3
  have h1 := cycSt_pos (wordF xs ys) N (setsL (holdsIdeal xs) N) _ x hx
  omega
theorem tcL_length (xs ys : List Int) : (tcL xs ys).length ≤ 1048576 := by
  unfold tcL
  split
  · rename_i h
    have := cycW_length (ys := ys) (okGW_good h).1
    omega
  · simp
/-! ### common multiples -/
end Go.Proofs.YtdemikjaghegnaaGreat

/- ElementSum, MeanOfIdeals: contracts. -/
namespace Go.Proofs.YtdemikjaghegnaaGreat
open Go.RowKit Go.WideShapes Go.ChangeShapes
set_option linter.unusedVariables false

def okES (xs : List Int) (s e : Int) : Bool := okIdeal xs s && (decide (0 ≤ e) && decide (e < xs.length))
def ansES (xs : List Int) (s e : Int) : Int := if okES xs s e then (sumLN (bitN e.toNat) (orbXs xs s.toNat) : Nat) else 0
theorem okES_no1 {xs : List Int} {s e : Int} (h : okIdeal xs s = false) : okES xs s e = false := by simp [okES, h]
theorem okES_no2 {xs : List Int} {s e : Int} (h : (decide (0 ≤ e) && decide (e < (xs.length : Int))) = false) : okES xs s e = false := by unfold okES; rw [h, Bool.and_false]
theorem okES_yes {xs : List Int} {s e : Int} (h : okIdeal xs s = true) (k : (decide (0 ≤ e) && decide (e < (xs.length : Int))) = true) : okES xs s e = true := by unfold okES; rw [h, k]; rfl
theorem ansES_no {xs : List Int} {s e : Int} (h : okES xs s e = false) : ansES xs s e = 0 := by simp [ansES, h]
theorem ansES_yes {xs : List Int} {z n : Nat} (h : okES xs z n = true) : ansES xs z n = ((sumTo (bitN n) (orbXs xs z) (orbXs xs z).length : Nat) : Int) := by unfold ansES; rw [if_pos h]; rfl
theorem bitN_bit (e s : Nat) : bitN e s = if s.testBit e then 1 else 0 := by
  unfold bitN
  rw [Nat.testBit_eq_decide_div_mod_eq]
  by_cases h : s / 2 ^ e % 2 = 1
  · simp [h]
  · simp [h]; omega
end Go.Proofs.YtdemikjaghegnaaGreat

/- MeanOfIdeals: contracts. -/
namespace Go.Proofs.YtdemikjaghegnaaGreat
open Go.RowKit Go.WideShapes Go.ChangeShapes
set_option linter.unusedVariables false

theorem ret_iib {a b c d : Int} {x y : Bool} (h : a = c) (k : b = d) (l : x = y) : Ending.returned (.tuple #[.int .i64 a, .int .i64 b, .bool x]) = .returned (.tuple #[.int .i64 c, .int .i64 d, .bool y]) := by rw [h, k, l]
def idsXs (xs : List Int) : List Int := setsL (holdsIdeal xs) (2 ^ xs.length)
theorem idsXs_length {xs : List Int} (hg : good xs = true) : 1 ≤ (idsXs xs).length ∧ (idsXs xs).length ≤ 1024 := by
  have h1 := setsL_length (holdsIdeal xs) (2 ^ xs.length)
  have h2 := (two_pow_le _ (good_length hg).2).2
  refine ⟨?_, by unfold idsXs; omega⟩
  have h0 : holdsIdeal xs 0 = true := by rw [holdsIdeal_row]; intro e he hb; simp at hb
  unfold idsXs setsL
  rw [List.length_map]
  apply List.length_pos_of_mem (a := 0)
  rw [List.mem_filter]
  exact ⟨List.mem_range.2 (Nat.two_pow_pos _), h0⟩
theorem idsXs_at {xs : List Int} (hg : good xs = true) (j : Nat) (hj : j < (idsXs xs).length) : ∃ s : Nat, (idsXs xs).getD j 0 = (s : Int) ∧ s < 1024 := by
  have h2 := (two_pow_le _ (good_length hg).2).2
  have hj' : j < ((List.range (2 ^ xs.length)).filter (holdsIdeal xs)).length := by simpa [idsXs, setsL] using hj
  have hm := List.mem_filter.1 (List.getElem_mem hj')
  refine ⟨((List.range (2 ^ xs.length)).filter (holdsIdeal xs))[j], by simp [idsXs, setsL, List.getD, hj'], ?_⟩
  have := List.mem_range.1 hm.1
  omega
def meanU (xs : List Int) : Nat := sumTo pc (idsXs xs) (idsXs xs).length / Nat.gcd (sumTo pc (idsXs xs) (idsXs xs).length) (idsXs xs).length
def meanD (xs : List Int) : Nat := (idsXs xs).length / Nat.gcd (sumTo pc (idsXs xs) (idsXs xs).length) (idsXs xs).length
def ansMU (xs : List Int) : Int := if good xs then (meanU xs : Nat) else 0
def ansMD (xs : List Int) : Int := if good xs then (meanD xs : Nat) else 0
theorem ansM_no {xs : List Int} (h : good xs = false) : ansMU xs = 0 ∧ ansMD xs = 0 := by simp [ansMU, ansMD, h]
theorem ansM_yes {xs : List Int} (h : good xs = true) : ansMU xs = (meanU xs : Nat) ∧ ansMD xs = (meanD xs : Nat) := by simp [ansMU, ansMD, h]
end Go.Proofs.YtdemikjaghegnaaGreat

/- Cycles of rowmotion. -/
namespace Go.Proofs.YtdemikjaghegnaaGreat
open Go.RowKit Go.WideShapes Go.ChangeShapes
set_option linter.unusedVariables false

set_option maxHeartbeats 3200000 in
theorem cyclesRow_any (v : Value) (xs : List Int) (w : World) (hv : Ints w v xs) (hg : good xs = true) :
    Calls Tryz.prog 74 #[.agg #[v], .iface 77 (.agg #[])] w fun (r : Ending) w' => ∃ q, r = Ending.returned q ∧ OwnI 3 w' w.heap.size q (cyclesL (rowmo xs) (2 ^ xs.length) (setsL (holdsIdeal xs) (2 ^ xs.length))) ∧ Below w.heap.size w w' := by
  have hl10 := (good_length hg).2
  have HV := hid hv
  have HG := hid hg
  obtain ⟨A, c, rfl, -⟩ := hv
  obtain ⟨N, hN⟩ : ∃ N, 2 ^ xs.length = N := ⟨_, rfl⟩
  have hN2 := two_pow_le xs.length hl10
  rw [hN] at hN2
  obtain ⟨I, hI⟩ : ∃ I, setsL (holdsIdeal xs) N = I := ⟨_, rfl⟩
  have HAt := hid (fun j hj => setsL_bound (f := holdsIdeal xs) (N := N) (j := j) hj)
  have hIN := setsL_length (holdsIdeal xs) N
  rw [hI] at HAt hIN
  rw [hN, hI]
  have HI := hid (show setsL (holdsIdeal xs) (2 ^ xs.length) = I by rw [hN]; exact hI)
  have HN := hid hN
  have hM : ((N - 1 : Nat) : Int) + 1 = (N : Int) := by omega
  have hmk := run_make_row' (P := Tryz.prog) 73 4 (.bool false) 1 Tryz.underlying73 infoBool rfl .i64 .i64 N (by omega) (by omega)
  clear hg hI
  go_enter Tryz.func74, Tryz.ntmps74
  go_wp2_with (go_at_call 107; refine (wholeSet_any xs.length hl10 _).mono ?_; rw [hN]; rintro e w2 ⟨rfl, rfl⟩)
  clear hM
  refine (setsI_any _ xs _ ((HV.out.alloc _).alloc _) HG.out).mono ?_
  rw [HI.out]
  rintro e w' ⟨iu, rfl, ho, hb⟩
  obtain ⟨g, hg⟩ : ∃ g, w.heap.size + 1 = g := ⟨_, rfl⟩
  have HB := hid (below_to (below_alloc (below_alloc (Below.refl _ w) _) _) hb)
  have HBox : Hid (At w' w.heap.size (.slice A xs.length c)) := hid (((At.new _ _ _).alloc _).below hb)
  have HSeen : Hid (Blk w' g 4 (BVals (List.replicate N false))) := hid (by
    subst hg
    rw [← BVals_made]
    exact (Blk.newAt _ 4 (madeCells #[.bool false] N) (w.heap.size + 1) (by simp)).below hb (by simp))
  obtain ⟨iA, iN, ic, rfl⟩ := ho.shape3
  have hiN : iN = I.length := by
    obtain ⟨_, _, h, _⟩ := ho.shape
    cases h; rfl
  subst hiN
  have HO := hid (ho.mono (B' := g + 1) (by simp; omega))
  have HOB : Hid (∀ k, (Value.slice iA I.length ic).ownBlock = some k → g + 1 ≤ k ∧ k < w'.heap.size) := hid (fun k hk => by
    have h1 := ho.blockLt k hk
    simp at h1
    omega)
  have hgw : g < w'.heap.size := HSeen.out.lt
  have hwg : w.heap.size < g := by omega
  have hbx := HBox.out.1
  rw [hg]
  clear hb ho hmk hg hN
  go_wp2
  clear hbx
  go_loopw [5, 20] (fun q i wr => ∃ (j : Nat) (oA : Option Addr) (on oc : Nat), j ≤ I.length ∧ i = .int .i64 j ∧ q = .slice oA on oc ∧ Blk wr g 4 (BVals (cycSt (rowmo xs) N I j).1) ∧ OwnI 3 wr w'.heap.size (.slice oA on oc) (cycSt (rowmo xs) N I j).2 ∧ TurnedIn g (g + 1) w' wr) (fun _ i _ => I.length - (intOf i).toNat)
  case atStart => exact ⟨0, none, 0, 0, Nat.zero_le _, rfl, rfl, HSeen.out, OwnI.nil _ _ _, TurnedIn.refl _ _ _⟩
  case round =>
    obtain ⟨j, oA, on, oc, hj, rfl, rfl, hB, hq, ht⟩ := hrel
    have HBk := hid hB
    have HQ := hid hq
    have HT := hid ht
    clear hB hq
    by_cases hlt : j < I.length
    · obtain ⟨s, hs, hsN, hIs⟩ := HAt.out j hlt
      have hoi := HO.out.turned ht HOB.out (.inr (Nat.le_refl _))
      have hcell : ∃ b, iA = some ⟨b, 0, none⟩ ∧ wr.cell? ⟨b, 0 + j, none⟩ = some (.int .i64 s) := by
        obtain ⟨A', c', h1, h2⟩ := hoi.shape
        obtain ⟨A2, c2, h3, h4⟩ := hoi.ints
        cases h1
        obtain ⟨b, h5, -, -⟩ := h2 (by intro h; simp [h] at hlt)
        cases h3
        obtain ⟨b2, o2, h6, -, h7⟩ := h4 (by intro h; simp [h] at hlt)
        have h8 : b2 = b ∧ o2 = 0 := by rw [h5] at h6; cases h6; exact ⟨rfl, rfl⟩
        obtain ⟨rfl, rfl⟩ := h8
        exact ⟨_, h5, by rw [h7 j hlt, hs]⟩
      obtain ⟨b, rfl, hcell⟩ := hcell
      rw [Nat.zero_add] at hcell
      have HS := hid hs
      obtain ⟨seen0, hs0⟩ : ∃ l, (cycSt (rowmo xs) N I j).1 = l := ⟨_, rfl⟩
      obtain ⟨out0, ho0⟩ : ∃ l, (cycSt (rowmo xs) N I j).2 = l := ⟨_, rfl⟩
      have hlen := cycSt_length (rowmo xs) N I j
      rw [hs0] at HBk hlen
      rw [ho0] at HQ hlen
      obtain ⟨R, hR⟩ : ∃ R, cyc1 (rowmo xs) seen0 s 0 = R := ⟨_, rfl⟩
      have HStep : Hid (cycSt (rowmo xs) N I (j + 1) = (R.1, if 0 < R.2 then out0 ++ [(R.2 : Int)] else out0)) := hid (by
        simp only [cycSt, hs0, ho0, hs, Int.toNat_natCast, hR])
      have HLen := hid hlen.1
      have ho10 : out0.length ≤ 1024 := by omega
      have hc0 := cntF_le seen0
      have hc1 : 0 + cntF seen0 ≤ N := by rw [← hlen.1]; omega
      have HR := hid hR
      clear hs hs0 ho0 hR hoi ht hIs hlen hc0
      go_wp2
      clear hcell
      go_loopw [10, 9] (fun a i wi => ∃ (seen : List Bool) (t n : Nat), a = .int .i64 t ∧ i = .int .i64 n ∧ t < N ∧ Hid (seen.length = N) ∧ n + cntF seen ≤ N ∧ Hid (cyc1 (rowmo xs) seen t n = R) ∧ Blk wi g 4 (BVals seen) ∧ Hid (OwnI 3 wi w'.heap.size (.slice oA on oc) out0) ∧ TurnedIn g (g + 1) w' wi) (fun _ i _ => N - (intOf i).toNat)
      case atStart => exact ⟨seen0, s, 0, rfl, rfl, hsN, HLen, hc1, HR, HBk.out, HQ, HT.out⟩
      case round =>
        obtain ⟨seen, t, n, rfl, rfl, htN, HSL, hcn, HC, hB, HOut, ht⟩ := hrel
        have hct : wr.cell? ⟨g, t, none⟩ = some (.bool (seen.getD t true)) := by
          rw [hB.cell, BVals_get (by rw [HSL.out]; exact htN)]
        have hft := hB.frozen t
        have HBk2 := hid hB
        have HT2 := hid ht
        clear hB ht
        cases hst : seen.getD t true
        · rw [hst] at hct
          have hcs := cntF_set (show t < seen.length by rw [HSL.out]; exact htN) hst
          have HGo := hid (cyc1_go (f := rowmo xs) (n := n) (show t < seen.length by rw [HSL.out]; exact htN) hst)
          have hn1 : n < N := by omega
          have hcn2 : n + 1 + cntF (seen.set t true) ≤ N := by omega
          have HL2 : Hid ((seen.set t true).length = N) := hid (by rw [List.length_set]; exact HSL.out)
          have hbox := (HBox.out.turned HT2.out (.inl hwg)).1
          have hboxz := (HBox.out.turned HT2.out (.inl hwg)).2
          have hne : w.heap.size ≠ g := by omega
          have hf1 : rowmo xs t < N := by rw [← HN.out]; exact rowmo_lt HG.out t
          have HBk3 : Hid (Blk (wr.setCell ⟨g, t, none⟩ (.bool true)) g 4 (BVals (seen.set t true))) := hid (by rw [← BVals_set]; exact HBk2.out.set_ t _)
          have HT3 : Hid (TurnedIn g (g + 1) w' (wr.setCell ⟨g, t, none⟩ (.bool true))) := hid (HT2.out.set_ ⟨g, t, none⟩ ⟨Nat.le_refl _, Nat.lt_succ_self _⟩ _)
          have HOut3 : Hid (OwnI 3 (wr.setCell ⟨g, t, none⟩ (.bool true)) w'.heap.size (.slice oA on oc) out0) := hid (HOut.out.grown (grown_setCell (World.grownBy.refl _ _) t _) (HOut.out.apart (.inl hgw)))
          have HB3 := hid (below_turned HB.out HT3.out (Nat.le_of_lt hwg))
          have HTN : Hid (t < 2 ^ xs.length) := hid (by rw [HN.out]; exact htN)
          have hbox3 := (HBox.out.turned HT3.out (.inl hwg)).1
          clear hst hcs
          go_wp2_with fail
          clear hct hft hbox hboxz hbox3
          refine (rowStep_any _ xs t _ (HV.out.below HB3.out) HG.out HTN.out).mono ?_
          rintro e' w5 ⟨rfl, hb5⟩
          have HBk5 := hid (HBk3.out.below hb5 HBk3.out.lt)
          have HT5 := hid (HT3.out.trans (TurnedIn.of_below hb5))
          have HOut5 := hid (HOut3.out.below hb5)
          clear hb5
          go_wp2
          go_roundw
          case rel => exact ⟨seen.set t true, rowmo xs t, n + 1, rfl, by go_num, hf1, HL2, hcn2, hid (by rw [← HGo.out]; exact HC.out), HBk5.out, HOut5, HT5.out⟩
          case measure => simp [intOf]; omega
        · rw [hst] at hct
          have HStop : Hid (R = (seen, n)) := hid (by rw [← HC.out]; exact cyc1_stop hst)
          have hnN : n ≤ N := by omega
          have HBel := hid (below_turned HB.out HT2.out (Nat.le_of_lt hwg))
          clear hst
          by_cases hn0 : 0 < n
          · have HSt2 : Hid (cycSt (rowmo xs) N I (j + 1) = (seen, out0 ++ [(n : Int)])) := hid (by rw [HStep.out, HStop.out]; simp [hn0])
            have hwz : w'.heap.size ≤ wr.heap.size := HT2.out.size
            go_wp2_with (at_builtin; refine wpList_append_int rfl _ _ 24 3 rfl Tryz.underlying24 Tryz.info3 w'.heap.size _ _ n rfl HOut.out rfl rfl (by omega) (by omega) ?_; rintro q2 w6 ho6 hb6; obtain ⟨qA, qn, qc, rfl⟩ := ho6.shape3)
            go_roundw
            case rel => exact ⟨j + 1, qA, qn, qc, by omega, by go_num, rfl, (by rw [HSt2.out]; exact HBk2.out.below hb6 hgw), (by rw [HSt2.out]; exact ho6), HT2.out.belowB hb6 (Nat.le_refl _)⟩
            case measure => simp [intOf]; omega
          · have HSt2 : Hid (cycSt (rowmo xs) N I (j + 1) = (seen, out0)) := hid (by rw [HStep.out, HStop.out]; simp [hn0])
            go_wp2
            go_roundw
            case rel => exact ⟨j + 1, oA, on, oc, by omega, by go_num, rfl, (by rw [HSt2.out]; exact HBk2.out), (by rw [HSt2.out]; exact HOut.out), HT2.out⟩
            case measure => simp [intOf]; omega
    · obtain rfl : j = I.length := by omega
      have HBel := hid (below_turned HB.out ht (Nat.le_of_lt hwg))
      have hww := HB.out.size
      clear ht
      go_wp2
      go_ret
      exact ⟨_, rfl, HQ.out.mono hww, HBel.out⟩
end Go.Proofs.YtdemikjaghegnaaGreat

/- All orbits, by the model; their lengths. -/
namespace Go.Proofs.YtdemikjaghegnaaGreat
open Go.RowKit Go.WideShapes Go.ChangeShapes
set_option linter.unusedVariables false

theorem OwnSS.monoB {ti ts : TypeId} {w : World} {B B' E : Nat} {v : Value} {ls : List (List Int)} (h : OwnSS ti ts w B E v ls) (hB : B' ≤ B) : OwnSS ti ts w B' E v ls := by
  obtain ⟨us, h1, h2, h3, h4, h5⟩ := h
  refine ⟨us, h1, ?_, h3, fun j u l hu hl => ⟨(h4 j u l hu hl).1.mono hB, (h4 j u l hu hl).2⟩, h5⟩
  obtain ⟨a1, a2⟩ := h2
  refine ⟨a1, ?_⟩
  rcases a2 with a2 | ⟨g, cap, cur, hv, hg, r⟩
  · exact .inl a2
  · exact .inr ⟨g, cap, cur, hv, by omega, r⟩
/-- the orbits that begin with the given sets -/
def orbsOf (f : Nat → Nat) (N : Nat) (st : List Nat) : List (List Int) := st.map (orbL f N)
theorem orbsOf_snoc (f : Nat → Nat) (N : Nat) (st : List Nat) (s : Nat) : orbsOf f N (st ++ [s]) = orbsOf f N st ++ [orbL f N s] := by simp [orbsOf]
theorem orbsOf_length (f : Nat → Nat) (N : Nat) (st : List Nat) : (orbsOf f N st).length = st.length := by simp [orbsOf]
def allXs (xs : List Int) : List (List Int) := orbsOf (rowmo xs) (2 ^ xs.length) (starts (rowmo xs) (2 ^ xs.length) (idsXs xs))
theorem idsXs_D (xs : List Int) (j : Nat) (hj : j < (idsXs xs).length) : idB xs ((idsXs xs).getD j 0).toNat = true := by
  obtain ⟨s, h1, h2, h3⟩ := setsL_bound (f := holdsIdeal xs) (N := 2 ^ xs.length) hj
  have : (idsXs xs).getD j 0 = (s : Int) := h1
  rw [this, Int.toNat_natCast]
  exact idB_iff.2 ⟨h2, h3⟩
/-- the marks behind k elements of an orbit -/
def mkOrb (f : Nat → Nat) (N : Nat) (st : List Nat) (s k : Nat) : List Bool := marksB (fun x => seenB f N st x || (orbT f s k).contains x) N
theorem mkOrb_zero (f : Nat → Nat) (N : Nat) (st : List Nat) (s : Nat) : mkOrb f N st s 0 = marksB (seenB f N st) N := marksB_congr fun t _ => by simp [orbT]
theorem mkOrb_set (f : Nat → Nat) (N : Nat) (st : List Nat) (s k : Nat) : (mkOrb f N st s k).set (iter f k s) true = mkOrb f N st s (k + 1) := by
  unfold mkOrb
  rw [marksB_set]
  exact marksB_congr fun t _ => by rw [orbT_contains_succ, Bool.or_assoc]
theorem mkOrb_full (f : Nat → Nat) (N : Nat) (st : List Nat) (s : Nat) : mkOrb f N st s (per f N s) = marksB (seenB f N (st ++ [s])) N := marksB_congr fun t _ => by rw [seenB_snoc]; rfl
theorem mkOrb_length (f : Nat → Nat) (N : Nat) (st : List Nat) (s k : Nat) : (mkOrb f N st s k).length = N := marksB_length _ _
end Go.Proofs.YtdemikjaghegnaaGreat

/- OrderOfWord. -/
namespace Go.Proofs.YtdemikjaghegnaaGreat
open Go.RowKit Go.WideShapes Go.ChangeShapes
set_option linter.unusedVariables false

def okOW (xs ys : List Int) : Bool := okGW xs ys && (lcmAll (cycW xs ys)).isSome
def ansOW (xs ys : List Int) : Int := if okOW xs ys then (((lcmAll (cycW xs ys)).getD 0 : Nat) : Int) else 0
theorem okOW_no1 {xs ys : List Int} (h : okGW xs ys = false) : okOW xs ys = false := by simp [okOW, h]
theorem okOW_no2 {xs ys : List Int} (h : lcmAll (cycW xs ys) = none) : okOW xs ys = false := by simp [okOW, h]
theorem okOW_yes {xs ys : List Int} {m : Nat} (h : okGW xs ys = true) (k : lcmAll (cycW xs ys) = some m) : okOW xs ys = true := by simp [okOW, h, k]
theorem ansOW_no {xs ys : List Int} (h : okOW xs ys = false) : ansOW xs ys = 0 := by simp [ansOW, h]
theorem ansOW_yes {xs ys : List Int} {m : Nat} (h : okOW xs ys = true) (k : lcmAll (cycW xs ys) = some m) : ansOW xs ys = (m : Int) := by simp [ansOW, h, k]
/-- what lcmAll tells, as the program's pair -/
def lcmV (o : Option Nat) : Int := ((o.getD 0 : Nat) : Int)
theorem lcm_step {ls : List Int} {k m x : Nat} (h : lcmN ls k = some m) (hx : ls.getD k 0 = (x : Int)) : lcmN ls (k + 1) = if 1000000000000000 < m / Nat.gcd m x * x then none else some (m / Nat.gcd m x * x) := by
  simp only [lcmN, h, Option.bind_some, hx, Int.toNat_natCast]
theorem lcm_facts {ls : List Int} {k m x : Nat} (hp : ∀ y ∈ ls, 1 ≤ y ∧ y ≤ 1024) (hk : k < ls.length) (h : lcmN ls k = some m) (hx : ls.getD k 0 = (x : Int)) :
    1 ≤ m ∧ m ≤ 1000000000000000 ∧ 1 ≤ x ∧ x ≤ 1024 ∧ 1 ≤ Nat.gcd m x ∧ Nat.gcd m x ≤ 1024 ∧ x / Nat.gcd m x ≤ 1024 ∧ m / Nat.gcd m x ≤ 1000000000000000 ∧ m / Nat.gcd m x * x ≤ 1024000000000000000 := by
  have h1 := lcmN_le (fun y hy => (hp y hy).1) k (by omega) m h
  have h2 := hp (ls.getD k 0) (by simp [List.getD, hk])
  rw [hx] at h2
  have h3 := Nat.gcd_le_right m (show 0 < x by omega)
  have h4 : 0 < Nat.gcd m x := Nat.gcd_pos_of_pos_left _ (by omega)
  have h5 := Nat.div_le_self x (Nat.gcd m x)
  have h6 := Nat.div_le_self m (Nat.gcd m x)
  have h7 : m / Nat.gcd m x * x ≤ 1000000000000000 * 1024 := Nat.mul_le_mul (by omega) (by omega)
  exact ⟨h1.1, h1.2, by omega, by omega, h4, by omega, by omega, by omega, by omega⟩
end Go.Proofs.YtdemikjaghegnaaGreat

/- OrbitLengths, OrderOfRow, FixedIdeals: contracts. -/
namespace Go.Proofs.YtdemikjaghegnaaGreat
open Go.RowKit Go.WideShapes Go.ChangeShapes
set_option linter.unusedVariables false

def lensT (ls : List (List Int)) (k : Nat) : List Int := (ls.take k).map fun l => ((l.length : Nat) : Int)
theorem lensT_succ (ls : List (List Int)) {k : Nat} (hk : k < ls.length) : lensT ls (k + 1) = lensT ls k ++ [(((ls.getD k []).length : Nat) : Int)] := by
  unfold lensT
  rw [List.take_succ_eq_append_getElem hk, List.map_append]
  simp [List.getD, hk]
theorem lensT_length (ls : List (List Int)) {k : Nat} (hk : k ≤ ls.length) : (lensT ls k).length = k := by simp [lensT]; omega
def lensXs (xs : List Int) : List Int := lensT (allXs xs) (allXs xs).length
theorem lensXs_starts (xs : List Int) : lensXs xs = (starts (rowmo xs) (2 ^ xs.length) (idsXs xs)).map fun s => ((per (rowmo xs) (2 ^ xs.length) s : Nat) : Int) := by
  unfold lensXs lensT allXs orbsOf
  rw [List.take_length, List.map_map]
  exact List.map_congr_left fun s _ => by simp [orbL_length]
theorem lensXs_cyc {xs : List Int} (hg : good xs = true) : cyclesL (rowmo xs) (2 ^ xs.length) (setsL (holdsIdeal xs) (2 ^ xs.length)) = lensXs xs := by
  rw [lensXs_starts]
  exact cyclesL_starts (rowMov hg) (idsXs_D xs)
theorem allXs_length {xs : List Int} (hg : good xs = true) : (allXs xs).length ≤ 1024 := by
  unfold allXs
  rw [orbsOf_length]
  have := startsN_length (rowmo xs) (2 ^ xs.length) (idsXs xs) (idsXs xs).length
  have := (idsXs_length hg).2
  unfold starts
  omega
theorem allXs_row {xs : List Int} (hg : good xs = true) {j : Nat} (hj : j < (allXs xs).length) : ∃ s : Nat, idB xs s = true ∧ (allXs xs).getD j [] = orbXs xs s := by
  unfold allXs orbsOf at hj ⊢
  rw [List.length_map] at hj
  refine ⟨(starts (rowmo xs) (2 ^ xs.length) (idsXs xs))[j], startsN_D (idsXs_D xs) (Nat.le_refl _) (List.getElem_mem hj), ?_⟩
  simp [List.getD, hj, orbXs]
theorem lensXs_length {xs : List Int} (hg : good xs = true) : (lensXs xs).length ≤ 1024 := by
  unfold lensXs
  rw [lensT_length _ (Nat.le_refl _)]
  exact allXs_length hg
theorem lensXs_pos {xs : List Int} (hg : good xs = true) : ∀ x ∈ lensXs xs, 1 ≤ x ∧ x ≤ 1024 := by
  intro x hx
  rw [← lensXs_cyc hg] at hx
  have h3 := pow10 (good_length hg).2
  obtain ⟨N, hN⟩ : ∃ N, 2 ^ xs.length = N := ⟨_, rfl⟩
  rw [hN] at hx h3
  have h1 := cycSt_pos (rowmo xs) N (setsL (holdsIdeal xs) N) _ x hx
  omega
def ansOL (xs : List Int) : List Int := if good xs then lensXs xs else []
theorem ansOL_no {xs : List Int} (h : good xs = false) : ansOL xs = [] := by simp [ansOL, h]
theorem ansOL_yes {xs : List Int} (h : good xs = true) : ansOL xs = lensXs xs := by simp [ansOL, h]
theorem ansOL_length (xs : List Int) : (ansOL xs).length ≤ 1048576 := by
  cases h : good xs
  · rw [ansOL_no h]; simp
  · rw [ansOL_yes h]; have := lensXs_length h; omega
theorem implOrbitLengths_any (v : Value) (xs : List Int) (w : World) (hv : Ints w v xs) (hl : xs.length ≤ 1048576) :
    Calls Tryz.prog 78 #[.agg #[v]] w fun (r : Ending) w' => ∃ q, r = Ending.returned (.tuple #[q, .bool (good xs)]) ∧ OwnI 3 w' w.heap.size q (ansOL xs) ∧ (ansOL xs).length ≤ 1048576 ∧ Below w.heap.size w w' := by
  have HV := hid hv
  have HL := hid (ansOL_length xs)
  clear hv
  go_enter Tryz.func78, Tryz.ntmps78
  have HB := hid (below_alloc (Below.refl _ w) (.cells #[v] 26))
  have A0 := hid (At.newAt w v 26 w.heap.size (by simp))
  go_wp2_with fail
  refine (implIsPoset_any _ xs _ (HV.out.below HB.out) hl).mono ?_
  rintro e w' ⟨rfl, hb⟩
  replace HB := hid (below_to HB.out hb)
  replace A0 := hid (A0.out.below hb)
  clear hb
  cases hq : good xs
  · have HQ := hid hq
    clear hq
    have ebox0 := A0.out.1
    go_wp2
    go_ret2
    exact ⟨_, ret_vb' HQ.out.symm, by rw [ansOL_no HQ.out]; exact OwnI.nil _ _ _, HL.out, HB.out⟩
  · have HQ := hid hq
    have HE := hid (lensXs_cyc hq)
    have hz := HB.out.size
    clear hq
    have ebox0 := A0.out.1
    go_wp2_with fail
    clear ebox0
    refine (cyclesRow_any _ xs _ (HV.out.below HB.out) HQ.out).mono ?_
    rintro e w' ⟨q, rfl, ho, hb⟩
    replace HB := hid (below_to HB.out hb)
    replace A0 := hid (A0.out.below hb)
    clear hb
    have ebox0 := A0.out.1
    go_wp2
    go_ret2
    exact ⟨_, ret_vb' HQ.out.symm, by rw [ansOL_yes HQ.out, ← HE.out]; exact ho.mono hz, HL.out, HB.out⟩

/-! ### the order of rowmotion -/
def okOR (xs : List Int) : Bool := good xs && (lcmAll (lensXs xs)).isSome
def ansOR (xs : List Int) : Int := if okOR xs then (((lcmAll (lensXs xs)).getD 0 : Nat) : Int) else 0
theorem okOR_no1 {xs : List Int} (h : good xs = false) : okOR xs = false := by simp [okOR, h]
theorem okOR_no2 {xs : List Int} (h : lcmAll (lensXs xs) = none) : okOR xs = false := by simp [okOR, h]
theorem okOR_yes {xs : List Int} {m : Nat} (h : good xs = true) (k : lcmAll (lensXs xs) = some m) : okOR xs = true := by simp [okOR, h, k]
theorem ansOR_no {xs : List Int} (h : okOR xs = false) : ansOR xs = 0 := by simp [ansOR, h]
theorem ansOR_yes {xs : List Int} {m : Nat} (h : okOR xs = true) (k : lcmAll (lensXs xs) = some m) : ansOR xs = (m : Int) := by simp [ansOR, h, k]
/-! ### fixed ideals -/
def fixN (n : Nat) (ls : List Int) : Nat → Nat
  | 0 => 0
  | k + 1 => if n % (ls.getD k 0).toNat = 0 then fixN n ls k + (ls.getD k 0).toNat else fixN n ls k
theorem fixN_yes {n k x : Nat} {ls : List Int} (hx : ls.getD k 0 = (x : Int)) (h : n % x = 0) : fixN n ls (k + 1) = fixN n ls k + x := by
  simp only [fixN, hx, Int.toNat_natCast, h, if_true]
theorem fixN_no {n k x : Nat} {ls : List Int} (hx : ls.getD k 0 = (x : Int)) (h : ¬ n % x = 0) : fixN n ls (k + 1) = fixN n ls k := by
  simp only [fixN, hx, Int.toNat_natCast, h, if_false]
def okFI (xs : List Int) (k : Int) : Bool := good xs && (decide (0 ≤ k) && decide (k ≤ 1000))
def ansFI (xs : List Int) (k : Int) : Int := if okFI xs k then (fixN k.toNat (lensXs xs) (lensXs xs).length : Nat) else 0
theorem okFI_no1 {xs : List Int} {k : Int} (h : good xs = false) : okFI xs k = false := by simp [okFI, h]
theorem okFI_no2 {xs : List Int} {k : Int} (h : (decide (0 ≤ k) && decide (k ≤ 1000)) = false) : okFI xs k = false := by unfold okFI; rw [h, Bool.and_false]
theorem okFI_yes {xs : List Int} {k : Int} (h : good xs = true) (h2 : (decide (0 ≤ k) && decide (k ≤ 1000)) = true) : okFI xs k = true := by unfold okFI; rw [h, h2]; rfl
theorem ansFI_no {xs : List Int} {k : Int} (h : okFI xs k = false) : ansFI xs k = 0 := by simp [ansFI, h]
theorem ansFI_yes {xs : List Int} {n : Nat} (h : okFI xs n = true) : ansFI xs n = ((fixN n (lensXs xs) (lensXs xs).length : Nat) : Int) := by unfold ansFI; rw [if_pos h]; rfl
end Go.Proofs.YtdemikjaghegnaaGreat

/- GyrateBack in the program. -/
namespace Go.Proofs.YtdemikjaghegnaaGreat
open Go.RowKit Go.WideShapes Go.ChangeShapes
set_option linter.unusedVariables false

theorem und_SR (v : Value) (ys : List Int) (w0 : World) (b : Nat) (W : World) (hv : Ints W v ys) (hl : ys.length ≤ 1048576) (vp : Value) (hS : SR w0 b vp W) :
    Calls Tryz.prog 72 #[.iface 62 v] W fun (r : Ending) w' => ∃ u, r = Ending.returned (.iface 62 u) ∧ Ints w' u ys.reverse ∧ SR w0 b vp w' :=
  (undoneWord_any v ys W hv hl).mono fun _ _ ⟨u, h1, h2, h3⟩ => ⟨u, h1, h2, hS.to h3⟩
theorem inW_rev {n : Nat} {ys : List Int} (h : inW n ys = true) : inW n ys.reverse = true := by
  unfold inW at *
  rw [List.all_reverse]; exact h
set_option maxHeartbeats 1600000 in
theorem implGyrateBack_any (v : Value) (xs : List Int) (s : Int) (w : World) (hv : Ints w v xs) (hl : xs.length ≤ 1048576) (wf : (Lit.int .i64 s).wf = true) :
    Calls Tryz.prog 24 #[.agg #[v], .int .i64 s] w fun r w' => r = .returned (.tuple #[.int .i64 (ansGB xs s), .bool (okRI xs s)]) ∧ Below w.heap.size w w' := by
  have HV := hid hv
  clear hv wf
  go_enter Tryz.func24, Tryz.ntmps24
  have HB := hid (below_alloc (Below.refl _ w) (.cells #[v] 26))
  have A0 := hid (At.newAt w v 26 w.heap.size (by simp))
  go_wp2_with fail
  refine (implRanksOf_any _ xs _ (HV.out.below HB.out) hl).mono ?_
  rintro e w' ⟨q, rfl, ho, -, hb⟩
  replace HB := hid (below_to HB.out hb)
  replace A0 := hid (A0.out.below hb)
  clear hb
  cases hk : okRk xs
  · have HO := hid (okRI_no (s := s) hk)
    clear hk
    obtain ⟨qA, qn, qc, rfl⟩ := ho.shape3
    clear ho
    have ebox0 := A0.out.1
    go_wp2
    go_ret2
    exact ⟨ret_ib (ansGB_no HO.out).symm HO.out.symm, HB.out⟩
  · have HK := hid hk
    rw [ansRO_yes hk] at ho
    obtain ⟨hg, hr⟩ := okRk_good hk
    obtain ⟨h, hh, h9⟩ := rkN_some hg
    have HQ := hid ho.ints
    have HG := hid hg
    have HH := hid hh
    clear hk ho hg hr hh
    have ebox0 := A0.out.1
    go_wp2_with fail
    clear ebox0
    refine (hasIdeal_any _ xs s _ (HV.out.below HB.out) hl).mono ?_
    rintro e w' ⟨rfl, hb⟩
    replace HB := hid (below_to HB.out hb)
    replace A0 := hid (A0.out.below hb)
    replace HQ := hid (HQ.out.below hb)
    clear hb
    cases hi : okIdeal xs s
    · have HO : Hid (okRI xs s = false) := hid (by rw [okRI_yes HK.out]; exact hi)
      clear hi
      have ebox0 := A0.out.1
      go_wp2
      go_ret2
      exact ⟨ret_ib (ansGB_no HO.out).symm HO.out.symm, HB.out⟩
    · have HO : Hid (okRI xs s = true) := hid (by rw [okRI_yes HK.out]; exact hi)
      obtain ⟨z, rfl, _, hz, _⟩ := okIdeal_all hi
      have HZ := hid hz
      have HAn := hid (ansGB_yes HO.out HH.out)
      have HEl := hid (inW_rev (inW_rkW HG.out (show inW (rkN xs) (wGyr h) = true from inW_wGyr (by rw [HH.out]; omega))))
      have HLn := hid (rkW_length (rankL xs) (wGyr h))
      have HLw := hid (wGyr_length h9)
      have HSm := hid (rank_small HG.out)
      have HRl : Hid ((rankL xs).length = h + 1) := hid (by rw [rankL_length, HH.out])
      have HV1 := hid (HV.out.below HB.out)
      have HS := hid (show SR w' w.heap.size v w' from ⟨A0.out, Below.refl _ _⟩)
      have hbx := A0.out.1
      clear hi hz
      go_wp2_with fail
      go_region_held3 (fun W => W.cell? ⟨w.heap.size, 0, none⟩ = some v ∧ Hid (SR w' w.heap.size v W)) (first | exact ⟨HS4.out.at_.1, HS4⟩ | exact ⟨HS3.out.at_.1, HS3⟩ | exact ⟨HS2.out.at_.1, HS2⟩ | exact ⟨HS.out.drew.at_.1, hid HS.out.drew⟩) (first | (go_at_call 73; refine (sTGyr_SR _ (rankL xs) h w' w.heap.size _ HQ.out HRl.out h9 HSm.out v (Hid.out (by first | assumption | exact hid HS.out.drew))).mono ?_; rintro e' w4 ⟨q4, rfl, hu4, hs4⟩; have HU4 := hid hu4; have HS2 := hid hs4; clear hu4 hs4) | (go_at_call 72; refine (und_SR _ _ w' w.heap.size _ HU4.out (by have := HLn.out; have := HLw.out; omega) v HS2.out).mono ?_; rintro e' w5 ⟨q5, rfl, hu5, hs5⟩; have HU5 := hid hu5; have HS3 := hid hs5; clear hu5 hs5) | (go_at_call 66; refine (step_SR v _ xs _ w' w.heap.size z _ HV1.out HU5.out HG.out HZ.out HEl.out (by rw [List.length_reverse]; have := HLn.out; have := HLw.out; omega) HS3.out).mono ?_; rintro e' w6 ⟨rfl, hs6⟩; have HS4 := hid hs6; clear hs6))
      have HB3 := hid (below_to HB.out HS4.out.below)
      clear hbx
      go_wp2
      go_ret2
      exact ⟨ret_ib HAn.out.symm HO.out.symm, HB3.out⟩
end Go.Proofs.YtdemikjaghegnaaGreat
