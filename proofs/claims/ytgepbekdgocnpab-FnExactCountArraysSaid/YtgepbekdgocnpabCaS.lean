/- CountArrays of the model: chains of ideals, step by step. -/
import Derived.Test.YtgepbekdgocnpabPcA
import Derived.Test.YtgepbekdgocnpabChL
import Derived.Test.YtgepbekdgocnpabIdeals
namespace Go.Proofs.Ytgepbekdgocnpab
open Go.RowKit Go.WideShapes Go.ChangeShapes
set_option linter.unusedVariables false

theorem sumR_prefix (f : Nat → Nat) {t n : Nat} (h : t ≤ n) : sumR f t ≤ sumR f n := by
  induction n with
  | zero => obtain rfl : t = 0 := by omega
            exact Nat.le_refl _
  | succ n ih =>
    by_cases e : t = n + 1
    · subst e; exact Nat.le_refl _
    · have := ih (by omega); rw [sumR]; omega
theorem chN_small6 {ok : Nat → Nat → Bool} {n : Nat} (hn : n ≤ 6) (hp : ∀ s t, ok s t = true → sub s t = 0) {k t : Nat} (hk : k ≤ 22) (ht : t < 2 ^ n) : chN ok (2 ^ n) k t ≤ 113379904 := by
  refine Nat.le_trans (chN_le hp k t ht) ?_
  rcases Nat.eq_zero_or_pos k with h | h
  · subst h
    rcases Nat.eq_zero_or_pos (bitsF n t) with e | e
    · rw [e]; decide
    · rw [Nat.zero_pow e]; exact Nat.zero_le _
  · refine Nat.le_trans (Nat.pow_le_pow_left hk _) (Nat.le_trans (Nat.pow_le_pow_right (by decide) (Nat.le_trans (bitsF_le n t) hn)) ?_)
    decide
theorem onWk {xs : List Int} {s t : Nat} (h : onId xs wk s t = true) : sub s t = 0 := by
  unfold onId at h; simp only [Bool.and_eq_true] at h; simpa [wk] using h.2
/-- chains in k steps to the i-th ideal -/
def wN (xs : List Int) (k i : Nat) : Nat := chN (onId xs wk) (2 ^ xs.length) k (idA xs i)
/-- the sum for the i-th ideal over the first t ones -/
def sN (xs : List Int) (k i t : Nat) : Nat := sumR (fun j => if wk (idA xs j) (idA xs i) then wN xs k j else 0) t
theorem sN_full {xs : List Int} (k : Nat) {i : Nat} (hi : i < (idN xs).length) : sN xs k i (idN xs).length = wN xs (k + 1) i := (chN_all (st := wk) k (idA xs i) (idA_mem hi).2).symm
theorem wN_one {xs : List Int} {i : Nat} (hi : i < (idN xs).length) : wN xs 1 i = 1 := by
  unfold wN
  show sumR (fun s => if onId xs wk s (idA xs i) then chN (onId xs wk) (2 ^ xs.length) 0 s else 0) (2 ^ xs.length) = 1
  rw [sumR_congr (g := fun s => if s = 0 then 1 else 0) (fun s hs => by
    by_cases e : s = 0
    · subst e
      have h0 : onId xs wk 0 (idA xs i) = true := by unfold onId; rw [ideal_zero, (idA_mem hi).2]; simp [wk, sub]
      rw [h0]; rfl
    · unfold chN; rw [if_neg e]; simp [e])]
  exact sumR_one _ 0 1 (Nat.two_pow_pos _)
theorem wN_all {xs : List Int} (hg : good xs = true) (k : Nat) : sumR (wN xs k) (idN xs).length = cnt xs false (k + 1) (2 ^ xs.length - 1) := by
  unfold cnt
  rw [show stpB xs false = wk from by funext s t; rfl, chN_all (st := wk) k _ (ideal_full hg)]
  refine sumR_congr fun j hj => ?_
  have h : wk (idA xs j) (2 ^ xs.length - 1) = true := by
    unfold wk
    rw [beq_iff_eq, sub_eq_zero]
    intro e he
    rw [full_testBit, decide_eq_true_iff]
    exact testBit_lt (idA_mem hj).1 he
  rw [if_pos h]; rfl
theorem cnt_one {xs : List Int} (hg : good xs = true) : cnt xs false 1 (2 ^ xs.length - 1) = 1 := by
  have h := wN_one (xs := xs) (i := (idN xs).length - 1) (by have := idN_pos xs; omega)
  unfold wN at h
  rw [idA_last hg] at h
  unfold cnt
  rw [show stpB xs false = wk from by funext s t; rfl]
  exact h
def okCA (xs : List Int) (b : Int) : Bool := okLs xs && hiB b
def ansCA (xs : List Int) (b : Int) : Int := if okCA xs b then ((cnt xs false (b.toNat + 1) (2 ^ xs.length - 1) : Nat) : Int) else 0
theorem okCA_no1 {xs : List Int} {b : Int} (h : okLs xs = false) : okCA xs b = false := by simp [okCA, h]
theorem okCA_no2 {xs : List Int} {b : Int} (h : hiB b = false) : okCA xs b = false := by simp [okCA, h]
theorem okCA_yes {xs : List Int} {b : Int} (h : okLs xs = true) (k : hiB b = true) : okCA xs b = true := by simp [okCA, h, k]
theorem ansCA_no {xs : List Int} {b : Int} (h : okCA xs b = false) : ansCA xs b = 0 := by simp [ansCA, h]
theorem ansCA_yes {xs : List Int} {m : Nat} (h : okCA xs m = true) : ansCA xs m = ((cnt xs false (m + 1) (2 ^ xs.length - 1) : Nat) : Int) := by unfold ansCA; rw [if_pos h, Int.toNat_natCast]
def nxG (xs : List Int) (k i e : Nat) : Nat := if e < i then wN xs (k + 1) e else 0
def nxH (xs : List Int) (k i t e : Nat) : Nat := if e < i then wN xs (k + 1) e else if e = i then sN xs k i t else 0
set_option maxRecDepth 100000 in
set_option maxHeartbeats 3200000 in
theorem specCountArrays_any (v : Value) (xs : List Int) (b : Int) (w : World) (hv : Ints w v xs) (hl : xs.length ≤ 1048576) (wf : (Lit.int .i64 b).wf = true) :
    Calls Try.prog 33 #[.agg #[v], .int .i64 b] w fun r w' => r = .returned (.tuple #[.int .i64 (ansCA xs b), .bool (okCA xs b)]) ∧ Below w.heap.size w w' := by
  have HV := hid hv
  obtain ⟨A, c, rfl, -⟩ := hv
  clear wf
  cases hg : good xs
  · have HG := hid hg
    have HO := hid (okCA_no1 (b := b) (okLs_no1 hg))
    have HN := hid (ansCA_no HO.out)
    clear hg
    go_enter Try.func33, Try.ntmps33
    have HB := hid (below_alloc (Below.refl _ w) (.cells #[(.slice A xs.length c)] 28))
    have A0 := hid (At.newAt w (.slice A xs.length c) 28 w.heap.size (by simp))
    go_wp2_with fail
    refine (poGood_any _ xs _ (HV.out.below HB.out) hl).mono ?_
    rw [HG.out]
    rintro e w' ⟨rfl, hb⟩
    replace HB := hid (below_to HB.out hb)
    replace A0 := hid (A0.out.below hb)
    clear hb
    have ebox0 := A0.out.1
    go_wp2
    go_ret2
    exact ⟨ret_ib HN.out.symm HO.out.symm, HB.out⟩
  obtain ⟨n, hn⟩ : ∃ n, xs.length = n := ⟨_, rfl⟩
  have HNn := hid hn
  by_cases h6 : n ≤ 6
  case neg =>
    have HG := hid hg
    have HO := hid (okCA_no1 (b := b) (okLs_no2 (xs := xs) (by omega)))
    have HN := hid (ansCA_no HO.out)
    rw [hn] at HV hl ⊢
    have hI : 6 < (n : Int) := by omega
    clear hg hn
    go_enter Try.func33, Try.ntmps33
    have HB := hid (below_alloc (Below.refl _ w) (.cells #[(.slice A n c)] 28))
    have A0 := hid (At.newAt w (.slice A n c) 28 w.heap.size (by simp))
    go_wp2_with fail
    refine (poGood_any _ xs _ (HV.out.below HB.out) (by rw [HNn.out]; exact hl)).mono ?_
    rw [HG.out]
    rintro e w' ⟨rfl, hb⟩
    replace HB := hid (below_to HB.out hb)
    replace A0 := hid (A0.out.below hb)
    clear hb
    have ebox0 := A0.out.1
    go_wp2
    go_ret2
    exact ⟨ret_ib HN.out.symm HO.out.symm, HB.out⟩
  cases hb : hiB b
  · have HG := hid hg
    have HD := hid hb
    have HO := hid (okCA_no2 (xs := xs) hb)
    have HN := hid (ansCA_no HO.out)
    rw [hn] at HV hl ⊢
    have hI : ¬ 6 < (n : Int) := by omega
    clear hg hb hn
    go_enter Try.func33, Try.ntmps33
    have HB := hid (below_alloc (Below.refl _ w) (.cells #[(.slice A n c)] 28))
    have A0 := hid (At.newAt w (.slice A n c) 28 w.heap.size (by simp))
    go_wp2_with fail
    refine (poGood_any _ xs _ (HV.out.below HB.out) (by rw [HNn.out]; exact hl)).mono ?_
    rw [HG.out]
    rintro e w' ⟨rfl, hb⟩
    replace HB := hid (below_to HB.out hb)
    replace A0 := hid (A0.out.below hb)
    clear hb
    have ebox0 := A0.out.1
    go_wp2_with (go_at_call 37; refine (pcBound_any b _).mono ?_; rw [HD.out]; rintro e w' ⟨rfl, rfl⟩)
    go_ret2
    exact ⟨ret_ib HN.out.symm HO.out.symm, HB.out⟩
  · have HG := hid hg
    have HD := hid hb
    have HO := hid (okCA_yes (okLs_yes hg (by omega)) hb)
    obtain ⟨b0, b1⟩ := hiB_all hb
    obtain ⟨m, rfl⟩ := Int.eq_ofNat_of_zero_le b0
    have HN := hid (ansCA_yes HO.out)
    have hm20 : m ≤ 20 := by omega
    have HIds := hid (fun W hW => poIdeals_any (.slice A xs.length c) xs W hW hg)
    have hn1 := idN_pos xs
    have hn2 := idN_le hg
    have HAt := hid (fun j (hj : j < (idN xs).length) => (idA_mem hj).1)
    have HGet := hid (fun j (hj : j < (idN xs).length) => idN_getD hj)
    have HLen := hid (idN_len xs)
    have HW1 := hid (fun i (hi : i < (idN xs).length) => wN_one hi)
    have HSF := hid (fun k i (hi : i < (idN xs).length) => sN_full (xs := xs) k hi)
    have HSm := hid (fun k i (hk : k ≤ 22) (hi : i < (idN xs).length) => show wN xs k i ≤ 113379904 from chN_small6 (by omega) (fun s t h => onWk h) hk (idA_mem hi).1)
    have HSp := hid (fun k i t (ht : t ≤ (idN xs).length) => show sN xs k i t ≤ sN xs k i (idN xs).length from sumR_prefix _ ht)
    have HAll := hid (fun k => wN_all hg k)
    have HAllS := hid (show cnt xs false (m + 1) (2 ^ xs.length - 1) ≤ 113379904 from chN_small6 (by omega) (fun s t h => by rw [show stpB xs false = wk from by funext s t; rfl] at h; exact onWk h) (by omega) (by have := Nat.two_pow_pos xs.length; omega))
    have HOne := hid (cnt_one hg)
    have hp : 2 ^ xs.length ≤ 2 ^ 10 := Nat.pow_le_pow_right (by omega) (by omega)
    have HLt : Hid (∀ j, j < (idN xs).length → idA xs j < 1024) := hid (fun j hj => by have := (idA_mem (xs := xs) hj).1; omega)
    obtain ⟨N, hN⟩ : ∃ N, (idN xs).length = N := ⟨_, rfl⟩
    rw [hN] at hn1 hn2 HAt HGet HLen HW1 HSF HSm HSp HAll HLt
    rw [hn] at HV hl HIds ⊢
    rw [hn] at HGet HLen
    have hI : ¬ 6 < (n : Int) := by omega
    have hmk := run_make_row' (P := Try.prog) 22 3 (.int .i64 0) 8 Try.underlying22 Try.info3 rfl .i64 .i64 N (by omega) (by omega)
    have Hmk := hid hmk
    clear hg hb hn hN hp hmk
    go_enter Try.func33, Try.ntmps33
    have HB := hid (below_alloc (Below.refl _ w) (.cells #[(.slice A n c)] 28))
    have A0 := hid (At.newAt w (.slice A n c) 28 w.heap.size (by simp))
    go_wp2_with fail
    refine (poGood_any _ xs _ (HV.out.below HB.out) (by rw [HNn.out]; exact hl)).mono ?_
    rw [HG.out]
    rintro e w' ⟨rfl, hb⟩
    replace HB := hid (below_to HB.out hb)
    replace A0 := hid (A0.out.below hb)
    clear hb
    have ebox0 := A0.out.1
    go_wp2_with (first | (go_at_call 37; refine (pcBound_any (m : Int) _).mono ?_; rw [HD.out]; rintro e w2 ⟨rfl, rfl⟩) | fail)
    clear ebox0
    refine (HIds.out _ (HV.out.below HB.out)).mono ?_
    rintro e w1 ⟨u, rfl, ho, hb⟩
    have HB1 := hid (below_to HB.out hb)
    have hwz := HB1.out.size
    obtain ⟨A2, c2, rfl, hA2⟩ := ho.ints
    rw [HLen.out]
    obtain ⟨g2, o2, rfl, hbl2, hc2⟩ := hA2 (by intro h; have := congrArg List.length h; rw [HLen.out] at this; simp at this; omega)
    have HCI := hid (fun j (hj : j < N) => show w1.cell? ⟨g2, o2 + j, none⟩ = some (.int .i64 ((idA xs j : Nat) : Int)) by rw [hc2 j (by rw [HLen.out]; exact hj), HGet.out j hj])
    have hmk := Hmk.out
    clear hb ho hA2 hc2 HB A0
    go_wp2
    clear hmk
    rw [Vals_made]
    have HK0 : Hid (Blk (w1.alloc (.cells (Vals (List.replicate N 0)) 3)) w1.heap.size 3 (Vals (mkL N fun i => if i < 0 then 1 else 0))) := hid (by
      rw [show (mkL N fun i => if i < 0 then 1 else 0) = List.replicate N 0 from (mkL_congr (fun i hi => by simp)).trans (mkL_zero N)]
      exact Blk.new _ _ _)
    have HW0 := hid (below_alloc (Below.refl _ w1) (.cells (Vals (List.replicate N 0)) 3))
    go_loopw [39] (fun i wr => ∃ t : Nat, t ≤ N ∧ i = .int .i64 t ∧ Blk wr w1.heap.size 3 (Vals (mkL N fun i => if i < t then 1 else 0)) ∧ Below w1.heap.size w1 wr) (fun i _ => N - (intOf i).toNat)
    case atStart => exact ⟨0, Nat.zero_le _, rfl, HK0.out, HW0.out⟩
    case round =>
      clear HK0 HW0
      obtain ⟨t, ht, rfl, hk, hb⟩ := hrel
      have HK := hid hk
      have HBb := hid hb
      clear hk hb
      by_cases htN : t < N
      · have hcc : wr.cell? ⟨w1.heap.size, t, none⟩ = some (.int .i64 0) := by
          rw [HK.out.cell, Vals_get (by rw [mkL_length]; exact htN), mkL_getD htN, if_neg (by omega)]; rfl
        have hfz := HK.out.frozen t
        go_wp2
        clear hcc hfz
        go_roundw
        case rel => exact ⟨t + 1, by omega, by go_num, (by
          rw [mkL_upd (g := fun i => if i < t then 1 else 0) (h := fun i => if i < t + 1 then 1 else 0) 1 htN (fun i hi => by
            by_cases e : i = t
            · subst e; rw [if_pos (by omega), if_pos rfl]
            · rw [if_neg e]
              by_cases e2 : i < t
              · rw [if_pos (by omega), if_pos e2]
              · rw [if_neg (by omega), if_neg e2]), ← Vals_set]
          exact HK.out.set_ t (.int .i64 ((1 : Nat) : Int))), HBb.out.setCell (p := ⟨w1.heap.size, t, none⟩) (Nat.le_refl _) _⟩
        case measure => simp [intOf]; omega
      · obtain rfl : t = N := by omega
        have HKs : Hid (Blk wr w1.heap.size 3 (Vals (mkL t (wN xs 1)))) := hid (by
          rw [mkL_congr (g := wN xs 1) (h := fun i => if i < t then 1 else 0) (fun i hi => by rw [if_pos hi]; exact HW1.out i hi)]; exact HK.out)
        obtain ⟨W0, hW0⟩ : ∃ x, x = wr := ⟨wr, rfl⟩
        rw [← hW0] at HKs HBb ⊢
        clear hW0 HK
        go_wp2
        go_loopw [7, 9] (fun q j wr => ∃ k g : Nat, 1 ≤ k ∧ (k = 1 ∨ k ≤ m) ∧ j = .int .i64 k ∧ q = .slice (some ⟨g, 0, none⟩) t t ∧ Blk wr g 3 (Vals (mkL t (wN xs k))) ∧ Below w1.heap.size w1 wr) (fun _ j _ => m - (intOf j).toNat)
        case atStart => exact ⟨1, w1.heap.size, Nat.le_refl _, .inl rfl, rfl, rfl, HKs.out, HBb.out⟩
        case round =>
          clear HKs HBb
          obtain ⟨k, g, hk1, hkm, rfl, rfl, hk, hb⟩ := hrel
          have HK := hid hk
          have HB2 := hid hb
          have hgl := hk.lt
          have hgz := hb.size
          clear hk hb
          by_cases hlt : k < m
          · have hkI : (k : Int) < m := by omega
            have hmk := Hmk.out
            go_wp2
            clear hmk
            rw [Vals_made]
            obtain ⟨W1, hW1⟩ : ∃ x, x = wr := ⟨wr, rfl⟩
            have HKn : Hid (Blk (wr.alloc (.cells (Vals (List.replicate t 0)) 3)) wr.heap.size 3 (Vals (mkL t (nxG xs k 0)))) := hid (by
              rw [show mkL t (nxG xs k 0) = List.replicate t 0 from (mkL_congr (fun i hi => by simp [nxG])).trans (mkL_zero t)]
              exact Blk.new _ _ _)
            have HWn := hid (below_alloc (Below.refl _ wr) (.cells (Vals (List.replicate t 0)) 3))
            rw [← hW1] at HK HB2 HKn HWn hgl hgz ⊢
            clear hW1
            obtain ⟨G, hG⟩ : ∃ G, W1.heap.size = G := ⟨_, rfl⟩
            have HGe := hid hG
            rw [hG] at HKn HWn hgl hgz ⊢
            have HCW := hid (fun j (hj : j < t) W (hW : Below G W1 W) => show W.cell? ⟨g2, o2 + j, none⟩ = some (.int .i64 ((idA xs j : Nat) : Int)) from
              (hW.cell (p := ⟨g2, o2 + j, none⟩) (by show g2 < G; omega)).trans ((HB2.out.cell (p := ⟨g2, o2 + j, none⟩) hbl2).trans (HCI.out j hj)))
            have HKW := hid (fun W (hW : Below G W1 W) => HK.out.below hW hgl)
            clear hG
            go_loopw [56] (fun i wr => ∃ i' : Nat, i' ≤ t ∧ i = .int .i64 i' ∧ Blk wr G 3 (Vals (mkL t (nxG xs k i'))) ∧ Below G W1 wr) (fun i _ => t - (intOf i).toNat)
            case atStart => exact ⟨0, Nat.zero_le _, rfl, HKn.out, HWn.out⟩
            case round =>
              clear HKn HWn
              obtain ⟨i, hi, rfl, hk2, hb2⟩ := hrel
              have HK2 := hid hk2
              have HB3 := hid hb2
              clear hk2 hb2
              by_cases hin : i < t
              · have hcs := HCW.out i hin wr HB3.out
                have hsL := HLt.out i hin
                have HSFi := hid (HSF.out k i hin)
                have hsb := HSm.out (k + 1) i (by omega) hin
                obtain ⟨s, hs⟩ : ∃ s, idA xs i = s := ⟨_, rfl⟩
                have HSi := hid hs
                rw [hs] at hcs hsL
                clear hs
                obtain ⟨W2, hW2⟩ : ∃ x, x = wr := ⟨wr, rfl⟩
                rw [← hW2] at HK2 HB3 hcs ⊢
                clear hW2
                go_wp2
                clear hcs
                go_loopw [63] (fun j wr => ∃ j' : Nat, j' ≤ t ∧ j = .int .i64 j' ∧ Blk wr G 3 (Vals (mkL t (nxH xs k i j'))) ∧ Below G W1 wr) (fun j _ => t - (intOf j).toNat)
                case atStart => exact ⟨0, Nat.zero_le _, rfl, (by rw [mkL_congr (h := nxG xs k i) (fun e _ => by unfold nxH nxG; split; rfl; split <;> rfl)]; exact HK2.out), HB3.out⟩
                case round =>
                  obtain ⟨j, hj, rfl, hk3, hb3⟩ := hrel
                  have HK3 := hid hk3
                  have HB4 := hid hb3
                  clear hk3 hb3
                  by_cases hjn : j < t
                  · have hct := HCW.out j hjn wr HB4.out
                    have htL := HLt.out j hjn
                    have HSt := hid (show sN xs k i (j + 1) = sN xs k i j + (if wk (idA xs j) (idA xs i) then wN xs k j else 0) from rfl)
                    have hpre := HSp.out k i (j + 1) (by omega)
                    rw [HSFi.out] at hpre
                    have hws : wr.cell? ⟨g, j, none⟩ = some (.int .i64 ((wN xs k j : Nat) : Int)) := by
                      rw [(HKW.out wr HB4.out).cell, Vals_get (by rw [mkL_length]; exact hjn), mkL_getD hjn]
                    have hcg : wr.cell? ⟨G, i, none⟩ = some (.int .i64 ((sN xs k i j : Nat) : Int)) := by
                      rw [HK3.out.cell, Vals_get (by rw [mkL_length]; exact hin), mkL_getD hin]; simp [nxH]
                    have hfz := HK3.out.frozen i
                    obtain ⟨z, hz⟩ : ∃ z, idA xs j = z := ⟨_, rfl⟩
                    rw [hz] at hct htL HSt
                    rw [HSi.out] at HSt
                    obtain ⟨x, hx⟩ : ∃ x, wN xs k j = x := ⟨_, rfl⟩
                    rw [hx] at hws HSt
                    obtain ⟨a, ha⟩ : ∃ a, sN xs k i j = a := ⟨_, rfl⟩
                    have HAe := hid ha
                    rw [ha] at hcg HSt
                    have hand := i64_andNot_nat z s (by omega) (by omega)
                    clear hz hx ha
                    cases hpt : (sub z s == 0)
                    · have hpt' : (((sub z s : Nat) : Int) == 0) = false := by rw [nat_beq0, hpt]
                      have HS2 : Hid (sN xs k i (j + 1) = a) := hid (by rw [HSt.out]; unfold wk; rw [hpt]; rfl)
                      clear hpt hws hcg hfz hpre
                      go_wp2
                      clear hand hpt' hct
                      go_wp2
                      go_roundw
                      case rel => exact ⟨j + 1, by omega, by go_num, (by
                        rw [mkL_congr (g := nxH xs k i (j + 1)) (h := nxH xs k i j) (fun e he => by unfold nxH; rw [HS2.out, HAe.out])]
                        exact HK3.out), HB4.out⟩
                      case measure => simp [intOf]; omega
                    · have hpt' : (((sub z s : Nat) : Int) == 0) = true := by rw [nat_beq0, hpt]
                      have HS2 : Hid (sN xs k i (j + 1) = a + x) := hid (by rw [HSt.out]; unfold wk; rw [hpt]; rfl)
                      rw [HS2.out] at hpre
                      have hsum : IntKind.i64.wrap ((a : Int) + (x : Int)) = ((a + x : Nat) : Int) := by rw [IntWalk.i64_in _ (by omega)]; omega
                      clear hpt hpre
                      go_wp2
                      clear hand hpt' hct
                      go_wp2
                      go_region
                      clear hsum
                      go_wp2
                      go_roundw
                      case rel => exact ⟨j + 1, by omega, by go_num, (by
                        rw [mkL_upd (g := nxH xs k i j) (h := nxH xs k i (j + 1)) (a + x) hin (fun e he => by
                          by_cases q : e = i
                          · subst q
                            rw [if_pos rfl]
                            unfold nxH
                            rw [if_neg (Nat.lt_irrefl _), if_pos rfl, HS2.out]
                          · rw [if_neg q]
                            unfold nxH
                            rw [if_neg q, if_neg q]), ← Vals_set]
                        exact HK3.out.set_ i (.int .i64 ((a + x : Nat) : Int))), below_drewN (HB4.out.setCell (p := ⟨G, i, none⟩) (Nat.le_refl _) _) 1⟩
                      case measure => simp [intOf]; omega
                  · have hjn' : j = t := by omega
                    subst hjn'
                    go_wp2
                    go_roundw
                    case rel => exact ⟨i + 1, by omega, by go_num, (by
                      rw [mkL_congr (g := nxG xs k (i + 1)) (h := nxH xs k i j) (fun e he => by
                        unfold nxG nxH
                        by_cases q : e < i
                        · rw [if_pos (by omega), if_pos q]
                        · by_cases q2 : e = i
                          · subst q2; rw [if_pos (by omega), if_neg q, if_pos rfl, HSFi.out]
                          · rw [if_neg (by omega), if_neg q, if_neg q2])]
                      exact HK3.out), HB4.out⟩
                    case measure => simp [intOf]; omega
              · obtain rfl : i = t := by omega
                have HE := hid (show mkL i (nxG xs k i) = mkL i (wN xs (k + 1)) from mkL_congr fun e he => by unfold nxG; rw [if_pos he])
                rw [HE.out] at HK2
                have HB5 := hid (below_to HB2.out (by rw [HGe.out]; exact HB3.out))
                go_wp2
                go_roundw
                case rel => exact ⟨k + 1, G, by omega, .inr (by omega), by go_num, rfl, HK2.out, HB5.out⟩
                case measure => simp [intOf]; omega
          · have hkI : ¬ (k : Int) < m := by omega
            by_cases hm0 : m = 0
            · subst hm0
              have HN2 : Hid (ansCA xs ((0 : Nat) : Int) = 1) := hid (by rw [HN.out, HOne.out]; rfl)
              go_wp2
              go_ret2
              exact ⟨ret_ib HN2.out.symm HO.out.symm, below_to HB1.out HB2.out⟩
            · have hkm' : k = m := by omega
              subst hkm'
              have hm0' : ((k : Int) == 0) = false := by rw [beq_eq_false_iff_ne]; omega
              have HAllk := hid (HAll.out k)
              have HPre := hid (fun s (hs : s ≤ t) => sumR_prefix (wN xs k) hs)
              go_wp2
              clear hm0'
              go_loop [15, 89] (fun q i => ∃ s a : Nat, s ≤ t ∧ i = .int .i64 s ∧ q = .int .i64 a ∧ Hid (sumR (wN xs k) s = a)) (fun _ i => t - (intOf i).toNat)
              case atStart => exact ⟨0, 0, Nat.zero_le _, rfl, rfl, hid rfl⟩
              case round =>
                obtain ⟨s, a, hs, rfl, rfl, HSa⟩ := hrel
                by_cases hst : s < t
                · have hws : wr.cell? ⟨g, s, none⟩ = some (.int .i64 ((wN xs k s : Nat) : Int)) := by
                    rw [HK.out.cell, Vals_get (by rw [mkL_length]; exact hst), mkL_getD hst]
                  have HSn := hid (show sumR (wN xs k) (s + 1) = sumR (wN xs k) s + wN xs k s from rfl)
                  have hpre := HPre.out (s + 1) (by omega)
                  rw [HAllk.out] at hpre
                  have hall := HAllS.out
                  obtain ⟨x, hx⟩ : ∃ x, wN xs k s = x := ⟨_, rfl⟩
                  rw [hx] at hws HSn
                  rw [HSa.out] at HSn
                  rw [HSn.out] at hpre
                  have hsum : IntKind.i64.wrap ((a : Int) + (x : Int)) = ((a + x : Nat) : Int) := by rw [IntWalk.i64_in _ (by omega)]; omega
                  clear hx hpre hall
                  go_wp2
                  clear hsum hws
                  go_round
                  case rel => exact ⟨s + 1, a + x, by omega, by go_num, rfl, HSn⟩
                  case measure => simp [intOf]; omega
                · obtain rfl : s = t := by omega
                  have HFin : Hid (ansCA xs ((k : Nat) : Int) = (a : Int)) := hid (by rw [HN.out, ← HAllk.out, HSa.out])
                  go_wp2
                  go_ret2
                  exact ⟨ret_ib HFin.out.symm HO.out.symm, below_to HB1.out HB2.out⟩
end Go.Proofs.Ytgepbekdgocnpab
