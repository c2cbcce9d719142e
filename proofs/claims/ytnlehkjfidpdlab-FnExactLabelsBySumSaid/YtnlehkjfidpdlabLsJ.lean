/- whole, counted in lists. · LabelsBySum of the program. · LabelsBySum of the program: the walk (under way: region 11 is left). -/
import Derived.Test.YtnlehkjfidpdlabChE
import Derived.Test.YtnlehkjfidpdlabLsC
import Derived.Test.YtnlehkjfidpdlabLsG
import Derived.Test.YtnlehkjfidpdlabChD
import Derived.Test.YtnlehkjfidpdlabChK
import Derived.Test.YtnlehkjfidpdlabPc
import Derived.Deep.RegionHeld3
namespace Go.Proofs.Ytnlehkjfidpdlab
open Go.RowKit Go.WideShapes Go.ChangeShapes
set_option linter.unusedVariables false

theorem wholeL_any (P cb n : Nat) (vi vb fv : Value) (ids : List Int) (bl : List (List Int)) (cs : Array Value) (A : Option Addr) (m c : Nat) (w : World)
    (h : ChV 67 25 w P cb n vi vb fv ids bl cs) (hn1 : 1 ≤ n) (hn : n ≤ 1024) (hu : cs[n - 1]? = some (.slice A m c)) :
    Calls Try.prog 56 #[.pointer (some ⟨P, 0, none⟩)] w fun (r : Ending) w' => r = Ending.returned (.slice A m c) ∧ Below w.heap.size w w' := by
  obtain ⟨-, hP, hC, -⟩ := h
  have hc1 : w.cell? ⟨cb, n - 1, none⟩ = some (.slice A m c) := by rw [hC.cell]; exact hu
  have hp2 : w.cell? ⟨P, 2, none⟩ = some (.slice (some ⟨cb, 0, none⟩) n n) := by rw [hP.cell]; rfl
  have hnw : IntKind.i64.wrap ((n : Int) - 1) = ((n - 1 : Nat) : Int) := by rw [IntWalk.i64_in _ (by omega)]; omega
  have hPl := hP.lt
  have hCl := hC.lt
  obtain ⟨k, hk⟩ : ∃ k, n - 1 = k := ⟨_, rfl⟩
  rw [hk] at hc1 hnw
  have hkn : k < n := by omega
  clear hC hP hk hu
  go_enter Try.func56, Try.ntmps56
  go_wp2
  go_region
  go_wp2
  go_ret
  exact ⟨rfl, by first | exact Below.refl _ _ | exact below_drewN (Below.refl _ _) 1⟩
end Go.Proofs.Ytnlehkjfidpdlab
namespace Go.Proofs.Ytnlehkjfidpdlab
open Go.RowKit Go.WideShapes Go.ChangeShapes
set_option linter.unusedVariables false

theorem out_chk : ((List.range 11).all fun n => (List.range (2 ^ n)).all fun t => outN n t + pc t == n) = true := by decide +kernel
theorem out_pc {n t : Nat} (hn : n ≤ 10) (ht : t < 2 ^ n) : outN n t + pc t = n := by
  have h1 := List.all_eq_true.1 out_chk n (List.mem_range.2 (by omega))
  have h2 := List.all_eq_true.1 h1 t (List.mem_range.2 ht)
  simpa using h2
theorem sum_boundL (l : List Nat) (g : Nat → Nat) (b : Nat) (h : ∀ j, j ∈ l → g j ≤ b) : (l.map g).sum ≤ l.length * b := by
  induction l with
  | nil => simp
  | cons x l ih =>
    rw [List.map_cons, List.sum_cons, List.length_cons, Nat.succ_mul]
    have h1 := h x (List.mem_cons_self)
    have h2 := ih (fun j hj => h j (List.mem_cons_of_mem _ hj))
    omega
theorem cV_small {xs : List Int} (hg : good xs = true) {k t v : Nat} (hk : k ≤ 13) (ht : t < 2 ^ xs.length) : cV xs k t v ≤ 137858491849 := by
  refine Nat.le_trans List.countP_le_length ?_
  rw [lc_length]
  exact chN_small (good_length hg).2 (fun s t h => by unfold onId at h; simp only [Bool.and_eq_true] at h; simpa [wk] using h.2) hk ht
theorem pL_bound {xs : List Int} (hg : good xs = true) {k i : Nat} (hk : k ≤ 13) (hi : i < (idN xs).length) (q p : Nat) :
    0 ≤ (totL (((plN (stI xs wk) i).map (pL xs k)).take q)).getD p 0 ∧ (totL (((plN (stI xs wk) i).map (pL xs k)).take q)).getD p 0 ≤ 1000000000000000 := by
  have hlt : ∀ j, j ∈ (plN (stI xs wk) i).take q → j < (idN xs).length := fun j hj => by
    have := List.mem_range.1 (List.mem_filter.1 (List.mem_of_mem_take hj)).1
    omega
  rw [← List.map_take, totL_getD (pL xs k) (fun j => cV xs k (idA xs j) p) p _ (fun j hj => pL_getD hg k j (hlt j hj) p)]
  have h1 := sum_boundL ((plN (stI xs wk) i).take q) (fun j => cV xs k (idA xs j) p) 137858491849 (fun j hj => cV_small hg hk (idA_mem (hlt j hj)).1)
  have h2 : ((plN (stI xs wk) i).take q).length ≤ 1024 := by
    rw [List.length_take]
    have := plN_length (stI xs wk) i
    have := idN_le hg
    omega
  have h3 : ((plN (stI xs wk) i).take q).length * 137858491849 ≤ 1024 * 137858491849 := Nat.mul_le_mul_right _ h2
  omega
theorem pL_len {xs : List Int} (hg : good xs = true) {k : Nat} (hk : k ≤ 13) (i : Nat) : (pL xs k i).length ≤ 200 := by
  cases k with
  | zero => rw [pL]; split <;> simp
  | succ k =>
    rw [pL_length]
    have h1 := outN_le xs.length (idA xs i)
    have h2 := (good_length hg).2
    have h3 : k * xs.length ≤ 12 * 10 := Nat.mul_le_mul (by omega) h2
    omega
/-- the lists while the first t have been shifted -/
def shL (xs : List Int) (k t j : Nat) : List Int := if j < t then pL xs (k + 1) j else totL ((plN (stI xs wk) j).map (pL xs k))
theorem shL_next (xs : List Int) (k t : Nat) : pL xs (k + 1) t = List.replicate (outN xs.length (idA xs t)) 0 ++ shL xs k t t := by
  unfold shL; rw [if_neg (Nat.lt_irrefl t)]; rfl
end Go.Proofs.Ytnlehkjfidpdlab
namespace Go.Proofs.Ytnlehkjfidpdlab
open Go.RowKit Go.WideShapes Go.ChangeShapes
set_option linter.unusedVariables false

theorem CtsV.start {xs : List Int} {w : World} {B f : Nat} (hf : Blk w f 3 #[.int .i64 1]) (hB : B ≤ f) (hn1 : 1 ≤ (idN xs).length) :
    CtsV 3 w B (idN xs).length ((madeCells #[.slice none 0 0] (idN xs).length).setIfInBounds 0 (.slice (some ⟨f, 0, none⟩) 1 1)) (pL xs 0) := by
  refine ⟨by rw [Array.size_setIfInBounds, ← Array.length_toList, toList_madeCells_one, List.length_replicate], fun j u hj hu => ?_⟩
  rw [Array.getElem?_setIfInBounds] at hu
  by_cases e : 0 = j
  · subst e
    rw [if_pos rfl, if_pos (by rw [← Array.length_toList, toList_madeCells_one, List.length_replicate]; exact hj)] at hu
    injection hu with hu
    subst hu
    rw [pL, if_pos rfl]
    exact Blk.own (xs := [1]) hf hB (by simp)
  · rw [if_neg e, ← Array.getElem?_toList, toList_madeCells_one, List.getElem?_replicate, if_pos hj] at hu
    injection hu with hu
    subst hu
    rw [pL, if_neg (by omega)]
    exact OwnI.nil _ _ _
/-- the one load whose cell the region's store turns, under a name: it is branched over -/
def ldR : Op := Op.load 25 (Operand.tmp 59)
theorem ss_two {ts : TypeId} {w : World} {u0 u1 : Value} {l0 l1 : List Int} {b : Nat} (hb : b = w.heap.size) (h0 : Ints w u0 l0) (h1 : Ints w u1 l1) : IntsSS (w.alloc (.cells #[u0, u1] ts)) (.slice (some ⟨b, 0, none⟩) 2 2) [l0, l1] := by
  subst hb
  have hk : Blk (w.alloc (.cells #[u0, u1] ts)) w.heap.size ts #[u0, u1] := Blk.new _ _ _
  refine ⟨some ⟨w.heap.size, 0, none⟩, 2, rfl, fun j hj => ?_⟩
  match j, hj with
  | 0, _ => exact ⟨w.heap.size, 0, u0, rfl, hk.lt, by rw [Nat.zero_add, hk.cell]; rfl, h0.alloc _⟩
  | 1, _ => exact ⟨w.heap.size, 0, u1, rfl, hk.lt, by rw [Nat.zero_add, hk.cell]; rfl, h1.alloc _⟩
set_option maxRecDepth 100000 in
set_option maxHeartbeats 3200000 in
theorem implLabelsBySum_any (v : Value) (xs : List Int) (m : Int) (w : World) (hv : Ints w v xs) (hl : xs.length ≤ 1048576) (wf : (Lit.int .i64 m).wf = true) :
    Calls Try.prog 22 #[.agg #[v], .int .i64 m] w fun (e : Ending) w' => ∃ q, e = Ending.returned (.tuple #[q, .bool (okLS xs m)]) ∧ OwnI 3 w' w.heap.size q (ansLS xs m) ∧ (ansLS xs m).length ≤ 1048576 ∧ Below w.heap.size w w' := by
  have HV := hid hv
  have HL := hid (ansLS_length xs m)
  have HCt := hid (fun W hW => implCountLabels_any v xs m W hW hl wf)
  clear hv
  cases hb : okBd xs m
  · have HO := hid (okLS_no hb)
    have HN := hid (ansLS_no HO.out)
    rw [hb] at HCt
    clear hb
    go_enter Try.func22, Try.ntmps22
    have HB := hid (below_alloc (Below.refl _ w) (.cells #[v] 35))
    have A0 := hid (At.newAt w v 35 w.heap.size (by simp))
    go_wp2_with fail
    refine (HCt.out _ (HV.out.below HB.out)).mono ?_
    rintro e w' ⟨rfl, hb⟩
    replace HB := hid (below_to HB.out hb)
    replace A0 := hid (A0.out.below hb)
    clear hb
    have ebox0 := A0.out.1
    go_wp2
    go_ret2
    exact ⟨_, ret_vbS HO.out.symm, by rw [HN.out]; exact OwnI.nil _ _ _, HL.out, HB.out⟩
  obtain ⟨hg, h1, h2⟩ := okBd_all hb
  obtain ⟨M, rfl⟩ := Int.eq_ofNat_of_zero_le h1
  have HO := hid (okLS_yes hb)
  have hcn := all_count hg M
  have hct := ansCN_yes (b := false) hb
  rw [← hcn] at hct
  rw [hb, hct] at HCt
  obtain ⟨N, hN⟩ : ∃ N, (allF xs M).length = N := ⟨_, rfl⟩
  rw [hN] at HCt HO
  by_cases hmany : N ≤ 100000
  · have HOt : Hid (okLS xs M = true) := hid (by rw [HO.out]; exact decide_eq_true hmany)
    have HAn := hid (ansLS_yes HOt.out)
    have HWh := hid (pL_whole hg M)
    have HCo := hid (fun A1 c1 W hW => chainsLs_any A1 c1 v xs W hW hg)
    have hgt : ¬ (N : Int) > 100000 := by omega
    have hMS : IntKind.i64.wrap ((M : Int) + 1) = ((M + 1 : Nat) : Int) := by rw [IntWalk.i64_in _ (by omega)]; omega
    have hn1 : 1 ≤ (idN xs).length := idN_pos xs
    have hn2 := idN_le hg
    have HG := hid hg
    clear hb hct hcn hN
    go_enter Try.func22, Try.ntmps22
    have HB := hid (below_alloc (Below.refl _ w) (.cells #[v] 35))
    have A0 := hid (At.newAt w v 35 w.heap.size (by simp))
    go_wp2_with fail
    refine (HCt.out _ (HV.out.below HB.out)).mono ?_
    rintro e w' ⟨rfl, hb⟩
    replace HB := hid (below_to HB.out hb)
    replace A0 := hid (A0.out.below hb)
    clear hb
    have hbx := A0.out.1
    have HX0 := hid (A0.out.alloc (.cells #[.int .i64 1] 3))
    have hbx2 := HX0.out.1
    go_wp2_with fail
    clear hbx hbx2
    have HF1 : Hid (Blk (w'.alloc (.cells #[.int .i64 1] 3)) w'.heap.size 3 #[.int .i64 1]) := hid (Blk.new _ _ _)
    have hwf : w.heap.size ≤ w'.heap.size := HB.out.size
    have HB1 := hid (below_alloc HB.out (.cells #[.int .i64 1] 3))
    obtain ⟨f1, hf1⟩ : ∃ f1, w'.heap.size = f1 := ⟨_, rfl⟩
    obtain ⟨W2, hW2⟩ : ∃ W2, w'.alloc (.cells #[.int .i64 1] 3) = W2 := ⟨_, rfl⟩
    rw [hW2] at HF1 HB1 HX0 ⊢
    rw [hf1] at HF1 hwf ⊢
    clear hW2 hf1
    with_reducible refine (HCo.out (some ⟨f1, 0, none⟩) 1 _ (HV.out.below HB1.out)).mono ?_
    rintro e w3 ⟨P, cb, vi, vb, rfl, hP1, hcb1, hch, hb3⟩
    have HCh := hid hch
    have HCt0 := hid (CtsV.start (xs := xs) (HF1.out.below hb3 HF1.out.lt) hwf hn1)
    have HB3 := hid (below_to HB1.out hb3)
    have HX3 := hid (HX0.out.below hb3)
    have hwP : w.heap.size ≤ P := Nat.le_trans HB1.out.size hP1
    have hwP2 : w.heap.size < P := Nat.lt_of_lt_of_le HX0.out.2 hP1
    have hwcb : w.heap.size ≤ cb := Nat.le_trans HB1.out.size hcb1
    have hwcb2 : w.heap.size < cb := Nat.lt_of_lt_of_le HX0.out.2 hcb1
    rw [blCh_rows] at HCh
    obtain ⟨n', hn'⟩ : ∃ n', (idN xs).length = n' := ⟨_, rfl⟩
    have HNn := hid hn'
    rw [hn'] at HCh HCt0 hn1 hn2
    clear hch hb3 hP1 hcb1 hn'
    go_wp2
    go_loopw [28] (fun i wr => ∃ (k : Nat) (cb : Nat) (cs : Array Value), k ≤ M + 1 ∧ i = .int .i64 k ∧ ChV 67 25 wr P cb n' vi vb (.func (.func 52) #[] #[]) (setsL (holdsIdeal xs) (2 ^ xs.length)) (rowsSt (stI xs wk) n') cs ∧ CtsV 3 wr w.heap.size n' cs (pL xs k) ∧ At wr w.heap.size v ∧ Below w.heap.size w wr ∧ w.heap.size < cb) (fun i _ => M + 1 - (intOf i).toNat)
    case atStart => exact ⟨0, cb, _, Nat.zero_le _, rfl, HCh.out, HCt0.out, HX3.out, HB3.out, hwcb2⟩
    case round =>
      obtain ⟨k, cb, cs, hk, rfl, hch, hct, hx, hb, hwcb⟩ := hrel
      have HC := hid hch
      have HT := hid hct
      have HX := hid hx
      have HBr := hid hb
      clear hch hct hx hb
      by_cases hlt : k < M + 1
      · have hltI : (k : Int) < ((M + 1 : Nat) : Int) := by omega
        go_wp2_with fail
        with_reducible refine (growL_any P cb n' w.heap.size 200 vi vb _ (stI xs wk) cs (pL xs k) wr HC.out HT.out hn1 hn2 (by omega) (fun i hi => pL_len HG.out (by omega) i) (fun i hi q hq p => pL_bound HG.out (by omega) (by rw [HNn.out]; exact hi) q p)).mono ?_
        rintro e w5 ⟨cb5, cs5, rfl, hch, hct, hcb5, hb5, hk5⟩
        have HC5 := hid hch
        have HT5 := hid hct
        have hX5 : At w5 w.heap.size v := ⟨(hb5.cell (p := ⟨w.heap.size, 0, none⟩) hwP2).trans HX.out.1, Nat.lt_of_lt_of_le HX.out.2 hb5.size⟩
        have HX5 := hid hX5
        have HB5 := hid (HBr.out.trans (hb5.mono hwP))
        have hcb5w : w.heap.size < cb5 := Nat.lt_of_lt_of_le HX.out.2 hcb5
        obtain ⟨-, hP5, -, hvw⟩ := HC5.out
        obtain ⟨hI, -⟩ := hvw w5 (Kq.refl _ _ _)
        obtain ⟨iA, ic, rfl, hic⟩ := hI
        have hp0 : w5.cell? ⟨P, 0, none⟩ = some (.slice iA (setsL (holdsIdeal xs) (2 ^ xs.length)).length ic) := by rw [hP5.cell]; rfl
        clear hch hct hcb5 hb5 hk5 hX5 hP5 hvw
        have hil : (setsL (holdsIdeal xs) (2 ^ xs.length)).length = n' := by rw [idN_len, HNn.out]
        rw [hil] at hp0
        have HIc := hid hic
        clear hic hil
        go_wp2
        clear hp0
        obtain ⟨W5, hW5⟩ : ∃ x, x = w5 := ⟨w5, rfl⟩
        rw [← hW5] at HC5 HT5 HX5 HB5 HIc ⊢
        go_loopw [37] (fun i wr => ∃ (t : Nat) (cs : Array Value), t ≤ n' ∧ i = .int .i64 t ∧ ChV 67 25 wr P cb5 n' (.slice iA (setsL (holdsIdeal xs) (2 ^ xs.length)).length ic) vb (.func (.func 52) #[] #[]) (setsL (holdsIdeal xs) (2 ^ xs.length)) (rowsSt (stI xs wk) n') cs ∧ CtsV 3 wr w.heap.size n' cs (shL xs k t) ∧ At wr w.heap.size v ∧ Below w.heap.size w wr) (fun i _ => n' - (intOf i).toNat)
        case atStart => exact ⟨0, cs5, Nat.zero_le _, rfl, HC5.out, ⟨HT5.out.1, fun j u hj hu => by
          have h := HT5.out.2 j u hj hu
          unfold shL; rw [if_neg (Nat.not_lt_zero j)]
          exact h.mono HBr.out.size⟩, HX5.out, HB5.out⟩
        case round =>
          obtain ⟨t, cs6, ht, rfl, hch, hct, hx, hb⟩ := hrel
          have HC6 := hid hch
          have HT6 := hid hct
          have HX6 := hid hx
          have HB6 := hid hb
          clear hch hct hx hb
          by_cases htn : t < n'
          · obtain ⟨hne6, hP6, hCb6, hvw6⟩ := HC6.out
            have hcu : ∃ u, cs6[t]? = some u := ⟨_, Array.getElem?_eq_getElem (by rw [HT6.out.1]; exact htn)⟩
            obtain ⟨u, hu⟩ := hcu
            have hou := HT6.out.2 t u htn hu
            obtain ⟨uA, un, uc, rfl⟩ := hou.shape3
            have HOu := hid hou
            have HUc := hid hu
            obtain ⟨vA, vc, rfl, -⟩ := HV.out
            obtain ⟨hI6, -⟩ := hvw6 wr (Kq.refl _ _ _)
            obtain ⟨iA2, ic2, he6, hic6⟩ := hI6
            have e6 : iA = iA2 := by injection he6
            clear he6
            subst e6
            have hidn := HNn.out
            obtain ⟨ib, io, rfl, hibl, hic⟩ := hic6 (by intro h; have := congrArg List.length h; rw [idN_len, hidn, List.length_nil] at this; omega)
            have hti : t < (idN xs).length := by rw [hidn]; exact htn
            have hct := hic t (by rw [idN_len]; exact hti)
            rw [idN_getD hti] at hct
            obtain ⟨hal, -⟩ := idA_mem hti
            have hl10 := (good_length HG.out).2
            have hal10 := lt1024 hal hl10
            have hop := out_pc hl10 hal
            have HSz := hid (fun W => sizeOf_any (idA xs t) W hal10)
            have HSh := hid (shL_next xs k t)
            obtain ⟨z, hz⟩ : ∃ z, outN xs.length (idA xs t) = z := ⟨_, rfl⟩
            rw [hz] at hop HSh
            obtain ⟨s, hs⟩ : ∃ s, idA xs t = s := ⟨_, rfl⟩
            rw [hs] at hct hop HSz
            obtain ⟨q, hq⟩ : ∃ q, pc s = q := ⟨_, rfl⟩
            rw [hq] at hop HSz
            have hwq : IntKind.i64.wrap ((xs.length : Int) - (q : Int)) = (z : Int) := by rw [IntWalk.i64_in _ (by omega)]; omega
            have hz10 : z ≤ 10 := by omega
            have hp2 : ∀ W, Below wr.heap.size wr W → W.cell? ⟨P, 2, none⟩ = some (.slice (some ⟨cb5, 0, none⟩) n' n') := fun W hW => by rw [(hP6.below hW hP6.lt).cell]; rfl
            have hpt : ∀ W, Below wr.heap.size wr W → W.cell? ⟨cb5, t, none⟩ = some (.slice uA un uc) := fun W hW => by rw [(hCb6.below hW hCb6.lt).cell]; exact hu
            have HP2 := hid hp2
            have HPt := hid hpt
            have hp20 := hp2 _ (Below.refl _ _)
            have hpt0 := hpt _ (Below.refl _ _)
            have hPl : P < wr.heap.size := hP6.lt
            have hcl : cb5 < wr.heap.size := hCb6.lt
            have hwl : w.heap.size < wr.heap.size := HX6.out.2
            have HFz := hid (hCb6.frozen t)
            have hne5 := hne6
            have HBk := hid hCb6
            have HPk := hid hP6
            have HVw := hid hvw6
            have hmk := run_make_row' (P := Try.prog) 25 3 (.int .i64 0) 8 Try.underlying25 Try.info3 rfl .i64 .i64 z (by omega) (by omega)
            have htI : (t : Int) < (n' : Int) := by omega
            have hfe : [List.replicate z (0 : Int), shL xs k t t].flatten = pL xs (k + 1) t := by rw [HSh.out]; simp
            have hf1 : 1 ≤ [List.replicate z (0 : Int), shL xs k t t].flatten.length := by rw [hfe, pL_length]; omega
            have hf2 : [List.replicate z (0 : Int), shL xs k t t].flatten.length ≤ 1024 := by rw [hfe]; have := pL_len HG.out (k := k + 1) (by omega) t; omega
            have HF1 := hid hf1
            have HF2 := hid hf2
            have HFe := hid hfe
            have HI0 : Hid (Ints (wr.alloc (.cells (madeCells #[Value.int IntKind.i64 0] z) 3)) (.slice (some ⟨wr.heap.size, 0, none⟩) z z) (List.replicate z 0)) := hid (by
              have h := (Blk.newAt wr 3 (Vals (List.replicate z 0)) wr.heap.size rfl).own (xs := List.replicate z 0) (B := 0) (Nat.zero_le _) (by simp; omega)
              rw [List.length_replicate, ← Vals_made] at h
              exact h.ints)
            have HI1 : Hid (Ints (wr.alloc (.cells (madeCells #[Value.int IntKind.i64 0] z) 3)) (.slice uA un uc) (shL xs k t t)) := hid (HOu.out.ints.alloc _)
            have HB2 : Hid (Below wr.heap.size wr (((wr.alloc (.cells (madeCells #[Value.int IntKind.i64 0] z) 3)).alloc (.cells #[Value.slice (some ⟨wr.heap.size, 0, none⟩) z z, Value.slice uA un uc] 25)).drew)) := hid (below_drewN (below_alloc (below_alloc (Below.refl _ wr) _) _) 1)
            have HZ3 : Hid (wr.heap.size ≤ (((wr.alloc (.cells (madeCells #[Value.int IntKind.i64 0] z) 3)).alloc (.cells #[Value.slice (some ⟨wr.heap.size, 0, none⟩) z z, Value.slice uA un uc] 25)).drew).heap.size) := hid HB2.out.size
            have HSS : Hid (IntsSS (((wr.alloc (.cells (madeCells #[Value.int IntKind.i64 0] z) 3)).alloc (.cells #[Value.slice (some ⟨wr.heap.size, 0, none⟩) z z, Value.slice uA un uc] 25)).drew) (.slice (some ⟨wr.heap.size + 1, 0, none⟩) 2 2) [List.replicate z 0, shL xs k t t]) := hid ((ss_two (by simp) HI0.out HI1.out).below (below_drewN (Below.refl _ _) 1))
            have HFzW : Hid (∀ W, Below wr.heap.size wr W → W.frozen? ⟨cb5, t, none⟩ = false) := hid (fun W hW => (hCb6.below hW hCb6.lt).frozen t)
            have HFin : Hid (∀ (w3 : World) (qA : Option Addr) (qn qc B3 : Nat), Below wr.heap.size wr w3 → OwnI 3 w3 B3 (.slice qA qn qc) [List.replicate z (0 : Int), shL xs k t t].flatten → wr.heap.size ≤ B3 → ChV 67 25 (w3.setCell ⟨cb5, t, none⟩ (.slice qA qn qc)) P cb5 n' (.slice (some ⟨ib, io, none⟩) (setsL (holdsIdeal xs) (2 ^ xs.length)).length ic) vb (.func (.func 52) #[] #[]) (setsL (holdsIdeal xs) (2 ^ xs.length)) (rowsSt (stI xs wk) n') (cs6.setIfInBounds t (.slice qA qn qc)) ∧ CtsV 3 (w3.setCell ⟨cb5, t, none⟩ (.slice qA qn qc)) w.heap.size n' (cs6.setIfInBounds t (.slice qA qn qc)) (shL xs k (t + 1)) ∧ At (w3.setCell ⟨cb5, t, none⟩ (.slice qA qn qc)) w.heap.size (.slice vA xs.length vc) ∧ Below w.heap.size w (w3.setCell ⟨cb5, t, none⟩ (.slice qA qn qc))) := hid (fun w3 qA qn qc B3 hb3 ho3 hB3 => by
              have hk3 := hCb6.below hb3 hCb6.lt
              have hsz : w.heap.size ≤ wr.heap.size := HB6.out.size
              refine ⟨⟨hne6, (hP6.below hb3 hP6.lt).far (p := ⟨cb5, t, none⟩) (by simp only; exact fun e => hne6 e.symm) _, hk3.set_ t _, fun W hW => hvw6 W (((Kq.of_below hb3).setg t _).trans hW)⟩, ⟨by rw [Array.size_setIfInBounds]; exact HT6.out.1, fun j u hj hu => ?_⟩, (HX6.out.below hb3).far (p := ⟨cb5, t, none⟩) (by simp only; omega) _, (HB6.out.trans (hb3.mono hsz)).setCell (p := ⟨cb5, t, none⟩) (by simp only; omega) _⟩
              rw [Array.getElem?_setIfInBounds] at hu
              by_cases e : t = j
              · subst e
                rw [if_pos rfl, if_pos (by rw [HT6.out.1]; exact hj)] at hu
                injection hu with hu
                subst hu
                have he : shL xs k (t + 1) t = [List.replicate z (0 : Int), shL xs k t t].flatten := by
                  unfold shL; rw [if_pos (Nat.lt_succ_self t), if_neg (Nat.lt_irrefl t)]
                  rw [HSh.out]; unfold shL; rw [if_neg (Nat.lt_irrefl t)]; simp
                rw [he]
                exact (ho3.grown (grown_setCell (World.grownBy.refl _ _) t _) (ho3.apart (.inl (by omega)))).mono (by omega)
              · rw [if_neg e] at hu
                have h6 := HT6.out.2 j u hj hu
                have h7 := h6.below hb3
                have he : shL xs k (t + 1) j = shL xs k t j := by
                  unfold shL
                  by_cases h : j < t
                  · rw [if_pos h, if_pos (by omega)]
                  · rw [if_neg h, if_neg (by omega)]
                rw [he]
                exact h7.grown (grown_setCell (World.grownBy.refl _ _) t _) (.inr (own_ne3 (by decide) h7 hk3)))
            have hbx := HX6.out.1
            clear hne6 hP6 hCb6 hvw6 hic6 hou hu hic hz hs hq hal hop hidn hp2 hpt hf1 hf2 hfe
            go_wp2_with fail
            have HKeep : Hid (∀ W, Below wr.heap.size wr W → W.cell? ⟨w.heap.size, 0, none⟩ = some (.slice vA xs.length vc) ∧ W.cell? ⟨P, 2, none⟩ = some (.slice (some ⟨cb5, 0, none⟩) n' n')) := hid (fun W hW => ⟨(hW.cell (p := ⟨w.heap.size, 0, none⟩) hwl).trans hbx, HP2.out W hW⟩)
            have HKeep2 : Hid (∀ W x, Below wr.heap.size wr W → (W.setCell ⟨cb5, t, none⟩ x).cell? ⟨w.heap.size, 0, none⟩ = some (.slice vA xs.length vc) ∧ (W.setCell ⟨cb5, t, none⟩ x).cell? ⟨P, 2, none⟩ = some (.slice (some ⟨cb5, 0, none⟩) n' n')) := hid (fun W x hW => ⟨(World.cell?_of_block (a := ⟨w.heap.size, 0, none⟩) (Below.heap_setCell W ⟨cb5, t, none⟩ x w.heap.size (by simp only; omega))).trans (HKeep.out W hW).1, (World.cell?_of_block (a := ⟨P, 2, none⟩) (Below.heap_setCell W ⟨cb5, t, none⟩ x P (by simp only; exact fun e => hne5 e.symm))).trans (HKeep.out W hW).2⟩)
            have hptd := HPt.out _ (below_drewN (Below.refl _ wr) 1)
            have hpta := HPt.out _ (below_drewN (below_alloc (Below.refl _ wr) (.cells (madeCells #[Value.int IntKind.i64 0] z) 3)) 1)
            have hptb := HPt.out _ (below_alloc (below_drewN (Below.refl _ wr) 1) (.cells (madeCells #[Value.int IntKind.i64 0] z) 3))
            rw [show (Op.load 25 (Operand.tmp 59) : Op) = ldR from rfl]
            have hld : ldR = Op.load 25 (Operand.tmp 59) := rfl
            go_region_held3 (fun W => W.cell? ⟨w.heap.size, 0, none⟩ = some (.slice vA xs.length vc) ∧ W.cell? ⟨P, 2, none⟩ = some (.slice (some ⟨cb5, 0, none⟩) n' n')) (first | exact HKeep2.out _ _ HB3.out | exact HKeep.out _ (by first | exact HB3.out | exact below_drewN (Below.refl _ _) 1 | exact below_drewN (below_alloc (Below.refl _ wr) _) 1 | exact HB2.out | exact below_alloc (Below.refl _ wr) _ | exact below_alloc (below_drewN (Below.refl _ wr) 1) _ | exact below_alloc (below_alloc (Below.refl _ wr) _) _ | exact below_alloc (below_alloc (below_drewN (Below.refl _ wr) 1) _) _)) (first
                  | (go_at_call 55; with_reducible refine (HSz.out _).mono ?_; rintro e w3 ⟨rfl, rfl⟩)
                  | (go_at_call 54; with_reducible refine (concatI_any _ [List.replicate z (0 : Int), shL xs k t t] _ HSS.out (by simp) HF1.out HF2.out).mono ?_; rintro e w3 ⟨q3, rfl, ho3, hb3⟩; obtain ⟨qA, qn, qc, rfl⟩ := ho3.shape3; have HO3 := hid ho3; have HB3 := hid (below_to HB2.out hb3); have hp23 := HP2.out _ HB3.out; have hpt3 := HPt.out _ HB3.out; have hfz3 := HFzW.out _ HB3.out; clear ho3 hb3))
            all_goals go_wp2
            all_goals go_roundw
            all_goals first
              | exact ⟨t + 1, _, by omega, by go_num, HFin.out _ _ _ _ _ HB3.out HO3.out HZ3.out⟩
              | (simp [intOf]; omega)
          · have htn' : t = n' := by omega
            have HT7 : Hid (CtsV 3 wr w.heap.size n' cs6 (pL xs (k + 1))) := hid ⟨HT6.out.1, fun j u hj hu => by
              have h := HT6.out.2 j u hj hu
              unfold shL at h; rw [if_pos (by omega)] at h; exact h⟩
            clear htn'
            go_wp2
            go_roundw
            case rel => exact ⟨k + 1, cb5, cs6, by omega, by go_num, HC6.out, HT7.out, HX6.out, HB6.out, hcb5w⟩
            case measure => simp [intOf]; omega
      · have hkM : k = M + 1 := by omega
        have hcu : ∃ u, cs[n' - 1]? = some u := ⟨_, Array.getElem?_eq_getElem (by rw [HT.out.1]; omega)⟩
        obtain ⟨u, hu⟩ := hcu
        have ho := HT.out.2 (n' - 1) u (by omega) hu
        have HR : Hid (pL xs k (n' - 1) = ansLS xs M) := hid (by rw [HAn.out, ← HWh.out, HNn.out, hkM])
        rw [HR.out] at ho
        obtain ⟨uA, un, uc, rfl⟩ := ho.shape3
        have HO2 := hid ho
        have Hu := hid hu
        clear hu ho hkM
        go_wp2_with fail
        with_reducible refine (wholeL_any P cb n' vi vb _ _ _ cs uA un uc wr HC.out hn1 hn2 Hu.out).mono ?_
        rintro e w5 ⟨rfl, hb5⟩
        have HB5 := hid (below_to HBr.out hb5)
        have HO5 := hid (HO2.out.below hb5)
        clear hb5
        go_wp2
        go_ret2
        exact ⟨_, ret_vbS HOt.out.symm, HO5.out, HL.out, HB5.out⟩
  · have HOt : Hid (okLS xs M = false) := hid (by rw [HO.out]; exact decide_eq_false hmany)
    have HN := hid (ansLS_no HOt.out)
    have hgt : (N : Int) > 100000 := by omega
    clear hb hct hcn hN hg
    go_enter Try.func22, Try.ntmps22
    have HB := hid (below_alloc (Below.refl _ w) (.cells #[v] 35))
    have A0 := hid (At.newAt w v 35 w.heap.size (by simp))
    go_wp2_with fail
    refine (HCt.out _ (HV.out.below HB.out)).mono ?_
    rintro e w' ⟨rfl, hb⟩
    replace HB := hid (below_to HB.out hb)
    replace A0 := hid (A0.out.below hb)
    clear hb
    have ebox0 := A0.out.1
    go_wp2
    go_ret2
    exact ⟨_, ret_vbS HOt.out.symm, by rw [HN.out]; exact OwnI.nil _ _ _, HL.out, HB.out⟩
end Go.Proofs.Ytnlehkjfidpdlab
